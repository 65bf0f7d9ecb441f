/-
  The iterator that dueBetween makes: it hands over the due ticks above a tick and not above another one, ascending. Condition: the package-level variables that CalOk comes to hold what the program's text lays.
-/
import Derived.Test.YtammejplaeaocaaDoorFeed
import Derived.Test.YtammejplaeaocaaDoorCount
namespace Go.Proofs.YtammejplaeaocaaDoor
open Go.RowKit Go.Shelf

attribute [local go_sem] Oper.semAt_some

/-- Whatever holds cells lies as it lay, but for block c. -/
structure CellsBut (c : Nat) (A C : World) : Prop where
  os : C.os = A.os
  tape : C.tape = A.tape
  output : C.output = A.output
  size : A.heap.size ≤ C.heap.size
  cells : ∀ (k : Nat) (o : Obj), k ≠ c → A.heap[k]? = some o → o.isCells = true → C.heap[k]? = some o
theorem CellsBut.refl (c : Nat) (A : World) : CellsBut c A A := ⟨rfl, rfl, rfl, Nat.le_refl _, fun _ _ _ h _ => h⟩
theorem CellsBut.trans {c : Nat} {A C D : World} (h : CellsBut c A C) (k : CellsBut c C D) : CellsBut c A D :=
  ⟨k.os.trans h.os, k.tape.trans h.tape, k.output.trans h.output, Nat.le_trans h.size k.size, fun i o hi ho hc => k.cells i o hi (h.cells i o hi ho hc) hc⟩
theorem CellsBut.of_below {c : Nat} {A C : World} (h : Below A.heap.size A C) : CellsBut c A C :=
  ⟨h.os, h.tape, h.output, h.size, fun k _ _ hk _ => (h.block k (Array.getElem?_eq_some_iff.1 hk).1).trans hk⟩
theorem CellsBut.setCell {c : Nat} (A : World) (o : Nat) (v : Value) : CellsBut c A (A.setCell ⟨c, o, none⟩ v) :=
  ⟨rfl, rfl, rfl, by simp [World.setCell], fun k _ hk h _ => (Below.heap_setCell A ⟨c, o, none⟩ v k hk).trans h⟩
theorem CellsBut.putObj {c : Nat} (A : World) (l : Nat) (o o' : Obj) (hl : A.heap[l]? = some o) (ho : o.isCells = false) : CellsBut c A (A.putObj l o') := by
  refine ⟨rfl, rfl, rfl, by simp, fun k u _ hk hu => ?_⟩
  by_cases e : k = l
  · subst e; rw [hl] at hk; cases hk; rw [ho] at hu; cases hu
  · exact (World.putObj_heap_other e).trans hk
theorem CellsBut.cell {c : Nat} {A C : World} (h : CellsBut c A C) {p : Addr} {v : Value} (hp : p.block ≠ c) (hv : A.cell? p = some v) : C.cell? p = some v := by
  obtain ⟨o, ho, hc⟩ := cells_of_cell hv
  have : C.heap[p.block]? = A.heap[p.block]? := (h.cells _ o hp ho hc).trans ho.symm
  rw [World.cell?_of_block (w := A) this]; exact hv

/-- What lay at the call lies on. -/
theorem cb_cell {w w0 C : World} {c : Nat} (hw : Below w.heap.size w w0) (hc : w.heap.size ≤ c) (hb : CellsBut c w0 C) {p : Addr} {v : Value} (hv : w.cell? p = some v) : C.cell? p = some v := by
  have hlt := cell_lt hv
  exact hb.cell (by omega) ((hw.cell hlt).trans hv)
theorem IntsIn.cb {c lo : Nat} {w w0 C : World} {a : Option Addr} {l : List Int} (h : IntsIn w lo a l) (hw : Below w.heap.size w w0) (hc : w.heap.size ≤ c) (hb : CellsBut c w0 C) : IntsIn C lo a l := by
  obtain ⟨h1, h2, h3⟩ := h
  refine ⟨h1, h2, fun i hi => ?_⟩
  obtain ⟨b, off, ha, hlo, hcell⟩ := h3 i hi
  exact ⟨b, off, ha, hlo, cb_cell hw hc hb hcell⟩
theorem RulesIn.cb {c lo lb : Nat} {w w0 C : World} {a : Option Addr} {rs : List CR} (h : RulesIn w lo lb a rs) (hw : Below w.heap.size w w0) (hc : w.heap.size ≤ c) (hb : CellsBut c w0 C) : RulesIn C lo lb a rs := by
  intro i r hi
  obtain ⟨hr, b, off, ba, bc, ha, hlo, h0, h1, h2, h3, h4, h5⟩ := h i r hi
  exact ⟨hr, b, off, ba, bc, ha, hlo, h0.cb hw hc hb, cb_cell hw hc hb h1, cb_cell hw hc hb h2, cb_cell hw hc hb h3, cb_cell hw hc hb h4, cb_cell hw hc hb h5⟩

theorem keeps_cb {w w1 : World} {c B lo lb : Nat} {a a' : Option Addr} {cap' : Nat} {rs : List CR} {t : Int} (hc : RulesIn w lo lb a rs) (hw : Below w.heap.size w w1) (hcw : w.heap.size ≤ c) (hcB : c < B) (hbx : Boxes w1 B a' cap' (srcOf rs) t)
    (hrl : ∀ W, RulesIn W lo lb a rs → RulesIn W lo lb a' (srcOf rs)) : Keeps (CellsBut c) w1 B lo lb a' cap' (srcOf rs) t := by
  obtain ⟨b1, b2, b3⟩ := hbx
  exact ⟨fun h k => h.trans k, fun h => h.size, fun _ h => CellsBut.of_below h,
    fun h => ⟨h.cell (by simp; omega) b1, h.cell (by simp; omega) b2, h.cell (by simp; omega) b3⟩, fun h => hrl _ (hc.cb hw hcw h)⟩

/-- The ticks up to a tick. -/
def upL (xs : List Int) (to : Int) : List Int := xs.takeWhile (fun x => decide (x ≤ to))
theorem upL_all {xs : List Int} {to : Int} (h : ∀ x, x ∈ xs → x ≤ to) : upL xs to = xs := by
  unfold upL
  induction xs with
  | nil => rfl
  | cons x xs ih => rw [List.takeWhile_cons, if_pos (by simpa using h x (by simp)), ih (fun y hy => h y (by simp [hy]))]
theorem upL_cut {pre : List Int} {x : Int} {rest : List Int} {to : Int} (h : ∀ y, y ∈ pre → y ≤ to) (hx : ¬ x ≤ to) : upL (pre ++ x :: rest) to = pre := by
  unfold upL
  induction pre with
  | nil => rw [List.nil_append, List.takeWhile_cons, if_neg (by simpa using hx)]
  | cons y pre ih => rw [List.cons_append, List.takeWhile_cons, if_pos (by simpa using h y (by simp)), ih (fun z hz => h z (by simp [hz]))]
theorem upL_pre {pre rest : List Int} {to : Int} (h : ∀ y, y ∈ pre → y ≤ to) : pre <+: upL (pre ++ rest) to := by
  induction pre with
  | nil => exact List.nil_prefix
  | cons y pre ih =>
    have : upL (y :: pre ++ rest) to = y :: upL (pre ++ rest) to := by
      unfold upL; rw [List.cons_append, List.takeWhile_cons, if_pos (by simpa using h y (by simp))]
    rw [this]
    exact List.cons_prefix_cons.2 ⟨rfl, ih (fun z hz => h z (by simp [hz]))⟩

theorem round_any {m m' l l' : Nat} {P : Program} {f : FuncId} {tmps : Array Value} {assign body : Code} {w : World} {R : Ending → World → Prop} (h : RoundIn Fence.wide m P l f tmps assign body w R) : RoundIn (Fence.wide.inRound l') m' P l f tmps assign body w R :=
  ⟨h.1, fun c cs _ => h.2 c cs (fun d hd => by cases hd)⟩

theorem own_later {β : Type} {B B' : Nat} {J : β → World → Prop} (h : OwnFrom B J) (hB : B ≤ B') : OwnFrom B' J := fun s A C row hs hg hr => h s A C row hs hg (fun r e => ⟨Nat.le_trans hB (hr r e).1, (hr r e).2⟩)
theorem own_cb {β : Type} {c B : Nat} {w0 : World} : OwnFrom B (fun (_ : β) W => CellsBut c w0 W) := fun _ A C row hs hg hr =>
  hs.trans ⟨hg.os, hg.tape, hg.output, hg.size, fun k o _ hk hc => (hg.block k (Array.getElem?_eq_some_iff.1 hk).1 (fun e => by
    obtain ⟨_, o', ho', hc'⟩ := hr k e.symm
    rw [hk] at ho'; cases ho'; rw [hc] at hc'; cases hc')).trans hk⟩

set_option maxHeartbeats 400000 in
theorem dueBetween_any (a : Option Addr) (cap : Nat) (rs : List CR) (t to : Int) (w : World) :
    Calls Tryd.prog 40 #[.slice a rs.length cap, .int .i64 t, .int .i64 to] w fun e w' =>
      e = .returned (.func (.func 64) #[] #[.pointer (some ⟨w.heap.size, 0, none⟩), .pointer (some ⟨w.heap.size + 1, 0, none⟩), .pointer (some ⟨w.heap.size + 1 + 1, 0, none⟩)]) ∧
      w'.cell? ⟨w.heap.size, 0, none⟩ = some (.slice a rs.length cap) ∧ w'.cell? ⟨w.heap.size + 1, 0, none⟩ = some (.int .i64 t) ∧ w'.cell? ⟨w.heap.size + 1 + 1, 0, none⟩ = some (.int .i64 to) ∧ Below w.heap.size w w' := by
  go_enter Tryd.func40, Tryd.ntmps40
  go_wp2
  go_ret
  refine ⟨rfl, ?_, ?_, ?_, (((Below.refl _ _).alloc (Nat.le_refl _) _).alloc (by simp) _).alloc (by simp; omega) _⟩
  · rw [World.cell?_alloc_lt _ _ _ (by simp; omega), World.cell?_alloc_lt _ _ _ (by simp)]; exact (cell_new w _ _).1
  · rw [World.cell?_alloc_lt _ _ _ (by simp)]; have := (cell_new (w.alloc (.cells #[.slice a rs.length cap] 23)) (.int .i64 t) 3).1; rwa [World.size_alloc] at this
  · have := (cell_new ((w.alloc (.cells #[.slice a rs.length cap] 23)).alloc (.cells #[.int .i64 t] 3)) (.int .i64 to) 3).1; rwa [World.size_alloc, World.size_alloc] at this

set_option maxRecDepth 100000 in
set_option maxHeartbeats 2000000 in
theorem between_in (n : Nat) (hn : 6 ≤ n) (l c B2 lo lb : Nat) (a : Option Addr) (cap : Nat) (rs : List CR) (t to : Int) (xs : List Int) (hxs : Ticks (srcOf rs) t xs) (hl : rs.length ≤ 9223372036854775807) (h64 : In64 t)
    (w w1 W : World) (hc : RulesIn w lo lb a rs) (hg : Glob w) (hw : Below w.heap.size w w1) (hcw : w.heap.size ≤ c) (hcB : c < B2)
    (hx1 : w1.cell? ⟨B2, 0, none⟩ = some (.slice a rs.length cap)) (hx2 : w1.cell? ⟨B2 + 1, 0, none⟩ = some (.int .i64 t)) (hx3 : w1.cell? ⟨B2 + 1 + 1, 0, none⟩ = some (.int .i64 to))
    (hW : Below w1.heap.size w1 W) (J Jx : List Int → World → Prop) (hJ : OwnFrom W.heap.size J) (hJx : OwnFrom W.heap.size Jx)
    (hY : ∀ pre x W1, J pre W1 → pre.length < xs.length → YieldAt Fence.wide (n - 1) Tryd.prog l #[.int .i64 x] W1 fun e W' => KeepsFrom W.heap.size W1 W' ∧
      ((e = .returned (.bool true) ∧ J (pre ++ [x]) W' ∧ CellsBut c W1 W') ∨ (e = .returned (.bool false) ∧ Jx (pre ++ [x]) W'))) (h0 : J [] W) :
    CallsIn Fence.wide n Tryd.prog 64 #[.func (.yield l) #[] #[], .pointer (some ⟨B2, 0, none⟩), .pointer (some ⟨B2 + 1, 0, none⟩), .pointer (some ⟨B2 + 1 + 1, 0, none⟩)] W fun e W' => (∃ v, e = .returned v) ∧
      ((∃ ys, ys = upL xs to ∧ J ys W') ∨ (∃ pre, pre <+: upL xs to ∧ Jx pre W')) := by
  have z1 := cell_lt hx1
  have z2 := cell_lt hx2
  have z3 := cell_lt hx3
  simp only at z1 z2 z3
  have hWz := hW.size
  have hb0 : Below W.heap.size W (W.alloc (.cells #[.func (.yield l) #[] #[]] 86)) := (Below.refl _ _).alloc (Nat.le_refl _) _
  have hbw : Below w.heap.size w W := hw.trans (hW.mono hw.size)
  have y1 := (hW.cell (p := ⟨B2, 0, none⟩) z1).trans hx1
  have y2 := (hW.cell (p := ⟨B2 + 1, 0, none⟩) z2).trans hx2
  have y3 := (hW.cell (p := ⟨B2 + 1 + 1, 0, none⟩) z3).trans hx3
  have o1 : B2 < W.heap.size := by omega
  have o2 : B2 + 1 < W.heap.size := by omega
  have v1 : (W.alloc (.cells #[.func (.yield l) #[] #[]] 86)).cell? ⟨B2, 0, none⟩ = some (.slice a rs.length cap) := (World.cell?_alloc_lt _ _ _ (by exact o1)).trans y1
  have v2 : (W.alloc (.cells #[.func (.yield l) #[] #[]] 86)).cell? ⟨B2 + 1, 0, none⟩ = some (.int .i64 t) := (World.cell?_alloc_lt _ _ _ (by exact o2)).trans y2
  have hcy := (hc.below hbw (Nat.le_refl _)).below hb0 (Nat.le_refl _)
  have hgy := (hg.below hbw (Nat.le_refl _)).below hb0 (Nat.le_refl _)
  have HY : Hid (∀ pre x W1, J pre W1 → pre.length < xs.length → YieldAt Fence.wide (n - 1) Tryd.prog l #[.int .i64 x] W1 fun e W' => KeepsFrom W.heap.size W1 W' ∧
      ((e = .returned (.bool true) ∧ J (pre ++ [x]) W' ∧ CellsBut c W1 W') ∨ (e = .returned (.bool false) ∧ Jx (pre ++ [x]) W'))) := hY
  clear hY
  refine callsIn_of_wp_marks Tryd.func64 rfl trivial ?_ rfl
  simp only [Tryd.ntmps64, List.size_toArray, List.length_cons, List.length_nil, Nat.reduceAdd, Nat.reduceSub, Array.replicate_succ, Array.replicate_zero, List.push_toArray, List.append_toArray, List.nil_append, List.cons_append]
  gi_wp2_with fail
  refine ⟨trivial, fun _ => by omega, ?_⟩
  refine (callsIn_wide.2 (dueAbove_any a cap rs t _ lo lb hl hcy hgy)).mono ?_
  rintro e w2 ⟨B, a', cap', hBz, rfl, hbx, hrl, hb1⟩
  have hB2 : Below W.heap.size W w2 := hb0.trans (hb1.mono (by simp))
  have hs2 := hb1.size
  simp at hs2 hBz
  have hwv : Below w.heap.size w w2 := hbw.trans (hB2.mono hbw.size)
  have hK := keeps_cb hc hwv hcw (by omega) hbx hrl
  have k3 : w2.cell? ⟨B2 + 1 + 1, 0, none⟩ = some (.int .i64 to) := (hB2.cell (p := ⟨B2 + 1 + 1, 0, none⟩) (by simp; omega)).trans y3
  have ky : w2.cell? ⟨W.heap.size, 0, none⟩ = some (.func (.yield l) #[] #[]) := (hb1.cell (p := ⟨W.heap.size, 0, none⟩) (by simp)).trans (by simp)
  have hcW : c < W.heap.size := by omega
  have hJ2 : J [] w2 := hJ [] W w2 none h0 ⟨hB2.os, hB2.tape, hB2.output, hB2.size, fun k hk _ => hB2.block k hk⟩ (fun r e => by cases e)
  clear v1 v2 hcy hgy hg hb0 hbx hb1 y1 y2 y3 hx1 hx2 hx3 hrl
  gi_wp2
  refine wpIn_rangeFunc_ownG rfl (by omega) (gf := 77) (lb := #[.pointer (some ⟨B + 1, 0, none⟩), .pointer (some ⟨B, 0, none⟩), .pointer (some ⟨B + 1 + 1, 0, none⟩)]) rfl trivial (enters_of Tryd.func77 (by kernel_rfl) rfl)
    (iter_stops (n - 1) (by omega) B lo lb a' cap' (srcOf rs) t xs hxs (srcOf_len rs) (srcOf_ok rs) h64 (CellsBut c) w2 hK) (fun h k => h.trans k) (fun V j o o' _ hj ho _ => CellsBut.putObj V j o o' hj ho) (Below.refl _ _) (fun _ => rfl)
    (fun pre V => (J pre V ∧ CellsBut c w2 V) ∧ (∀ y, y ∈ pre → y ≤ to))
    (fun cc pre V => cc = .ret ∧ ((∃ pre0 x, pre = pre0 ++ [x] ∧ (∀ y, y ∈ pre0 → y ≤ to) ∧ ¬ x ≤ to ∧ J pre0 V) ∨ (Jx pre V ∧ ∀ y, y ∈ pre → y ≤ to)))
    (OwnFrom.and (OwnFrom.and (own_later hJ hB2.size) own_cb) (ownFrom_pure _ _))
    (fun cc s A C row hs hgr hr => ⟨hs.1, hs.2.imp (fun ⟨p0, x, e1, e2, e3, e4⟩ => ⟨p0, x, e1, e2, e3, own_later hJ hB2.size p0 A C row e4 hgr hr⟩) (fun ⟨e1, e2⟩ => ⟨own_later hJx hB2.size s A C row e1 hgr hr, e2⟩)⟩)
    ⟨⟨hJ2, CellsBut.refl _ _⟩, fun y hy => by simp at hy⟩
    (fun x => { tmps := #[.func (.yield l) #[] #[], .pointer (some ⟨B2, 0, none⟩), .pointer (some ⟨B2 + 1, 0, none⟩), .pointer (some ⟨B2 + 1 + 1, 0, none⟩), .pointer (some ⟨W.heap.size, 0, none⟩), .int .i64 x, .slice a rs.length cap, .int .i64 t, .func (.func 77) #[] #[.pointer (some ⟨B + 1, 0, none⟩), .pointer (some ⟨B, 0, none⟩), .pointer (some ⟨B + 1 + 1, 0, none⟩)], .int .i64 x, undef, undef, undef, undef, undef, undef, undef, undef, undef], defers := [] }) ?assign ?body ?done ?stop
  case assign =>
    intro l x W K hK
    gi_wp2
    exact hK
  case body =>
    rintro l' pre x V ⟨⟨hJ1, hcb⟩, hall⟩ hlt
    have HALL : Hid (∀ y, y ∈ pre → y ≤ to) := hall
    have c3 := hcb.cell (p := ⟨B2 + 1 + 1, 0, none⟩) (by simp; omega) k3
    have cy := hcb.cell (p := ⟨W.heap.size, 0, none⟩) (by simp; omega) ky
    have HCB : Hid (CellsBut c w2 V) := hcb
    clear hall hK k3 ky hJ2 hcb
    by_cases hx : x ≤ to
    · have hnx : ¬ to < x := by omega
      obtain ⟨fn, tmps, assign, body, hy, hR⟩ := HY.out pre x V hJ1 hlt
      gi_wp2
      refine ⟨fun _ => by omega, ?_⟩
      refine (round_any hR).mono ?_
      rintro e W3 ⟨hkf, (⟨rfl, hJ3, hk3⟩ | ⟨rfl, hJx3⟩)⟩
      · have HKF : Hid (KeepsFrom w2.heap.size V W3) := keepsFrom_mono hkf hB2.size
        have HA2 : Hid (∀ y, y ∈ pre ++ [x] → y ≤ to) := fun y hy => by
          rcases List.mem_append.1 hy with h | h
          · exact HALL.out y h
          · simp at h; subst h; exact hx
        clear hkf hR hy
        gi_wp2
        exact ⟨HKF.out, hk3, ⟨hJ3, HCB.out.trans hk3⟩, HA2.out⟩
      · have HKF : Hid (KeepsFrom w2.heap.size V W3) := keepsFrom_mono hkf hB2.size
        have HA2 : Hid (∀ y, y ∈ pre ++ [x] → y ≤ to) := fun y hy => by
          rcases List.mem_append.1 hy with h | h
          · exact HALL.out y h
          · simp at h; subst h; exact hx
        clear hkf hR hy
        gi_wp2
        exact ⟨HKF.out, rfl, .inr ⟨hJx3, HA2.out⟩⟩
    · have hnx : to < x := by omega
      gi_wp2
      refine ⟨fun _ h => (by cases h), ?_⟩
      gi_wp2
      exact ⟨(KeepsOthers.refl _).from _, rfl, .inl ⟨pre, x, rfl, HALL.out, hx, hJ1⟩⟩
  case done =>
    rintro D ys V hD rfl ⟨⟨hJ', _⟩, hall⟩ hK'
    have HF : Hid (upL ys to = ys) := upL_all hall
    have HJ' : Hid (J ys (V.putObj D (.deferred none))) := hJ.putObj _ hJ' (Nat.le_trans hB2.size hD) hK' rfl
    clear hall hJ'
    gi_wp2
    refine ⟨by simp, .inl ⟨_, _, rfl, run_takeDeferred hK', ?_⟩⟩
    exact ⟨_, results_none rfl _ _ _, ⟨_, rfl⟩, .inl ⟨ys, HF.out.symm, HJ'.out⟩⟩
  case stop =>
    rintro D cc pre V hD hpre ⟨rfl, h⟩ hK'
    gi_wp2
    refine ⟨by simp, .inl ⟨_, _, rfl, run_takeDeferred hK', ?_⟩⟩
    refine ⟨_, results_none rfl _ _ _, ⟨_, rfl⟩, ?_⟩
    obtain ⟨rest, hrest⟩ := hpre
    rcases h with ⟨pre0, x, rfl, h1, h2, h3⟩ | ⟨h1, h2⟩
    · left
      have e : upL xs to = pre0 := by rw [← hrest, List.append_assoc, List.singleton_append]; exact upL_cut h1 (by omega)
      rw [e]
      exact hJ.putObj _ h3 (Nat.le_trans hB2.size hD) hK' rfl
    · right
      exact ⟨pre, by rw [← hrest]; exact upL_pre h2, hJx.putObj _ h1 (Nat.le_trans hB2.size hD) hK' rfl⟩

end Go.Proofs.YtammejplaeaocaaDoor
