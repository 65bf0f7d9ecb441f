/-
  The program's CalCount answers how many ticks there are, as plain data. Condition: the package-level variables that CalOk comes to hold what the program's text lays.
-/
import Derived.Test.YtammejplaeaocaaDoorBetween
namespace Go.Proofs.YtammejplaeaocaaDoor
open Go.RowKit Go.Shelf

attribute [local go_sem] Oper.semAt_some

theorem upTo_all {xs : List Int} {to : Int} (h : ∀ x, x ∈ xs → x ≤ to) : upTo xs to = xs.length := by
  induction xs with
  | nil => rfl
  | cons x xs ih => rw [upTo_le (h x (by simp)), ih (fun y hy => h y (by simp [hy]))]; simp
theorem upTo_pre {pre : List Int} {x : Int} {rest : List Int} {to : Int} (h : ∀ y, y ∈ pre → y ≤ to) (hx : ¬ x ≤ to) : upTo (pre ++ x :: rest) to = pre.length := by
  induction pre with
  | nil => exact upTo_gt hx
  | cons y pre ih => rw [List.cons_append, upTo_le (h y (by simp)), ih (fun z hz => h z (by simp [hz]))]; simp

theorem upTo_upL : ∀ (xs : List Int) (to : Int), upTo xs to = (upL xs to).length
  | [], to => rfl
  | x :: xs, to => by
    by_cases h : x ≤ to
    · rw [upTo_le h, upTo_upL xs to]
      unfold upL
      rw [List.takeWhile_cons, if_pos (by simpa using h)]
      simp
    · rw [upTo_gt h]
      unfold upL
      rw [List.takeWhile_cons, if_neg (by simpa using h)]
      rfl

set_option maxRecDepth 100000 in
set_option maxHeartbeats 2000000 in
theorem implCalCount_in (a : Option Addr) (cap : Nat) (rs : List CR) (t to : Int) (w : World) (lo lb : Nat) (hl : rs.length ≤ 9223372036854775807) (hc : RulesIn w lo lb a rs) (hg : Glob w) (h64 : In64 t) (xs : List Int) (hxs : Ticks (srcOf rs) t xs) :
    CallsIn Fence.wide 9 Tryd.prog 17 #[.slice a rs.length cap, .int .i64 t, .int .i64 to] w fun e w' => e = .returned (.int .i64 (upTo xs to)) ∧ Below w.heap.size w w' := by
  have hlen := (ticks_len (srcOf_ok rs) xs t hxs).1
  have hb0 : Below w.heap.size w (w.alloc (.cells #[.int .i64 0] 3)) := (Below.refl _ _).alloc (Nat.le_refl _) _
  obtain ⟨R, hR⟩ : ∃ R, R = upTo xs to := ⟨_, rfl⟩
  have HR : Hid (R = upTo xs to) := hR
  rw [← hR]
  clear hR
  refine callsIn_of_wp_marks Tryd.func17 rfl trivial ?_ rfl
  simp only [Tryd.ntmps17, List.size_toArray, List.length_cons, List.length_nil, Nat.reduceAdd, Nat.reduceSub, Array.replicate_succ, Array.replicate_zero, List.push_toArray, List.append_toArray, List.nil_append, List.cons_append]
  gi_wp2_with fail
  refine ⟨trivial, ?_⟩
  refine (callsIn_wide.2 (dueBetween_any a cap rs t to _)).mono ?_
  rintro e w1 ⟨rfl, x1, x2, x3, hb1⟩
  simp only [World.size_alloc] at x1 x2 x3
  have hsz : (w.alloc (.cells #[.int .i64 0] 3)).heap.size = w.heap.size + 1 := World.size_alloc _ _
  have HB1 : Hid (Below w.heap.size w w1) := hb0.trans (hb1.mono (by rw [hsz]; omega))
  have hcell : w1.cell? ⟨w.heap.size, 0, none⟩ = some (.int .i64 0) := (hb1.cell (p := ⟨w.heap.size, 0, none⟩) (by rw [hsz]; exact Nat.lt_succ_self _)).trans (cell_new w _ _).1
  have hfroz : w1.frozen? ⟨w.heap.size, 0, none⟩ = false := (hb1.frozen (p := ⟨w.heap.size, 0, none⟩) (by rw [hsz]; exact Nat.lt_succ_self _)).trans (cell_new w _ _).2
  have hsz1 : w.heap.size + 1 < w1.heap.size := by have := cell_lt x1; exact this
  clear hb0 hb1
  gi_wp2
  refine wpIn_rangeFunc_fed rfl (by omega) (gf := 64) (lb := #[.pointer (some ⟨w.heap.size + 1, 0, none⟩), .pointer (some ⟨w.heap.size + 1 + 1, 0, none⟩), .pointer (some ⟨w.heap.size + 1 + 1 + 1, 0, none⟩)]) rfl trivial (enters_of Tryd.func64 (by kernel_rfl) rfl)
    (S := fun ys => ys = upL xs to) (Sp := fun pre => pre <+: upL xs to) (N := xs.length) (Kp := CellsBut w.heap.size) (w0 := w1) (encs := fun x : Int => #[Value.int .i64 x])
    (fun l J Jx W hW hJ hJx hY h0 => between_in 8 (by omega) l w.heap.size (w.heap.size + 1) lo lb a cap rs t to xs hxs hl h64 w w1 W hc hg HB1.out (Nat.le_refl _) (Nat.lt_succ_self _) x1 x2 x3 hW J Jx hJ hJx hY h0)
    (fun h k => h.trans k) (fun V j o o' _ hj ho _ => CellsBut.putObj V j o o' hj ho) (Below.refl _ _) (fun _ => rfl)
    (fun pre W => (W.cell? ⟨w.heap.size, 0, none⟩ = some (.int .i64 pre.length) ∧ W.frozen? ⟨w.heap.size, 0, none⟩ = false) ∧ Below w.heap.size w W)
    (fun _ _ _ => False)
    (OwnFrom.and (Own.from (fun s A B row hs hg hr => ⟨cell_kept hs.1 hg hr, (frozen_kept hs.1 hg hr).trans hs.2⟩) _) (ownFrom_below (Nat.le_refl _) (by omega)))
    (fun _ _ _ _ _ hs _ _ => hs)
    ⟨⟨hcell, hfroz⟩, HB1.out⟩
    (fun x => { tmps := #[.slice a rs.length cap, .int .i64 t, .int .i64 to, undef, undef, undef, .int .i64 0, .pointer (some ⟨w.heap.size, 0, none⟩), .slice a rs.length cap, .int .i64 t, .int .i64 to, .func (.func 64) #[] #[.pointer (some ⟨w.heap.size + 1, 0, none⟩), .pointer (some ⟨w.heap.size + 1 + 1, 0, none⟩), .pointer (some ⟨w.heap.size + 1 + 1 + 1, 0, none⟩)], .int .i64 x, undef, undef, undef], defers := [] }) ?assign ?body ?done ?stop
  case assign =>
    intro l x W K hK
    gi_wp2
    first
      | exact hK
      | (simp; exact hK)
      | (simpa using hK)
  case body =>
    rintro l pre x W ⟨⟨hcr, hfr⟩, hB⟩ hlt
    obtain ⟨m, hm⟩ : ∃ m : Nat, m = pre.length := ⟨_, rfl⟩
    rw [← hm] at hcr
    have hpl : m < 100001 := by omega
    have HM : Hid (m = pre.length) := hm
    clear hlt hlen hm hxs hcell hfroz x1 x2 x3
    gi_wp2
    refine ⟨(KeepsOthers.setCell _ _ _).from _, CellsBut.setCell _ _ _, ⟨?_, ?_⟩, hB.setCell (p := ⟨w.heap.size, 0, none⟩) (Nat.le_refl _) _⟩
    · rw [cell_setCell_same _ ⟨_, hcr⟩]; have := HM.out; simp; omega
    · rw [World.frozen?_setCell]; exact hfr
  case done =>
    rintro D ys W hD rfl ⟨⟨hcr, hfr⟩, hB⟩ hK
    have hn : Hid (R = (upL xs to).length) := by show _ = _; rw [HR.out, upTo_upL]
    gi_wp2
    refine ⟨by simp, .inl ⟨_, _, rfl, run_takeDeferred hK, ?_⟩⟩
    exact ⟨.int .i64 (upL xs to).length, by simp [results, Tryd.f17, go_sem], by rw [hn.out], hB.trans (belowK_b (w := w) (Nat.le_refl _) W D _ _ (by omega) hK rfl rfl)⟩
  case stop =>
    rintro D c pre W _ _ h _
    exact h.elim

/-- How many ticks there are above one and not above another. -/
theorem count_both (rs : List CR) (t : Int) : ∃ xs, Ticks (srcOf rs) t xs := ticks_exist (srcOf_ok rs) _ t (Nat.le_refl _)

theorem implCalCount_any (a : Option Addr) (cap : Nat) (rs : List CR) (t to : Int) (w : World) (lo lb : Nat) (hl : rs.length ≤ 9223372036854775807) (hc : RulesIn w lo lb a rs) (hg : Glob w) (h64 : In64 t) (xs : List Int) (hxs : Ticks (srcOf rs) t xs) :
    Calls Tryd.prog 17 #[.slice a rs.length cap, .int .i64 t, .int .i64 to] w fun e w' => e = .returned (.int .i64 (upTo xs to)) ∧ Below w.heap.size w w' :=
  callsIn_wide.1 (implCalCount_in a cap rs t to w lo lb hl hc hg h64 xs hxs)

end Go.Proofs.YtammejplaeaocaaDoor
