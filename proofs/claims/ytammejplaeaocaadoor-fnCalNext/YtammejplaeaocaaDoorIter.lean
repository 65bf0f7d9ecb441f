/-
  The iterator that merged makes: it hands over the ticks of the rules above the low bound, ascending, as long as the loop's body goes on. Condition: the rules are ok.
-/
import Derived.Test.YtammejplaeaocaaDoorImpl4
namespace Go.Proofs.YtammejplaeaocaaDoor
open Go.RowKit Go.Shelf

attribute [local go_sem] Oper.semAt_some

/-- The list is all the ticks of the rules above t, ascending. -/
def Ticks (rs : List CR) : Int → List Int → Prop
  | t, [] => nxtTo rs t = -1
  | t, x :: xs => nxtTo rs t = x ∧ 0 ≤ x ∧ Ticks rs x xs

theorem ticks_exist {rs : List CR} (ho : ∀ r, r ∈ rs → Okd r) : ∀ (n : Nat) (t : Int), (100001 - t).toNat ≤ n → ∃ xs, Ticks rs t xs := by
  intro n
  induction n with
  | zero =>
    intro t h
    rcases nxtTo_bounds ho t with h1 | h1
    · exact ⟨[], h1⟩
    · omega
  | succ n ih =>
    intro t h
    rcases nxtTo_bounds ho t with h1 | h1
    · exact ⟨[], h1⟩
    · obtain ⟨xs, hx⟩ := ih (nxtTo rs t) (by omega)
      exact ⟨nxtTo rs t :: xs, rfl, h1.2.1, hx⟩

theorem below_grown {W W' : World} (h : Below W.heap.size W W') : W.grownBy W' none := ⟨h.os, h.tape, h.output, h.size, fun k hk _ => h.block k hk⟩

/-- What the iterator asks of a round that goes on: a relation that keeps its boxes and the rules, whatever else turns. -/
structure Keeps (Kp : World → World → Prop) (w0 : World) (B lo lb : Nat) (a : Option Addr) (cap : Nat) (rs : List CR) (t : Int) : Prop where
  trans : ∀ {A C D : World}, Kp A C → Kp C D → Kp A D
  size : ∀ {A C : World}, Kp A C → A.heap.size ≤ C.heap.size
  grow : ∀ {A C : World}, w0.heap.size ≤ A.heap.size → Below A.heap.size A C → Kp A C
  box : ∀ {W : World}, Kp w0 W → Boxes W B a cap rs t
  rules : ∀ {W : World}, Kp w0 W → RulesIn W lo lb a rs

set_option maxRecDepth 100000 in
set_option maxHeartbeats 1000000 in
theorem iter_in (n : Nat) (hn : 3 ≤ n) (l B lo lb : Nat) (a : Option Addr) (cap : Nat) (rs : List CR) (t : Int) (xs : List Int) (hxs : Ticks rs t xs) (hl : rs.length ≤ 4) (hok : ∀ r, r ∈ rs → Okd r) (h64 : In64 t) (J Jx : List Int → World → Prop)
    (Kp : World → World → Prop) (w0 W : World) (hK : Keeps Kp w0 B lo lb a cap rs t) (hW : Kp w0 W) (hJ : AbidesFrom W.heap.size J)
    (hY : ∀ pre x W1, J pre W1 → pre.length < xs.length → YieldAt Fence.wide (n - 1) Tryd.prog l #[.int .i64 x] W1 fun e W' =>
      (e = .returned (.bool true) ∧ J (pre ++ [x]) W' ∧ Kp W1 W') ∨ (e = .returned (.bool false) ∧ Jx (pre ++ [x]) W')) (h0 : J [] W) :
    CallsIn Fence.wide n Tryd.prog 77 #[.func (.yield l) #[] #[], .pointer (some ⟨B + 1, 0, none⟩), .pointer (some ⟨B, 0, none⟩), .pointer (some ⟨B + 1 + 1, 0, none⟩)] W fun e W' => (∃ v, e = .returned v) ∧
      ((∃ ys, ys = xs ∧ J ys W') ∨ (∃ pre, pre <+: xs ∧ Jx pre W')) := by
  have hlow := (hK.box hW).low
  have HK : Hid (Keeps Kp w0 B lo lb a cap rs t) := hK
  have HY : Hid (∀ pre x W1, J pre W1 → pre.length < xs.length → YieldAt Fence.wide (n - 1) Tryd.prog l #[.int .i64 x] W1 fun e W' =>
      (e = .returned (.bool true) ∧ J (pre ++ [x]) W' ∧ Kp W1 W') ∨ (e = .returned (.bool false) ∧ Jx (pre ++ [x]) W')) := hY
  have HOK : Hid (∀ r, r ∈ rs → Okd r) := hok
  clear hK hY hok
  refine callsIn_of_wp Tryd.func77 rfl trivial ?_ rfl
  simp only [Tryd.ntmps77, List.size_toArray, List.length_cons, List.length_nil, Nat.reduceAdd, Nat.reduceSub, Array.replicate_succ, Array.replicate_zero, List.push_toArray, List.append_toArray, List.nil_append, List.cons_append]
  gi_wp2
  gi_loopw [5, 6, 7] (fun p _ _ wr => ∃ (pre rest : List Int) (last : Int), p = .int .i64 last ∧ xs = pre ++ rest ∧ Ticks rs last rest ∧ In64 last ∧ Kp w0 wr ∧ J pre wr)
    (fun p _ _ _ => (100001 - intOf p).toNat)
  case atStart => exact ⟨[], xs, t, rfl, rfl, hxs, h64, hW, h0⟩
  case round =>
    obtain ⟨pre, rest, last, rfl, hx, ht, hlast, hB, hJs⟩ := hrel
    obtain ⟨c1, c2, c3⟩ := HK.out.box hB
    have hrl := HK.out.rules hB
    have HX : Hid (xs = pre ++ rest) := hx
    have HBW : Hid (Kp w0 wr) := hB
    have hsz := HK.out.size hB
    clear hx hB hxs
    cases rest with
    | nil =>
      have HT : Hid (nxtTo rs last = -1) := ht
      have hf : lf (nxtTo rs last) = false := lf_neg (by rw [HT.out]; omega)
      gi_wp2_with fail
      refine ⟨trivial, fun _ => by omega, ?_⟩
      refine (callsIn_wide.2 (leastAbove_any a cap rs last _ lo lb hl hrl HOK.out hlast)).mono ?_
      rintro e w1 ⟨rfl, hb1⟩
      have HJ1 : Hid (J pre w1) := hJ pre wr w1 none hJs (below_grown hb1) (fun r e => by cases e)
      clear c1 c2 c3 hrl hb1 hJs
      gi_wp2
      refine ⟨fun _ h => (by cases h), ?_⟩
      gi_wp2
      refine bodyPost_ret (results_none rfl _ _ _) rfl ?_
      exact ⟨⟨_, rfl⟩, .inl ⟨pre, by rw [HX.out]; simp, HJ1.out⟩⟩
    | cons x rest =>
      obtain ⟨hx1, hx2, hx3⟩ : nxtTo rs last = x ∧ 0 ≤ x ∧ Ticks rs x rest := ht
      have hf : lf (nxtTo rs last) = true := lf_pos (by rw [hx1]; omega)
      have hlv : lv (nxtTo rs last) = x := by rw [lv_pos (by rw [hx1]; omega), hx1]
      have hbd : last < x ∧ x ≤ 100000 := by
        rcases nxtTo_bounds HOK.out last with h | h
        · omega
        · omega
      have HT : Hid (Ticks rs x rest) := hx3
      clear hx1 hx3
      gi_wp2_with fail
      refine ⟨trivial, fun _ => by omega, ?_⟩
      refine (callsIn_wide.2 (leastAbove_any a cap rs last _ lo lb hl hrl HOK.out hlast)).mono ?_
      rintro e w1 ⟨rfl, hb1⟩
      have hJ1 : J pre w1 := hJ pre wr w1 none hJs (below_grown hb1) (fun r e => by cases e)
      have HB1 : Hid (Kp w0 w1) := HK.out.trans HBW.out (HK.out.grow hsz hb1)
      obtain ⟨fn, tmps, assign, body, hy, hR⟩ := HY.out pre x w1 hJ1 (by rw [HX.out]; simp)
      clear c1 c2 c3 hrl hb1 hJs hJ1
      gi_wp2
      refine ⟨fun _ => by omega, ?_⟩
      refine hR.mono ?_
      rintro e W3 (⟨rfl, hJ3, hk3⟩ | ⟨rfl, hJx3⟩)
      · have HB3 : Hid (Kp w0 W3) := HK.out.trans HB1.out hk3
        clear hk3 hf hlv hR
        gi_wp2
        go_roundw
        case rel => exact ⟨pre ++ [x], rest, x, rfl, by rw [HX.out]; simp, HT.out, ⟨by omega, by omega⟩, HB3.out, hJ3⟩
        case measure => simp [intOf]; omega
      · clear hR
        gi_wp2
        refine bodyPost_ret (results_none rfl _ _ _) rfl ?_
        exact ⟨⟨_, rfl⟩, .inr ⟨pre ++ [x], ⟨rest, by rw [HX.out]; simp⟩, hJx3⟩⟩

/-- The iterator's contract. -/
theorem iter_stops (n : Nat) (hn : 3 ≤ n) (B lo lb : Nat) (a : Option Addr) (cap : Nat) (rs : List CR) (t : Int) (xs : List Int) (hxs : Ticks rs t xs) (hl : rs.length ≤ 4) (hok : ∀ r, r ∈ rs → Okd r) (h64 : In64 t)
    (Kp : World → World → Prop) (w0 : World) (hK : Keeps Kp w0 B lo lb a cap rs t) :
    SeqStopsK Fence.wide n Tryd.prog 77 #[.pointer (some ⟨B + 1, 0, none⟩), .pointer (some ⟨B, 0, none⟩), .pointer (some ⟨B + 1 + 1, 0, none⟩)] (fun x : Int => #[Value.int .i64 x]) Kp (fun ys => ys = xs) (fun pre => pre <+: xs) xs.length w0 :=
  fun l J Jx W hW hJ _ hY h0 => iter_in n hn l B lo lb a cap rs t xs hxs hl hok h64 J Jx Kp w0 W hK (hK.grow (Nat.le_refl _) hW) hJ hY h0

/-- As it was below block m, but for block c. -/
structure BelowBut (c m : Nat) (A C : World) : Prop where
  os : C.os = A.os
  tape : C.tape = A.tape
  output : C.output = A.output
  size : A.heap.size ≤ C.heap.size
  block : ∀ k, k < m → k ≠ c → C.heap[k]? = A.heap[k]?

theorem BelowBut.trans {c m : Nat} {A C D : World} (h : BelowBut c m A C) (k : BelowBut c m C D) : BelowBut c m A D :=
  ⟨k.os.trans h.os, k.tape.trans h.tape, k.output.trans h.output, Nat.le_trans h.size k.size, fun i hi hc => (k.block i hi hc).trans (h.block i hi hc)⟩
theorem BelowBut.of_below {c m B : Nat} {A C : World} (h : Below B A C) (hm : m ≤ B) : BelowBut c m A C := ⟨h.os, h.tape, h.output, h.size, fun k hk _ => h.block k (by omega)⟩
theorem BelowBut.setCell {c m : Nat} (A : World) (o : Nat) (v : Value) : BelowBut c m A (A.setCell ⟨c, o, none⟩ v) :=
  ⟨rfl, rfl, rfl, by simp [World.setCell], fun k _ hk => Below.heap_setCell A ⟨c, o, none⟩ v k hk⟩
theorem BelowBut.cell {c m : Nat} {A C : World} (h : BelowBut c m A C) {p : Addr} (hp : p.block < m) (hc : p.block ≠ c) : C.cell? p = A.cell? p := World.cell?_of_block (w := A) (h.block p.block hp hc)
theorem belowBut_b {c m : Nat} {w : World} (hm : m ≤ w.heap.size) (W : World) (l : Nat) (o o' : Obj) (hl : w.heap.size ≤ l) (hW : W.heap[l]? = some o) (_h1 : o.isCells = false) (_h2 : o.isWalk = false) : BelowBut c m W (W.putObj l o') := by
  have := belowK_b (w := w) hm W l o o' hl hW _h1 _h2
  exact BelowBut.of_below this (Nat.le_refl _)

/-- A world without a block's cells: what holds there doesn't lie in that block. -/
theorem IntsIn.but {c m lo : Nat} {w w0 C : World} {a : Option Addr} {l : List Int} (h : IntsIn w lo a l) (hw : Below w.heap.size w w0) (hc : w.heap.size ≤ c) (hm : w.heap.size ≤ m) (hb : BelowBut c m w0 C) : IntsIn C lo a l := by
  obtain ⟨h1, h2, h3⟩ := h
  refine ⟨h1, h2, fun i hi => ?_⟩
  obtain ⟨b, off, ha, hlo, hcell⟩ := h3 i hi
  have hlt := cell_lt hcell
  simp only at hlt
  refine ⟨b, off, ha, hlo, ?_⟩
  rw [hb.cell (by simp; omega) (by simp; omega), hw.cell (by simpa using hlt)]
  exact hcell
theorem RulesIn.but {c m lo lb : Nat} {w w0 C : World} {a : Option Addr} {rs : List CR} (h : RulesIn w lo lb a rs) (hw : Below w.heap.size w w0) (hc : w.heap.size ≤ c) (hm : w.heap.size ≤ m) (hb : BelowBut c m w0 C) : RulesIn C lo lb a rs := by
  intro i r hi
  obtain ⟨hr, b, off, ba, bc, ha, hlo, h0, h1, h2, h3, h4, h5⟩ := h i r hi
  have hlt := cell_lt h1
  simp only at hlt
  have e : ∀ o, C.cell? ⟨b, o, none⟩ = w.cell? ⟨b, o, none⟩ := fun o => by
    rw [hb.cell (by simp; omega) (by simp; omega), hw.cell (by simpa using hlt)]
  exact ⟨hr, b, off, ba, bc, ha, hlo, h0.but hw hc hm hb, (e _).trans h1, (e _).trans h2, (e _).trans h3, (e _).trans h4, (e _).trans h5⟩

end Go.Proofs.YtammejplaeaocaaDoor
