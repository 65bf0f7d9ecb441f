/-
  How rules lie in memory: what it means that a value is a slice of these ints, or of these rules; that it stays so while only new memory is written. No condition.
-/
import Derived.Test.YtammejplaeaocaaDoorProg
import Derived.WalkKit
import Derived.WalkLawsBesides
import Derived.Deep.QuietTactic
import Derived.BigQuiet
namespace Go.Proofs.YtammejplaeaocaaDoor
open Go.RowKit

/-- A rule as plain data. -/
structure CR where
  e : Int
  a : Int
  f : Int
  t : Int
  b : List Int

/-- An int's range. -/
def In64 (x : Int) : Prop := -9223372036854775808 ≤ x ∧ x ≤ 9223372036854775807

/-- From this place on lie these ints, in a block from 'lo' on. -/
def IntsIn (W : World) (lo : Nat) (a : Option Addr) (l : List Int) : Prop :=
  l.length ≤ 9223372036854775807 ∧ (∀ x, x ∈ l → In64 x) ∧ ∀ i, i < l.length → ∃ b off, a = some ⟨b, off, none⟩ ∧ lo ≤ b ∧ W.cell? ⟨b, off + i, none⟩ = some (.int .i64 (l[i]?.getD 0))

theorem cell_lt {W : World} {p : Addr} {v : Value} (h : W.cell? p = some v) : p.block < W.heap.size := by
  rcases Nat.lt_or_ge p.block W.heap.size with h' | h'
  · exact h'
  · simp [World.cell?, Array.getElem?_eq_none h'] at h

theorem IntsIn.below {W W' : World} {lo : Nat} {a : Option Addr} {l : List Int} (h : IntsIn W lo a l) {B : Nat} (hb : Below B W W') (hB : W.heap.size ≤ B) : IntsIn W' lo a l := by
  obtain ⟨hl, hr, hc⟩ := h
  refine ⟨hl, hr, fun i hi => ?_⟩
  obtain ⟨b, off, ha, hlo, h1⟩ := hc i hi
  have := cell_lt h1
  exact ⟨b, off, ha, hlo, (hb.cell (p := ⟨b, off + i, none⟩) (by simp at this ⊢; omega)).trans h1⟩

theorem IntsIn.mono {W : World} {lo lo' : Nat} {a : Option Addr} {l : List Int} (h : IntsIn W lo a l) (hl : lo' ≤ lo) : IntsIn W lo' a l := by
  obtain ⟨h1, h2, h3⟩ := h
  refine ⟨h1, h2, fun i hi => ?_⟩
  obtain ⟨b, off, ha, hlo, hc⟩ := h3 i hi
  exact ⟨b, off, ha, by omega, hc⟩

theorem cell_setCell_other {W : World} {p q : Addr} (v : Value) (h : p.block ≠ q.block) : (W.setCell q v).cell? p = W.cell? p :=
  World.cell?_of_block (w := W) (Below.heap_setCell W q v p.block h)

theorem IntsIn.setCell {W : World} {lo : Nat} {a : Option Addr} {l : List Int} (h : IntsIn W lo a l) (p : Addr) (hp : p.block < lo) (v : Value) : IntsIn (W.setCell p v) lo a l := by
  obtain ⟨h1, h2, h3⟩ := h
  refine ⟨h1, h2, fun i hi => ?_⟩
  obtain ⟨b, off, ha, hlo, hc⟩ := h3 i hi
  exact ⟨b, off, ha, hlo, by rw [cell_setCell_other _ (by simp; omega)]; exact hc⟩

/-- The rule's five cells, as one value; its ints lie at 'a', with spare room up to 'cap'. -/
abbrev CR.val (r : CR) (a : Option Addr) (cap : Nat) : Value := .agg #[.int .i64 r.e, .int .i64 r.a, .int .i64 r.f, .int .i64 r.t, .slice a r.b.length cap]

/-- The rule's numbers are ints. -/
def CR.In (r : CR) : Prop := In64 r.e ∧ In64 r.a ∧ In64 r.f ∧ In64 r.t

/-- From this place on lie these rules, in a block from 'lo' on: of each its five cells, the last a slice of its ints, which lie from 'lb' on. -/
def RulesIn (W : World) (lo lb : Nat) (a : Option Addr) (rs : List CR) : Prop :=
  ∀ i (r : CR), rs[i]? = some r → r.In ∧ ∃ b off ba bc, a = some ⟨b, off, none⟩ ∧ lo ≤ b ∧ IntsIn W lb ba r.b ∧
    W.cell? ⟨b, off + i * 5, none⟩ = some (.int .i64 r.e) ∧ W.cell? ⟨b, off + i * 5 + 1, none⟩ = some (.int .i64 r.a) ∧ W.cell? ⟨b, off + i * 5 + 2, none⟩ = some (.int .i64 r.f) ∧ W.cell? ⟨b, off + i * 5 + 3, none⟩ = some (.int .i64 r.t) ∧ W.cell? ⟨b, off + i * 5 + 4, none⟩ = some (.slice ba r.b.length bc)

theorem RulesIn.below {W W' : World} {lo lb : Nat} {a : Option Addr} {rs : List CR} (h : RulesIn W lo lb a rs) {B : Nat} (hb : Below B W W') (hB : W.heap.size ≤ B) : RulesIn W' lo lb a rs := by
  intro i r hi
  obtain ⟨hr, b, off, ba, bc, ha, hlo, h0, h1, h2, h3, h4, h5⟩ := h i r hi
  have hlt : b < B := by have := cell_lt h1; simp at this; omega
  exact ⟨hr, b, off, ba, bc, ha, hlo, h0.below hb hB, (hb.cell (p := ⟨b, _, none⟩) hlt).trans h1, (hb.cell (p := ⟨b, _, none⟩) hlt).trans h2, (hb.cell (p := ⟨b, _, none⟩) hlt).trans h3, (hb.cell (p := ⟨b, _, none⟩) hlt).trans h4, (hb.cell (p := ⟨b, _, none⟩) hlt).trans h5⟩

theorem RulesIn.mono {W : World} {lo lo' lb lb' : Nat} {a : Option Addr} {rs : List CR} (h : RulesIn W lo lb a rs) (hl : lo' ≤ lo) (hb : lb' ≤ lb) : RulesIn W lo' lb' a rs := by
  intro i r hi
  obtain ⟨hr, b, off, ba, bc, ha, hlo, h0, h1⟩ := h i r hi
  exact ⟨hr, b, off, ba, bc, ha, by omega, h0.mono hb, h1⟩

/-- Block g is a row of n cells, all of which may be written. -/
def Row (W : World) (g : Nat) (t : TypeId) (n : Nat) : Prop := ∃ cs : Array Value, W.heap[g]? = some (.cells cs t (0, 0)) ∧ cs.size = n

theorem Row.new (w : World) (cs : Array Value) (t : TypeId) : Row (w.alloc (.cells cs t (0, 0))) w.heap.size t cs.size :=
  ⟨cs, by show (w.heap.push _)[w.heap.size]? = _; simp, rfl⟩
theorem Row.cell {W : World} {g : Nat} {t : TypeId} {n : Nat} (h : Row W g t n) {j : Nat} (hj : j < n) : ∃ v, W.cell? ⟨g, j, none⟩ = some v := by
  obtain ⟨cs, hb, hn⟩ := h
  exact ⟨cs[j]'(by omega), by simp [World.cell?, hb, Array.getElem?_eq_getElem (show j < cs.size by omega)]⟩
theorem Row.frozen {W : World} {g : Nat} {t : TypeId} {n : Nat} (h : Row W g t n) (j : Nat) : W.frozen? ⟨g, j, none⟩ = false := by
  obtain ⟨cs, hb, hn⟩ := h
  simp [World.frozen?, hb]
theorem Row.lt {W : World} {g : Nat} {t : TypeId} {n : Nat} (h : Row W g t n) : g < W.heap.size := by
  obtain ⟨c, hb, _⟩ := h
  exact (Array.getElem?_eq_some_iff.1 hb).1
theorem Row.below {W W' : World} {g : Nat} {t : TypeId} {n : Nat} (h : Row W g t n) {B : Nat} (hb : Below B W W') (hB : g < B) : Row W' g t n := by
  obtain ⟨cs, hc, hn⟩ := h
  exact ⟨cs, (hb.block g hB).trans hc, hn⟩
theorem Row.setCell {W : World} {g : Nat} {t : TypeId} {n : Nat} (h : Row W g t n) (p : Addr) (v : Value) : Row (W.setCell p v) g t n := by
  obtain ⟨cs, hb, hn⟩ := h
  by_cases hp : g = p.block
  · subst hp
    by_cases hs : p.spot.isSome = true
    · exact ⟨cs, by simp [World.setCell, Array.getElem?_modify, hb, hs], hn⟩
    · exact ⟨cs.setIfInBounds p.off v, by simp [World.setCell, Array.getElem?_modify, hb, hs], by simpa using hn⟩
  · exact ⟨cs, (Below.heap_setCell W p v g hp).trans hb, hn⟩

/-- A cell of the block itself, another one than that which was written. -/
theorem cell_setCell_off {W : World} {g i j : Nat} (v : Value) (h : i ≠ j) : (W.setCell ⟨g, j, none⟩ v).cell? ⟨g, i, none⟩ = W.cell? ⟨g, i, none⟩ :=
  World.cell?_setCell_other W ⟨g, j, none⟩ ⟨g, i, none⟩ v (by intro e; injection e with _ e2; exact h e2.symm)

/-- The cell that was written. -/
theorem cell_setCell_same {W : World} {p : Addr} (v : Value) (h : ∃ u, W.cell? p = some u) : (W.setCell p v).cell? p = some v := by
  obtain ⟨u, hu⟩ := h
  exact World.cell?_setCell_same' _ _ _ (by rw [hu]; rfl)

/-- How many values there are in rules: the rules, and their ticks that are left out. -/
def bulk : List CR → Nat
  | [] => 0
  | r :: rs => r.b.length + bulk rs

theorem bulk_snoc (rs : List CR) (r : CR) : bulk (rs ++ [r]) = bulk rs + r.b.length := by
  induction rs with
  | nil => simp [bulk]
  | cons x rs ih => simp [bulk, ih]; omega

theorem bulk_take (rs : List CR) (k : Nat) (r : CR) (h : rs[k]? = some r) : bulk (rs.take (k + 1)) = bulk (rs.take k) + r.b.length := by
  obtain ⟨hk, he⟩ := List.getElem?_eq_some_iff.1 h
  rw [List.take_succ_eq_append_getElem hk, bulk_snoc, he]

theorem bulk_take_le (rs : List CR) (k : Nat) : bulk (rs.take k) ≤ bulk rs := by
  induction rs generalizing k with
  | nil => simp
  | cons x rs ih => cases k with
    | zero => simp [bulk]
    | succ k => simp only [List.take_succ_cons, bulk]; have := ih k; omega

end Go.Proofs.YtammejplaeaocaaDoor
