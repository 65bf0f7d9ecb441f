/-
  From a reading of an argument of type []CalRule to the rules that lie in memory. No condition.
-/
import Derived.Test.YtammejplaeaocaaDoorMem
import Derived.ProofKit
import Derived.OpenShut
import Derived.Deep.Slices
namespace Go.Proofs.YtammejplaeaocaaDoor
open Go.RowKit Go.ChangeShapes Go.WideShapes

theorem Tryd.cellsInt : Tryd.prog.cellsOf 3 = 1 := by kernel_rfl
theorem Tryd.cellsInts : Tryd.prog.cellsOf 64 = 1 := by kernel_rfl
theorem Tryd.cellsRule : Tryd.prog.cellsOf 75 = 5 := by kernel_rfl

theorem In64_of_wf {x : Int} (h : (Lit.int .i64 x).wf = true) : In64 x := by
  have := bounds_i64 h
  exact this

theorem list5 {α : Type} {l : List α} (h : l.length = 5) : ∃ a b c d e, l = [a, b, c, d, e] := by
  match l, h with
  | [a, b, c, d, e], _ => exact ⟨a, b, c, d, e, rfl⟩

section
variable {H : Type} {enc : TypeId × Value → H} {W : World} {sp : Nat → Bool} {held : Bool}

/-- A slice of ints. -/
theorem open_intsIn {fuel : Nat} {cs : List Value} {x : DataW H × List MemPlace} (h : DataW.trod enc Tryd.prog W 0 sp held fuel 64 cs = some x) :
    ∃ a l cap, cs = [.slice a (List.length l) cap] ∧ IntsIn W 0 a l := by
  rcases Deep.open_slice1 Tryd.underlying64 Tryd.cellsInt h with ⟨rfl, _⟩ | ⟨a, len, cap, m, n, V, D, Pl, rfl, _, hl, hm, hmm, _, hx⟩
  · exact ⟨none, [], 0, rfl, by simp, by simp, fun i hi => by simp at hi⟩
  · have hlm : len ≤ m := by rw [hmm]; split <;> omega
    obtain ⟨f, hf⟩ := Deep.choose_lt (α := Int) (n := len) (p := fun i z => W.cell? (a.add i) = some (.int .i64 z) ∧ In64 z) (fun i hi => by
      obtain ⟨h1, h2⟩ := hx i (by omega)
      obtain ⟨k, e1, _, e3⟩ := DataW.trod_int Tryd.underlying3 h2
      simp at e1
      exact ⟨k, by rw [h1, e1], In64_of_wf e3⟩)
    refine ⟨some a, (List.range len).map f, cap, by simp, ?_, ?_, ?_⟩
    · simp; unfold maxLen at hm; omega
    · intro z hz
      simp only [List.mem_map, List.mem_range] at hz
      obtain ⟨i, hi, rfl⟩ := hz
      exact (hf i hi).2
    · intro i hi
      simp only [List.length_map, List.length_range] at hi
      obtain ⟨b, off, spot⟩ := a
      have hspot : spot = none := by simpa [Addr.add] using World.cell?_spot (hf 0 (by omega)).1
      subst hspot
      refine ⟨b, off, rfl, Nat.zero_le _, ?_⟩
      rw [← Go.WideShapes.add_plain, (hf i hi).1]
      simp [hi]

/-- A rule: five cells. -/
theorem open_ruleIn {fuel : Nat} {cs : List Value} {x : DataW H × List MemPlace} (h : DataW.trod enc Tryd.prog W 0 sp held fuel 75 cs = some x) :
    ∃ (r : CR) (ba : Option Addr) (bc : Nat), cs = [.int .i64 r.e, .int .i64 r.a, .int .i64 r.f, .int .i64 r.t, .slice ba r.b.length bc] ∧ r.In ∧ IntsIn W 0 ba r.b := by
  obtain ⟨xs, n, _, _, hlen, hn, hf⟩ := DataW.trod_struct Tryd.underlying75 h
  rw [Tryd.cellsRule] at hlen
  obtain ⟨c0, c1, c2, c3, c4, rfl⟩ := list5 hlen
  obtain ⟨x0, x1, x2, x3, x4, rfl⟩ := list5 (show xs.length = 5 from hn)
  have h0 : DataW.trod enc Tryd.prog W 0 sp held n 3 (([c0, c1, c2, c3, c4].drop 0).take (Tryd.prog.cellsOf 3)) = some x0 := hf 0 _ rfl
  rw [Tryd.cellsInt] at h0
  have h1 : DataW.trod enc Tryd.prog W 0 sp held n 3 (([c0, c1, c2, c3, c4].drop 1).take (Tryd.prog.cellsOf 3)) = some x1 := hf 1 _ rfl
  rw [Tryd.cellsInt] at h1
  have h2 : DataW.trod enc Tryd.prog W 0 sp held n 3 (([c0, c1, c2, c3, c4].drop 2).take (Tryd.prog.cellsOf 3)) = some x2 := hf 2 _ rfl
  rw [Tryd.cellsInt] at h2
  have h3 : DataW.trod enc Tryd.prog W 0 sp held n 3 (([c0, c1, c2, c3, c4].drop 3).take (Tryd.prog.cellsOf 3)) = some x3 := hf 3 _ rfl
  rw [Tryd.cellsInt] at h3
  have h4 : DataW.trod enc Tryd.prog W 0 sp held n 64 (([c0, c1, c2, c3, c4].drop 4).take (Tryd.prog.cellsOf 64)) = some x4 := hf 4 _ rfl
  rw [Tryd.cellsInts] at h4
  clear hf h
  simp only [List.drop_zero, List.drop_succ_cons, List.take_succ_cons, List.take_zero] at h0 h1 h2 h3 h4
  obtain ⟨e, e0, _, w0⟩ := DataW.trod_int Tryd.underlying3 h0
  obtain ⟨a, e1, _, w1⟩ := DataW.trod_int Tryd.underlying3 h1
  obtain ⟨f, e2, _, w2⟩ := DataW.trod_int Tryd.underlying3 h2
  obtain ⟨t, e3, _, w3⟩ := DataW.trod_int Tryd.underlying3 h3
  obtain ⟨ba, l, bc, e4, hi⟩ := open_intsIn h4
  simp only [List.cons.injEq, and_true] at e0 e1 e2 e3 e4
  subst e0 e1 e2 e3 e4
  exact ⟨⟨e, a, f, t, l⟩, ba, bc, rfl, ⟨In64_of_wf w0, In64_of_wf w1, In64_of_wf w2, In64_of_wf w3⟩, hi⟩

/-- A slice of rules. -/
theorem open_rulesIn {fuel : Nat} {cs : List Value} {x : DataW H × List MemPlace} (h : DataW.trod enc Tryd.prog W 0 sp held fuel 39 cs = some x) :
    ∃ a rs cap, cs = [.slice a (List.length rs) cap] ∧ rs.length ≤ 9223372036854775807 ∧ RulesIn W 0 0 a rs := by
  rcases Deep.open_slice Tryd.underlying39 h with ⟨rfl, _⟩ | ⟨a, len, cap, m, n, D, Pl, rfl, _, hl, hm, hmm, _, hx⟩
  · exact ⟨none, [], 0, rfl, by simp, fun i r hi => by simp at hi⟩
  · have hlm : len ≤ m := by rw [hmm]; split <;> omega
    have hone : ∀ i, i < len → ∃ r : CR, r.In ∧ ∃ ba bc, IntsIn W 0 ba r.b ∧ W.cell? (a.add (i * 5)) = some (.int .i64 r.e) ∧ W.cell? ((a.add (i * 5)).add 1) = some (.int .i64 r.a) ∧ W.cell? ((a.add (i * 5)).add 2) = some (.int .i64 r.f) ∧ W.cell? ((a.add (i * 5)).add 3) = some (.int .i64 r.t) ∧ W.cell? ((a.add (i * 5)).add 4) = some (.slice ba r.b.length bc) := fun i hi => by
      obtain ⟨cs', h1, h2⟩ := hx i (by omega)
      rw [Tryd.cellsRule] at h1
      obtain ⟨r, ba, bc, rfl, hr, hi'⟩ := open_ruleIn h2
      obtain ⟨_, _, hc⟩ := World.cells?_some h1
      exact ⟨r, hr, ba, bc, hi', by simpa [Addr.add] using hc 0 (by omega), hc 1 (by omega), hc 2 (by omega), hc 3 (by omega), hc 4 (by omega)⟩
    obtain ⟨f, hf⟩ := @Deep.choose_lt CR ⟨⟨0, 0, 0, 0, []⟩⟩ len _ hone
    refine ⟨some a, (List.range len).map f, cap, by simp, ?_, ?_⟩
    · simp; unfold maxLen at hm; omega
    · intro i r hi
      have hil : i < len := by have := (List.getElem?_eq_some_iff.1 hi).1; simpa using this
      have hr : r = f i := by simp [hil] at hi; exact hi.symm
      subst hr
      obtain ⟨b, off, spot⟩ := a
      have hspot : spot = none := by
        obtain ⟨_, _, _, _, h0, _⟩ := hf 0 (by omega)
        simpa [Addr.add] using World.cell?_spot h0
      subst hspot
      obtain ⟨hin, ba, bc, hb, h0, h1, h2, h3, h4⟩ := hf i hil
      simp only [Go.WideShapes.add_plain] at h0 h1 h2 h3 h4
      exact ⟨hin, b, off, ba, bc, rfl, Nat.zero_le _, hb, h0, h1, h2, h3, h4⟩

end

end Go.Proofs.YtammejplaeaocaaDoor
