/-
  From a reading of an argument of type []byte to the bytes that lie in memory. No condition.
-/
import Derived.Test.YtammejplaeaocaaDoorOpen
import Derived.Test.YtammejplaeaocaaDoorDrawT
namespace Go.Proofs.YtammejplaeaocaaDoor
open Go.RowKit Go.ChangeShapes Go.WideShapes

theorem Tryd.cellsByte : Tryd.prog.cellsOf 5 = 1 := by kernel_rfl

/-- A slice of bytes. -/
theorem open_bytes {H : Type} {enc : TypeId × Value → H} {W : World} {sp : Nat → Bool} {held : Bool} {fuel : Nat} {cs : List Value} {x : DataW H × List MemPlace} (h : DataW.trod enc Tryd.prog W 0 sp held fuel 22 cs = some x) :
    ∃ a n cap, cs = [.slice a n cap] ∧ n ≤ cap ∧ cap ≤ 9223372036854775807 ∧ BytesAt W a n := by
  rcases Deep.open_slice1 Tryd.underlying22 Tryd.cellsByte h with ⟨rfl, _⟩ | ⟨a, len, cap, m, n, V, D, Pl, rfl, _, hl, hm, hmm, _, hx⟩
  · exact ⟨none, 0, 0, rfl, by omega, by omega, fun i hi => by omega⟩
  · have hlm : len ≤ m := by rw [hmm]; split <;> omega
    refine ⟨some a, len, cap, rfl, hl, by unfold maxLen at hm; omega, fun i hi => ?_⟩
    have hone : ∀ i, i < len → ∃ k : Int, W.cell? (a.add i) = some (.int .u8 k) ∧ 0 ≤ k ∧ k ≤ 255 := fun i hi => by
      obtain ⟨h1, h2⟩ := hx i (by omega)
      obtain ⟨k, e1, _, e3⟩ := DataW.trod_int Tryd.underlying5 h2
      simp at e1
      have := bounds_u8 e3
      exact ⟨k, by rw [h1, e1], this.1, this.2⟩
    obtain ⟨k, h1, h2, h3⟩ := hone i hi
    obtain ⟨b, off, spot⟩ := a
    have hspot : spot = none := by
      obtain ⟨_, h0, _⟩ := hone 0 (by omega)
      simpa [Addr.add] using World.cell?_spot h0
    subst hspot
    exact ⟨b, off, k, rfl, h2, h3, by rw [← Go.WideShapes.add_plain]; exact h1⟩

end Go.Proofs.YtammejplaeaocaaDoor
