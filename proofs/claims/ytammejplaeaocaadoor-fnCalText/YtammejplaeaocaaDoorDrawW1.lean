/-
  The specification's of, l1Many and DrawCalWrite. Condition: how often the reader was asked has a bound.
-/
import Derived.Test.YtammejplaeaocaaDoorDrawV
import Derived.Test.YtammejplaeaocaaDoorSpoilA
namespace Go.Proofs.YtammejplaeaocaaDoor
open Go.RowKit

/-- At a block lie so many short texts. -/
def TextsAt (W : World) (b n : Nat) : Prop := ∀ i, i < n → ∃ s : ByteArray, W.cell? ⟨b, i, none⟩ = some (.string s) ∧ s.size ≤ 100
theorem TextsAt.grown {W W' : World} {b n R : Nat} (h : TextsAt W b n) (hg : W.grownBy W' (some R)) (hb : b ≠ R) : TextsAt W' b n := fun i hi => by
  obtain ⟨s, h1, h2⟩ := h i hi
  exact ⟨s, hg.cell h1 (fun e => by injection e with e; exact hb e), h2⟩
/-- What 'of' answers. -/
def TextD (R P : Nat) (w : World) (e : Ending) (w' : World) : Prop := ∃ s : ByteArray, e = .returned (.string s) ∧ s.size ≤ 100 ∧ Rd w' R (P + 1) ∧ w.grownBy w' (some R) ∧ w'.heap.size = w.heap.size

set_option maxRecDepth 100000 in
set_option maxHeartbeats 1000000 in
theorem of_any (R P b n cap : Nat) (w : World) (h : Rd w R P) (hP : P ≤ 90000) (hn : 1 ≤ n) (hn2 : n ≤ 1000) (ht : TextsAt w b n) (hb : b ≠ R) :
    Calls Tryd.prog 42 #[.pointer (some ⟨R, 0, none⟩), .slice (some ⟨b, 0, none⟩) n cap] w fun e w' => TextD R P w e w' := by
  have HT : Hid (TextsAt w b n) := ht
  clear ht
  go_enter Tryd.func42, Tryd.ntmps42
  go_wp2_with fail
  refine (pick_any R P n w h (by omega) (by omega) (by omega)).mono ?_
  rintro e w1 ⟨v1, rfl, a1, b1, hRd1, g1, z1⟩
  obtain ⟨j, rfl⟩ : ∃ j : Nat, v1 = (j : Int) := ⟨v1.toNat, by omega⟩
  obtain ⟨s, c0, hs⟩ := (HT.out.grown g1 hb) j (by omega)
  have HX : Hid (Rd w1 R (P + 1) ∧ w.grownBy w1 (some R) ∧ w1.heap.size = w.heap.size) := ⟨hRd1, g1, z1⟩
  have HSZ : Hid (s.size ≤ 100) := hs
  have hj : (j : Int) < (n : Int) := b1
  clear hRd1 g1 z1 h hs
  go_wp2
  go_ret
  exact ⟨s, rfl, HSZ.out, HX.out⟩

set_option maxRecDepth 100000 in
set_option maxHeartbeats 1000000 in
theorem l1Many_any (s0 : ByteArray) (n0 : Int) (w : World) (h0 : s0.size ≤ 25) (h1 : n0 = 4 ∨ n0 = 5) :
    Calls Tryd.prog 43 #[.string s0, .int .i64 n0] w fun e w' => ∃ s : ByteArray, e = .returned (.string s) ∧ s.size ≤ 1000 ∧ Below w.heap.size w w' := by
  go_enter Tryd.func43, Tryd.ntmps43
  go_wp2_with fail
  go_loopw [0, 1, 5] (fun s n o wr => ∃ (t u : ByteArray) (m : Int), s = .string t ∧ n = .int .i64 m ∧ o = .string u ∧ ((m = 4 ∨ m = 5) ∧ t.size ≤ 25 ∧ u.size ≤ 0 ∨ m = 2 ∧ t.size ≤ 50 ∧ u.size ≤ 25 ∨ m = 1 ∧ t.size ≤ 100 ∧ u.size ≤ 25 ∨ m = 0 ∧ t.size ≤ 200 ∧ u.size ≤ 125) ∧ Below w.heap.size w wr) (fun _ n _ _ => (intOf n).toNat)
  case atStart => exact ⟨s0, ⟨#[]⟩, n0, rfl, rfl, rfl, Or.inl ⟨h1, h0, by simp [ByteArray.size]⟩, Below.refl _ _⟩
  case round =>
    obtain ⟨t, u, m, rfl, rfl, rfl, hm, hB⟩ := hrel
    have HB : Hid (Below w.heap.size w wr) := hB
    clear hB h1 h0
    rcases hm with ⟨rfl | rfl, ht, hu⟩ | ⟨rfl, ht, hu⟩ | ⟨rfl, ht, hu⟩ | ⟨rfl, ht, hu⟩
    · go_wp2
      go_roundw
      case rel => exact ⟨_, _, 2, rfl, rfl, rfl, Or.inr (Or.inl ⟨rfl, by rw [ByteArray.size_append]; omega, by omega⟩), HB.out⟩
      case measure => decide
    · go_wp2
      go_roundw
      case rel => exact ⟨_, _, 2, rfl, rfl, rfl, Or.inr (Or.inl ⟨rfl, by rw [ByteArray.size_append]; omega, by rw [ByteArray.size_append]; omega⟩), HB.out⟩
      case measure => decide
    · go_wp2
      go_roundw
      case rel => exact ⟨_, _, 1, rfl, rfl, rfl, Or.inr (Or.inr (Or.inl ⟨rfl, by rw [ByteArray.size_append]; omega, by omega⟩)), HB.out⟩
      case measure => decide
    · go_wp2
      go_roundw
      case rel => exact ⟨_, _, 0, rfl, rfl, rfl, Or.inr (Or.inr (Or.inr ⟨rfl, by rw [ByteArray.size_append]; omega, by rw [ByteArray.size_append]; omega⟩)), HB.out⟩
      case measure => decide
    · go_wp2
      go_ret
      exact ⟨u, rfl, by omega, HB.out⟩

/-- Rules that were drawn. -/
def WriteD (w : World) (e : Ending) (w' : World) : Prop := ∃ (rs : List CR) (a : Option Addr) (cap : Nat), e = .returned (.slice a rs.length cap) ∧ rs.length ≤ 5 ∧ RulesIn w' 0 0 a rs ∧ Below w.heap.size w w'
set_option maxRecDepth 100000 in
set_option maxHeartbeats 1000000 in
theorem DrawCalWrite_any (hSp : Spoils) (w : World) (a : Option Addr) (n cap : Nat) (h : BytesAt w a n) (hn : n ≤ 1048576) (hc : n ≤ cap) (hm : cap ≤ 9223372036854775807) :
    Calls Tryd.prog 24 #[.slice a n cap] w fun e w' => WriteD w e w' := by
  have HS : Hid Spoils := hSp
  clear hSp
  go_enter Tryd.func24, Tryd.ntmps24
  go_wp2_with fail
  refine (l1Open_any w a n cap h hn hc hm).mono ?_
  rintro e w1 ⟨n', c', hn', rfl, hb, hw1⟩
  have hRd : Rd w1 w.heap.size 0 := by rw [hw1]; exact Rd.new w hb hn'
  have hB1 : Below w.heap.size w w1 := by rw [hw1]; exact (Below.refl _ _).alloc (Nat.le_refl _) _
  have hs1 : w1.heap.size = w.heap.size + 1 := by rw [hw1]; exact World.size_alloc _ _
  clear h hb hw1
  go_wp2_with fail
  refine (l3Any_any HS.out w.heap.size 0 w1 hRd (by omega)).mono ?_
  rintro e w2 ⟨rs, ra, rc, rfl, l5, hin, hRd2, g2⟩
  have HB : Hid (Below w.heap.size w w2) := Below.grown hB1 g2 (by omega) (fun k e => by cases e; exact Nat.le_refl _)
  have HI : Hid (RulesIn w2 0 0 ra rs) := hin.mono (Nat.zero_le _) (Nat.zero_le _)
  clear hRd hB1 hin hRd2 g2
  go_wp2
  go_ret
  exact ⟨rs, ra, rc, rfl, l5, HI.out, HB.out⟩

end Go.Proofs.YtammejplaeaocaaDoor
