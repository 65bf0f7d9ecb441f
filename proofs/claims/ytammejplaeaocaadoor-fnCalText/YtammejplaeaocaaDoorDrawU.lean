/-
  The specification's l3Tick draws a tick. Condition: how often the reader was asked has a bound.
-/
import Derived.Test.YtammejplaeaocaaDoorDrawT
namespace Go.Proofs.YtammejplaeaocaaDoor
open Go.RowKit

/-- A drawn tick. -/
def TickD (R P : Nat) (w : World) (e : Ending) (w' : World) : Prop := ∃ t : Int, e = .returned (.int .i64 t) ∧ -1099511627776 ≤ t ∧ t ≤ 1099511627776 ∧ Rd w' R (P + 4) ∧ w.grownBy w' (some R)

set_option maxRecDepth 100000 in
set_option maxHeartbeats 1000000 in
theorem l3Tick_any (R P : Nat) (w : World) (h : Rd w R P) (hP : P ≤ 90000) :
    Calls Tryd.prog 35 #[.pointer (some ⟨R, 0, none⟩)] w fun e w' => TickD R P w e w' := by
  have hR := h.lt
  go_enter Tryd.func35, Tryd.ntmps35
  go_wp2_with fail
  refine (pick_any R P 60 w h (by omega) (by omega) (by omega)).mono ?_
  rintro e w1 ⟨v1, rfl, a1, b1, hRd1, g1, z1⟩
  go_wp2_with fail
  refine (pick_any R (P + 1) 200 w1 hRd1 (by omega) (by omega) (by omega)).mono ?_
  rintro e w2 ⟨v2, rfl, a2, b2, hRd2, g2, z2⟩
  go_wp2_with fail
  refine (pick_any R (P + 2) 60 w2 hRd2 (by omega) (by omega) (by omega)).mono ?_
  rintro e w3 ⟨v3, rfl, a3, b3, hRd3, g3, z3⟩
  have HG3 : Hid (w.grownBy w3 (some R)) := grown_trans (grown_trans g1 g2) g3
  have hs3 : w3.heap.size = w.heap.size := by omega
  obtain ⟨L, hL⟩ : ∃ L, L = w3.alloc (.cells #[.int .i64 v1, .int .i64 v2, .int .i64 v3, .int .i64 (-1), .int .i64 (-2), .int .i64 100000, .int .i64 100001, .int .i64 1099511627776, .int .i64 (-1099511627776)] 3) := ⟨_, rfl⟩
  have gL : w3.grownBy L (some R) := by rw [hL]; exact World.grownBy_alloc _ _ _
  have kL : L.heap[w.heap.size]? = some (.cells #[.int .i64 v1, .int .i64 v2, .int .i64 v3, .int .i64 (-1), .int .i64 (-2), .int .i64 100000, .int .i64 100001, .int .i64 1099511627776, .int .i64 (-1099511627776)] 3 (0, 0)) := by rw [hL, ← hs3]; exact heap_alloc_new _ _
  have rL : Rd L R (P + 3) := by rw [hL]; exact hRd3.below ((Below.refl _ _).alloc (Nat.le_refl _) _)
  clear h hRd1 hRd2 hRd3 g1 g2 g3 z1 z2 z3
  go_wp2_with fail
  rw [← hL]
  clear hL
  refine (pick_any R (P + 3) 9 L rL (by omega) (by omega) (by omega)).mono ?_
  rintro e w4 ⟨v4, rfl, a4, b4, hRd4, g4, z4⟩
  have k4 := (g4.block w.heap.size (Array.getElem?_eq_some_iff.1 kL).1 (fun e => by injection e with e; omega)).trans kL
  have HG4 : Hid (w.grownBy w4 (some R) ∧ Rd w4 R (P + 4)) := ⟨grown_trans (grown_trans HG3.out gL) g4, hRd4⟩
  clear HG3 gL kL rL g4 z4 hRd4
  obtain ⟨j, rfl⟩ : ∃ j : Nat, v4 = (j : Int) := ⟨v4.toNat, by omega⟩
  have hj : j < 9 := by omega
  obtain ⟨t, ht, t1, t2⟩ : ∃ t : Int, w4.cell? ⟨w.heap.size, j, none⟩ = some (.int .i64 t) ∧ -1099511627776 ≤ t ∧ t ≤ 1099511627776 := by
    have hc : ∀ i, w4.cell? ⟨w.heap.size, i, none⟩ = (#[Value.int .i64 v1, .int .i64 v2, .int .i64 v3, .int .i64 (-1), .int .i64 (-2), .int .i64 100000, .int .i64 100001, .int .i64 1099511627776, .int .i64 (-1099511627776)] : Array Value)[i]? := fun i => blk_cell k4 i
    rw [hc]
    match j, hj with
    | 0, _ => exact ⟨_, rfl, by omega, by omega⟩
    | 1, _ => exact ⟨_, rfl, by omega, by omega⟩
    | 2, _ => exact ⟨_, rfl, by omega, by omega⟩
    | 3, _ => exact ⟨_, rfl, by omega, by omega⟩
    | 4, _ => exact ⟨_, rfl, by omega, by omega⟩
    | 5, _ => exact ⟨_, rfl, by omega, by omega⟩
    | 6, _ => exact ⟨_, rfl, by omega, by omega⟩
    | 7, _ => exact ⟨_, rfl, by omega, by omega⟩
    | 8, _ => exact ⟨_, rfl, by omega, by omega⟩
    | n + 9, h => omega
  clear k4
  go_wp2
  go_ret
  exact ⟨t, rfl, t1, t2, HG4.out.2, HG4.out.1⟩

end Go.Proofs.YtammejplaeaocaaDoor
