/-
  The specification's l1Open lays a reader of a code. Condition: the code lies in memory.
-/
import Derived.Test.YtammejplaeaocaaDoorDrawS
namespace Go.Proofs.YtammejplaeaocaaDoor
open Go.RowKit

/-- Bytes in memory. -/
def BytesAt (W : World) (a : Option Addr) (n : Nat) : Prop := ∀ i, i < n → ∃ (b off : Nat) (x : Int), a = some ⟨b, off, none⟩ ∧ 0 ≤ x ∧ x ≤ 255 ∧ W.cell? ⟨b, off + i, none⟩ = some (.int .u8 x)
theorem Rd.new (w : World) {a : Option Addr} {n cap : Nat} (h : BytesAt w a n) (hn : n ≤ 2000) : Rd (w.alloc (.cells #[.slice a n cap, .int .i64 0] 80)) w.heap.size 0 := by
  refine ⟨a, n, cap, 0, by simp, by simp, fun j => by simp, hn, Nat.le_refl _, fun i hi => ?_⟩
  obtain ⟨b, off, x, e1, e2, e3, e4⟩ := h i hi
  have hb : b < w.heap.size := cell_lt e4
  exact ⟨b, off, x, e1, hb, e2, e3, (((Below.refl w.heap.size w).alloc (Nat.le_refl _) _).cell (p := ⟨b, off + i, none⟩) hb).trans e4⟩

set_option maxRecDepth 100000 in
set_option maxHeartbeats 1000000 in
theorem l1Open_any (w : World) (a : Option Addr) (n cap : Nat) (h : BytesAt w a n) (hn : n ≤ 1048576) (hc : n ≤ cap) (hm : cap ≤ 9223372036854775807) :
    Calls Tryd.prog 33 #[.slice a n cap] w fun e w' => ∃ n' cap', n' ≤ 2000 ∧ e = .returned (.pointer (some ⟨w.heap.size, 0, none⟩)) ∧ BytesAt w a n' ∧ w' = w.alloc (.cells #[.slice a n' cap', .int .i64 0] 80) := by
  go_enter Tryd.func33, Tryd.ntmps33
  by_cases hl : n ≤ 2000
  · have hq : decide ((2000 : Int) < (n : Int)) = false := by simp; omega
    go_wp2
    go_ret
    exact ⟨n, cap, hl, rfl, h, rfl⟩
  · have hq : decide ((2000 : Int) < (n : Int)) = true := by simp; omega
    obtain ⟨b, off, x, rfl, _⟩ := h 0 (by omega)
    have hlc : 2000 ≤ cap := by omega
    have hB : Hid (BytesAt w (some ⟨b, off, none⟩) 2000) := fun i hi => h i (by omega)
    clear h
    go_wp2
    go_ret
    exact ⟨2000, cap, Nat.le_refl _, rfl, hB.out, rfl⟩

end Go.Proofs.YtammejplaeaocaaDoor
