/-
  The laws' own small functions szIntS, szCalRule, szCalRuleS: how much room is left. No condition.
-/
import Derived.Test.YtammejplaeaocaaDoorMem
namespace Go.Proofs.YtammejplaeaocaaDoor
open Go.RowKit

theorem ret_int {k : IntKind} {a b : Int} (h : a = b) : Ending.returned (.int k a) = .returned (.int k b) := by rw [h]

/-- What is left of so much behind n values; -1 if it is too little. -/
def szR (left : Int) (n : Nat) : Int := if left < n then -1 else left - n
theorem szR_lt {left : Int} {n : Nat} (h : left < n) : szR left n = -1 := by unfold szR; rw [if_pos h]
theorem szR_ge {left : Int} {n : Nat} (h : ¬ left < n) : szR left n = left - n := by unfold szR; rw [if_neg h]

set_option maxHeartbeats 400000 in
theorem szInts_any (a : Option Addr) (n cap : Nat) (left : Int) (w : World) (hn : n ≤ 9223372036854775807) (h0 : 0 ≤ left) (h1 : left ≤ 1048576) :
    Calls Tryd.prog 74 #[.slice a n cap, .int .i64 left] w fun e w' => e = .returned (.int .i64 (szR left n)) ∧ w' = w := by
  by_cases h : left < n
  · rw [szR_lt h]
    go_enter Tryd.func74, Tryd.ntmps74
    go_wp2
    go_ret
    exact ⟨rfl, rfl⟩
  · rw [szR_ge h]
    go_enter Tryd.func74, Tryd.ntmps74
    go_wp2
    go_ret
    exact ⟨rfl, rfl⟩

set_option maxHeartbeats 400000 in
theorem szRule_any (r : CR) (a : Option Addr) (cap : Nat) (left : Int) (w : World) (hn : r.b.length ≤ 9223372036854775807) (h0 : 0 ≤ left) (h1 : left ≤ 1048576) :
    Calls Tryd.prog 54 #[r.val a cap, .int .i64 left] w fun e w' => e = .returned (.int .i64 (szR left r.b.length)) ∧ Below w.heap.size w w' := by
  by_cases h : left < r.b.length
  · rw [szR_lt h]
    go_enter Tryd.func54, Tryd.ntmps54
    go_wp2_with (go_at_call 74; refine (szInts_any _ _ _ _ _ hn h0 h1).mono ?_; rw [szR_lt h]; rintro e w' ⟨rfl, rfl⟩)
    go_ret
    exact ⟨rfl, (Below.refl _ _).alloc (Nat.le_refl _) _⟩
  · rw [szR_ge h]
    go_enter Tryd.func54, Tryd.ntmps54
    go_wp2_with (go_at_call 74; refine (szInts_any _ _ _ _ _ hn h0 h1).mono ?_; rw [szR_ge h]; rintro e w' ⟨rfl, rfl⟩)
    go_ret
    exact ⟨rfl, (Below.refl _ _).alloc (Nat.le_refl _) _⟩

set_option maxHeartbeats 400000 in
theorem szRules_any (a : Option Addr) (cap lo lb : Nat) (rs : List CR) (left : Int) (w : World) (hl : rs.length ≤ 9223372036854775807) (hc : RulesIn w lo lb a rs) (h0 : 0 ≤ left) (h1 : left ≤ 1048576) :
    Calls Tryd.prog 28 #[.slice a rs.length cap, .int .i64 left] w fun e w' => e = .returned (.int .i64 (szR left (rs.length + bulk rs))) ∧ Below w.heap.size w w' := by
  by_cases h : left < rs.length
  · rw [szR_lt (by omega)]
    go_enter Tryd.func28, Tryd.ntmps28
    go_wp2
    go_ret
    exact ⟨rfl, Below.refl _ _⟩
  · go_enter Tryd.func28, Tryd.ntmps28
    go_wp2
    go_loopw [1, 5] (fun t i wr => ∃ k : Nat, k ≤ rs.length ∧ i = .int .i64 k ∧ bulk (rs.take k) + rs.length ≤ left ∧ t = .int .i64 (left - rs.length - bulk (rs.take k)) ∧ Below w.heap.size w wr) (fun _ i _ => rs.length - (intOf i).toNat)
    case atStart => exact ⟨0, Nat.zero_le _, rfl, by simp [bulk]; omega, by simp [bulk], Below.refl _ _⟩
    case round =>
      obtain ⟨k, hk, rfl, hb, rfl, hB⟩ := hrel
      by_cases hlt : k < rs.length
      · obtain ⟨r, hr⟩ : ∃ r, rs[k]? = some r := ⟨_, List.getElem?_eq_getElem hlt⟩
        obtain ⟨_, b, off, a', cap', rfl, _, hbv, c0, c1, c2, c3, c4⟩ := (hc.below hB (Nat.le_refl _)) k r hr
        have hl' := hbv.1
        have hbk : Hid (bulk (rs.take (k + 1)) = bulk (rs.take k) + r.b.length) := bulk_take rs k r hr
        have hbl : Hid (bulk (rs.take (k + 1)) ≤ bulk rs) := bulk_take_le rs (k + 1)
        by_cases hz : left - rs.length - bulk (rs.take k) < r.b.length
        · go_wp2_with (go_at_call 54; refine (szRule_any r _ _ _ _ hl' (by omega) (by omega)).mono ?_; rw [szR_lt hz]; rintro e w' ⟨rfl, hb'⟩)
          go_ret
          have := hbk.out
          have := hbl.out
          exact ⟨ret_int (szR_lt (by omega)).symm, hB.trans (hb'.mono hB.size)⟩
        · go_wp2_with (go_at_call 54; refine (szRule_any r _ _ _ _ hl' (by omega) (by omega)).mono ?_; rw [szR_ge hz]; rintro e w' ⟨rfl, hb'⟩)
          go_roundw
          case rel => exact ⟨k + 1, by omega, by go_num, by have := hbk.out; omega, by rw [hbk.out]; go_num, hB.trans (hb'.mono hB.size)⟩
          case measure => simp [intOf]; omega
      · obtain rfl : k = rs.length := by omega
        rw [List.take_length] at hb
        rw [List.take_length]
        go_wp2
        go_ret
        exact ⟨ret_int (by rw [szR_ge (by omega)]; omega), hB⟩

end Go.Proofs.YtammejplaeaocaaDoor
