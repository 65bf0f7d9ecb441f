/-
  The laws' own functions eqIntS, eqCalRule, eqCalRuleS at two copies of one list: they answer true. No condition.
-/
import Derived.Test.YtammejplaeaocaaDoorTo
import Derived.Deep.RegionWith
namespace Go.Proofs.YtammejplaeaocaaDoor
open Go.RowKit

set_option maxHeartbeats 400000 in
theorem eqInts_same (a a' : Option Addr) (cap cap' : Nat) (l : List Int) (w : World) (lo lo' : Nat) (hu : IntsIn w lo a l) (hv : IntsIn w lo' a' l) :
    Calls Tryd.prog 76 #[.slice a l.length cap, .slice a' l.length cap'] w fun e w' => e = .returned (.bool true) ∧ Below w.heap.size w w' := by
  have hlen := hu.1
  go_enter Tryd.func76, Tryd.ntmps76
  go_wp2
  go_loopw [5] (fun i wr => ∃ k : Nat, k ≤ l.length ∧ i = .int .i64 k ∧ Below w.heap.size w wr) (fun i _ => l.length - (intOf i).toNat)
  case atStart => exact ⟨0, Nat.zero_le _, rfl, Below.refl _ _⟩
  case round =>
    obtain ⟨k, hk, rfl, hB⟩ := hrel
    by_cases hlt : k < l.length
    · obtain ⟨b, off, rfl, _, c0⟩ := (hu.below hB (Nat.le_refl _)).2.2 k hlt
      obtain ⟨b', off', rfl, _, c1⟩ := (hv.below hB (Nat.le_refl _)).2.2 k hlt
      go_wp2
      go_region
      all_goals go_wp2
      go_roundw
      case rel => exact ⟨k + 1, by omega, by go_num, hB.drew⟩
      case measure => simp [intOf]; omega
    · go_wp2
      go_ret
      exact ⟨rfl, hB⟩

set_option maxHeartbeats 400000 in
theorem eqRule_same (r : CR) (a a' : Option Addr) (cap cap' : Nat) (w : World) (lo lo' : Nat) (hu : IntsIn w lo a r.b) (hv : IntsIn w lo' a' r.b) :
    Calls Tryd.prog 56 #[r.val a cap, r.val a' cap'] w fun e w' => e = .returned (.bool true) ∧ Below w.heap.size w w' := by
  go_enter Tryd.func56, Tryd.ntmps56
  go_wp2_with fail
  have hb0 := ((Below.refl w.heap.size w).alloc (Nat.le_refl _) (.cells #[.int .i64 r.e, .int .i64 r.a, .int .i64 r.f, .int .i64 r.t, .slice a r.b.length cap] 66)).alloc (by simp) (.cells #[.int .i64 r.e, .int .i64 r.a, .int .i64 r.f, .int .i64 r.t, .slice a' r.b.length cap'] 66)
  refine (eqInts_same a a' cap cap' r.b _ lo lo' (hu.below hb0 (Nat.le_refl _)) (hv.below hb0 (Nat.le_refl _))).mono ?_
  rintro e w1 ⟨rfl, hb1⟩
  go_wp2
  go_ret
  exact ⟨rfl, hb0.trans (hb1.mono (by simp; omega))⟩

set_option maxHeartbeats 400000 in
theorem eqRules_same (a a' : Option Addr) (cap cap' : Nat) (rs : List CR) (w : World) (lo lo' lb lb' : Nat) (hl : rs.length ≤ 9223372036854775807) (hu : RulesIn w lo lb a rs) (hv : RulesIn w lo' lb' a' rs) :
    Calls Tryd.prog 30 #[.slice a rs.length cap, .slice a' rs.length cap'] w fun e w' => e = .returned (.bool true) ∧ Below w.heap.size w w' := by
  go_enter Tryd.func30, Tryd.ntmps30
  go_wp2
  go_loopw [5] (fun i wr => ∃ k : Nat, k ≤ rs.length ∧ i = .int .i64 k ∧ Below w.heap.size w wr) (fun i _ => rs.length - (intOf i).toNat)
  case atStart => exact ⟨0, Nat.zero_le _, rfl, Below.refl _ _⟩
  case round =>
    obtain ⟨k, hk, rfl, hB⟩ := hrel
    by_cases hlt : k < rs.length
    · obtain ⟨r, hr⟩ : ∃ r, rs[k]? = some r := ⟨_, List.getElem?_eq_getElem hlt⟩
      obtain ⟨_, b, off, ba, bc, rfl, _, hi, c0, c1, c2, c3, c4⟩ := hu.below hB (Nat.le_refl _) k r hr
      obtain ⟨_, b', off', ba', bc', rfl, _, hi', d0, d1, d2, d3, d4⟩ := hv.below hB (Nat.le_refl _) k r hr
      have hs := hB.size
      have hB' : Hid (Below w.heap.size w wr) := hB
      clear hB
      go_wp2
      go_region_with (go_at_call 56; refine (eqRule_same r _ _ _ _ _ _ _ (by exact hi) (by exact hi')).mono ?_; rintro e w1 ⟨rfl, hb1⟩)
      all_goals go_wp2
      all_goals
        go_roundw
        case rel => exact ⟨k + 1, by omega, by go_num, hB'.out.trans ((Below.drew (Below.refl _ _)).trans (hb1.mono hs))⟩
        case measure => simp [intOf]; omega
    · go_wp2
      go_ret
      exact ⟨rfl, hB⟩

end Go.Proofs.YtammejplaeaocaaDoor
