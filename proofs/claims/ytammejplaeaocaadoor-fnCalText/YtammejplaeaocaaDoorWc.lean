/-
  The laws' own functions wcInts, wcRules at two copies of one list: they answer true. No condition.
-/
import Derived.Test.YtammejplaeaocaaDoorEq
import Derived.Deep.RegionHeld3
namespace Go.Proofs.YtammejplaeaocaaDoor
open Go.RowKit

set_option maxHeartbeats 400000 in
theorem wcInts_same (a a' : Option Addr) (cap cap' : Nat) (l : List Int) (w : World) (lo lo' : Nat) (hu : IntsIn w lo a l) (hv : IntsIn w lo' a' l) :
    Calls Tryd.prog 48 #[.slice a l.length cap, .slice a' l.length cap'] w fun e w' => e = .returned (.bool true) ∧ Below w.heap.size w w' := by
  have hlen := hu.1
  go_enter Tryd.func48, Tryd.ntmps48
  go_wp2
  go_loopw [5] (fun i wr => ∃ k : Nat, k ≤ l.length ∧ i = .int .i64 k ∧ Below w.heap.size w wr) (fun i _ => l.length - (intOf i).toNat)
  case atStart => exact ⟨0, Nat.zero_le _, rfl, Below.refl _ _⟩
  case round =>
    obtain ⟨k, hk, rfl, hB⟩ := hrel
    by_cases hlt : k < l.length
    · obtain ⟨b, off, rfl, _, c0⟩ := (hu.below hB (Nat.le_refl _)).2.2 k hlt
      obtain ⟨b', off', rfl, _, c1⟩ := (hv.below hB (Nat.le_refl _)).2.2 k hlt
      go_wp2
      go_region
      all_goals go_wp2
      go_roundw
      case rel => exact ⟨k + 1, by omega, by go_num, hB.drew⟩
      case measure => simp [intOf]; omega
    · go_wp2
      go_ret
      exact ⟨rfl, hB⟩

theorem cell_late {W w1 : World} (hb : Below W.heap.size W w1) {p : Addr} {v : Value} (h : W.cell? p = some v) : w1.cell? p = some v := (hb.cell (p := p) (cell_lt h)).trans h

set_option maxRecDepth 100000 in
set_option maxHeartbeats 2000000 in
theorem wcRules_same (a a' : Option Addr) (cap cap' : Nat) (rs : List CR) (w : World) (lo lo' lb lb' : Nat) (hl : rs.length ≤ 9223372036854775807) (hu : RulesIn w lo lb a rs) (hv : RulesIn w lo' lb' a' rs) :
    Calls Tryd.prog 22 #[.slice a rs.length cap, .slice a' rs.length cap'] w fun e w' => e = .returned (.bool true) ∧ Below w.heap.size w w' := by
  have HC : Hid (∀ (r : CR) (ba ba' : Option Addr) (bc bc' : Nat) (W : World), IntsIn W lb ba r.b → IntsIn W lb' ba' r.b → Calls Tryd.prog 48 #[.slice ba r.b.length bc, .slice ba' r.b.length bc'] W fun e w' => e = .returned (.bool true) ∧ Below W.heap.size W w') := fun r ba ba' bc bc' W h h' => wcInts_same ba ba' bc bc' r.b W _ _ h h'
  go_enter Tryd.func22, Tryd.ntmps22
  go_wp2
  go_loopw [5] (fun i wr => ∃ k : Nat, k ≤ rs.length ∧ i = .int .i64 k ∧ Below w.heap.size w wr) (fun i _ => rs.length - (intOf i).toNat)
  case atStart => exact ⟨0, Nat.zero_le _, rfl, Below.refl _ _⟩
  case round =>
    obtain ⟨k, hk, rfl, hB⟩ := hrel
    by_cases hlt : k < rs.length
    · obtain ⟨r, hr⟩ : ∃ r, rs[k]? = some r := ⟨_, List.getElem?_eq_getElem hlt⟩
      obtain ⟨_, b, off, ba, bc, rfl, _, hi, c0, c1, c2, c3, c4⟩ := hu.below hB (Nat.le_refl _) k r hr
      obtain ⟨_, b', off', ba', bc', rfl, _, hi', d0, d1, d2, d3, d4⟩ := hv.below hB (Nat.le_refl _) k r hr
      have hs := hB.size
      have hB' : Hid (Below w.heap.size w wr) := hB
      have HI : Hid (IntsIn wr lb ba r.b) := hi
      have HI' : Hid (IntsIn wr lb' ba' r.b) := hi'
      clear hB hi hi' hr
      have q0 : (r.e != r.e) = false := by simp
      have q1 : (r.a != r.a) = false := by simp
      have q2 : (r.f != r.f) = false := by simp
      have q3 : (r.t != r.t) = false := by simp
      go_wp2
      go_region_held3 (fun w' => w'.cell? ⟨b, off + k * 5, none⟩ = some (.int .i64 r.e) ∧ w'.cell? ⟨b, off + k * 5 + 1, none⟩ = some (.int .i64 r.a) ∧ w'.cell? ⟨b, off + k * 5 + 2, none⟩ = some (.int .i64 r.f) ∧ w'.cell? ⟨b, off + k * 5 + 3, none⟩ = some (.int .i64 r.t) ∧ w'.cell? ⟨b, off + k * 5 + 4, none⟩ = some (.slice ba r.b.length bc) ∧ w'.cell? ⟨b', off' + k * 5, none⟩ = some (.int .i64 r.e) ∧ w'.cell? ⟨b', off' + k * 5 + 1, none⟩ = some (.int .i64 r.a) ∧ w'.cell? ⟨b', off' + k * 5 + 2, none⟩ = some (.int .i64 r.f) ∧ w'.cell? ⟨b', off' + k * 5 + 3, none⟩ = some (.int .i64 r.t) ∧ w'.cell? ⟨b', off' + k * 5 + 4, none⟩ = some (.slice ba' r.b.length bc'))
        (first
          | go_keep
          | exact ⟨x0, x1, x2, x3, x4, y0, y1, y2, y3, y4⟩)
        ((go_at_call 48; refine (HC.out r _ _ _ _ _ (by exact HI.out) (by exact HI'.out)).mono ?_; rintro e w1 ⟨rfl, hb1⟩; have x0 := cell_late hb1 (by exact c0); have x1 := cell_late hb1 (by exact c1); have x2 := cell_late hb1 (by exact c2); have x3 := cell_late hb1 (by exact c3); have x4 := cell_late hb1 (by exact c4); have y0 := cell_late hb1 (by exact d0); have y1 := cell_late hb1 (by exact d1); have y2 := cell_late hb1 (by exact d2); have y3 := cell_late hb1 (by exact d3); have y4 := cell_late hb1 (by exact d4)))
      all_goals go_wp2
      all_goals
        go_roundw
        case rel => exact ⟨k + 1, by omega, by go_num, hB'.out.trans ((Below.drew (Below.refl _ _)).trans (hb1.mono hs))⟩
        case measure => simp [intOf]; omega
    · go_wp2
      go_ret
      exact ⟨rfl, hB⟩

end Go.Proofs.YtammejplaeaocaaDoor
