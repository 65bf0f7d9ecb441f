/-
  The law FnExactCalWrite, walked: it answers true at every list of rules that lies in memory. Condition: the package-level variables that CalWrite comes to hold what the program's text lays.
-/
import Derived.Test.YtammejplaeaocaaDoorWrite
import Derived.Test.YtammejplaeaocaaDoorShelf
import Derived.Lib.SmallJoins
namespace Go.Proofs.YtammejplaeaocaaDoor
open Go.RowKit

/-- The table of the powers of ten lies there. -/
def Tab (w : World) : Prop := Lib.TabIs Tryd.prog w "internal/strconv.uint64pow10" .u64 Lib.pow10Tab
theorem tabNamed : Tryd.prog.globalNamed "internal/strconv.uint64pow10" = some 10 := by kernel_rfl
theorem Tab.below {w w' : World} {B : Nat} (h : Tab w) (hb : Below B w w') (hB : w.heap.size ≤ B) : Tab w' := Joins.tab_stays tabNamed h hb hB

theorem itoa_writes : WritesIn Tryd.prog 70 decS Tab := fun n h0 h1 =>
  ⟨digits_len (by omega), fun w ht => (Tryd.strconv_Itoa n (by omega) (by omega) w ht).mono fun e w' ⟨he, hw⟩ => ⟨by
    rw [he]
    have : Lib.itoa n = Lib.decDigits n.toNat := by unfold Lib.itoa; rw [if_neg (by omega)]
    rw [this]; rfl, hw⟩⟩

set_option maxHeartbeats 1000000 in
theorem lawWrite (a : Option Addr) (cap : Nat) (rs : List CR) (w : World) (lo lb : Nat) (hl : rs.length ≤ 9223372036854775807) (hc : RulesIn w lo lb a rs) (hg : Glob w) (ht : Tab w) :
    Calls Tryd.prog 9 #[.slice a rs.length cap] w fun e w' => e = .returned (.bool true) ∧ Below w.heap.size w w' := by
  by_cases hb : (1048576 : Int) < (rs.length + bulk rs : Nat)
  · go_enter Tryd.func9, Tryd.ntmps9
    go_wp2_with (go_at_call 28; refine (szRules_any a cap lo lb rs _ _ hl hc (by omega) (by omega)).mono ?_; rw [szR_lt hb]; rintro e w1 ⟨rfl, hb1⟩)
    go_ret
    exact ⟨rfl, hb1⟩
  · have hbk : rs.length + bulk rs ≤ 1048576 := by omega
    go_enter Tryd.func9, Tryd.ntmps9
    go_wp2_with fail
    refine (szRules_any a cap lo lb rs _ _ hl hc (by omega) (by omega)).mono ?_
    rw [szR_ge (by omega)]
    rintro e w1 ⟨rfl, B1⟩
    have hc1 := hc.below B1 (Nat.le_refl _)
    have hg1 := hg.below B1 (Nat.le_refl _)
    have ht1 := ht.below B1 (Nat.le_refl _)
    go_wp2_with fail
    refine (toRules_any a cap rs w1 lo lb hc1 hbk).mono ?_
    rintro e w2 ⟨a2, rfl, r2, B2⟩
    have hc2 := hc1.below B2 (Nat.le_refl _)
    have hg2 := hg1.below B2 (Nat.le_refl _)
    have ht2 := ht1.below B2 (Nat.le_refl _)
    go_wp2_with fail
    refine (specCalWrite_any a2 rs.length rs w2 _ _ hl r2).mono ?_
    rintro e w3 ⟨rfl, B3⟩
    have hc3 := hc2.below B3 (Nat.le_refl _)
    have hg3 := hg2.below B3 (Nat.le_refl _)
    have ht3 := ht2.below B3 (Nat.le_refl _)
    go_wp2_with fail
    refine (toRules_any a cap rs w3 lo lb hc3 hbk).mono ?_
    rintro e w4 ⟨a4, rfl, r4, B4⟩
    have hc4 := hc3.below B4 (Nat.le_refl _)
    have hg4 := hg3.below B4 (Nat.le_refl _)
    have ht4 := ht3.below B4 (Nat.le_refl _)
    go_wp2_with fail
    refine (implCalWrite_any a4 rs.length rs w4 _ _ hl r4 hg4 Tab (fun w' h' => ht4.below h' (Nat.le_refl _)) itoa_writes).mono ?_
    rintro e w5 ⟨rfl, B5⟩
    have hc5 := hc4.below B5 (Nat.le_refl _)
    have r5 := r4.below B5 (Nat.le_refl _)
    go_wp2_with fail
    refine (toRules_any a cap rs w5 lo lb hc5 hbk).mono ?_
    rintro e w6 ⟨a6, rfl, r6, B6⟩
    have r5' := r5.below B6 (Nat.le_refl _)
    go_wp2_with fail
    refine (eqRules_same a4 a6 _ _ rs w6 _ _ _ _ hl r5' r6).mono ?_
    rintro e w7 ⟨rfl, B7⟩
    have HB : Hid (Below w.heap.size w w7) := by
      have e1 := B1.size
      have e2 := B2.size
      have e3 := B3.size
      have e4 := B4.size
      have e5 := B5.size
      have e6 := B6.size
      exact (((((B1.trans (B2.mono e1)).trans (B3.mono (by omega))).trans (B4.mono (by omega))).trans (B5.mono (by omega))).trans (B6.mono (by omega))).trans (B7.mono (by omega))
    go_wp2
    go_ret
    exact ⟨rfl, HB.out⟩

end Go.Proofs.YtammejplaeaocaaDoor
