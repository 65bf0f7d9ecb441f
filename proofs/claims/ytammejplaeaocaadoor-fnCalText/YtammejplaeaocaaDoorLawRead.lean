/-
  The law FnExactCalRead, walked: it answers true at every text. Condition: the package-level variables that CalRead comes to hold what the program's text lays.
-/
import Derived.Test.YtammejplaeaocaaDoorReadS
import Derived.Test.YtammejplaeaocaaDoorMark2
import Derived.Test.YtammejplaeaocaaDoorShelf
import Derived.Test.YtammejplaeaocaaDoorEq
namespace Go.Proofs.YtammejplaeaocaaDoor
open Go.RowKit

theorem split_cuts : Cuts Tryd.prog 84 := fun s w hs ⟨m, hm⟩ => by
  refine (Tryd.strings_Split s ⟨#[32]⟩ m w (by omega) hm (by decide)).mono ?_
  rintro e w' ⟨he, hw⟩
  have hc : Lib.countB s ⟨#[32]⟩ + 1 = (cutL 32 s.data.toList).length := by
    rw [← Lib.splitB_all ⟨#[32]⟩ (by decide) 0 _ s rfl, splitB_cut, List.length_map]
  rw [hc] at he
  refine ⟨he, ?_⟩
  rw [hw, splitB_cut, List.map_map]
  rfl
theorem count_counts : Counts Tryd.prog 66 := fun s w => (Tryd.strings_Count_one s 10 w).mono fun e w' ⟨he, hw⟩ => ⟨by rw [he]; rfl, hw⟩

theorem readS_ok {t : List UInt8} {rs : List CR} (h : readS t = some rs) : rulesB rs = true := by
  unfold readS at h
  split at h
  · cases h
  · cases ha : allS (cutL 10 t).dropLast with
    | none => simp [ha] at h
    | some qs =>
      simp only [ha] at h
      split at h
      · injection h with h; subst h; assumption
      · cases h
theorem bulk_eight : ∀ (rs : List CR), (∀ r, r ∈ rs → ruleB r = true) → bulk rs ≤ 8 * rs.length
  | [], _ => by simp [bulk]
  | r :: rs, h => by
    have h1 := bulk_eight rs (fun q hq => h q (by simp [hq]))
    have h2 : r.b.length ≤ 8 := by have := h r (by simp); unfold ruleB at this; simp at this; exact this.1.2
    simp only [bulk, List.length_cons]; omega
theorem readS_small (t : List UInt8) : ((readS t).getD []).length ≤ 4 ∧ bulk ((readS t).getD []) ≤ 32 := by
  cases h : readS t with
  | none => simp [bulk]
  | some rs =>
    have hb := readS_ok h
    unfold rulesB at hb
    simp only [Bool.and_eq_true, decide_eq_true_eq, List.all_eq_true] at hb
    have := bulk_eight rs hb.2
    simp only [Option.getD_some]
    omega

set_option maxRecDepth 100000 in
set_option maxHeartbeats 2000000 in
theorem lawRead (s : ByteArray) (w : World) (hg : Glob2 w) (hM : MaxAt w) :
    Calls Tryd.prog 10 #[.string s] w fun e w' => e = .returned (.bool true) ∧ Below w.heap.size w w' := by
  by_cases hb : 1048576 < s.size
  · have hbi : (1048576 : Int) < (s.size : Int) := by omega
    go_enter Tryd.func10, Tryd.ntmps10
    go_wp2
    go_ret
    exact ⟨rfl, Below.refl _ _⟩
  · have hs : s.size ≤ 1048576 := by omega
    have hbi : ¬ (1048576 : Int) < (s.size : Int) := by omega
    have hspec := specCalRead_any s w hs
    have himpl := fun (W : World) (h1 : Glob2 W) (h2 : MaxAt W) => implCalRead_any s W hs h1 h2 split_cuts count_counts
    rw [read_same] at himpl
    obtain ⟨h4, h32⟩ := readS_small s.data.toList
    obtain ⟨rs, hrs⟩ : ∃ rs, rs = (readS s.data.toList).getD [] := ⟨_, rfl⟩
    obtain ⟨b, hbb⟩ : ∃ b, b = (readS s.data.toList).isSome := ⟨_, rfl⟩
    unfold SpecRead at hspec
    rw [← hrs, ← hbb] at hspec himpl
    rw [← hrs] at h4 h32
    clear hrs hbb
    have q1 : (b == b) = true := by simp
    have q2 : (b != b) = false := by simp
    have hrl : rs.length ≤ 9223372036854775807 := by omega
    go_enter Tryd.func10, Tryd.ntmps10
    go_wp2_with fail
    refine hspec.mono ?_
    rintro e w1 ⟨a0, cap0, rfl, r1, B1⟩
    have hg1 := hg.below B1 (Nat.le_refl _)
    have hM1 := hM.below B1 (Nat.le_refl _)
    clear hspec
    go_wp2_with fail
    refine (himpl w1 hg1 hM1).mono ?_
    rintro e w2 ⟨x, es, rfl, hes, hown, B2⟩
    obtain ⟨ga, gc, hx, _⟩ := hown.shape
    have hel : es.length = rs.length := by rw [← hes, List.length_map]
    rw [hel] at hx
    subst hx
    have r2 := r1.below B2 (Nat.le_refl _)
    have g2 : RulesIn w2 w1.heap.size w1.heap.size ga rs := by have := hown.rules; rwa [hes] at this
    go_wp2_with fail
    refine (eqRules_same ga a0 gc cap0 rs w2 _ _ _ _ hrl g2 r2).mono ?_
    rintro e w3 ⟨rfl, B3⟩
    have hown3 := hown.below B3
    have e1 := B1.size
    have e2 := B2.size
    have e3 := B3.size
    clear g2 r2
    go_wp2_with fail
    refine (markRules_any _ es 1 w3 w1.heap.size hown3 (by omega) (by rw [hes, hel]; omega) (by omega)).mono ?_
    rw [hes]
    rintro e w4 ⟨rfl, hown4, B4⟩
    have g4 : RulesIn w4 w1.heap.size w1.heap.size ga (mk rs 1) := by have := hown4.rules; rwa [mkE_fst, hes] at this
    have hend : endK rs 1 = 1 + 4 * rs.length + bulk rs := endK_bulk rs 1
    obtain ⟨m, hm⟩ : ∃ m, m = endK rs 1 := ⟨_, rfl⟩
    have hm0 : ¬ m < 0 := by omega
    have hmm : (m == m) = true := by simp
    have hmn : (m != m) = false := by simp
    have HM : Hid (m = endK rs 1) := hm
    rw [← hm]
    clear hend
    have hheld := fun (W : World) (h : RulesIn W w1.heap.size w1.heap.size ga (mk rs 1)) => heldRules_any ga gc rs 1 W _ _ h (by omega) (by omega)
    rw [← hm] at hheld
    clear hm
    have B14 : Below w1.heap.size w1 w4 := (B2.trans (B3.mono e2)).trans B4
    have e4 := B14.size
    go_wp2_with fail
    refine (hheld w4 g4).mono ?_
    rintro e w5 ⟨rfl, B5⟩
    have e5 := B5.size
    have B15 : Below w1.heap.size w1 w5 := B14.trans (B5.mono e4)
    have hg5 := hg1.below B15 (Nat.le_refl _)
    have hM5 := hM1.below B15 (Nat.le_refl _)
    have r5 := r1.below B15 (Nat.le_refl _)
    have g5 := g4.below B5 (Nat.le_refl _)
    go_wp2_with fail
    refine (himpl w5 hg5 hM5).mono ?_
    rintro e w6 ⟨x, es', rfl, hes', hown', B6⟩
    obtain ⟨gb, gd, hx, _⟩ := hown'.shape
    have hel' : es'.length = rs.length := by rw [← hes', List.length_map]
    rw [hel'] at hx
    subst hx
    have r6 := r5.below B6 (Nat.le_refl _)
    have g6 := g5.below B6 (Nat.le_refl _)
    have h6 : RulesIn w6 w5.heap.size w5.heap.size gb rs := by have := hown'.rules; rwa [hes'] at this
    have e6 := B6.size
    go_wp2_with fail
    refine (eqRules_same gb a0 gd cap0 rs w6 _ _ _ _ hrl h6 r6).mono ?_
    rintro e w7 ⟨rfl, B7⟩
    have g7 := g6.below B7 (Nat.le_refl _)
    have e7 := B7.size
    go_wp2_with fail
    refine (hheld w7 g7).mono ?_
    rintro e w8 ⟨rfl, B8⟩
    have HB : Hid (Below w.heap.size w w8) := B1.trans ((((B15.trans (B6.mono (by omega))).trans (B7.mono (by omega))).trans (B8.mono (by omega))).mono e1)
    go_wp2
    go_ret
    exact ⟨rfl, HB.out⟩

end Go.Proofs.YtammejplaeaocaaDoor
