/-
  CalDue, the specification's and the program's, walked; and the law FnExactCalDue. Condition: the package-level variables that CalOk comes to hold what the program's text lays.
-/
import Derived.Test.YtammejplaeaocaaDoorDue3
namespace Go.Proofs.YtammejplaeaocaaDoor
open Go.RowKit

theorem l1Of_any (r : CR) (t : Int) (a : Option Addr) (cap : Nat) (w : World) (lo : Nat) (hv : IntsIn w lo a r.b) (ho : Okd r) :
    Calls Tryd.prog 63 #[r.val a cap, .int .i64 t] w fun e w' => e = .returned (.bool (ofB r t)) ∧ Below w.heap.size w w' := by
  cases h1 : inB t r.f r.t with
  | false => rw [ofB_in h1]; exact l1Of_no r t a cap w ho (Or.inl h1)
  | true =>
    cases h2 : (t % r.e == r.a) with
    | false => rw [ofB_mod h2]; exact l1Of_no r t a cap w ho (Or.inr ⟨h1, h2⟩)
    | true => rw [ofB_but h1 h2]; exact l1Of_yes r t a cap w lo hv ho h1 h2

theorem dueTo_hit {rs : List CR} {k : Nat} {r : CR} {t : Int} (hr : rs[k]? = some r) (h : ofB r t = true) : dueTo rs t = true := by
  unfold dueTo; rw [List.any_eq_true]; exact ⟨r, List.mem_of_getElem? hr, h⟩
theorem dueTo_none {rs : List CR} {t : Int} (h : ∀ (j : Nat) r, rs[j]? = some r → ofB r t = false) : dueTo rs t = false := by
  unfold dueTo; rw [List.any_eq_false]; intro r hr
  obtain ⟨i, hi⟩ := List.getElem?_of_mem hr
  simp [h i r hi]

set_option maxHeartbeats 400000 in
theorem l1Due_any (a : Option Addr) (cap : Nat) (rs : List CR) (t : Int) (w : World) (lo lb : Nat) (hl : rs.length ≤ 4) (hc : RulesIn w lo lb a rs) (hok : ∀ r, r ∈ rs → Okd r) :
    Calls Tryd.prog 38 #[.slice a rs.length cap, .int .i64 t] w fun e w' => e = .returned (.bool (dueTo rs t)) ∧ Below w.heap.size w w' := by
  have HOK : Hid (∀ r, r ∈ rs → Okd r) := hok
  clear hok
  go_enter Tryd.func38, Tryd.ntmps38
  go_wp2
  go_loopw [5] (fun i wr => ∃ k : Nat, k ≤ rs.length ∧ i = .int .i64 k ∧ Below w.heap.size w wr ∧ ∀ (j : Nat) r, j < k → rs[j]? = some r → ofB r t = false) (fun i _ => rs.length - (intOf i).toNat)
  case atStart => exact ⟨0, Nat.zero_le _, rfl, Below.refl _ _, fun j r hj => by omega⟩
  case round =>
    obtain ⟨k, hk, rfl, hB, hno⟩ := hrel
    have HNO : Hid (∀ (j : Nat) r, j < k → rs[j]? = some r → ofB r t = false) := hno
    clear hno
    by_cases hlt : k < rs.length
    · obtain ⟨r, hr⟩ : ∃ r, rs[k]? = some r := ⟨_, List.getElem?_eq_getElem hlt⟩
      obtain ⟨_, b, off, ba, bc, rfl, _, hi, c0, c1, c2, c3, c4⟩ := hc.below hB (Nat.le_refl _) k r hr
      have ho := HOK.out r (List.mem_of_getElem? hr)
      have HR : Hid (rs[k]? = some r) := hr
      clear hr
      cases hrb : ofB r t with
      | true =>
        go_wp2_with (go_at_call 63; refine (l1Of_any r t _ _ _ _ (by exact hi) ho).mono ?_; rintro e w1 ⟨rfl, hb1⟩)
        go_ret
        exact ⟨ret_bool (dueTo_hit HR.out hrb).symm, hB.trans (hb1.mono hB.size)⟩
      | false =>
        go_wp2_with (go_at_call 63; refine (l1Of_any r t _ _ _ _ (by exact hi) ho).mono ?_; rintro e w1 ⟨rfl, hb1⟩)
        go_roundw
        case rel =>
          refine ⟨k + 1, by omega, by go_num, hB.trans (hb1.mono hB.size), fun j r' hj hr' => ?_⟩
          by_cases hjk : j = k
          · subst hjk
            rw [HR.out] at hr'
            cases hr'
            exact hrb
          · exact HNO.out j r' (by omega) hr'
        case measure => simp [intOf]; omega
    · go_wp2
      go_ret
      exact ⟨ret_bool (dueTo_none (fun j r hj => HNO.out j r (by have := (List.getElem?_eq_some_iff.1 hj).1; omega) hj)).symm, hB⟩

theorem dueB_no {rs : List CR} {t : Int} (h : rulesB rs = false) : dueB rs t = false := by unfold dueB; simp [h]
theorem dueB_yes {rs : List CR} {t : Int} (h : rulesB rs = true) : dueB rs t = dueTo rs t := by unfold dueB; simp [h]

set_option maxHeartbeats 400000 in
theorem specCalDue_any (a : Option Addr) (cap : Nat) (rs : List CR) (t : Int) (w : World) (lo lb : Nat) (hl : rs.length ≤ 9223372036854775807) (hc : RulesIn w lo lb a rs) :
    Calls Tryd.prog 15 #[.slice a rs.length cap, .int .i64 t] w fun e w' => e = .returned (.bool (dueB rs t)) ∧ Below w.heap.size w w' := by
  cases hok : rulesB rs with
  | false =>
    rw [dueB_no hok]
    go_enter Tryd.func15, Tryd.ntmps15
    go_wp2_with (go_at_call 26; refine (specCalOk_any a cap rs _ lo lb hl hc).mono ?_; rintro e w1 ⟨rfl, hb1⟩)
    go_ret
    exact ⟨rfl, hb1⟩
  | true =>
    rw [dueB_yes hok]
    go_enter Tryd.func15, Tryd.ntmps15
    go_wp2_with fail
    refine (specCalOk_any a cap rs _ lo lb hl hc).mono ?_
    rintro e w1 ⟨rfl, hb1⟩
    have hc1 := hc.below hb1 (Nat.le_refl _)
    go_wp2_with fail
    refine (l1Due_any a cap rs t _ lo lb (len4 hok) hc1 (fun r hr => okd_mem hok hr)).mono ?_
    rintro e w2 ⟨rfl, hb2⟩
    go_wp2
    go_ret
    exact ⟨rfl, hb1.trans (hb2.mono hb1.size)⟩

set_option maxHeartbeats 400000 in
theorem implCalDue_any (a : Option Addr) (cap : Nat) (rs : List CR) (t : Int) (w : World) (lo lb : Nat) (hl : rs.length ≤ 9223372036854775807) (hc : RulesIn w lo lb a rs) (hg : Glob w) (h64 : In64 t) :
    Calls Tryd.prog 14 #[.slice a rs.length cap, .int .i64 t] w fun e w' => e = .returned (.bool (dueB rs t)) ∧ Below w.heap.size w w' := by
  by_cases h0 : t < 0
  · rw [due_neg rs t h0]
    have hd : decide (0 ≤ t) = false := by simp; omega
    go_enter Tryd.func14, Tryd.ntmps14
    go_wp2
    go_ret
    exact ⟨rfl, Below.refl _ _⟩
  · rw [← due_nxt rs t (by omega)]
    obtain ⟨_, h64b⟩ := h64
    go_enter Tryd.func14, Tryd.ntmps14
    go_wp2_with fail
    refine (implCalNext_any a cap rs (t - 1) _ lo lb hl hc hg ⟨by omega, by omega⟩).mono ?_
    rintro e w1 ⟨rfl, hb1⟩
    go_wp2
    go_ret
    exact ⟨rfl, hb1⟩

end Go.Proofs.YtammejplaeaocaaDoor
