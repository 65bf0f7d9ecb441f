/-
  The specification's CalOk (l1In, l1RuleOk, CalOk) answers whether rules are ok, as plain data. No condition.
-/
import Derived.Test.YtammejplaeaocaaDoorEq
namespace Go.Proofs.YtammejplaeaocaaDoor
open Go.RowKit

theorem ret_bool {a b : Bool} (h : a = b) : Ending.returned (.bool a) = .returned (.bool b) := by rw [h]

/-- n lies from low to high. -/
def inB (n low high : Int) : Bool := decide (low ≤ n ∧ n ≤ high)
theorem inB_true {n low high : Int} (h1 : low ≤ n) (h2 : n ≤ high) : inB n low high = true := by unfold inB; simp [h1, h2]
theorem inB_low {n low high : Int} (h1 : ¬ low ≤ n) : inB n low high = false := by unfold inB; simp [h1]
theorem inB_high {n low high : Int} (h1 : ¬ n ≤ high) : inB n low high = false := by unfold inB; simp [h1]
theorem inB_iff {n low high : Int} : inB n low high = true ↔ low ≤ n ∧ n ≤ high := by unfold inB; simp
theorem inB_not {n low high : Int} (h : inB n low high = false) : n < low ∨ high < n := by unfold inB at h; simp at h; omega

set_option maxHeartbeats 400000 in
theorem l1In_any (n low high : Int) (w : World) :
    Calls Tryd.prog 52 #[.int .i64 n, .int .i64 low, .int .i64 high] w fun e w' => e = .returned (.bool (inB n low high)) ∧ w' = w := by
  by_cases h1 : low ≤ n
  · by_cases h2 : n ≤ high
    · rw [inB_true h1 h2]
      go_enter Tryd.func52, Tryd.ntmps52
      go_wp2
      go_ret
      exact ⟨rfl, rfl⟩
    · rw [inB_high h2]
      go_enter Tryd.func52, Tryd.ntmps52
      go_wp2
      go_ret
      exact ⟨rfl, rfl⟩
  · rw [inB_low h1]
    go_enter Tryd.func52, Tryd.ntmps52
    go_wp2
    go_ret
    exact ⟨rfl, rfl⟩

/-- What is asked of the tick at a place of what is left out. -/
def butAt (l : List Int) (i : Nat) : Bool := inB (l[i]?.getD 0) 0 100000 && (i == 0 || decide (l[i - 1]?.getD 0 < l[i]?.getD 0))
def butB (l : List Int) : Bool := (List.range l.length).all (butAt l)
theorem butB_true {l : List Int} (h : ∀ j, j < l.length → butAt l j = true) : butB l = true := by
  unfold butB; rw [List.all_eq_true]; intro j hj; exact h j (List.mem_range.1 hj)
theorem butB_false {l : List Int} {k : Nat} (hk : k < l.length) (h : butAt l k = false) : butB l = false := by
  unfold butB; rw [List.all_eq_false]; exact ⟨k, List.mem_range.2 hk, by simp [h]⟩
theorem butB_at {l : List Int} (h : butB l = true) {j : Nat} (hj : j < l.length) : butAt l j = true := by
  unfold butB at h; rw [List.all_eq_true] at h; exact h j (List.mem_range.2 hj)

/-- A rule is ok but for what is left out. -/
def headB (r : CR) : Bool := inB r.e 1 1000 && inB r.a 0 (r.e - 1) && inB r.f 0 100000 && inB r.t r.f 100000
/-- A rule is ok. -/
def ruleB (r : CR) : Bool := headB r && decide (r.b.length ≤ 8) && butB r.b
/-- Rules are ok. -/
def rulesB (rs : List CR) : Bool := decide (1 ≤ rs.length) && decide (rs.length ≤ 4) && rs.all ruleB

set_option maxHeartbeats 1000000 in
theorem l1RuleOk_no (r : CR) (a : Option Addr) (cap : Nat) (w : World) (lo : Nat) (hv : IntsIn w lo a r.b) (hh : headB r = false ∨ 8 < r.b.length) :
    Calls Tryd.prog 51 #[r.val a cap] w fun e w' => e = .returned (.bool false) ∧ Below w.heap.size w w' := by
  have hlen := hv.1
  have hfin : Below w.heap.size w (w.alloc (.cells #[.int .i64 r.e, .int .i64 r.a, .int .i64 r.f, .int .i64 r.t, .slice a r.b.length cap] 66)) := (Below.refl _ _).alloc (Nat.le_refl _) _
  have HF : Hid _ := hfin
  clear hfin
  cases h1 : inB r.e 1 1000 with
  | false =>
    clear hh
    go_enter Tryd.func51, Tryd.ntmps51
    go_wp2_with (go_at_call 52; refine (l1In_any _ _ _ _).mono ?_; rintro e w' ⟨rfl, rfl⟩)
    go_ret
    exact ⟨rfl, HF.out⟩
  | true =>
    have h1' := inB_iff.1 h1
    cases h2 : inB r.a 0 (r.e - 1) with
    | false =>
      clear hh
      go_enter Tryd.func51, Tryd.ntmps51
      go_wp2_with (go_at_call 52; refine (l1In_any _ _ _ _).mono ?_; rintro e w' ⟨rfl, rfl⟩)
      go_ret
      exact ⟨rfl, HF.out⟩
    | true =>
      cases h3 : inB r.f 0 100000 with
      | false =>
        clear hh
        go_enter Tryd.func51, Tryd.ntmps51
        go_wp2_with (go_at_call 52; refine (l1In_any _ _ _ _).mono ?_; rintro e w' ⟨rfl, rfl⟩)
        go_ret
        exact ⟨rfl, HF.out⟩
      | true =>
        cases h4 : inB r.t r.f 100000 with
        | false =>
          clear hh
          go_enter Tryd.func51, Tryd.ntmps51
          go_wp2_with (go_at_call 52; refine (l1In_any _ _ _ _).mono ?_; rintro e w' ⟨rfl, rfl⟩)
          go_ret
          exact ⟨rfl, HF.out⟩
        | true =>
          have h5 : 8 < r.b.length := by
            rcases hh with hh | hh
            · simp [headB, h1, h2, h3, h4] at hh
            · exact hh
          clear hh
          go_enter Tryd.func51, Tryd.ntmps51
          go_wp2_with (go_at_call 52; refine (l1In_any _ _ _ _).mono ?_; rintro e w' ⟨rfl, rfl⟩)
          go_ret
          exact ⟨rfl, HF.out⟩

theorem butAt_zero {l : List Int} {x : Int} (h : x = l[0]?.getD 0) : butAt l 0 = inB x 0 100000 := by
  simp [butAt, h]
theorem butAt_in {l : List Int} {k : Nat} {x : Int} (h : x = l[k]?.getD 0) (hx : inB x 0 100000 = false) : butAt l k = false := by
  simp [butAt, ← h, hx]
theorem butAt_lt {l : List Int} {k : Nat} {x y : Int} (h : x = l[k]?.getD 0) (hy : y = l[k - 1]?.getD 0) (hx : inB x 0 100000 = true) (hk : k ≠ 0) : butAt l k = decide (y < x) := by
  simp [butAt, ← h, ← hy, hx, hk]

set_option maxHeartbeats 1000000 in
theorem l1RuleOk_yes (r : CR) (a : Option Addr) (cap : Nat) (w : World) (lo : Nat) (hv : IntsIn w lo a r.b) (hh : headB r = true) (h8 : r.b.length ≤ 8) :
    Calls Tryd.prog 51 #[r.val a cap] w fun e w' => e = .returned (.bool (butB r.b)) ∧ Below w.heap.size w w' := by
  obtain ⟨h1, h2, h3, h4⟩ : inB r.e 1 1000 = true ∧ inB r.a 0 (r.e - 1) = true ∧ inB r.f 0 100000 = true ∧ inB r.t r.f 100000 = true := by simpa [headB, and_assoc] using hh
  clear hh
  have h1' := inB_iff.1 h1
  go_enter Tryd.func51, Tryd.ntmps51
  go_wp2_with (go_at_call 52; refine (l1In_any _ _ _ _).mono ?_; rintro e w' ⟨rfl, rfl⟩)
  go_loopw [3] (fun i wr => ∃ k : Nat, k ≤ r.b.length ∧ i = .int .i64 k ∧ Below (w.heap.size + 1) (w.alloc (.cells #[.int .i64 r.e, .int .i64 r.a, .int .i64 r.f, .int .i64 r.t, .slice a r.b.length cap] 66)) wr ∧ ∀ j, j < k → butAt r.b j = true) (fun i _ => r.b.length - (intOf i).toNat)
  case atStart => exact ⟨0, Nat.zero_le _, rfl, Below.refl _ _, fun j hj => by omega⟩
  case round =>
    obtain ⟨k, hk, rfl, hB, hbut⟩ := hrel
    have hbox : wr.cell? ⟨w.heap.size, 4, none⟩ = some (.slice a r.b.length cap) := by
      rw [hB.cell (p := ⟨w.heap.size, 4, none⟩) (Nat.lt_succ_self _)]; simp
    have hB0 : Hid (Below w.heap.size w wr) := ((Below.refl _ _).alloc (Nat.le_refl _) _).trans (hB.mono (Nat.le_succ _))
    have HB : Hid (Below (w.heap.size + 1) (w.alloc (.cells #[.int .i64 r.e, .int .i64 r.a, .int .i64 r.f, .int .i64 r.t, .slice a r.b.length cap] 66)) wr) := hB
    have HU : Hid (∀ j, j < k → butAt r.b j = true) := hbut
    clear hB hbut
    by_cases hlt : k < r.b.length
    · obtain ⟨b, off, rfl, _, c0⟩ := (hv.below hB0.out (Nat.le_refl _)).2.2 k hlt
      obtain ⟨x, hx⟩ : ∃ x, x = r.b[k]?.getD 0 := ⟨_, rfl⟩
      rw [← hx] at c0
      have HX : Hid (x = r.b[k]?.getD 0) := hx
      clear hx
      cases h6 : inB x 0 100000 with
      | false =>
        go_wp2
        go_quiet ((go_at_call 52; exact Calls.quiet_of_same (l1In_any _ _ _ _)))
        go_wp2
        go_ret
        exact ⟨ret_bool (butB_false hlt (butAt_in HX.out h6)).symm, below_drewN hB0.out _⟩
      | true =>
        by_cases hk0 : k = 0
        · have hd : decide ((0 : Int) < (k : Int)) = false := by simp [hk0]
          have hd2 : decide (0 < k) = false := by simp [hk0]
          have HK : Hid (k = 0) := hk0
          clear hk0
          go_wp2
          go_quiet ((go_at_call 52; exact Calls.quiet_of_same (l1In_any _ _ _ _)))
          go_wp2
          go_roundw
          case rel => exact ⟨k + 1, by omega, by go_num, below_drewN HB.out _, fun j hj => by have := HK.out; subst this; obtain rfl : j = 0 := (by omega); rw [butAt_zero HX.out, h6]⟩
          case measure => simp [intOf]; omega
        · obtain ⟨m, rfl⟩ : ∃ m, k = m + 1 := ⟨k - 1, by omega⟩
          clear hk0
          obtain ⟨b2, off2, e2, _, c1⟩ := (hv.below hB0.out (Nat.le_refl _)).2.2 m (by omega)
          injection e2 with e2
          injection e2 with e21 e22
          subst e21 e22
          obtain ⟨y, hy⟩ : ∃ y, y = r.b[m]?.getD 0 := ⟨_, rfl⟩
          rw [← hy] at c1
          have HY : Hid (y = r.b[m]?.getD 0) := hy
          clear hy
          by_cases hyx : y < x
          · go_wp2
            go_quiet ((go_at_call 52; exact Calls.quiet_of_same (l1In_any _ _ _ _)))
            go_wp2
            go_roundw
            case rel =>
              refine ⟨m + 1 + 1, by omega, by go_num, below_drewN HB.out _, fun j hj => ?_⟩
              by_cases hjm : j = m + 1
              · subst hjm; rw [butAt_lt HX.out HY.out h6 (by omega)]; simpa using hyx
              · exact HU.out j (by omega)
            case measure => simp [intOf]; omega
          · go_wp2
            go_quiet ((go_at_call 52; exact Calls.quiet_of_same (l1In_any _ _ _ _)))
            go_wp2
            go_ret
            exact ⟨ret_bool (butB_false hlt (by rw [butAt_lt HX.out HY.out h6 (by omega)]; simpa using hyx)).symm, below_drewN hB0.out _⟩
    · go_wp2
      go_ret
      exact ⟨ret_bool (butB_true (fun j hj => HU.out j (by omega))).symm, hB0.out⟩

theorem l1RuleOk_any (r : CR) (a : Option Addr) (cap : Nat) (w : World) (lo : Nat) (hv : IntsIn w lo a r.b) :
    Calls Tryd.prog 51 #[r.val a cap] w fun e w' => e = .returned (.bool (ruleB r)) ∧ Below w.heap.size w w' := by
  by_cases h : headB r = false ∨ 8 < r.b.length
  · have e : ruleB r = false := by
      unfold ruleB
      rcases h with h | h
      · simp [h]
      · simp [show ¬ r.b.length ≤ 8 by omega]
    rw [e]
    exact l1RuleOk_no r a cap w lo hv h
  · have h1 : headB r = true := by
      cases hh : headB r
      · exact absurd (Or.inl hh) h
      · rfl
    have h2 : r.b.length ≤ 8 := by
      by_cases h8 : r.b.length ≤ 8
      · exact h8
      · exact absurd (Or.inr (by omega)) h
    have e : ruleB r = butB r.b := by unfold ruleB; simp [h1, h2]
    rw [e]
    exact l1RuleOk_yes r a cap w lo hv h1 h2

theorem rulesB_false {rs : List CR} {k : Nat} {r : CR} (hr : rs[k]? = some r) (h : ruleB r = false) : rulesB rs = false := by
  unfold rulesB
  have : rs.all ruleB = false := by rw [List.all_eq_false]; exact ⟨r, List.mem_of_getElem? hr, by simp [h]⟩
  simp [this]
theorem rulesB_len {rs : List CR} (h : ∀ (i : Nat) r, rs[i]? = some r → ruleB r = true) : rulesB rs = inB rs.length 1 4 := by
  unfold rulesB inB
  have : rs.all ruleB = true := by
    rw [List.all_eq_true]
    intro r hr
    obtain ⟨i, hi⟩ := List.getElem?_of_mem hr
    exact h i r hi
  rw [this, Bool.and_true, ← Bool.decide_and]
  congr 1
  simp
  omega

set_option maxHeartbeats 400000 in
theorem specCalOk_any (a : Option Addr) (cap : Nat) (rs : List CR) (w : World) (lo lb : Nat) (hl : rs.length ≤ 9223372036854775807) (hc : RulesIn w lo lb a rs) :
    Calls Tryd.prog 26 #[.slice a rs.length cap] w fun e w' => e = .returned (.bool (rulesB rs)) ∧ Below w.heap.size w w' := by
  go_enter Tryd.func26, Tryd.ntmps26
  go_wp2
  go_loopw [3] (fun i wr => ∃ k : Nat, k ≤ rs.length ∧ i = .int .i64 k ∧ Below w.heap.size w wr ∧ ∀ j r, j < k → rs[j]? = some r → ruleB r = true) (fun i _ => rs.length - (intOf i).toNat)
  case atStart => exact ⟨0, Nat.zero_le _, rfl, Below.refl _ _, fun j r hj => by omega⟩
  case round =>
    obtain ⟨k, hk, rfl, hB, hok⟩ := hrel
    have HOK : Hid (∀ j r, j < k → rs[j]? = some r → ruleB r = true) := hok
    clear hok
    by_cases hlt : k < rs.length
    · obtain ⟨r, hr⟩ : ∃ r, rs[k]? = some r := ⟨_, List.getElem?_eq_getElem hlt⟩
      obtain ⟨_, b, off, ba, bc, rfl, _, hi, c0, c1, c2, c3, c4⟩ := hc.below hB (Nat.le_refl _) k r hr
      have HR : Hid (rs[k]? = some r) := hr
      clear hr
      cases hrb : ruleB r with
      | false =>
        go_wp2_with (go_at_call 51; refine (l1RuleOk_any r _ _ _ _ (by exact hi)).mono ?_; rintro e w1 ⟨rfl, hb1⟩)
        go_ret
        exact ⟨ret_bool (rulesB_false HR.out hrb).symm, hB.trans (hb1.mono hB.size)⟩
      | true =>
        go_wp2_with (go_at_call 51; refine (l1RuleOk_any r _ _ _ _ (by exact hi)).mono ?_; rintro e w1 ⟨rfl, hb1⟩)
        go_roundw
        case rel =>
          refine ⟨k + 1, by omega, by go_num, hB.trans (hb1.mono hB.size), fun j r' hj hr' => ?_⟩
          by_cases hjk : j = k
          · subst hjk
            rw [HR.out] at hr'
            cases hr'
            exact hrb
          · exact HOK.out j r' (by omega) hr'
        case measure => simp [intOf]; omega
    · obtain rfl : k = rs.length := by omega
      go_wp2_with (go_at_call 52; refine (l1In_any _ _ _ _).mono ?_; rintro e w' ⟨rfl, rfl⟩)
      go_ret
      exact ⟨ret_bool (rulesB_len (fun i r hi => HOK.out i r (List.getElem?_eq_some_iff.1 hi).1 hi)).symm, hB⟩

end Go.Proofs.YtammejplaeaocaaDoor
