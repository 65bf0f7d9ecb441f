/-
  The next tick is the least due tick behind a tick; the ticks that are counted are the due ones. No condition.
-/
import Derived.Test.YtammejplaeaocaaDoorDue4
import Derived.Test.YtammejplaeaocaaDoorCount2
namespace Go.Proofs.YtammejplaeaocaaDoor
open Go.RowKit

theorem scan_least {r : CR} (he : 1 ≤ r.e) {s : Int} (hs : s ≤ r.t) (hb : ¬ s ∈ r.b) : ∀ (n : Nat) (t : Int), (r.t + 1 - t).toNat ≤ n → t ≤ s → s % r.e = t % r.e → scan r n t ≠ -1 ∨ scan r n t = s → scan r n t ≤ s := by
  intro n
  induction n with
  | zero => intro t h1 h2 _ _; omega
  | succ n ih =>
    intro t h1 h2 h3 h4
    simp only [scan] at h4 ⊢
    rw [if_pos (show t ≤ r.t by omega)] at h4 ⊢
    by_cases ht : t ∈ r.b
    · rw [if_pos ht] at h4 ⊢
      have hne : t ≠ s := fun e => hb (e ▸ ht)
      refine ih (t + r.e) (by omega) ?_ (by rw [h3]; simp) h4
      have hd : (s - t) % r.e = 0 := Int.emod_eq_emod_iff_emod_sub_eq_zero.1 h3
      obtain ⟨c, hc⟩ := Int.dvd_of_emod_eq_zero hd
      have hc1 : 1 ≤ c := by
        rcases (show 0 < c ∨ c ≤ 0 by omega) with h | h
        · omega
        · have := Int.mul_le_mul_of_nonneg_left h (show 0 ≤ r.e by omega)
          omega
      have := Int.mul_le_mul_of_nonneg_left hc1 (show 0 ≤ r.e by omega)
      omega
    · rw [if_neg ht]; exact h2
theorem scan_some {r : CR} (he : 1 ≤ r.e) {s : Int} (hs : s ≤ r.t) (hb : ¬ s ∈ r.b) : ∀ (n : Nat) (t : Int), (r.t + 1 - t).toNat ≤ n → 0 ≤ t → t ≤ s → s % r.e = t % r.e → scan r n t ≠ -1 := by
  intro n
  induction n with
  | zero => intro t h1 _ h2 _; omega
  | succ n ih =>
    intro t h1 h0 h2 h3
    simp only [scan]
    rw [if_pos (show t ≤ r.t by omega)]
    by_cases ht : t ∈ r.b
    · rw [if_pos ht]
      have hne : t ≠ s := fun e => hb (e ▸ ht)
      refine ih (t + r.e) (by omega) (by omega) ?_ (by rw [h3]; simp)
      have hd : (s - t) % r.e = 0 := Int.emod_eq_emod_iff_emod_sub_eq_zero.1 h3
      obtain ⟨c, hc⟩ := Int.dvd_of_emod_eq_zero hd
      have hc1 : 1 ≤ c := by
        rcases (show 0 < c ∨ c ≤ 0 by omega) with h | h
        · omega
        · have := Int.mul_le_mul_of_nonneg_left h (show 0 ≤ r.e by omega)
          omega
      have := Int.mul_le_mul_of_nonneg_left hc1 (show 0 ≤ r.e by omega)
      omega
    · rw [if_neg ht]; omega

theorem ofB_iff {r : CR} {t : Int} : ofB r t = true ↔ ((r.f ≤ t ∧ t ≤ r.t) ∧ t % r.e = r.a) ∧ ¬ t ∈ r.b := by
  simp only [ofB, Bool.and_eq_true, inB_iff, decide_eq_true_eq, Bool.not_eq_true', butHas, decide_eq_false_iff_not]

/-- What the first tick is. -/
theorem first_is {r : CR} {t x : Int} (ho : Okd r) (h : first r t = x) (hx : x ≠ -1) : t < x ∧ ofB r x = true := by
  have he := ho.e1
  obtain ⟨h1, h2, h3, h4⟩ := scan_spec he _ _ x h hx
  have hb := (base_bounds (r := r) (s := startOf r t) he).1
  have hs : r.f ≤ startOf r t ∧ t + 1 ≤ startOf r t := by unfold startOf; split <;> omega
  exact ⟨by omega, ofB_iff.2 ⟨⟨⟨by omega, h2⟩, by rw [h4, base_mod ho]⟩, h3⟩⟩
theorem first_least {r : CR} {t s : Int} (ho : Okd r) (hs : t < s) (hd : ofB r s = true) : first r t ≠ -1 ∧ first r t ≤ s := by
  have he := ho.e1
  obtain ⟨⟨⟨d1, d2⟩, d3⟩, d4⟩ := ofB_iff.1 hd
  have hst : startOf r t ≤ s ∧ 0 ≤ startOf r t := by have := ho.f1; unfold startOf; split <;> omega
  obtain ⟨b1, b2⟩ := base_bounds (r := r) (s := startOf r t) he
  have hm : s % r.e = baseOf r (startOf r t) % r.e := by rw [base_mod ho, d3]
  have hle : baseOf r (startOf r t) ≤ s := by
    have hd : (s - baseOf r (startOf r t)) % r.e = 0 := Int.emod_eq_emod_iff_emod_sub_eq_zero.1 hm
    obtain ⟨c, hc⟩ := Int.dvd_of_emod_eq_zero hd
    rcases (show c < 0 ∨ 0 ≤ c by omega) with h | h
    · have := Int.mul_le_mul_of_nonneg_left (show c ≤ -1 by omega) (show 0 ≤ r.e by omega)
      omega
    · have := Int.mul_nonneg (show 0 ≤ r.e by omega) h
      omega
  have h1 := scan_some he d2 d4 _ _ (Nat.le_refl _) (by omega) hle hm
  exact ⟨h1, scan_least he d2 d4 _ _ (Nat.le_refl _) hle hm (Or.inl h1)⟩
/-- A tick that is not one of the rule may be passed by. -/
theorem first_pass {r : CR} {t : Int} (ho : Okd r) (h : ofB r t = false) : first r (t - 1) = first r t := by
  by_cases h1 : first r (t - 1) = -1
  · by_cases h2 : first r t = -1
    · omega
    · obtain ⟨a, b⟩ := first_is ho rfl h2
      exact absurd h1 (first_least ho (by omega) b).1
  · obtain ⟨a, b⟩ := first_is ho rfl h1
    have hne : first r (t - 1) ≠ t := fun e => by rw [e, h] at b; cases b
    obtain ⟨c, d⟩ := first_least (t := t) ho (by omega) b
    obtain ⟨e, f⟩ := first_is ho rfl c
    have := (first_least (t := t - 1) ho (by omega) f).2
    omega

theorem dueTo_iff {rs : List CR} {t : Int} : dueTo rs t = true ↔ ∃ r, r ∈ rs ∧ ofB r t = true := by unfold dueTo; rw [List.any_eq_true]
theorem nxtTo_is {rs : List CR} {t : Int} (ho : ∀ r, r ∈ rs → Okd r) (h : nxtTo rs t ≠ -1) : t < nxtTo rs t ∧ dueTo rs (nxtTo rs t) = true := by
  rcases (fold_spec t rs (-1)).1 with h1 | ⟨r, hr, h1⟩
  · exact absurd h1 h
  · have h2 : nxtTo rs t = first r t := h1
    rw [h2] at h ⊢
    obtain ⟨a, b⟩ := first_is (ho r hr) rfl h
    exact ⟨a, dueTo_iff.2 ⟨r, hr, b⟩⟩
theorem nxtTo_least {rs : List CR} {t s : Int} (ho : ∀ r, r ∈ rs → Okd r) (hs : t < s) (hd : dueTo rs s = true) : 0 ≤ nxtTo rs t ∧ nxtTo rs t ≤ s := by
  obtain ⟨r, hr, h⟩ := dueTo_iff.1 hd
  obtain ⟨a, b⟩ := first_least (ho r hr) hs h
  have h2 : first r t < 0 ∨ (0 ≤ nxtTo rs t ∧ nxtTo rs t ≤ first r t) := (fold_spec t rs (-1)).2.1 r hr
  rcases first_bounds (ho r hr) t with h3 | h3
  · exact absurd h3 a
  · omega
theorem nxtTo_pass {rs : List CR} {t : Int} (ho : ∀ r, r ∈ rs → Okd r) (h : dueTo rs t = false) : nxtTo rs (t - 1) = nxtTo rs t := by
  refine nxtTo_congr fun r hr => first_pass (ho r hr) ?_
  cases hb : ofB r t with
  | false => rfl
  | true => rw [dueTo_iff.2 ⟨r, hr, hb⟩] at h; cases h

theorem src_due (rs : List CR) (t : Int) : dueTo (srcOf rs) t = dueB rs t := by
  unfold srcOf dueB
  cases h : rulesB rs <;> simp [dueTo]
/-- P4: the next tick is due and lies behind; none between is due. -/
theorem nxt_is {rs : List CR} {t : Int} (h : 0 ≤ nxt rs t) : t < nxt rs t ∧ dueB rs (nxt rs t) = true := by
  rw [← srcOf_nxt] at h ⊢
  rw [← src_due]
  exact nxtTo_is (srcOf_ok rs) (by omega)
theorem nxt_between {rs : List CR} {t s : Int} (h1 : t < s) (h2 : s < nxt rs t) : dueB rs s = false := by
  cases hd : dueB rs s with
  | false => rfl
  | true =>
    rw [← src_due] at hd
    rw [← srcOf_nxt] at h2
    have := nxtTo_least (srcOf_ok rs) h1 hd
    omega
theorem ticks_due {rs : List CR} {t : Int} {ys : List Int} (h : Ticks (srcOf rs) (t - 1) ys) (hd : dueB rs t = true) : ∃ zs, ys = t :: zs ∧ Ticks (srcOf rs) t zs := by
  rw [← src_due] at hd
  obtain ⟨a, b⟩ := nxtTo_least (t := t - 1) (srcOf_ok rs) (by omega) hd
  have hx : nxtTo (srcOf rs) (t - 1) = t := by
    have := (nxtTo_is (t := t - 1) (srcOf_ok rs) (by omega)).1
    omega
  cases ys with
  | nil => have h1 : nxtTo (srcOf rs) (t - 1) = -1 := h; omega
  | cons y zs =>
    obtain ⟨h1, h2, h3⟩ := h
    obtain rfl : y = t := by omega
    exact ⟨zs, rfl, h3⟩
theorem ticks_pass {rs : List CR} {t : Int} {ys : List Int} (h : Ticks (srcOf rs) (t - 1) ys) (hd : dueB rs t = false) : Ticks (srcOf rs) t ys := by
  rw [← src_due] at hd
  have hp := nxtTo_pass (srcOf_ok rs) hd
  cases ys with
  | nil => exact hp.symm.trans h
  | cons y zs => exact ⟨hp.symm.trans h.1, h.2⟩
theorem ticks_over {rs : List CR} {t to : Int} {ys : List Int} (h : Ticks (srcOf rs) t ys) (ht : to ≤ t) : upTo ys to = 0 := by
  cases ys with
  | nil => rfl
  | cons y zs =>
    have h1 := h.1
    have h2 := h.2.1
    have := (nxtTo_is (t := t) (srcOf_ok rs) (by omega)).1
    exact upTo_gt (by omega)

end Go.Proofs.YtammejplaeaocaaDoor
