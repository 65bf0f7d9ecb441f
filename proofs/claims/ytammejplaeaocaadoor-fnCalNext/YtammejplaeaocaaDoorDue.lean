/-
  CalDue: the specification's (l1Of, l1Due, CalDue) and the program's answer whether a tick is due, as plain data; that the program's look at the next tick says the same. Condition: the package-level variables that CalOk comes to hold what the program's text lays.
-/
import Derived.Test.YtammejplaeaocaaDoorNext
namespace Go.Proofs.YtammejplaeaocaaDoor
open Go.RowKit

/-- A tick is one of a rule. -/
def ofB (r : CR) (t : Int) : Bool := inB t r.f r.t && decide (t % r.e = r.a) && !butHas r.b t
def dueTo (rs : List CR) (t : Int) : Bool := rs.any (fun r => ofB r t)
def dueB (rs : List CR) (t : Int) : Bool := rulesB rs && dueTo rs t

theorem scan_spec {r : CR} (he : 1 ≤ r.e) : ∀ (n : Nat) (t x : Int), scan r n t = x → x ≠ -1 → t ≤ x ∧ x ≤ r.t ∧ ¬ x ∈ r.b ∧ x % r.e = t % r.e := by
  intro n
  induction n with
  | zero => intro t x h hx; exact absurd h.symm hx
  | succ n ih =>
    intro t x h hx
    simp only [scan] at h
    by_cases hle : t ≤ r.t
    · rw [if_pos hle] at h
      by_cases hb : t ∈ r.b
      · rw [if_pos hb] at h
        obtain ⟨h1, h2, h3, h4⟩ := ih (t + r.e) x h hx
        refine ⟨by omega, h2, h3, ?_⟩
        rw [h4]
        simp
      · rw [if_neg hb] at h
        subst h
        exact ⟨by omega, hle, hb, rfl⟩
    · rw [if_neg hle] at h
      exact absurd h.symm hx

theorem base_mod {r : CR} {s : Int} (ho : Okd r) : baseOf r s % r.e = r.a := by
  unfold baseOf
  have h1 := ho.a1
  have h2 := ho.a2
  have e : (s + (r.a - s) % r.e) % r.e = (s + (r.a - s)) % r.e := by simp
  rw [e, show s + (r.a - s) = r.a by omega]
  exact Int.emod_eq_of_lt h1 (by omega)

theorem first_due {r : CR} {t : Int} (ho : Okd r) (h0 : 0 ≤ t) : first r (t - 1) = t ↔ ofB r t = true := by
  have he := ho.e1
  simp only [ofB, Bool.and_eq_true, inB_iff, decide_eq_true_eq, Bool.not_eq_true', butHas, decide_eq_false_iff_not]
  constructor
  · intro h
    obtain ⟨h1, h2, h3, h4⟩ := scan_spec he _ _ t h (by omega)
    have hb := (base_bounds (r := r) (s := startOf r (t - 1)) he).1
    have hs : r.f ≤ startOf r (t - 1) := by unfold startOf; split <;> omega
    exact ⟨⟨⟨by omega, h2⟩, by rw [h4, base_mod ho]⟩, h3⟩
  · rintro ⟨⟨⟨h1, h2⟩, h3⟩, h4⟩
    unfold first
    rw [startOf_hi (by omega), show t - 1 + 1 = t by omega]
    have hb : baseOf r t = t := by
      unfold baseOf
      have e : (r.a - t) % r.e = 0 := by
        rw [← h3]
        simp
      omega
    rw [hb]
    exact scanT_hit h2 h4

theorem fold_spec (u : Int) : ∀ (rs : List CR) (b : Int),
    (rs.foldl (fun b r => better b (first r u)) b = b ∨ ∃ r, r ∈ rs ∧ rs.foldl (fun b r => better b (first r u)) b = first r u) ∧
    (∀ r, r ∈ rs → first r u < 0 ∨ (0 ≤ rs.foldl (fun b r => better b (first r u)) b ∧ rs.foldl (fun b r => better b (first r u)) b ≤ first r u)) ∧
    (b < 0 ∨ (0 ≤ rs.foldl (fun b r => better b (first r u)) b ∧ rs.foldl (fun b r => better b (first r u)) b ≤ b)) := by
  intro rs
  induction rs with
  | nil => intro b; exact ⟨Or.inl rfl, fun r hr => by simp at hr, by simp only [List.foldl_nil]; omega⟩
  | cons x rs ih =>
    intro b
    simp only [List.foldl_cons]
    obtain ⟨h1, h2, h3⟩ := ih (better b (first x u))
    generalize rs.foldl (fun b r => better b (first r u)) (better b (first x u)) = y at *
    have hb : (better b (first x u) = b ∨ better b (first x u) = first x u) ∧ (first x u < 0 ∨ (0 ≤ better b (first x u) ∧ better b (first x u) ≤ first x u)) ∧ (b < 0 ∨ (0 ≤ better b (first x u) ∧ better b (first x u) ≤ b)) := by
      unfold better
      split <;> omega
    obtain ⟨g1, g2, g3⟩ := hb
    generalize better b (first x u) = c at *
    refine ⟨?_, ?_, by omega⟩
    · rcases h1 with h1 | ⟨r, hr, h1⟩
      · rcases g1 with g1 | g1
        · exact Or.inl (h1.trans g1)
        · exact Or.inr ⟨x, by simp, h1.trans g1⟩
      · exact Or.inr ⟨r, by simp [hr], h1⟩
    · intro r hr
      rcases List.mem_cons.1 hr with rfl | hr
      · omega
      · exact h2 r hr

theorem nxt_due {rs : List CR} {t : Int} (hok : rulesB rs = true) (h0 : 0 ≤ t) : nxtTo rs (t - 1) = t ↔ dueTo rs t = true := by
  obtain ⟨h1, h2, _⟩ := fold_spec (t - 1) rs (-1)
  have hd : dueTo rs t = true ↔ ∃ r, r ∈ rs ∧ first r (t - 1) = t := by
    unfold dueTo
    rw [List.any_eq_true]
    constructor
    · rintro ⟨r, hr, h⟩; exact ⟨r, hr, (first_due (okd_mem hok hr) h0).2 h⟩
    · rintro ⟨r, hr, h⟩; exact ⟨r, hr, (first_due (okd_mem hok hr) h0).1 h⟩
  rw [hd]
  have hx : rs.foldl (fun b r => better b (first r (t - 1))) (-1) = nxtTo rs (t - 1) := rfl
  rw [hx] at h1 h2
  constructor
  · intro h
    rcases h1 with h1 | ⟨r, hr, h1⟩
    · omega
    · exact ⟨r, hr, by omega⟩
  · rintro ⟨r, hr, h⟩
    have a1 := h2 r hr
    rcases h1 with h1 | ⟨r', hr', h1⟩
    · omega
    · rcases first_bounds (okd_mem hok hr') (t - 1) with h3 | h3
      · omega
      · omega

/-- The program's answer is the specification's. -/
theorem due_nxt (rs : List CR) (t : Int) (h0 : 0 ≤ t) : (nxt rs (t - 1) == t) = dueB rs t := by
  unfold dueB
  cases hok : rulesB rs with
  | false =>
    rw [nxt_no hok]
    simp
    omega
  | true =>
    rw [nxt_yes hok, Bool.true_and, Bool.eq_iff_iff, beq_iff_eq]
    exact nxt_due hok h0
theorem due_neg (rs : List CR) (t : Int) (h0 : t < 0) : dueB rs t = false := by
  unfold dueB
  cases hok : rulesB rs with
  | false => rfl
  | true =>
    rw [Bool.true_and]
    unfold dueTo
    rw [List.any_eq_false]
    intro r hr
    have := (okd_mem hok hr).f1
    simp only [ofB, Bool.and_eq_true, inB_iff]
    omega

end Go.Proofs.YtammejplaeaocaaDoor
