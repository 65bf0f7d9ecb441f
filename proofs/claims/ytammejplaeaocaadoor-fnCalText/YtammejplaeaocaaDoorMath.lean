/-
  Ticks of rules as plain data: the first tick of a rule behind a tick, the next of several, how many there are. Nothing of the program stands here.
-/
import Derived.Test.YtammejplaeaocaaDoorSpec1
namespace Go.Proofs.YtammejplaeaocaaDoor

/-- The first tick from t on, going by Every, that is not left out and not above To; -1 if there is none. -/
def scan (r : CR) : Nat → Int → Int
  | 0, _ => -1
  | n + 1, t => if t ≤ r.t then (if t ∈ r.b then scan r n (t + r.e) else t) else -1

theorem scan_high (r : CR) (n : Nat) (t : Int) (h : r.t < t) : scan r n t = -1 := by
  cases n with
  | zero => rfl
  | succ n => simp only [scan]; rw [if_neg (by omega)]

theorem scan_fuel (r : CR) (he : 1 ≤ r.e) : ∀ (n m : Nat) (t : Int), (r.t + 1 - t).toNat ≤ n → (r.t + 1 - t).toNat ≤ m → scan r n t = scan r m t := by
  intro n
  induction n with
  | zero =>
    intro m t h1 _
    rw [scan_high r 0 t (by omega), scan_high r m t (by omega)]
  | succ n ih =>
    intro m t h1 h2
    by_cases ht : r.t < t
    · rw [scan_high r _ t ht, scan_high r _ t ht]
    · cases m with
      | zero => omega
      | succ m =>
        have hle : t ≤ r.t := by omega
        by_cases hb : t ∈ r.b
        · simp only [scan, if_pos hle, if_pos hb]
          exact ih m _ (by omega) (by omega)
        · simp only [scan, if_pos hle, if_neg hb]

def scanT (r : CR) (t : Int) : Int := scan r (r.t + 1 - t).toNat t
theorem scanT_high {r : CR} {t : Int} (h : r.t < t) : scanT r t = -1 := scan_high r _ t h
theorem scanT_hit {r : CR} {t : Int} (h : t ≤ r.t) (hb : ¬ t ∈ r.b) : scanT r t = t := by
  unfold scanT
  obtain ⟨n, hn⟩ : ∃ n, (r.t + 1 - t).toNat = n + 1 := ⟨(r.t - t).toNat, by omega⟩
  rw [hn]
  simp only [scan]
  rw [if_pos h, if_neg hb]
theorem scanT_step {r : CR} {t : Int} (he : 1 ≤ r.e) (h : t ≤ r.t) (hb : t ∈ r.b) : scanT r t = scanT r (t + r.e) := by
  unfold scanT
  obtain ⟨n, hn⟩ : ∃ n, (r.t + 1 - t).toNat = n + 1 := ⟨(r.t - t).toNat, by omega⟩
  rw [hn]
  simp only [scan]
  rw [if_pos h, if_pos hb]
  exact scan_fuel r he _ _ _ (by omega) (by omega)

/-- Where the look begins: the first tick not below t + 1 and From with the right remainder. -/
def startOf (r : CR) (t : Int) : Int := if t + 1 < r.f then r.f else t + 1
def baseOf (r : CR) (s : Int) : Int := s + (r.a - s) % r.e
/-- The first tick of a rule behind a tick, -1 if there is none. -/
def first (r : CR) (t : Int) : Int := scanT r (baseOf r (startOf r t))

theorem startOf_lo {r : CR} {t : Int} (h : t + 1 < r.f) : startOf r t = r.f := by unfold startOf; rw [if_pos h]
theorem startOf_hi {r : CR} {t : Int} (h : ¬ t + 1 < r.f) : startOf r t = t + 1 := by unfold startOf; rw [if_neg h]

theorem base_bounds {r : CR} {s : Int} (he : 1 ≤ r.e) : s ≤ baseOf r s ∧ baseOf r s < s + r.e := by
  unfold baseOf
  have h1 := Int.emod_nonneg (r.a - s) (show r.e ≠ 0 by omega)
  have h2 := Int.emod_lt_of_pos (r.a - s) (show 0 < r.e by omega)
  omega

theorem first_high {r : CR} {t : Int} (he : 1 ≤ r.e) (h : r.t ≤ t) : first r t = -1 := by
  unfold first
  refine scanT_high ?_
  have h1 := (base_bounds (r := r) (s := startOf r t) he).1
  have h2 : t + 1 ≤ startOf r t := by unfold startOf; split <;> omega
  omega

theorem first_low {r : CR} {t : Int} (hf : 0 ≤ r.f) (h : t < -1) : first r t = first r (-1) := by
  unfold first
  congr 2
  by_cases h0 : r.f = 0
  · rw [startOf_lo (by omega), startOf_hi (by omega)]; omega
  · rw [startOf_lo (by omega), startOf_lo (by omega)]

/-- What the next tick comes to, rule by rule. -/
def better (best t : Int) : Int := if 0 ≤ t ∧ (best < 0 ∨ t < best) then t else best
def nxtTo (rs : List CR) (t : Int) : Int := rs.foldl (fun b r => better b (first r t)) (-1)
theorem nxtTo_nil (t : Int) : nxtTo [] t = -1 := rfl
theorem nxtTo_take {rs : List CR} {k : Nat} {r : CR} (h : rs[k]? = some r) (t : Int) : nxtTo (rs.take (k + 1)) t = better (nxtTo (rs.take k) t) (first r t) := by
  obtain ⟨hk, he⟩ := List.getElem?_eq_some_iff.1 h
  unfold nxtTo
  rw [List.take_succ_eq_append_getElem hk, List.foldl_append, he]
  rfl

/-- A rule that is ok has these bounds. -/
structure Okd (r : CR) : Prop where
  e1 : 1 ≤ r.e
  e2 : r.e ≤ 1000
  a1 : 0 ≤ r.a
  a2 : r.a ≤ r.e - 1
  f1 : 0 ≤ r.f
  f2 : r.f ≤ 100000
  t1 : r.f ≤ r.t
  t2 : r.t ≤ 100000
  n8 : r.b.length ≤ 8
theorem okd_of {r : CR} (h : ruleB r = true) : Okd r := by
  simp only [ruleB, headB, Bool.and_eq_true, decide_eq_true_eq, inB_iff] at h
  exact ⟨h.1.1.1.1.1.1, h.1.1.1.1.1.2, h.1.1.1.1.2.1, h.1.1.1.1.2.2, h.1.1.1.2.1, h.1.1.1.2.2, h.1.1.2.1, h.1.1.2.2, h.1.2⟩
theorem okd_at {rs : List CR} (h : rulesB rs = true) {k : Nat} {r : CR} (hr : rs[k]? = some r) : Okd r := by
  simp only [rulesB, Bool.and_eq_true, List.all_eq_true] at h
  exact okd_of (h.2 r (List.mem_of_getElem? hr))

/-- The next tick, -1 if there is none or the rules are not ok. -/
def nxt (rs : List CR) (t : Int) : Int := if rulesB rs = true then nxtTo rs t else -1

theorem nxtTo_congr {rs : List CR} {t u : Int} (h : ∀ r, r ∈ rs → first r t = first r u) : nxtTo rs t = nxtTo rs u := by
  unfold nxtTo
  generalize (-1 : Int) = b
  induction rs generalizing b with
  | nil => rfl
  | cons r rs ih =>
    simp only [List.foldl_cons]
    rw [h r (by simp)]
    exact ih (fun r' hr' => h r' (by simp [hr'])) _
theorem nxtTo_none {rs : List CR} {t : Int} (h : ∀ r, r ∈ rs → first r t = -1) : nxtTo rs t = -1 := by
  unfold nxtTo
  induction rs with
  | nil => rfl
  | cons r rs ih =>
    simp only [List.foldl_cons]
    rw [h r (by simp)]
    have : better (-1) (-1) = -1 := by simp [better]
    rw [this]
    exact ih (fun r' hr' => h r' (by simp [hr']))

/-- Bounds of the first tick. -/
theorem scanT_bounds {r : CR} (he : 1 ≤ r.e) : ∀ (n : Nat) (t : Int), scan r n t = -1 ∨ (t ≤ scan r n t ∧ scan r n t ≤ r.t) := by
  intro n
  induction n with
  | zero => intro t; exact Or.inl rfl
  | succ n ih =>
    intro t
    simp only [scan]
    by_cases h : t ≤ r.t
    · rw [if_pos h]
      by_cases hb : t ∈ r.b
      · rw [if_pos hb]
        rcases ih (t + r.e) with h1 | h1
        · exact Or.inl h1
        · exact Or.inr ⟨by omega, h1.2⟩
      · rw [if_neg hb]
        exact Or.inr ⟨by omega, h⟩
    · rw [if_neg h]
      exact Or.inl rfl
theorem first_bounds {r : CR} (ho : Okd r) (t : Int) : first r t = -1 ∨ (t < first r t ∧ 0 ≤ first r t ∧ first r t ≤ 100000) := by
  have he := ho.e1
  have h1 := (base_bounds (r := r) (s := startOf r t) he).1
  have h2 : t + 1 ≤ startOf r t ∧ 0 ≤ startOf r t := by
    have := ho.f1
    unfold startOf; split <;> omega
  rcases scanT_bounds he (r.t + 1 - baseOf r (startOf r t)).toNat (baseOf r (startOf r t)) with h | h
  · exact Or.inl h
  · have := ho.t2
    exact Or.inr ⟨by show t < scan _ _ _; omega, by show 0 ≤ scan _ _ _; omega, by show scan _ _ _ ≤ _; omega⟩
theorem better_bounds {b x t : Int} (hb : b = -1 ∨ (t < b ∧ 0 ≤ b ∧ b ≤ 100000)) (hx : x = -1 ∨ (t < x ∧ 0 ≤ x ∧ x ≤ 100000)) : better b x = -1 ∨ (t < better b x ∧ 0 ≤ better b x ∧ better b x ≤ 100000) := by
  unfold better
  split
  · exact hx
  · exact hb
theorem nxtTo_bounds {rs : List CR} (ho : ∀ r, r ∈ rs → Okd r) (t : Int) : nxtTo rs t = -1 ∨ (t < nxtTo rs t ∧ 0 ≤ nxtTo rs t ∧ nxtTo rs t ≤ 100000) := by
  unfold nxtTo
  have : ∀ (b : Int), (b = -1 ∨ (t < b ∧ 0 ≤ b ∧ b ≤ 100000)) → rs.foldl (fun b r => better b (first r t)) b = -1 ∨ (t < rs.foldl (fun b r => better b (first r t)) b ∧ 0 ≤ rs.foldl (fun b r => better b (first r t)) b ∧ rs.foldl (fun b r => better b (first r t)) b ≤ 100000) := by
    induction rs with
    | nil => intro b hb; exact hb
    | cons r rs ih =>
      intro b hb
      simp only [List.foldl_cons]
      exact ih (fun r' hr' => ho r' (by simp [hr'])) _ (better_bounds hb (first_bounds (ho r (by simp)) t))
  exact this (-1) (Or.inl rfl)

end Go.Proofs.YtammejplaeaocaaDoor
