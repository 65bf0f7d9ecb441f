/-
  How a text is cut at a byte, and how a number is read, as plain data: by the program and by the specification. No condition.
-/
import Derived.Laws.RangeAny
import Derived.Lib.SplitLaws
namespace Go.Proofs.YtammejplaeaocaaDoor

/-- These bytes as a text. -/
def bs (l : List UInt8) : ByteArray := ⟨l.toArray⟩
theorem bs_data (s : ByteArray) : bs s.data.toList = s := by obtain ⟨⟨l⟩⟩ := s; rfl
theorem bs_size (l : List UInt8) : (bs l).size = l.length := by simp [bs, ByteArray.size]
theorem bs_inj {l k : List UInt8} (h : bs l = bs k) : l = k := by
  unfold bs at h; injection h with h; injection h
theorem bs_extract (l : List UInt8) (a b : Nat) : (bs l).extract a b = bs ((l.drop a).take (b - a)) := by
  have h := Go.Lib.extract_data (bs l) a b
  rw [← bs_data ((bs l).extract a b), h]
  rfl

/-- A text's bytes from a place on. -/
theorem ba_loop (s : ByteArray) : ∀ (n i : Nat) (r : List UInt8), s.size - i ≤ n → ByteArray.toList.loop s i r = r.reverse ++ s.data.toList.drop i := by
  intro n
  induction n with
  | zero =>
    intro i r h
    rw [ByteArray.toList.loop, if_neg (by omega), List.drop_of_length_le (by have : s.data.toList.length = s.size := Array.length_toList; omega)]
    simp
  | succ n ih =>
    intro i r h
    rw [ByteArray.toList.loop]
    split
    · rename_i hi
      rw [ih _ _ (by omega)]
      have hl : i < s.data.toList.length := by have : s.data.toList.length = s.size := Array.length_toList; omega
      rw [List.drop_eq_getElem_cons hl]
      have e : s.get! i = s.data.toList[i] := by
        show s.data[i]! = _
        rw [getElem!_pos s.data i (by exact hi)]
        simp
      rw [e]; simp
    · rw [List.drop_of_length_le (by have : s.data.toList.length = s.size := Array.length_toList; omega)]
      simp
/-- A text's bytes. -/
theorem ba_toList (s : ByteArray) : s.toList = s.data.toList := by
  have := ba_loop s s.size 0 [] (by omega)
  simpa [ByteArray.toList] using this
theorem bs_toList (l : List UInt8) : (bs l).toList = l := ba_toList (bs l)
theorem bs_same (l : List UInt8) : ((bs l).toList == l) = true := by rw [bs_toList]; simp
theorem bs_other {l k : List UInt8} (h : l ≠ k) : ((bs l).toList == k) = false := by rw [bs_toList]; simp [h]

/-- A text cut at each byte c. -/
def cutL (c : UInt8) : List UInt8 → List (List UInt8)
  | [] => [[]]
  | b :: l => if b = c then [] :: cutL c l else match cutL c l with
    | [] => [[b]]
    | p :: ps => (b :: p) :: ps

theorem cutL_same (c : UInt8) (l : List UInt8) : cutL c (c :: l) = [] :: cutL c l := by simp [cutL]
theorem cutL_other {c b : UInt8} (h : b ≠ c) {l p : List UInt8} {ps : List (List UInt8)} (e : cutL c l = p :: ps) : cutL c (b :: l) = (b :: p) :: ps := by
  simp [cutL, h, e]
theorem cutL_some (c : UInt8) (l : List UInt8) : ∃ p ps, cutL c l = p :: ps := by
  cases l with
  | nil => exact ⟨[], [], rfl⟩
  | cons b l =>
    unfold cutL
    split
    · exact ⟨_, _, rfl⟩
    · split
      · exact ⟨_, _, rfl⟩
      · exact ⟨_, _, rfl⟩

theorem cutL_hit {c : UInt8} : ∀ (pre : List UInt8) (l : List UInt8), (∀ b, b ∈ pre → b ≠ c) → cutL c (pre ++ c :: l) = pre :: cutL c l
  | [], l, _ => cutL_same c l
  | b :: pre, l, h => cutL_other (h b (by simp)) (cutL_hit pre l (fun x hx => h x (by simp [hx])))
theorem cutL_end {c : UInt8} : ∀ (pre : List UInt8), (∀ b, b ∈ pre → b ≠ c) → cutL c pre = [pre]
  | [], _ => rfl
  | b :: pre, h => cutL_other (h b (by simp)) (cutL_end pre (fun x hx => h x (by simp [hx])))

theorem cutL_len (c : UInt8) : ∀ l : List UInt8, (cutL c l).length ≤ l.length + 1
  | [] => by simp [cutL]
  | b :: l => by
    have ih := cutL_len c l
    by_cases h : b = c
    · subst h; rw [cutL_same]; simp; omega
    · obtain ⟨p, ps, e⟩ := cutL_some c l
      rw [cutL_other h e]; rw [e] at ih; simp at ih ⊢; omega

/-- From 'a' on, cut at place i, which is the first such byte. -/
theorem cut_at {c : UInt8} {l : List UInt8} {a i : Nat} (ha : a ≤ i) (hi : l[i]? = some c) (hn : ∀ j, a ≤ j → j < i → l[j]? ≠ some c) :
    cutL c (l.drop a) = (l.drop a).take (i - a) :: cutL c (l.drop (i + 1)) := by
  obtain ⟨hlt, he⟩ := List.getElem?_eq_some_iff.1 hi
  have e : l.drop a = (l.drop a).take (i - a) ++ c :: l.drop (i + 1) := by
    conv => lhs; rw [← List.take_append_drop (i - a) (l.drop a)]
    rw [List.drop_drop, show a + (i - a) = i by omega, List.drop_eq_getElem_cons hlt, he]
  conv => lhs; rw [e]
  refine cutL_hit _ _ fun b hb => ?_
  obtain ⟨k, hk, rfl⟩ := List.getElem_of_mem hb
  have hk' : k < i - a := by simp at hk; omega
  have := hn (a + k) (by omega) (by omega)
  intro e2
  apply this
  rw [← e2]
  simp only [List.getElem_take, List.getElem_drop]
  exact List.getElem?_eq_getElem (by omega)
theorem cut_rest {c : UInt8} {l : List UInt8} {a : Nat} (hn : ∀ j, a ≤ j → j < l.length → l[j]? ≠ some c) : cutL c (l.drop a) = [l.drop a] := by
  refine cutL_end _ fun b hb => ?_
  obtain ⟨k, hk, rfl⟩ := List.getElem_of_mem hb
  simp only [List.length_drop] at hk
  have := hn (a + k) (by omega) (by omega)
  intro e2
  apply this
  rw [← e2]
  simp only [List.getElem_drop]
  exact List.getElem?_eq_getElem (by omega)

open Go.Lib in
theorem splitK_cut (c : UInt8) : ∀ l : List UInt8, splitK [c] 0 (count l [c]) l = cutL c l
  | [] => by rw [count_miss (by simp [index])]; rfl
  | b :: l => by
    have ih := splitK_cut c l
    by_cases h : b = c
    · subst h
      have hix : index (b :: l) [b] = 0 := by rw [index]; simp [List.isPrefixOf]
      rw [count_cons_eq, Nat.add_comm, splitK, if_neg (by simp [hix]), hix, cutL_same, ← ih]
      simp
    · have hp : ([c] : List UInt8).isPrefixOf (b :: l) = false := by simp [List.isPrefixOf, Ne.symm h]
      have hix : index (b :: l) [c] = if index l [c] == -1 then -1 else index l [c] + 1 := by rw [index, hp]; simp
      rw [count_cons_ne b c l h]
      by_cases hm : index l [c] = -1
      · rw [count_miss hm] at ih ⊢
        exact (cutL_other h ih.symm).symm
      · have hge := index_ge l [c]
        obtain ⟨j, hj⟩ : ∃ j : Nat, index l [c] = j := ⟨(index l [c]).toNat, by omega⟩
        have hix' : index (b :: l) [c] = ((j + 1 : Nat) : Int) := by rw [hix, if_neg (fun e => hm (beq_iff_eq.1 e)), hj]; omega
        have hc := count_hit (by simp : ([c] : List UInt8) ≠ []) hj
        rw [hc, Nat.add_comm] at ih ⊢
        rw [splitK, if_neg (by simp [hj]), hj] at ih
        rw [splitK, if_neg (by simp [hix']; omega), hix']
        rw [cutL_other h ih.symm]
        simp

/-- What strings.Split gives at one byte. -/
theorem splitB_cut (c : UInt8) (s : ByteArray) : Go.Lib.splitB ⟨#[c]⟩ 0 (Go.Lib.countB s ⟨#[c]⟩) s = (cutL c s.data.toList).map bs := by
  have h := Go.Lib.splitB_data ⟨#[c]⟩ 0 (Go.Lib.countB s ⟨#[c]⟩) s
  have e : Go.Lib.countB s ⟨#[c]⟩ = Go.Lib.count s.data.toList [c] := rfl
  rw [e] at h ⊢
  have h2 := h.trans (splitK_cut c s.data.toList)
  rw [← h2, List.map_map]
  conv => lhs; rw [← List.map_id (Go.Lib.splitB _ _ _ _)]
  exact List.map_congr_left fun x _ => (bs_data x).symm

/-- The program's reading of figures, behind a number. -/
def digI : List UInt8 → Int → Option Int
  | [], n => some n
  | b :: l, n => if b.toNat < 48 ∨ 57 < b.toNat then none else if 100000 < 10 * n + (b.toNat - 48) then none else digI l (10 * n + (b.toNat - 48))
/-- The program's reading of a number. -/
def numI (l : List UInt8) : Option Int := if l = [] ∨ (1 < l.length ∧ l[0]? = some 48) then none else digI l 0
/-- The specification's reading of figures, behind a number. -/
def digS : List UInt8 → Int → Int
  | [], n => n
  | b :: l, n => if b.toNat < 48 ∨ 57 < b.toNat then -1 else digS l (n * 10 + (b.toNat - 48))
/-- The specification's reading of a number. -/
def numS (l : List UInt8) : Int := if ¬ (1 ≤ l.length ∧ l.length ≤ 6) ∨ (1 < l.length ∧ l[0]? = some 48) then -1 else digS l 0

theorem digS_ge : ∀ (l : List UInt8) (n : Int), 0 ≤ n → digS l n = -1 ∨ n ≤ digS l n
  | [], n, _ => Or.inr (Int.le_refl n)
  | b :: l, n, h => by
    unfold digS
    split
    · exact Or.inl rfl
    · rcases digS_ge l (n * 10 + (b.toNat - 48)) (by omega) with h1 | h1
      · exact Or.inl h1
      · exact Or.inr (by omega)
theorem dig_some : ∀ (l : List UInt8) (n m : Int), 0 ≤ n → n ≤ 100000 → digI l n = some m → digS l n = m ∧ 0 ≤ m ∧ m ≤ 100000
  | [], n, m, h0, h1, h => by
    simp only [digI, Option.some.injEq] at h
    subst h
    exact ⟨rfl, h0, h1⟩
  | b :: l, n, m, h0, h1, h => by
    unfold digI at h
    split at h
    · cases h
    · split at h
      · cases h
      · rename_i hb hn
        have := dig_some l _ m (by omega) (by omega) h
        unfold digS
        rw [if_neg hb, show n * 10 + ((b.toNat : Int) - 48) = 10 * n + (b.toNat - 48) by omega]
        exact this
theorem dig_none : ∀ (l : List UInt8) (n : Int), 0 ≤ n → digI l n = none → digS l n = -1 ∨ 100000 < digS l n
  | [], n, h0, h => by simp [digI] at h
  | b :: l, n, h0, h => by
    unfold digI at h
    unfold digS
    split at h
    · rename_i hb
      rw [if_pos hb]
      exact Or.inl rfl
    · rename_i hb
      rw [if_neg hb, show n * 10 + ((b.toNat : Int) - 48) = 10 * n + (b.toNat - 48) by omega]
      split at h
      · rcases digS_ge l (10 * n + (b.toNat - 48)) (by omega) with h1 | h1
        · exact Or.inl h1
        · exact Or.inr (by omega)
      · exact dig_none l _ (by omega) h
/-- So many figures behind a number above 0 are at least so great. -/
theorem dig_len : ∀ (l : List UInt8) (n m : Int) (k : Nat), 10 ^ k ≤ n → digI l n = some m → (10 : Int) ^ (k + l.length) ≤ m
  | [], n, m, k, hk, h => by simp only [digI, Option.some.injEq] at h; subst h; simpa using hk
  | b :: l, n, m, k, hk, h => by
    unfold digI at h
    split at h
    · cases h
    · split at h
      · cases h
      · have := dig_len l _ m (k + 1) (by rw [Int.pow_succ]; omega) h
        rw [List.length_cons, show k + (l.length + 1) = k + 1 + l.length by omega]
        exact this
theorem num_some {l : List UInt8} {m : Int} (h : numI l = some m) : numS l = m ∧ 0 ≤ m ∧ m ≤ 100000 := by
  unfold numI at h
  split at h
  · cases h
  · rename_i hc
    obtain ⟨h1, h2⟩ := dig_some l 0 m (by omega) (by omega) h |>.imp id id
    refine ⟨?_, h2⟩
    unfold numS
    rw [if_neg, h1]
    intro h3
    rcases h3 with h3 | h3
    · apply h3
      cases l with
      | nil => exact absurd (Or.inl rfl) hc
      | cons b l =>
        refine ⟨by simp, ?_⟩
        rcases Nat.lt_or_ge 6 (b :: l).length with hl | hl
        · exfalso
          have hb : b ≠ 48 := fun e => hc (Or.inr ⟨by omega, by rw [e]; rfl⟩)
          have hb2 : b.toNat ≠ 48 := fun e => hb (UInt8.toNat_inj.1 (by simpa using e))
          unfold digI at h
          split at h
          · cases h
          · split at h
            · cases h
            · have hp := dig_len l _ m 0 (by simp; omega) h
              have h10 : (10 : Int) ^ 6 ≤ 10 ^ (0 + l.length) := by have := Nat.pow_le_pow_right (n := 10) (by omega) (show 6 ≤ 0 + l.length by simp at hl; omega); exact_mod_cast this
              have : (10 : Int) ^ 6 = 1000000 := by decide
              omega
        · exact hl
    · exact hc (Or.inr h3)
theorem num_none {l : List UInt8} (h : numI l = none) : numS l = -1 ∨ 100000 < numS l := by
  unfold numI at h
  unfold numS
  split at h
  · rename_i hc
    rw [if_pos]
    · exact Or.inl rfl
    · rcases hc with rfl | hc
      · exact Or.inl (by simp)
      · exact Or.inr hc
  · split
    · exact Or.inl rfl
    · exact dig_none l 0 (by omega) h
theorem digS_lt : ∀ (l : List UInt8) (n : Int), 0 ≤ n → -1 ≤ digS l n ∧ digS l n < (n + 1) * 10 ^ l.length
  | [], n, h => by simp [digS]; omega
  | b :: l, n, h => by
    have hp : (0 : Int) < 10 ^ l.length := Int.pow_pos (by omega)
    have hp2 : (0 : Int) < (n + 1) * 10 ^ (b :: l).length := Int.mul_pos (by omega) (Int.pow_pos (by omega))
    unfold digS
    split
    · omega
    · have ih := digS_lt l (n * 10 + (b.toNat - 48)) (by omega)
      refine ⟨ih.1, Int.lt_of_lt_of_le ih.2 ?_⟩
      rw [List.length_cons, Int.pow_succ, Int.mul_comm (10 ^ l.length) 10, ← Int.mul_assoc]
      exact Int.mul_le_mul_of_nonneg_right (by omega) (by omega)
theorem numS_in (l : List UInt8) : -1 ≤ numS l ∧ numS l ≤ 999999 := by
  unfold numS
  split
  · omega
  · rename_i h
    have h1 := digS_lt l 0 (by omega)
    have h2 : l.length ≤ 6 := by omega
    have h10 : (10 : Int) ^ l.length ≤ 10 ^ 6 := by have := Nat.pow_le_pow_right (n := 10) (by omega) h2; exact_mod_cast this
    have : (10 : Int) ^ 6 = 1000000 := by decide
    omega

/-- A byte that a rune takes beside its first is none below 128. -/
theorem decode_more (s : ByteArray) (pos : Nat) (h : pos < s.size) : 1 ≤ (Utf8.decode s pos).2 ∧ pos + (Utf8.decode s pos).2 ≤ s.size ∧ ∀ k, 1 ≤ k → k < (Utf8.decode s pos).2 → 128 ≤ (s.get! (pos + k)).toNat := by
  simp only [Utf8.decode]
  repeat' split
  all_goals simp_all
  all_goals try omega
  all_goals refine ⟨by omega, ?_⟩
  all_goals intro k h1 h2
  all_goals first | omega | skip
  all_goals rcases (show k = 1 ∨ k = 2 ∨ k = 3 by omega) with rfl | rfl | rfl
  all_goals omega

end Go.Proofs.YtammejplaeaocaaDoor
