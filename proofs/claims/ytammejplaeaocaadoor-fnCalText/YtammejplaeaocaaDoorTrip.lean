/-
  Rules that are written and read again, as plain data: what is written is read, and what is read is written so. No condition.
-/
import Derived.Test.YtammejplaeaocaaDoorReadR
import Derived.Lib.ItoaNum
namespace Go.Proofs.YtammejplaeaocaaDoor

theorem digI_app : ∀ (l k : List UInt8) (n : Int), digI (l ++ k) n = match digI l n with
    | none => none
    | some m => digI k m
  | [], k, n => rfl
  | b :: l, k, n => by
    rw [List.cons_append, digI, digI]
    split
    · rfl
    · split
      · rfl
      · exact digI_app l k _

theorem u8_of (b : UInt8) : UInt8.ofNat b.toNat = b := by simp
theorem digI_one (b : UInt8) (n m : Int) (h : digI [b] n = some m) : 48 ≤ b.toNat ∧ b.toNat ≤ 57 ∧ m = 10 * n + (b.toNat - 48) := by
  unfold digI at h
  split at h
  · cases h
  · split at h
    · cases h
    · simp only [digI, Option.some.injEq] at h
      omega
theorem digI_fig (u : Nat) (n : Int) (hu : u < 10) (h : 10 * n + u ≤ 100000) : digI [UInt8.ofNat (48 + u)] n = some (10 * n + u) := by
  have e : (UInt8.ofNat (48 + u)).toNat = 48 + u := by rw [UInt8.toNat_ofNat']; omega
  unfold digI
  rw [e, if_neg (by omega), if_neg (by omega), digI]
  congr 1; omega
/-- A number's figures. -/
def dg (n : Int) : List UInt8 := Lib.decDigits n.toNat
theorem dec_big {u : Nat} (h : ¬ u < 10) : Lib.decDigits u = Lib.decDigits (u / 10) ++ [UInt8.ofNat (48 + u % 10)] := by rw [Lib.decDigits, dif_neg h]
theorem dec_small {u : Nat} (h : u < 10) : Lib.decDigits u = [UInt8.ofNat (48 + u)] := by rw [Lib.decDigits, dif_pos h]
theorem digI_dec (u : Nat) (h : u ≤ 100000) : digI (Lib.decDigits u) 0 = some (u : Int) := by
  induction u using Nat.strongRecOn with
  | _ u ih =>
    by_cases h10 : u < 10
    · rw [dec_small h10, digI_fig u 0 h10 (by omega)]; simp
    · rw [dec_big h10, digI_app, ih (u / 10) (by omega) (by omega)]
      show digI [UInt8.ofNat (48 + u % 10)] ((u / 10 : Nat) : Int) = _
      rw [digI_fig (u % 10) _ (by omega) (by omega)]
      congr 1; omega
theorem dec_ne (u : Nat) : Lib.decDigits u ≠ [] := by
  by_cases h10 : u < 10
  · rw [dec_small h10]; simp
  · rw [dec_big h10]; simp
theorem dec_head (u : Nat) (h : 1 ≤ u) : (Lib.decDigits u)[0]? ≠ some 48 := by
  induction u using Nat.strongRecOn with
  | _ u ih =>
    by_cases h10 : u < 10
    · rw [dec_small h10]
      intro e
      simp only [List.getElem?_cons_zero, Option.some.injEq] at e
      have := congrArg UInt8.toNat e
      rw [UInt8.toNat_ofNat'] at this
      have h48 : (48 : UInt8).toNat = 48 := rfl
      omega
    · rw [dec_big h10, List.getElem?_append_left (by have := dec_ne (u / 10); have := List.length_pos_iff.2 this; omega)]
      exact ih (u / 10) (by omega) (by omega)
theorem dec_fig (u : Nat) : ∀ b, b ∈ Lib.decDigits u → 48 ≤ b.toNat ∧ b.toNat ≤ 57 := by
  induction u using Nat.strongRecOn with
  | _ u ih =>
    by_cases h10 : u < 10
    · rw [dec_small h10]
      intro b hb
      simp only [List.mem_singleton] at hb
      subst hb
      rw [UInt8.toNat_ofNat']; omega
    · rw [dec_big h10]
      intro b hb
      rcases List.mem_append.1 hb with hb | hb
      · exact ih (u / 10) (by omega) b hb
      · simp only [List.mem_singleton] at hb
        subst hb
        rw [UInt8.toNat_ofNat']; omega
/-- A number that is written is read. -/
theorem numI_dg {n : Int} (h0 : 0 ≤ n) (h1 : n ≤ 100000) : numI (dg n) = some n := by
  unfold numI dg
  rw [if_neg]
  · rw [digI_dec _ (by omega)]; congr 1; omega
  · rintro (h | ⟨h, h2⟩)
    · exact dec_ne _ h
    · rcases Nat.eq_zero_or_pos n.toNat with hz | hz
      · rw [hz, dec_small (by omega)] at h; simp at h
      · exact dec_head _ hz h2
theorem digI_back : ∀ (k : Nat) (l : List UInt8) (m : Int), l.length = k → l ≠ [] → (1 < l.length → l[0]? ≠ some 48) → digI l 0 = some m → 0 ≤ m ∧ l = dg m := by
  intro k
  induction k with
  | zero => intro l m hk hn; exact absurd (List.length_eq_zero_iff.1 hk) hn
  | succ k ih =>
    intro l m hk hn hz h
    obtain ⟨l', b, rfl⟩ : ∃ l' b, l = l' ++ [b] := ⟨l.dropLast, l.getLast hn, (List.dropLast_concat_getLast hn).symm⟩
    rw [List.length_append, List.length_singleton] at hk hz
    by_cases hl : l' = []
    · subst hl
      obtain ⟨h1, h2, h3⟩ := digI_one b 0 m h
      refine ⟨by omega, ?_⟩
      unfold dg
      rw [dec_small (by omega), show 48 + m.toNat = b.toNat by omega, u8_of]; rfl
    · have hpos := List.length_pos_iff.2 hl
      have hz' : l'[0]? ≠ some 48 := by
        have := hz (by omega)
        rwa [List.getElem?_append_left hpos] at this
      rw [digI_app] at h
      cases h1 : digI l' 0 with
      | none => simp [h1] at h
      | some m' =>
        simp only [h1] at h
        obtain ⟨a1, a2, a3⟩ := digI_one b m' m h
        obtain ⟨h0, he⟩ := ih l' m' (by omega) hl (fun _ => hz') h1
        have hm : 1 ≤ m' := by
          rcases Int.le_iff_lt_or_eq.1 h0 with hlt | heq
          · omega
          · exfalso
            apply hz'
            rw [he, ← heq]
            unfold dg
            rw [dec_small (by simp)]; rfl
        refine ⟨by omega, ?_⟩
        rw [he]
        unfold dg
        rw [dec_big (u := m.toNat) (by omega), show m.toNat / 10 = m'.toNat by omega, show 48 + m.toNat % 10 = b.toNat by omega, u8_of]
/-- A number that is read is written so. -/
theorem numI_back {l : List UInt8} {m : Int} (h : numI l = some m) : l = dg m := by
  unfold numI at h
  split at h
  · cases h
  · rename_i hc
    exact (digI_back l.length l m rfl (fun e => hc (Or.inl e)) (fun h1 h2 => hc (Or.inr ⟨h1, h2⟩)) h).2
theorem dg_not (n : Int) (c : UInt8) (hc : c.toNat < 48) : ∀ b, b ∈ dg n → b ≠ c := by
  intro b hb e
  have := dec_fig _ b hb
  subst e; omega

/-- Words, this byte between them. -/
def joinL (c : UInt8) : List (List UInt8) → List UInt8
  | [] => []
  | [w] => w
  | w :: v :: ws => w ++ c :: joinL c (v :: ws)
theorem cut_join (c : UInt8) : ∀ (ws : List (List UInt8)), ws ≠ [] → (∀ w, w ∈ ws → ∀ b, b ∈ w → b ≠ c) → cutL c (joinL c ws) = ws
  | [], h, _ => absurd rfl h
  | [w], _, h => cutL_end w (h w (by simp))
  | w :: v :: ws, _, h => by
    rw [joinL, cutL_hit w _ (h w (by simp)), cut_join c (v :: ws) (by simp) (fun x hx => h x (by simp only [List.mem_cons] at hx ⊢; exact Or.inr hx))]
theorem join_cons (c b : UInt8) (p : List UInt8) (ps : List (List UInt8)) : joinL c ((b :: p) :: ps) = b :: joinL c (p :: ps) := by
  cases ps <;> rfl
theorem join_cut (c : UInt8) : ∀ (l : List UInt8), joinL c (cutL c l) = l
  | [] => rfl
  | b :: l => by
    have ih := join_cut c l
    obtain ⟨p, ps, e⟩ := cutL_some c l
    by_cases h : b = c
    · subst h
      rw [cutL_same, e, joinL, List.nil_append, ← e, ih]
    · rw [cutL_other h e, join_cons, ← e, ih]
theorem join_app (c : UInt8) : ∀ (ws vs : List (List UInt8)), ws ≠ [] → joinL c (ws ++ vs) = joinL c ws ++ vs.flatMap (fun v => c :: v)
  | [], _, h => absurd rfl h
  | [w], [], _ => by simp [joinL]
  | [w], v :: vs, _ => by
    have ih := join_app c [v] vs (by simp)
    show w ++ c :: joinL c ([v] ++ vs) = _
    rw [ih]; simp [joinL]
  | w :: v :: ws, vs, _ => by
    have ih := join_app c (v :: ws) vs (by simp)
    show w ++ c :: joinL c ((v :: ws) ++ vs) = _
    rw [ih]; simp [joinL]
theorem join_lines (c : UInt8) : ∀ (ls : List (List UInt8)), joinL c (ls ++ [[]]) = ls.flatMap (fun l => l ++ [c])
  | [] => rfl
  | [l] => by simp [joinL]
  | l :: k :: ls => by
    have ih := join_lines c (k :: ls)
    show l ++ c :: joinL c ((k :: ls) ++ [[]]) = _
    rw [ih]; simp

/-- What is left out, as words. -/
def tailW : List Int → List (List UInt8)
  | [] => []
  | x :: l => wBut :: (x :: l).map dg
/-- A rule's words. -/
def wordsOf (r : CR) : List (List UInt8) := wEvery :: dg r.e :: wAt :: dg r.a :: wFrom :: dg r.f :: wTo :: dg r.t :: tailW r.b
/-- A rule's line. -/
def lineL (r : CR) : List UInt8 := joinL 32 (wordsOf r)

theorem numsI_dg : ∀ (l : List Int), (∀ x, x ∈ l → 0 ≤ x ∧ x ≤ 100000) → numsI (l.map dg) = some l
  | [], _ => rfl
  | x :: l, h => by
    have h1 := h x (by simp)
    have h2 := numsI_dg l (fun y hy => h y (by simp [hy]))
    simp only [List.map_cons, numsI, numI_dg h1.1 h1.2, h2]
theorem numsI_back : ∀ (ws : List (List UInt8)) (ns : List Int), numsI ws = some ns → ws = ns.map dg
  | [], ns, h => by simp only [numsI, Option.some.injEq] at h; subst h; rfl
  | w :: ws, ns, h => by
    unfold numsI at h
    cases hv : numI w with
    | none => simp [hv] at h
    | some m =>
      cases hs : numsI ws with
      | none => simp [hv, hs] at h
      | some ms =>
        simp only [hv, hs, Option.some.injEq] at h
        subst h
        rw [List.map_cons, ← numI_back hv, ← numsI_back ws ms hs]
theorem ruleI_words {r : CR} (hb : ruleB r = true) : ruleI (wordsOf r) = some r := by
  obtain ⟨⟨a1, a2⟩, ⟨b1, b2⟩, ⟨c1, c2⟩, ⟨d1, d2⟩⟩ := ruleB_head hb
  have hbut := fun x => @ruleB_but _ hb x
  have n1 := numI_dg a1 a2
  have n3 := numI_dg b1 b2
  have n5 := numI_dg c1 c2
  have n7 := numI_dg d1 d2
  have hbu : butI (tailW r.b) = some r.b := by
    cases hr : r.b with
    | nil => rfl
    | cons x l =>
      have := numsI_dg (x :: l) (by rw [← hr]; exact hbut)
      show (if wBut ≠ wBut ∨ (x :: l).map dg = [] then none else numsI ((x :: l).map dg)) = _
      rw [if_neg (by simp), this]
  unfold ruleI
  rw [if_neg (by simp [wordsOf])]
  simp only [wordsOf, headI, nameAt, Nat.mul_zero, Nat.mul_one, Nat.reduceMul, Nat.reduceAdd, List.getElem?_cons_succ, List.getElem?_cons_zero, Option.getD_some, if_true, n1, n3, n5, n7, List.nil_append, List.cons_append, List.drop_succ_cons, List.drop_zero, hbu]
theorem butI_back {ws : List (List UInt8)} {b : List Int} (h : butI ws = some b) : ws = tailW b := by
  cases ws with
  | nil => simp only [butI, Option.some.injEq] at h; subst h; rfl
  | cons w ws =>
    change (if w ≠ wBut ∨ ws = [] then none else numsI ws) = some b at h
    split at h
    · cases h
    · rename_i hn
      have hw : w = wBut := Decidable.byContradiction fun e => hn (Or.inl e)
      have hne : ws ≠ [] := fun e => hn (Or.inr e)
      have hs := numsI_back ws b h
      subst hw
      cases b with
      | nil => exact absurd hs hne
      | cons x l => rw [hs]; rfl
theorem ruleI_back {ws : List (List UInt8)} {r : CR} (h : ruleI ws = some r) : ws = wordsOf r := by
  unfold ruleI at h
  split at h
  · cases h
  · rename_i h8
    obtain ⟨w0, w1, w2, w3, w4, w5, w6, w7, rest, rfl⟩ := eight (by omega : 8 ≤ ws.length)
    simp only [headI, nameAt, Nat.mul_zero, Nat.mul_one, Nat.reduceMul, Nat.reduceAdd, List.getElem?_cons_succ, List.getElem?_cons_zero, Option.getD_some, List.nil_append, List.drop_succ_cons, List.drop_zero] at h
    by_cases e0 : w0 = wEvery
    · cases n1 : numI w1 with
      | none => simp [e0, n1] at h
      | some m1 =>
        simp only [e0, n1, if_true] at h
        by_cases e2 : w2 = wAt
        · cases n3 : numI w3 with
          | none => simp [e2, n3] at h
          | some m3 =>
            simp only [e2, n3, if_true] at h
            by_cases e4 : w4 = wFrom
            · cases n5 : numI w5 with
              | none => simp [e4, n5] at h
              | some m5 =>
                simp only [e4, n5, if_true] at h
                by_cases e6 : w6 = wTo
                · cases n7 : numI w7 with
                  | none => simp [e6, n7] at h
                  | some m7 =>
                    simp only [e6, n7, if_true] at h
                    cases hbu : butI rest with
                    | none => simp [hbu] at h
                    | some b =>
                      simp only [hbu, Option.some.injEq, List.cons_append, List.nil_append, List.getElem?_cons_succ, List.getElem?_cons_zero, Option.getD_some] at h
                      subst h e0 e2 e4 e6
                      rw [numI_back n1, numI_back n3, numI_back n5, numI_back n7, butI_back hbu]
                      rfl
                · simp [e6] at h
            · simp [e4] at h
        · simp [e2] at h
    · simp [e0] at h

theorem words_not (c : UInt8) (hc : c.toNat < 48) (r : CR) : ∀ w, w ∈ wordsOf r → ∀ b, b ∈ w → b ≠ c := by
  have hf : ∀ (w : List UInt8), w.all (fun b => decide (48 ≤ b.toNat)) = true → ∀ b, b ∈ w → b ≠ c := fun w hw b hb e => by
    have := List.all_eq_true.1 hw b hb
    simp only [decide_eq_true_eq] at this
    subst e; omega
  intro w hw
  simp only [wordsOf, List.mem_cons] at hw
  rcases hw with rfl | rfl | rfl | rfl | rfl | rfl | rfl | rfl | hw
  · exact hf _ (by decide)
  · exact dg_not _ c hc
  · exact hf _ (by decide)
  · exact dg_not _ c hc
  · exact hf _ (by decide)
  · exact dg_not _ c hc
  · exact hf _ (by decide)
  · exact dg_not _ c hc
  · cases hb : r.b with
    | nil => rw [hb] at hw; simp [tailW] at hw
    | cons x l =>
      rw [hb] at hw
      simp only [tailW, List.mem_cons] at hw
      rcases hw with rfl | hw
      · exact hf _ (by decide)
      · obtain ⟨y, _, rfl⟩ := List.mem_map.1 hw
        exact dg_not _ c hc
theorem join_not (c d : UInt8) (hd : d ≠ c) : ∀ (ws : List (List UInt8)), (∀ w, w ∈ ws → ∀ b, b ∈ w → b ≠ c) → ∀ b, b ∈ joinL d ws → b ≠ c
  | [], _, b, hb => by simp [joinL] at hb
  | [w], h, b, hb => h w (by simp) b hb
  | w :: v :: ws, h, b, hb => by
    simp only [joinL, List.mem_append, List.mem_cons] at hb
    rcases hb with hb | rfl | hb
    · exact h w (by simp) b hb
    · exact hd
    · exact join_not c d hd (v :: ws) (fun x hx => h x (by simp only [List.mem_cons] at hx ⊢; exact Or.inr hx)) b hb
theorem ruleI_line {r : CR} (hb : ruleB r = true) : ruleI (cutL 32 (lineL r)) = some r := by
  unfold lineL
  rw [cut_join 32 _ (by simp [wordsOf]) (words_not 32 (by decide) r)]
  exact ruleI_words hb
theorem line_back {l : List UInt8} {r : CR} (h : ruleI (cutL 32 l) = some r) : l = lineL r := by
  unfold lineL
  rw [← ruleI_back h, join_cut]

/-- Rules as a text. -/
def textL (rs : List CR) : List UInt8 := rs.flatMap (fun r => lineL r ++ [10])
theorem cut_text : ∀ (rs : List CR), cutL 10 (textL rs) = rs.map lineL ++ [[]]
  | [] => rfl
  | r :: rs => by
    have e : textL (r :: rs) = lineL r ++ 10 :: textL rs := by simp [textL]
    rw [e, cutL_hit (lineL r) _ (join_not 10 32 (by decide) _ (words_not 10 (by decide) r)), cut_text rs]
    rfl
theorem allI_lines : ∀ (rs : List CR), (∀ r, r ∈ rs → ruleB r = true) → allI (rs.map lineL) = some rs
  | [], _ => rfl
  | r :: rs, h => by
    have h1 := ruleI_line (h r (by simp))
    have h2 := allI_lines rs (fun q hq => h q (by simp [hq]))
    simp only [List.map_cons, allI, h1, h2]
theorem allI_back : ∀ (ls : List (List UInt8)) (rs : List CR), allI ls = some rs → ls = rs.map lineL
  | [], rs, h => by simp only [allI, Option.some.injEq] at h; subst h; rfl
  | l :: ls, rs, h => by
    unfold allI at h
    cases h1 : ruleI (cutL 32 l) with
    | none => simp [h1] at h
    | some r =>
      cases h2 : allI ls with
      | none => simp [h1, h2] at h
      | some qs =>
        simp only [h1, h2, Option.some.injEq] at h
        subst h
        rw [List.map_cons, ← line_back h1, ← allI_back ls qs h2]
/-- What is written is read. -/
theorem read_text {rs : List CR} (hb : rulesB rs = true) (hl : (textL rs).length ≤ 800) : readI (textL rs) = some rs := by
  have hr : ∀ r, r ∈ rs → ruleB r = true := by unfold rulesB at hb; simp only [Bool.and_eq_true] at hb; exact List.all_eq_true.1 hb.2
  unfold readI
  rw [if_neg (by omega), cut_text, List.dropLast_concat, allI_lines rs hr]
  simp [hb]
/-- What is read is written so. -/
theorem text_read {t : List UInt8} {rs : List CR} (h : readI t = some rs) : t = textL rs ∧ rulesB rs = true := by
  unfold readI at h
  split at h
  · cases h
  · cases ha : allI (cutL 10 t).dropLast with
    | none => simp [ha] at h
    | some qs =>
      simp only [ha] at h
      split at h
      · rename_i hc
        simp only [Option.some.injEq] at h
        subst h
        refine ⟨?_, hc.2⟩
        obtain ⟨p, ps, e⟩ := cutL_some 10 t
        have hne : cutL 10 t ≠ [] := by rw [e]; simp
        have hlast : (cutL 10 t).getLast hne = [] := by
          have := hc.1
          rwa [List.getLast?_eq_some_getLast hne, Option.getD_some] at this
        have hs : cutL 10 t = (cutL 10 t).dropLast ++ [[]] := by
          conv => lhs; rw [← List.dropLast_concat_getLast hne, hlast]
        rw [← join_cut 10 t, hs, allI_back _ _ ha, join_lines]
        simp [textL, List.flatMap_map]
      · cases h
theorem read_nil : readI [] = none := by
  have : rulesB [] = false := by decide
  simp [readI, cutL, allI, this]

end Go.Proofs.YtammejplaeaocaaDoor
