/-
  How a rule and rules are read, as plain data: by the program and by the specification; both read the same. No condition.
-/
import Derived.Test.YtammejplaeaocaaDoorReadM
import Derived.Test.YtammejplaeaocaaDoorSpec1
namespace Go.Proofs.YtammejplaeaocaaDoor

abbrev wEvery : List UInt8 := [101, 118, 101, 114, 121]
abbrev wAt : List UInt8 := [97, 116]
abbrev wFrom : List UInt8 := [102, 114, 111, 109]
abbrev wTo : List UInt8 := [116, 111]
abbrev wBut : List UInt8 := [98, 117, 116]

/-- The program's reading of numbers, one behind the other. -/
def numsI : List (List UInt8) → Option (List Int)
  | [] => some []
  | w :: ws => match numI w with
    | none => none
    | some n => match numsI ws with
      | none => none
      | some ns => some (n :: ns)
theorem numsI_snoc : ∀ (ws : List (List UInt8)) (w : List UInt8) (ns : List Int) (n : Int), numsI ws = some ns → numI w = some n → numsI (ws ++ [w]) = some (ns ++ [n])
  | [], w, ns, n, h, hw => by simp only [numsI, Option.some.injEq] at h; subst h; simp [numsI, hw]
  | v :: ws, w, ns, n, h, hw => by
    unfold numsI at h
    rw [List.cons_append, numsI]
    cases hv : numI v with
    | none => simp [hv] at h
    | some m =>
      cases hs : numsI ws with
      | none => simp [hv, hs] at h
      | some ms =>
        simp only [hv, hs, Option.some.injEq] at h
        subst h
        simp [numsI_snoc ws w ms n hs hw]
theorem numsI_none : ∀ (ws : List (List UInt8)) (k : Nat) (w : List UInt8), ws[k]? = some w → numI w = none → numsI ws = none
  | [], k, w, h, _ => by simp at h
  | v :: ws, 0, w, h, hw => by simp only [List.getElem?_cons_zero, Option.some.injEq] at h; subst h; simp [numsI, hw]
  | v :: ws, k + 1, w, h, hw => by
    have := numsI_none ws k w (by simpa using h) hw
    unfold numsI
    cases numI v with
    | none => rfl
    | some m => simp [this]

/-- The program's reading of what is left out. -/
def butI : List (List UInt8) → Option (List Int)
  | [] => some []
  | w :: ws => if w ≠ wBut ∨ ws = [] then none else numsI ws

/-- The names of a rule's four numbers. -/
def nameAt (k : Nat) : List UInt8 := ([wEvery, wAt, wFrom, wTo] : List (List UInt8))[k]?.getD []
/-- The program's reading of the first k of a rule's numbers. -/
def headI (ws : List (List UInt8)) : Nat → Option (List Int)
  | 0 => some []
  | k + 1 => match headI ws k with
    | none => none
    | some ns => if ws[2 * k]?.getD [] = nameAt k then (match numI (ws[2 * k + 1]?.getD []) with
      | none => none
      | some n => some (ns ++ [n])) else none
theorem headI_up {ws : List (List UInt8)} {k : Nat} (h : headI ws k = none) : ∀ j, k ≤ j → headI ws j = none := by
  intro j hj
  induction j with
  | zero => obtain rfl : k = 0 := by omega
            exact h
  | succ j ih =>
    by_cases e : k = j + 1
    · subst e; exact h
    · unfold headI; rw [ih (by omega)]
theorem headI_len {ws : List (List UInt8)} : ∀ {k : Nat} {ns : List Int}, headI ws k = some ns → ns.length = k
  | 0, ns, h => by simp only [headI, Option.some.injEq] at h; subst h; rfl
  | k + 1, ns, h => by
    unfold headI at h
    cases h1 : headI ws k with
    | none => simp [h1] at h
    | some ms =>
      simp only [h1] at h
      split at h
      · split at h
        · cases h
        · simp only [Option.some.injEq] at h; subst h; simp [headI_len h1]
      · cases h

/-- The program's reading of a rule's words. -/
def ruleI (ws : List (List UInt8)) : Option CR :=
  if ws.length < 8 then none else match headI ws 4 with
    | none => none
    | some ns => match butI (ws.drop 8) with
      | none => none
      | some b => some ⟨ns[0]?.getD 0, ns[1]?.getD 0, ns[2]?.getD 0, ns[3]?.getD 0, b⟩

/-- The form of a rule's words, as the specification asks it. -/
def formS (ws : List (List UInt8)) : Bool :=
  decide (8 ≤ ws.length) && decide (ws[0]?.getD [] = wEvery) && decide (ws[2]?.getD [] = wAt) && decide (ws[4]?.getD [] = wFrom) && decide (ws[6]?.getD [] = wTo) && !(decide (8 < ws.length) && (decide (ws[8]?.getD [] ≠ wBut) || decide (ws.length = 9)))
/-- The rule of these words, as the specification reads it. -/
def ruleN (ws : List (List UInt8)) : CR := ⟨numS (ws[1]?.getD []), numS (ws[3]?.getD []), numS (ws[5]?.getD []), numS (ws[7]?.getD []), (ws.drop 9).map numS⟩
/-- The specification's reading of a rule's words. -/
def ruleS (ws : List (List UInt8)) : Option CR := if formS ws && ruleB (ruleN ws) then some (ruleN ws) else none

theorem ruleB_head {r : CR} (h : ruleB r = true) : (0 ≤ r.e ∧ r.e ≤ 100000) ∧ (0 ≤ r.a ∧ r.a ≤ 100000) ∧ (0 ≤ r.f ∧ r.f ≤ 100000) ∧ (0 ≤ r.t ∧ r.t ≤ 100000) := by
  unfold ruleB headB at h
  simp only [Bool.and_eq_true, inB_iff] at h
  omega
theorem ruleB_but {r : CR} (h : ruleB r = true) {x : Int} (hx : x ∈ r.b) : 0 ≤ x ∧ x ≤ 100000 := by
  unfold ruleB at h
  simp only [Bool.and_eq_true] at h
  obtain ⟨i, hi, rfl⟩ := List.getElem_of_mem hx
  have := butB_at h.2 hi
  unfold butAt at this
  rw [Bool.and_eq_true, inB_iff, List.getElem?_eq_getElem hi] at this
  exact this.1
theorem numS_of {l : List UInt8} (h0 : 0 ≤ numS l) (h1 : numS l ≤ 100000) : numI l = some (numS l) := by
  cases h : numI l with
  | none => rcases num_none h with h2 | h2 <;> omega
  | some m => rw [(num_some h).1]
theorem numsI_map : ∀ (ws : List (List UInt8)), (∀ x, x ∈ ws.map numS → 0 ≤ x ∧ x ≤ 100000) → numsI ws = some (ws.map numS)
  | [], _ => rfl
  | w :: ws, h => by
    have h1 := h (numS w) (by simp)
    have h2 := numsI_map ws (fun x hx => h x (by simp at hx ⊢; exact Or.inr hx))
    simp [numsI, numS_of h1.1 h1.2, h2]
theorem numsI_some : ∀ (ws : List (List UInt8)) (ns : List Int), numsI ws = some ns → ns = ws.map numS
  | [], ns, h => by simp only [numsI, Option.some.injEq] at h; subst h; rfl
  | w :: ws, ns, h => by
    unfold numsI at h
    cases hv : numI w with
    | none => simp [hv] at h
    | some m =>
      cases hs : numsI ws with
      | none => simp [hv, hs] at h
      | some ms =>
        simp only [hv, hs, Option.some.injEq] at h
        subst h
        rw [numsI_some ws ms hs, List.map_cons, (num_some hv).1]

theorem eight {ws : List (List UInt8)} (h : 8 ≤ ws.length) : ∃ w0 w1 w2 w3 w4 w5 w6 w7 rest, ws = w0 :: w1 :: w2 :: w3 :: w4 :: w5 :: w6 :: w7 :: rest := by
  match ws, h with
  | w0 :: w1 :: w2 :: w3 :: w4 :: w5 :: w6 :: w7 :: rest, _ => exact ⟨w0, w1, w2, w3, w4, w5, w6, w7, rest, rfl⟩

/-- What the specification reads the program reads. -/
theorem rule_there {ws : List (List UInt8)} {r : CR} (h : ruleS ws = some r) : ruleI ws = some r ∧ ruleB r = true := by
  unfold ruleS at h
  split at h
  · rename_i hc
    simp only [Option.some.injEq] at h
    subst h
    rw [Bool.and_eq_true] at hc
    obtain ⟨hf, hb⟩ := hc
    refine ⟨?_, hb⟩
    unfold formS at hf
    simp only [Bool.and_eq_true, decide_eq_true_eq] at hf
    obtain ⟨⟨⟨⟨⟨h8, e0⟩, e2⟩, e4⟩, e6⟩, hr⟩ := hf
    obtain ⟨w0, w1, w2, w3, w4, w5, w6, w7, rest, rfl⟩ := eight h8
    obtain ⟨⟨a1, a2⟩, ⟨b1, b2⟩, ⟨c1, c2⟩, ⟨d1, d2⟩⟩ := ruleB_head hb
    have hbut := fun x => @ruleB_but _ hb x
    simp only [ruleN, List.getElem?_cons_succ, List.getElem?_cons_zero, Option.getD_some, List.drop_succ_cons] at a1 a2 b1 b2 c1 c2 d1 d2 e0 e2 e4 e6 hr hbut
    subst e0 e2 e4 e6
    have n1 := numS_of a1 a2
    have n3 := numS_of b1 b2
    have n5 := numS_of c1 c2
    have n7 := numS_of d1 d2
    unfold ruleI
    rw [if_neg (by simp)]
    simp only [headI, nameAt, Nat.mul_zero, Nat.mul_one, Nat.reduceMul, Nat.reduceAdd, List.getElem?_cons_succ, List.getElem?_cons_zero, Option.getD_some, if_true, n1, n3, n5, n7, List.nil_append, List.cons_append, List.drop_succ_cons, List.drop_zero, ruleN]
    cases rest with
    | nil => simp [butI]
    | cons w rest =>
      have hr2 : w = wBut ∧ rest ≠ [] := by
        simp only [List.length_cons, List.getElem?_cons_zero, Option.getD_some] at hr
        refine ⟨?_, ?_⟩
        · rcases Decidable.em (w = wBut) with h | h
          · exact h
          · simp [h] at hr
        · intro e; subst e; simp at hr
      simp only [List.drop_succ_cons, List.drop_zero] at hbut
      simp only [butI, hr2.1, hr2.2, ne_eq, not_true, or_self, if_false, numsI_map rest (fun x hx => hbut x hx), List.drop_succ_cons, List.drop_zero]
  · cases h

/-- What the program reads, and is ok, the specification reads. -/
theorem rule_back {ws : List (List UInt8)} {r : CR} (h : ruleI ws = some r) (hb : ruleB r = true) : ruleS ws = some r := by
  unfold ruleI at h
  split at h
  · cases h
  · rename_i h8
    obtain ⟨w0, w1, w2, w3, w4, w5, w6, w7, rest, rfl⟩ := eight (by omega : 8 ≤ ws.length)
    simp only [headI, nameAt, Nat.mul_zero, Nat.mul_one, Nat.reduceMul, Nat.reduceAdd, List.getElem?_cons_succ, List.getElem?_cons_zero, Option.getD_some, List.nil_append, List.drop_succ_cons, List.drop_zero] at h
    by_cases e0 : w0 = wEvery
    · cases n1 : numI w1 with
      | none => simp [e0, n1] at h
      | some m1 =>
        simp only [e0, n1, if_true] at h
        by_cases e2 : w2 = wAt
        · cases n3 : numI w3 with
          | none => simp [e2, n3] at h
          | some m3 =>
            simp only [e2, n3, if_true] at h
            by_cases e4 : w4 = wFrom
            · cases n5 : numI w5 with
              | none => simp [e4, n5] at h
              | some m5 =>
                simp only [e4, n5, if_true] at h
                by_cases e6 : w6 = wTo
                · cases n7 : numI w7 with
                  | none => simp [e6, n7] at h
                  | some m7 =>
                    simp only [e6, n7, if_true] at h
                    cases hbu : butI rest with
                    | none => simp [hbu] at h
                    | some b =>
                      simp only [hbu, Option.some.injEq, List.cons_append, List.nil_append, List.getElem?_cons_succ, List.getElem?_cons_zero, Option.getD_some] at h
                      have hbb : b = (rest.drop 1).map numS ∧ ¬ (0 < rest.length ∧ (rest[0]?.getD [] ≠ wBut ∨ rest.length = 1)) := by
                        cases rest with
                        | nil => simp only [butI, Option.some.injEq] at hbu; subst hbu; simp
                        | cons w rest =>
                          change (if w ≠ wBut ∨ rest = [] then none else numsI rest) = some b at hbu
                          split at hbu
                          · cases hbu
                          · rename_i hn
                            refine ⟨by simpa using numsI_some rest b hbu, ?_⟩
                            rintro ⟨_, h1 | h1⟩
                            · exact hn (Or.inl (by simpa using h1))
                            · exact hn (Or.inr (by simpa using h1))
                      have hrn : ruleN (w0 :: w1 :: w2 :: w3 :: w4 :: w5 :: w6 :: w7 :: rest) = r := by
                        rw [← h, hbb.1]
                        simp only [ruleN, List.getElem?_cons_succ, List.getElem?_cons_zero, Option.getD_some, List.drop_succ_cons, (num_some n1).1, (num_some n3).1, (num_some n5).1, (num_some n7).1]
                      unfold ruleS
                      rw [hrn, hb, if_pos]
                      rw [Bool.and_true]
                      unfold formS
                      simp only [Bool.and_eq_true, decide_eq_true_eq, List.getElem?_cons_succ, List.getElem?_cons_zero, Option.getD_some, e0, e2, e4, e6, List.length_cons]
                      refine ⟨⟨⟨⟨⟨by omega, trivial⟩, trivial⟩, trivial⟩, trivial⟩, ?_⟩
                      have := hbb.2
                      simp only [Bool.not_eq_true', Bool.and_eq_false_iff, Bool.or_eq_false_iff, decide_eq_false_iff_not]
                      rcases Nat.eq_zero_or_pos rest.length with hz | hz
                      · exact Or.inl (by omega)
                      · right
                        refine ⟨fun h1 => this ⟨hz, Or.inl h1⟩, fun h1 => this ⟨hz, Or.inr (by omega)⟩⟩
                · simp [e6] at h
            · simp [e4] at h
        · simp [e2] at h
    · simp [e0] at h

/-- The program's reading of lines. -/
def allI : List (List UInt8) → Option (List CR)
  | [] => some []
  | l :: ls => match ruleI (cutL 32 l) with
    | none => none
    | some r => match allI ls with
      | none => none
      | some rs => some (r :: rs)
/-- The specification's reading of lines. -/
def allS : List (List UInt8) → Option (List CR)
  | [] => some []
  | l :: ls => match ruleS (cutL 32 l) with
    | none => none
    | some r => match allS ls with
      | none => none
      | some rs => some (r :: rs)
theorem all_snoc (f : List (List UInt8) → Option (List CR)) (g : List (List UInt8) → Option CR) (hf0 : f [] = some []) (hf : ∀ l ls, f (l :: ls) = match g (cutL 32 l) with
    | none => none
    | some r => match f ls with
      | none => none
      | some rs => some (r :: rs)) : ∀ (ls : List (List UInt8)) (l : List UInt8) (rs : List CR) (r : CR), f ls = some rs → g (cutL 32 l) = some r → f (ls ++ [l]) = some (rs ++ [r])
  | [], l, rs, r, h, hw => by rw [hf0] at h; simp only [Option.some.injEq] at h; subst h; rw [List.nil_append, hf, hw, hf0]; rfl
  | v :: ls, l, rs, r, h, hw => by
    rw [hf] at h
    rw [List.cons_append, hf]
    cases hv : g (cutL 32 v) with
    | none => simp [hv] at h
    | some m =>
      cases hs : f ls with
      | none => simp [hv, hs] at h
      | some ms =>
        simp only [hv, hs, Option.some.injEq] at h
        subst h
        simp [all_snoc f g hf0 hf ls l ms r hs hw]
theorem all_none (f : List (List UInt8) → Option (List CR)) (g : List (List UInt8) → Option CR) (hf : ∀ l ls, f (l :: ls) = match g (cutL 32 l) with
    | none => none
    | some r => match f ls with
      | none => none
      | some rs => some (r :: rs)) : ∀ (pre : List (List UInt8)) (l : List UInt8) (post : List (List UInt8)), g (cutL 32 l) = none → f (pre ++ l :: post) = none
  | [], l, post, hw => by rw [List.nil_append, hf, hw]
  | v :: pre, l, post, hw => by
    rw [List.cons_append, hf, all_none f g hf pre l post hw]
    cases g (cutL 32 v) <;> rfl
theorem allI_snoc {ls : List (List UInt8)} {l : List UInt8} {rs : List CR} {r : CR} (h : allI ls = some rs) (hw : ruleI (cutL 32 l) = some r) : allI (ls ++ [l]) = some (rs ++ [r]) := all_snoc allI ruleI rfl (fun _ _ => rfl) ls l rs r h hw
theorem allS_snoc {ls : List (List UInt8)} {l : List UInt8} {rs : List CR} {r : CR} (h : allS ls = some rs) (hw : ruleS (cutL 32 l) = some r) : allS (ls ++ [l]) = some (rs ++ [r]) := all_snoc allS ruleS rfl (fun _ _ => rfl) ls l rs r h hw
theorem allI_none {pre : List (List UInt8)} {l : List UInt8} {post : List (List UInt8)} (hw : ruleI (cutL 32 l) = none) : allI (pre ++ l :: post) = none := all_none allI ruleI (fun _ _ => rfl) pre l post hw
theorem allS_none {pre : List (List UInt8)} {l : List UInt8} {post : List (List UInt8)} (hw : ruleS (cutL 32 l) = none) : allS (pre ++ l :: post) = none := all_none allS ruleS (fun _ _ => rfl) pre l post hw

theorem all_same : ∀ (ls : List (List UInt8)), (∀ rs, allS ls = some rs → allI ls = some rs) ∧ (∀ rs, allI ls = some rs → rs.all ruleB = true → allS ls = some rs)
  | [] => ⟨fun _ h => h, fun _ h _ => h⟩
  | l :: ls => by
    obtain ⟨i1, i2⟩ := all_same ls
    constructor
    · intro rs h
      unfold allS at h
      cases h1 : ruleS (cutL 32 l) with
      | none => simp [h1] at h
      | some r =>
        cases h2 : allS ls with
        | none => simp [h1, h2] at h
        | some ms =>
          simp only [h1, h2, Option.some.injEq] at h
          unfold allI
          simp only [(rule_there h1).1, i1 ms h2, h]
    · intro rs h hb
      unfold allI at h
      cases h1 : ruleI (cutL 32 l) with
      | none => simp [h1] at h
      | some r =>
        cases h2 : allI ls with
        | none => simp [h1, h2] at h
        | some ms =>
          simp only [h1, h2, Option.some.injEq] at h
          subst h
          simp only [List.all_cons, Bool.and_eq_true] at hb
          unfold allS
          simp only [rule_back h1 hb.1, i2 ms h2 hb.2]

/-- The program's reading of a text. -/
def readI (t : List UInt8) : Option (List CR) :=
  if 800 < t.length then none else match allI (cutL 10 t).dropLast with
    | none => none
    | some rs => if (cutL 10 t).getLast?.getD [] = [] ∧ rulesB rs = true then some rs else none
/-- The specification's reading of a text. -/
def readS (t : List UInt8) : Option (List CR) :=
  if 800 < t.length ∨ (cutL 10 t).getLast?.getD [] ≠ [] then none else match allS (cutL 10 t).dropLast with
    | none => none
    | some rs => if rulesB rs = true then some rs else none
theorem read_same (t : List UInt8) : readI t = readS t := by
  unfold readI readS
  by_cases h8 : 800 < t.length
  · simp [h8]
  · rw [if_neg h8]
    by_cases hl : (cutL 10 t).getLast?.getD [] = []
    · rw [if_neg (by simp [h8, hl])]
      obtain ⟨i1, i2⟩ := all_same (cutL 10 t).dropLast
      cases h1 : allS (cutL 10 t).dropLast with
      | some rs => rw [i1 rs h1]; simp [hl]
      | none =>
        cases h2 : allI (cutL 10 t).dropLast with
        | none => rfl
        | some rs =>
          have hb : rulesB rs = false := by
            cases hb : rulesB rs with
            | false => rfl
            | true =>
              unfold rulesB at hb
              simp only [Bool.and_eq_true] at hb
              rw [i2 rs h2 hb.2] at h1
              cases h1
          simp [hb]
    · rw [if_pos (Or.inr hl)]
      cases allI (cutL 10 t).dropLast with
      | none => rfl
      | some rs => simp [hl]

end Go.Proofs.YtammejplaeaocaaDoor
