/-
  The program's readRules and CalRead read rules. Condition: the errors that they name hold what the program's text lays; strings.Split and strings.Count answer as their contracts say; the text has at most 1048576 bytes.
-/
import Derived.Test.YtammejplaeaocaaDoorOwn
namespace Go.Proofs.YtammejplaeaocaaDoor
open Go.RowKit

/-- A function of the program that counts newlines. -/
def Counts (P : Program) (f : FuncId) : Prop := ∀ (s : ByteArray) (w : World), Calls P f #[.string s, .string ⟨#[10]⟩] w fun e w' => e = .returned (.int .i64 (s.data.toList.count 10)) ∧ w' = w

theorem nums_rng : ∀ (ws : List (List UInt8)) (ns : List Int), numsI ws = some ns → ∀ x, x ∈ ns → 0 ≤ x ∧ x ≤ 100000
  | [], ns, h, x, hx => by simp only [numsI, Option.some.injEq] at h; subst h; simp at hx
  | w :: ws, ns, h, x, hx => by
    unfold numsI at h
    cases hv : numI w with
    | none => simp [hv] at h
    | some m =>
      cases hs : numsI ws with
      | none => simp [hv, hs] at h
      | some ms =>
        simp only [hv, hs, Option.some.injEq] at h
        subst h
        rcases List.mem_cons.1 hx with rfl | h2
        · exact (num_some hv).2
        · exact nums_rng ws ms hs x h2
theorem head_rng {ws : List (List UInt8)} : ∀ {k : Nat} {ns : List Int}, headI ws k = some ns → ∀ x, x ∈ ns → 0 ≤ x ∧ x ≤ 100000
  | 0, ns, h, x, hx => by simp only [headI, Option.some.injEq] at h; subst h; simp at hx
  | k + 1, ns, h, x, hx => by
    unfold headI at h
    cases h1 : headI ws k with
    | none => simp [h1] at h
    | some ms =>
      simp only [h1] at h
      split at h
      · split at h
        · cases h
        · rename_i n hn
          simp only [Option.some.injEq] at h
          subst h
          rcases List.mem_append.1 hx with h2 | h2
          · exact head_rng h1 x h2
          · simp at h2; subst h2; exact (num_some hn).2
      · cases h
theorem getD_rng {ns : List Int} (h : ∀ x, x ∈ ns → 0 ≤ x ∧ x ≤ 100000) (i : Nat) : In64 (ns[i]?.getD 0) := by
  cases hi : ns[i]? with
  | none => exact ⟨by simp, by simp⟩
  | some x => have := h x (List.mem_of_getElem? hi); exact ⟨by simp; omega, by simp; omega⟩
theorem ruleI_in {ws : List (List UInt8)} {r : CR} (h : ruleI ws = some r) : r.In ∧ ∀ x, x ∈ r.b → In64 x := by
  unfold ruleI at h
  split at h
  · cases h
  · cases hh : headI ws 4 with
    | none => simp [hh] at h
    | some ns =>
      cases hb : butI (ws.drop 8) with
      | none => simp [hh, hb] at h
      | some b =>
        simp only [hh, hb, Option.some.injEq] at h
        subst h
        have hn := fun x => head_rng hh x
        refine ⟨⟨getD_rng hn 0, getD_rng hn 1, getD_rng hn 2, getD_rng hn 3⟩, fun x hx => ?_⟩
        have : 0 ≤ x ∧ x ≤ 100000 := by
          cases hw : ws.drop 8 with
          | nil => rw [hw] at hb; simp only [butI, Option.some.injEq] at hb; subst hb; simp at hx
          | cons w ws' =>
            rw [hw] at hb
            change (if w ≠ wBut ∨ ws' = [] then none else numsI ws') = some b at hb
            split at hb
            · cases hb
            · exact nums_rng ws' b hb x hx
        exact ⟨by omega, by omega⟩

/-- A rune is 10 just where the byte is; a rune that is not skips no such byte. -/
theorem rune_ten {s : ByteArray} {pos : Nat} (h : pos < s.size) (hc : (Utf8.decode s pos).1 = 10) : s[pos] = 10 ∧ (Utf8.decode s pos).2 = 1 := by
  by_cases ha : s[pos].toNat < 128
  · rw [decode_low s pos h ha] at hc ⊢
    exact ⟨UInt8.toNat_inj.1 (by simpa using hc), rfl⟩
  · have := (decode_high s pos h (by omega)).1; omega
theorem rune_skip {s : ByteArray} {pos : Nat} (h : pos < s.size) (hc : (Utf8.decode s pos).1 ≠ 10) : ∀ j, pos ≤ j → j < pos + (Utf8.decode s pos).2 → s.data.toList[j]? ≠ some 10 := by
  intro j h1 h2
  obtain ⟨d1, d2, d3⟩ := decode_more s pos h
  rw [data_get (by omega)]
  intro e
  injection e with e
  by_cases hj : j = pos
  · subst hj
    have : s[j].toNat = 10 := by rw [e]; rfl
    rw [decode_low s j h (by omega)] at hc
    exact hc this
  · have h3 := d3 (j - pos) (by omega) (by omega)
    rw [show pos + (j - pos) = j by omega] at h3
    have h4 : s.get! j = s[j] := by
      have := get_at s j (by omega)
      simpa using this
    rw [h4, e] at h3
    exact absurd h3 (by decide)

theorem last_snoc {α : Type} (d : List α) (x : α) : (d ++ [x]).dropLast = d ∧ (d ++ [x]).getLast? = some x := by simp
theorem read_bad {l : List UInt8} {done : List (List UInt8)} {p : List UInt8} {rest : List UInt8} (h : cutL 10 l = done ++ p :: cutL 10 rest) (hp : ruleI (cutL 32 p) = none) : readI l = none := by
  unfold readI
  split
  · rfl
  · obtain ⟨q, qs, e⟩ := cutL_some 10 rest
    have : (cutL 10 l).dropLast = done ++ p :: (cutL 10 rest).dropLast := by
      rw [h, List.dropLast_append_of_ne_nil (by simp), List.dropLast_cons_of_ne_nil (by rw [e]; simp)]
    rw [this, allI_none hp]
theorem read_end {l : List UInt8} {done : List (List UInt8)} {p : List UInt8} {rs : List CR} (h8 : ¬ 800 < l.length) (h : cutL 10 l = done ++ [p]) (ha : allI done = some rs) : readI l = if p = [] ∧ rulesB rs = true then some rs else none := by
  unfold readI
  rw [if_neg h8, h, (last_snoc done p).1, (last_snoc done p).2, ha]
  rfl

/-- Rules that a call has made, or an error with a line. -/
def RulesV (W : World) (lo : Nat) (o : Option (List CR)) (x v : Value) : Prop :=
  (∃ es : List (CR × Value), o = some (es.map Prod.fst) ∧ v = .nilIface ∧ OwnRules W lo x es) ∨
  (o = none ∧ ∃ (n : Int) (p : Addr), 1 ≤ n ∧ n ≤ 1000 ∧ v = .iface 90 (.agg #[.int .i64 n, .iface 166 (.pointer (some p))]))

set_option maxRecDepth 100000 in
set_option maxHeartbeats 2000000 in
theorem readRules_long (s : ByteArray) (w : World) (hs : s.size ≤ 1048576) (hg : Glob2 w) (hC : Counts Tryd.prog 66) (h8 : 800 < s.size) :
    Calls Tryd.prog 44 #[.string s] w fun e w' => ∃ x v, e = .returned (.tuple #[x, v]) ∧ RulesV w' w.heap.size (readI s.data.toList) x v ∧ Below w.heap.size w w' := by
  obtain ⟨pz, hpz⟩ := hg.size
  obtain ⟨n, hn⟩ : ∃ n : Nat, n = (s.extract 0 800).data.toList.count 10 := ⟨_, rfl⟩
  have hn8 : n ≤ 800 := by
    rw [hn]
    refine Nat.le_trans (List.count_le_length) ?_
    rw [data_len, ByteArray.size_extract]; omega
  have HN : Hid (readI s.data.toList = none) := by show _ = _; unfold readI; rw [if_pos (by rw [data_len]; exact h8)]
  have hc : ∀ wx, Calls Tryd.prog 66 #[.string (s.extract 0 800), .string ⟨#[10]⟩] wx fun e w' => e = .returned (.int .i64 n) ∧ w' = wx := fun wx => by rw [hn]; exact hC _ wx
  clear hn hC
  go_enter Tryd.func44, Tryd.ntmps44
  go_wp2
  go_quiet ((go_at_call 66; exact Calls.quiet_of_same (hc _)))
  go_wp2
  go_ret2
  exact ⟨_, _, rfl, Or.inr ⟨HN.out, _, pz, by omega, by omega, rfl⟩, below_drewN (Below.refl _ _) _⟩

end Go.Proofs.YtammejplaeaocaaDoor
