/-
  The specification's l1Num reads a number. Condition: the text has at most 1048576 bytes.
-/
import Derived.Test.YtammejplaeaocaaDoorCut
namespace Go.Proofs.YtammejplaeaocaaDoor
open Go.RowKit

theorem drop_get {l : List UInt8} {k : Nat} {b : UInt8} (h : l[k]? = some b) : l.drop k = b :: l.drop (k + 1) := by
  obtain ⟨hk, he⟩ := List.getElem?_eq_some_iff.1 h
  rw [List.drop_eq_getElem_cons hk, he]
theorem digS_bad {b : UInt8} (l : List UInt8) (n : Int) (h : b.toNat < 48 ∨ 57 < b.toNat) : digS (b :: l) n = -1 := by unfold digS; rw [if_pos h]
theorem digS_next {b : UInt8} (l : List UInt8) (n : Int) (h : ¬ (b.toNat < 48 ∨ 57 < b.toNat)) : digS (b :: l) n = digS l (n * 10 + (b.toNat - 48)) := by
  conv => lhs; unfold digS
  rw [if_neg h]
theorem pow_five {n : Int} {k : Nat} (h : n < 10 ^ k) (hk : k ≤ 5) : n ≤ 99999 := by
  have h10 : (10 : Int) ^ k ≤ 10 ^ 5 := by have := Nat.pow_le_pow_right (n := 10) (by omega) hk; exact_mod_cast this
  have : (10 : Int) ^ 5 = 100000 := by decide
  omega

set_option maxRecDepth 100000 in
set_option maxHeartbeats 2000000 in
theorem l1Num_any (s : ByteArray) (w : World) (hs : s.size ≤ 1048576) :
    Calls Tryd.prog 69 #[.string s] w fun e w' => e = .returned (.int .i64 (numS s.data.toList)) ∧ w' = w := by
  obtain ⟨l, hl⟩ : ∃ l, l = s.data.toList := ⟨_, rfl⟩
  have HL : Hid (l = s.data.toList) := hl
  have hlen : l.length = s.size := by rw [hl]; exact data_len s
  rw [← hl]
  clear hl
  have HLEN : Hid (l.length = s.size) := hlen
  clear hlen
  obtain ⟨R, hR⟩ : ∃ R, R = numS l := ⟨_, rfl⟩
  have HR : Hid (R = numS l) := hR
  rw [← hR]
  clear hR
  cases h16 : inB (s.size : Int) 1 6 with
  | false =>
    have HF : Hid (R = -1) := by
      show R = -1
      rw [HR.out]
      unfold numS
      rw [if_pos (Or.inl (by rw [HLEN.out]; have := inB_not h16; omega))]
    go_enter Tryd.func69, Tryd.ntmps69
    go_wp2_with (go_at_call 52; refine (l1In_any _ _ _ _).mono ?_; rintro e w' ⟨rfl, hw'⟩; rw [h16, hw']; clear hw')
    go_ret
    exact ⟨ret_int HF.out.symm, rfl⟩
  | true =>
    have h6 := inB_iff.1 h16
    have hlt0 : 0 < s.size := by omega
    have g0 : Hid (l[0]? = some s[0]) := by show _ = _; rw [HL.out]; exact data_get hlt0
    by_cases hz : 1 < s.size ∧ s[0] = 48
    · have HF : Hid (R = -1) := by
        show R = -1
        rw [HR.out]
        unfold numS
        rw [if_pos (Or.inr ⟨by rw [HLEN.out]; exact hz.1, by rw [g0.out, hz.2]⟩)]
      have hz1 : 1 < s.size := hz.1
      have hz2 : ((s[0].toNat : Int) == 48) = true := by rw [hz.2]; rfl
      clear hz
      go_enter Tryd.func69, Tryd.ntmps69
      go_wp2_with (go_at_call 52; refine (l1In_any _ _ _ _).mono ?_; rintro e w' ⟨rfl, hw'⟩; rw [h16, hw']; clear hw')
      go_ret
      exact ⟨ret_int HF.out.symm, rfl⟩
    · have HF : Hid (R = digS l 0) := by
        show R = digS l 0
        rw [HR.out]
        unfold numS
        rw [if_neg]
        rintro (h | h)
        · exact h (by rw [HLEN.out]; omega)
        · refine hz ⟨by rw [← HLEN.out]; exact h.1, ?_⟩
          have h2 := h.2
          rw [g0.out] at h2
          injection h2
      have hz2 : 1 < s.size → ((s[0].toNat : Int) == 48) = false := fun h1 => by
        simp only [beq_eq_false_iff_ne, ne_eq]
        intro e
        exact hz ⟨h1, UInt8.toNat_inj.1 (by show s[0].toNat = 48; omega)⟩
      clear hz
      by_cases h1 : 1 < s.size
      · have hz3 := hz2 h1
        clear hz2
        go_enter Tryd.func69, Tryd.ntmps69
        go_wp2_with (go_at_call 52; refine (l1In_any _ _ _ _).mono ?_; rintro e w' ⟨rfl, hw'⟩; rw [h16, hw']; clear hw')
        clear hz3
        go_loopw [3, 4] (fun n i wr => ∃ (k : Nat) (m : Int), n = .int .i64 m ∧ i = .int .i64 k ∧ k ≤ s.size ∧ 0 ≤ m ∧ Hid (m < 10 ^ k) ∧ Hid (digS l 0 = digS (l.drop k) m) ∧ wr = w) (fun _ i _ => s.size - (intOf i).toNat)
        case atStart => exact ⟨0, 0, rfl, rfl, Nat.zero_le _, Int.le_refl _, (by show (0 : Int) < 10 ^ 0; decide), rfl, rfl⟩
        case round =>
          obtain ⟨k, m, rfl, rfl, hk, hm0, HM, HD, rfl⟩ := hrel
          by_cases hlt : k < s.size
          · have hm9 : m ≤ 99999 := pow_five HM.out (by omega)
            have hgk : Hid (l[k]? = some s[k]) := by show _ = _; rw [HL.out]; exact data_get hlt
            by_cases hb : s[k].toNat < 48 ∨ 57 < s[k].toNat
            · have HE : Hid (R = -1) := by
                show R = -1
                rw [HF.out, HD.out, drop_get hgk.out, digS_bad _ _ hb]
              rcases hb with hb | hb
              · have hb1 : (s[k].toNat : Int) < 48 := by omega
                go_wp2
                go_ret
                exact ⟨ret_int HE.out.symm, rfl⟩
              · have hb1 : ¬ (s[k].toNat : Int) < 48 := by omega
                have hb2 : (57 : Int) < (s[k].toNat : Int) := by omega
                go_wp2
                go_ret
                exact ⟨ret_int HE.out.symm, rfl⟩
            · have hb1 : ¬ (s[k].toNat : Int) < 48 := by omega
              have hb2 : ¬ (57 : Int) < (s[k].toNat : Int) := by omega
              have HE : Hid (digS l 0 = digS (l.drop (k + 1)) (m * 10 + (s[k].toNat - 48))) := by
                show _ = _
                rw [HD.out, drop_get hgk.out, digS_next _ _ hb]
              have hw8 : IntKind.u8.wrap ((s[k].toNat : Int) - 48) = (s[k].toNat : Int) - 48 := by rw [IntKind.wrap_u8]; omega
              have HB : Hid (¬ (s[k].toNat < 48 ∨ 57 < s[k].toNat)) := hb
              clear hb
              go_wp2
              go_roundw
              case rel =>
                refine ⟨k + 1, m * 10 + (s[k].toNat - 48), by go_num, by go_num, by omega, by omega, ?_, HE, (by first | trivial | rfl)⟩
                have := HM.out
                have := HB.out
                show _ < _
                rw [Int.pow_succ]
                omega
              case measure => simp [intOf]; omega
          · obtain rfl : k = s.size := by omega
            go_wp2
            go_ret
            refine ⟨ret_int ?_, rfl⟩
            rw [HF.out, HD.out, List.drop_of_length_le (by rw [HLEN.out]; exact Nat.le_refl _)]
            rfl
      · clear hz2
        go_enter Tryd.func69, Tryd.ntmps69
        go_wp2_with (go_at_call 52; refine (l1In_any _ _ _ _).mono ?_; rintro e w' ⟨rfl, hw'⟩; rw [h16, hw']; clear hw')
        go_loopw [3, 4] (fun n i wr => ∃ (k : Nat) (m : Int), n = .int .i64 m ∧ i = .int .i64 k ∧ k ≤ s.size ∧ 0 ≤ m ∧ Hid (m < 10 ^ k) ∧ Hid (digS l 0 = digS (l.drop k) m) ∧ wr = w) (fun _ i _ => s.size - (intOf i).toNat)
        case atStart => exact ⟨0, 0, rfl, rfl, Nat.zero_le _, Int.le_refl _, (by show (0 : Int) < 10 ^ 0; decide), rfl, rfl⟩
        case round =>
          obtain ⟨k, m, rfl, rfl, hk, hm0, HM, HD, rfl⟩ := hrel
          by_cases hlt : k < s.size
          · have hm9 : m ≤ 99999 := pow_five HM.out (by omega)
            have hgk : Hid (l[k]? = some s[k]) := by show _ = _; rw [HL.out]; exact data_get hlt
            by_cases hb : s[k].toNat < 48 ∨ 57 < s[k].toNat
            · have HE : Hid (R = -1) := by
                show R = -1
                rw [HF.out, HD.out, drop_get hgk.out, digS_bad _ _ hb]
              rcases hb with hb | hb
              · have hb1 : (s[k].toNat : Int) < 48 := by omega
                go_wp2
                go_ret
                exact ⟨ret_int HE.out.symm, rfl⟩
              · have hb1 : ¬ (s[k].toNat : Int) < 48 := by omega
                have hb2 : (57 : Int) < (s[k].toNat : Int) := by omega
                go_wp2
                go_ret
                exact ⟨ret_int HE.out.symm, rfl⟩
            · have hb1 : ¬ (s[k].toNat : Int) < 48 := by omega
              have hb2 : ¬ (57 : Int) < (s[k].toNat : Int) := by omega
              have HE : Hid (digS l 0 = digS (l.drop (k + 1)) (m * 10 + (s[k].toNat - 48))) := by
                show _ = _
                rw [HD.out, drop_get hgk.out, digS_next _ _ hb]
              have hw8 : IntKind.u8.wrap ((s[k].toNat : Int) - 48) = (s[k].toNat : Int) - 48 := by rw [IntKind.wrap_u8]; omega
              have HB : Hid (¬ (s[k].toNat < 48 ∨ 57 < s[k].toNat)) := hb
              clear hb
              go_wp2
              go_roundw
              case rel =>
                refine ⟨k + 1, m * 10 + (s[k].toNat - 48), by go_num, by go_num, by omega, by omega, ?_, HE, (by first | trivial | rfl)⟩
                have := HM.out
                have := HB.out
                show _ < _
                rw [Int.pow_succ]
                omega
              case measure => simp [intOf]; omega
          · obtain rfl : k = s.size := by omega
            go_wp2
            go_ret
            refine ⟨ret_int ?_, rfl⟩
            rw [HF.out, HD.out, List.drop_of_length_le (by rw [HLEN.out]; exact Nat.le_refl _)]
            rfl

end Go.Proofs.YtammejplaeaocaaDoor
