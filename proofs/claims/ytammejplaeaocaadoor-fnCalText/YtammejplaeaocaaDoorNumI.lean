/-
  The program's readNumber reads a number. Condition: the errors that it names hold what the program's text lays; the text has at most 1048576 bytes.
-/
import Derived.Test.YtammejplaeaocaaDoorCut
import Derived.Test.YtammejplaeaocaaDoorImpl1
namespace Go.Proofs.YtammejplaeaocaaDoor
open Go.RowKit

/-- What the package-level variables hold that reading comes to. -/
structure Glob2 (w : World) : Prop where
  glob : Glob w
  size : ErrAt w 0
  newline : ErrAt w 1
  form : ErrAt w 4
  number : ErrAt w 8
theorem Glob2.below {w w' : World} {B : Nat} (h : Glob2 w) (hb : Below B w w') (hB : w.heap.size ≤ B) : Glob2 w' :=
  ⟨h.glob.below hb hB, h.size.below hb hB, h.newline.below hb hB, h.form.below hb hB, h.number.below hb hB⟩

/-- A number, or an error made by errors.New. -/
def NumV (o : Option Int) (n : Int) (v : Value) : Prop := (o = some n ∧ v = .nilIface) ∨ (o = none ∧ ∃ p : Addr, v = .iface 166 (.pointer (some p)))

theorem digI_bad {b : UInt8} (l : List UInt8) (n : Int) (h : b.toNat < 48 ∨ 57 < b.toNat) : digI (b :: l) n = none := by unfold digI; rw [if_pos h]
theorem digI_big {b : UInt8} (l : List UInt8) (n : Int) (h : ¬ (b.toNat < 48 ∨ 57 < b.toNat)) (h2 : 100000 < 10 * n + (b.toNat - 48)) : digI (b :: l) n = none := by unfold digI; rw [if_neg h, if_pos h2]
theorem digI_next {b : UInt8} (l : List UInt8) (n : Int) (h : ¬ (b.toNat < 48 ∨ 57 < b.toNat)) (h2 : ¬ 100000 < 10 * n + (b.toNat - 48)) : digI (b :: l) n = digI l (10 * n + (b.toNat - 48)) := by
  conv => lhs; unfold digI
  rw [if_neg h, if_neg h2]
theorem numI_nil : numI [] = none := by simp [numI]
theorem numI_zero {l : List UInt8} (h1 : 1 < l.length) (h2 : l[0]? = some 48) : numI l = none := by unfold numI; rw [if_pos (Or.inr ⟨h1, h2⟩)]
theorem numI_dig {l : List UInt8} (h0 : 0 < l.length) (h : ¬ (1 < l.length ∧ l[0]? = some 48)) : numI l = digI l 0 := by
  unfold numI
  rw [if_neg]
  rintro (h1 | h1)
  · rw [h1] at h0; simp at h0
  · exact h h1

theorem drop_get' {l : List UInt8} {k : Nat} {b : UInt8} (h : l[k]? = some b) : l.drop k = b :: l.drop (k + 1) := by
  obtain ⟨hk, he⟩ := List.getElem?_eq_some_iff.1 h
  rw [List.drop_eq_getElem_cons hk, he]
theorem iterPos_of {w : World} {k : Nat} {s : ByteArray} {p : Nat} (h : w.heap[k]? = some (.stringIter s p)) : w.iterPos k = p := by simp [World.iterPos, h]
theorem decode_low (s : ByteArray) (pos : Nat) (h : pos < s.size) (ha : s[pos].toNat < 128) : Utf8.decode s pos = (s[pos].toNat, 1) := by
  simp only [Utf8.decode, get_at s pos h, ha, if_true]

set_option maxRecDepth 100000 in
set_option maxHeartbeats 2000000 in
theorem readNumber_any (s : ByteArray) (w : World) (hs : s.size ≤ 1048576) (hg : Glob2 w) :
    Calls Tryd.prog 85 #[.string s] w fun e w' => ∃ n v, e = .returned (.tuple #[.int .i64 n, v]) ∧ NumV (numI s.data.toList) n v ∧ Below w.heap.size w w' := by
  obtain ⟨l, hl⟩ : ∃ l, l = s.data.toList := ⟨_, rfl⟩
  have HL : Hid (l = s.data.toList) := hl
  have HLEN : Hid (l.length = s.size) := by show _ = _; rw [hl]; exact data_len s
  have hsl : s.toList = l := by rw [hl]; exact ba_toList s
  rw [← hl]
  clear hl
  obtain ⟨pn, hpn⟩ := hg.number
  have HE : Hid (∀ (p : Addr), numI l = none → NumV (numI l) 0 (.iface 166 (.pointer (some p)))) := fun p h => Or.inr ⟨h, p, rfl⟩
  by_cases h0 : s.size = 0
  · have hq : (s.toList == []) = true := by
      rw [hsl, List.length_eq_zero_iff.1 (HLEN.out.trans h0)]; rfl
    have HN : Hid (numI l = none) := by show _ = _; rw [List.length_eq_zero_iff.1 (HLEN.out.trans h0)]; exact numI_nil
    clear hsl h0
    go_enter Tryd.func85, Tryd.ntmps85
    go_wp2
    go_region
    all_goals (go_wp2; go_ret2; exact ⟨_, _, rfl, HE.out _ HN.out, (Below.refl _ _).drew⟩)
  · have hpos : 0 < s.size := by omega
    have hq : (s.toList == []) = false := by
      rw [hsl]; cases hll : l with
      | nil => have := HLEN.out; rw [hll] at this; simp at this; omega
      | cons _ _ => rfl
    have g0 : Hid (l[0]? = some s[0]) := by show _ = _; rw [HL.out]; exact data_get hpos
    clear hsl h0
    by_cases hz : 1 < s.size ∧ s[0] = 48
    · have hz1 : 1 < s.size := hz.1
      have hz2 : ((s[0].toNat : Int) == 48) = true := by rw [hz.2]; rfl
      have HN : Hid (numI l = none) := numI_zero (by rw [HLEN.out]; exact hz1) (by rw [g0.out, hz.2])
      clear hz
      go_enter Tryd.func85, Tryd.ntmps85
      go_wp2
      go_region
      all_goals (go_wp2; go_ret2; exact ⟨_, _, rfl, HE.out _ HN.out, (Below.refl _ _).drew⟩)
    · have HD : Hid (numI l = digI l 0) := numI_dig (by rw [HLEN.out]; exact hpos) (fun h => hz ⟨by rw [← HLEN.out]; exact h.1, by have h2 := h.2; rw [g0.out] at h2; injection h2⟩)
      have hz2 : 1 < s.size → ((s[0].toNat : Int) == 48) = false := fun h1 => by
        simp only [beq_eq_false_iff_ne, ne_eq]
        intro e
        exact hz ⟨h1, UInt8.toNat_inj.1 (by show s[0].toNat = 48; omega)⟩
      clear hz
      by_cases h1 : 1 < s.size
      · have hz3 := hz2 h1
        clear hz2
        go_enter Tryd.func85, Tryd.ntmps85
        go_wp2
        clear hz3
        go_loopw [4, 6] (fun n _ wr => ∃ (pos : Nat) (m : Int), n = .int .i64 m ∧ wr.heap[w.heap.size]? = some (.stringIter s pos) ∧ 0 ≤ m ∧ m ≤ 100000 ∧ Below w.heap.size w wr ∧ Hid (numI l = digI (l.drop pos) m)) (fun _ _ wr => s.size - wr.iterPos w.heap.size)
        case atStart => exact ⟨0, 0, rfl, World.iter_heap w s 0, Int.le_refl _, by omega, (Below.refl _ _).alloc (Nat.le_refl _) _, HD.out⟩
        case round =>
          obtain ⟨pos, m, rfl, hit, hm0, hm9, hB, HP⟩ := hrel
          have hpos0 := iterPos_of hit
          by_cases hp : pos < s.size
          · have hgk : Hid (l[pos]? = some s[pos]) := by show _ = _; rw [HL.out]; exact data_get hp
            have hnx : ∀ ty, (Instr.next (.pointer (some ⟨w.heap.size, 0, none⟩)) true ty).run Tryd.prog wr = _ := fun ty => Lib.run_next_any_at wr w.heap.size s pos ty hit hp
            have hit2 := Lib.iterAt_heap wr w.heap.size s pos (pos + (Utf8.decode s pos).2) hit
            have hB2 := Lib.below_iterAt hB (k := w.heap.size) (Nat.le_refl _) s (pos + (Utf8.decode s pos).2)
            obtain ⟨W1, hW1⟩ : ∃ W1, W1 = wr.iterAt w.heap.size s (pos + (Utf8.decode s pos).2) := ⟨_, rfl⟩
            rw [← hW1] at hnx hit2 hB2
            clear hW1 hit hB
            have hpn1 := (hB2.cell (p := ⟨8, 0, none⟩) (cell_lt hpn)).trans hpn
            obtain ⟨pb, hpb⟩ := (hg.below hB2 (Nat.le_refl _)).glob.bounds
            by_cases ha : s[pos].toNat < 128
            · rw [decode_low s pos hp ha] at hnx hit2
              obtain ⟨c, hc⟩ : ∃ c, c = s[pos].toNat := ⟨_, rfl⟩
              simp only [← hc] at hnx ha
              have HC : Hid (c = s[pos].toNat) := hc
              clear hc
              by_cases hb : c < 48 ∨ 57 < c
              · have HN : Hid (numI l = none) := by
                  show _ = _
                  rw [HP.out, drop_get' hgk.out]; exact digI_bad _ _ (by rw [← HC.out]; exact hb)
                rcases hb with hb | hb
                · have hb1 : (c : Int) < 48 := by omega
                  go_wp2
                  go_region
                  all_goals (go_wp2; go_ret2; exact ⟨_, _, rfl, HE.out _ HN.out, hB2.drew⟩)
                · have hb1 : ¬ (c : Int) < 48 := by omega
                  have hb2 : (57 : Int) < (c : Int) := by omega
                  go_wp2
                  go_region
                  all_goals (go_wp2; go_ret2; exact ⟨_, _, rfl, HE.out _ HN.out, hB2.drew⟩)
              · have hb1 : ¬ (c : Int) < 48 := by omega
                have hb2 : ¬ (57 : Int) < (c : Int) := by omega
                have hw32 : IntKind.i32.wrap ((c : Int) - 48) = (c : Int) - 48 := by rw [IntKind.wrap_i32]; omega
                have HB : Hid (¬ (c < 48 ∨ 57 < c)) := hb
                clear hb
                by_cases h9 : 100000 < 10 * m + ((c : Int) - 48)
                · have HN : Hid (numI l = none) := by
                    show _ = _
                    rw [HP.out, drop_get' hgk.out]; exact digI_big _ _ (by rw [← HC.out]; exact HB.out) (by rw [← HC.out]; exact h9)
                  go_wp2
                  go_region
                  all_goals (go_wp2; go_ret2; exact ⟨_, _, rfl, HE.out _ HN.out, hB2.drew⟩)
                · have HN : Hid (numI l = digI (l.drop (pos + 1)) (10 * m + ((c : Int) - 48))) := by
                    show _ = _
                    rw [HP.out, drop_get' hgk.out, HC.out]; exact digI_next _ _ (by rw [← HC.out]; exact HB.out) (by rw [← HC.out]; exact h9)
                  go_wp2
                  go_roundw
                  case rel => exact ⟨pos + 1, 10 * m + ((c : Int) - 48), by go_num, hit2, by omega, by omega, hB2, HN⟩
                  case measure => rw [iterPos_of hit2, hpos0]; omega
            · have hh := decode_high s pos hp (by omega)
              obtain ⟨c, hc⟩ : ∃ c, c = (Utf8.decode s pos).1 := ⟨_, rfl⟩
              rw [← hc] at hnx hh
              clear hc
              have HN : Hid (numI l = none) := by
                show _ = _
                rw [HP.out, drop_get' hgk.out]; exact digI_bad _ _ (by omega)
              have hb1 : ¬ (c : Int) < 48 := by omega
              have hb2 : (57 : Int) < (c : Int) := by omega
              go_wp2
              go_region
              all_goals (go_wp2; go_ret2; exact ⟨_, _, rfl, HE.out _ HN.out, hB2.drew⟩)
          · have hnx : ∀ ty, (Instr.next (.pointer (some ⟨w.heap.size, 0, none⟩)) true ty).run Tryd.prog wr = _ := fun ty => Lib.run_next_end_at wr w.heap.size s pos ty hit hp
            have HN : Hid (numI l = some m) := by
              show _ = _
              rw [HP.out, List.drop_of_length_le (by rw [HLEN.out]; omega)]
              rfl
            go_wp2
            go_ret2
            exact ⟨_, _, rfl, Or.inl ⟨HN.out, rfl⟩, hB⟩
      · clear hz2
        go_enter Tryd.func85, Tryd.ntmps85
        go_wp2
        go_loopw [4, 6] (fun n _ wr => ∃ (pos : Nat) (m : Int), n = .int .i64 m ∧ wr.heap[w.heap.size]? = some (.stringIter s pos) ∧ 0 ≤ m ∧ m ≤ 100000 ∧ Below w.heap.size w wr ∧ Hid (numI l = digI (l.drop pos) m)) (fun _ _ wr => s.size - wr.iterPos w.heap.size)
        case atStart => exact ⟨0, 0, rfl, World.iter_heap w s 0, Int.le_refl _, by omega, (Below.refl _ _).alloc (Nat.le_refl _) _, HD.out⟩
        case round =>
          obtain ⟨pos, m, rfl, hit, hm0, hm9, hB, HP⟩ := hrel
          have hpos0 := iterPos_of hit
          by_cases hp : pos < s.size
          · have hgk : Hid (l[pos]? = some s[pos]) := by show _ = _; rw [HL.out]; exact data_get hp
            have hnx : ∀ ty, (Instr.next (.pointer (some ⟨w.heap.size, 0, none⟩)) true ty).run Tryd.prog wr = _ := fun ty => Lib.run_next_any_at wr w.heap.size s pos ty hit hp
            have hit2 := Lib.iterAt_heap wr w.heap.size s pos (pos + (Utf8.decode s pos).2) hit
            have hB2 := Lib.below_iterAt hB (k := w.heap.size) (Nat.le_refl _) s (pos + (Utf8.decode s pos).2)
            obtain ⟨W1, hW1⟩ : ∃ W1, W1 = wr.iterAt w.heap.size s (pos + (Utf8.decode s pos).2) := ⟨_, rfl⟩
            rw [← hW1] at hnx hit2 hB2
            clear hW1 hit hB
            have hpn1 := (hB2.cell (p := ⟨8, 0, none⟩) (cell_lt hpn)).trans hpn
            obtain ⟨pb, hpb⟩ := (hg.below hB2 (Nat.le_refl _)).glob.bounds
            by_cases ha : s[pos].toNat < 128
            · rw [decode_low s pos hp ha] at hnx hit2
              obtain ⟨c, hc⟩ : ∃ c, c = s[pos].toNat := ⟨_, rfl⟩
              simp only [← hc] at hnx ha
              have HC : Hid (c = s[pos].toNat) := hc
              clear hc
              by_cases hb : c < 48 ∨ 57 < c
              · have HN : Hid (numI l = none) := by
                  show _ = _
                  rw [HP.out, drop_get' hgk.out]; exact digI_bad _ _ (by rw [← HC.out]; exact hb)
                rcases hb with hb | hb
                · have hb1 : (c : Int) < 48 := by omega
                  go_wp2
                  go_region
                  all_goals (go_wp2; go_ret2; exact ⟨_, _, rfl, HE.out _ HN.out, hB2.drew⟩)
                · have hb1 : ¬ (c : Int) < 48 := by omega
                  have hb2 : (57 : Int) < (c : Int) := by omega
                  go_wp2
                  go_region
                  all_goals (go_wp2; go_ret2; exact ⟨_, _, rfl, HE.out _ HN.out, hB2.drew⟩)
              · have hb1 : ¬ (c : Int) < 48 := by omega
                have hb2 : ¬ (57 : Int) < (c : Int) := by omega
                have hw32 : IntKind.i32.wrap ((c : Int) - 48) = (c : Int) - 48 := by rw [IntKind.wrap_i32]; omega
                have HB : Hid (¬ (c < 48 ∨ 57 < c)) := hb
                clear hb
                by_cases h9 : 100000 < 10 * m + ((c : Int) - 48)
                · have HN : Hid (numI l = none) := by
                    show _ = _
                    rw [HP.out, drop_get' hgk.out]; exact digI_big _ _ (by rw [← HC.out]; exact HB.out) (by rw [← HC.out]; exact h9)
                  go_wp2
                  go_region
                  all_goals (go_wp2; go_ret2; exact ⟨_, _, rfl, HE.out _ HN.out, hB2.drew⟩)
                · have HN : Hid (numI l = digI (l.drop (pos + 1)) (10 * m + ((c : Int) - 48))) := by
                    show _ = _
                    rw [HP.out, drop_get' hgk.out, HC.out]; exact digI_next _ _ (by rw [← HC.out]; exact HB.out) (by rw [← HC.out]; exact h9)
                  go_wp2
                  go_roundw
                  case rel => exact ⟨pos + 1, 10 * m + ((c : Int) - 48), by go_num, hit2, by omega, by omega, hB2, HN⟩
                  case measure => rw [iterPos_of hit2, hpos0]; omega
            · have hh := decode_high s pos hp (by omega)
              obtain ⟨c, hc⟩ : ∃ c, c = (Utf8.decode s pos).1 := ⟨_, rfl⟩
              rw [← hc] at hnx hh
              clear hc
              have HN : Hid (numI l = none) := by
                show _ = _
                rw [HP.out, drop_get' hgk.out]; exact digI_bad _ _ (by omega)
              have hb1 : ¬ (c : Int) < 48 := by omega
              have hb2 : (57 : Int) < (c : Int) := by omega
              go_wp2
              go_region
              all_goals (go_wp2; go_ret2; exact ⟨_, _, rfl, HE.out _ HN.out, hB2.drew⟩)
          · have hnx : ∀ ty, (Instr.next (.pointer (some ⟨w.heap.size, 0, none⟩)) true ty).run Tryd.prog wr = _ := fun ty => Lib.run_next_end_at wr w.heap.size s pos ty hit hp
            have HN : Hid (numI l = some m) := by
              show _ = _
              rw [HP.out, List.drop_of_length_le (by rw [HLEN.out]; omega)]
              rfl
            go_wp2
            go_ret2
            exact ⟨_, _, rfl, Or.inl ⟨HN.out, rfl⟩, hB⟩

end Go.Proofs.YtammejplaeaocaaDoor
