/-
  The program's CalWrite writes rules, line by line; the empty text for rules that are not ok. Condition: strconv.Itoa writes as its contract says.
-/
import Derived.Test.YtammejplaeaocaaDoorLine
import Derived.Test.YtammejplaeaocaaDoorImpl1
namespace Go.Proofs.YtammejplaeaocaaDoor
open Go.RowKit
open Go.Sort (grow)

theorem but_eight {r : CR} (h : ruleB r = true) : r.b.length ≤ 8 := by unfold ruleB at h; simp at h; exact h.1.2

set_option maxHeartbeats 1000000 in
theorem implCalWrite_any (a : Option Addr) (cap : Nat) (rs : List CR) (w : World) (lo lb : Nat) (hl : rs.length ≤ 9223372036854775807) (hc : RulesIn w lo lb a rs) (hg : Glob w)
    (T : World → Prop) (hT : ∀ w', Below w.heap.size w w' → T w') (hd : WritesIn Tryd.prog 70 decS T) :
    Calls Tryd.prog 23 #[.slice a rs.length cap] w fun e w' => e = .returned (.string (writeS decS rs)) ∧ Below w.heap.size w w' := by
  cases hok : rulesB rs with
  | false =>
    rw [writeS_no hok]
    go_enter Tryd.func23, Tryd.ntmps23
    go_wp2_with (go_at_call 27; refine (implCalOk_any a cap rs _ lo lb hl hc hg).mono ?_; rintro e w1 ⟨rfl, hb1⟩)
    go_ret
    exact ⟨rfl, hb1⟩
  | true =>
    rw [writeS_ok hok]
    have h4 := rules_four hok
    have HO : Hid (rulesB rs = true) := hok
    go_enter Tryd.func23, Tryd.ntmps23
    go_wp2_with (go_at_call 27; refine (implCalOk_any a cap rs _ lo lb hl hc hg).mono ?_; rintro e w1 ⟨rfl, hb1⟩)
    have HB1 : Hid (Below w.heap.size w w1) := hb1
    clear hb1
    have HTT : Hid (∀ w', Below w.heap.size w w' → T w') := hT
    have HD : Hid (WritesIn Tryd.prog 70 decS T) := hd
    clear hT hd
    go_loopw [3, 5, 11] (fun o _ i wr => ∃ (k : Nat) (s : ByteArray), k ≤ rs.length ∧ o = .string s ∧ i = .int .i64 k ∧ s = linesS decS (rs.take k) ∧ s.size ≤ 105 * k ∧ Below w.heap.size w wr) (fun _ _ i _ => rs.length - (intOf i).toNat)
    case atStart => exact ⟨0, ⟨#[]⟩, Nat.zero_le _, rfl, rfl, rfl, by simp [ByteArray.size], HB1.out⟩
    case round =>
      obtain ⟨k, s, hk, rfl, rfl, hs, hz, hB⟩ := hrel
      have Hs : Hid (s = linesS decS (rs.take k)) := hs
      have HBr : Hid (Below w.heap.size w wr) := hB
      clear hs hB
      by_cases hlt : k < rs.length
      · obtain ⟨r, hr⟩ : ∃ r, rs[k]? = some r := ⟨_, List.getElem?_eq_getElem hlt⟩
        obtain ⟨_, b, off, ba, bc, rfl, _, hi, c0, c1, c2, c3, c4⟩ := hc.below HBr.out (Nat.le_refl _) k r hr
        have HR : Hid (rs[k]? = some r) := hr
        have hrb := rule_at HO.out hr
        have zl : (lineS decS r ++ ⟨#[10]⟩).size ≤ 105 := by
          have := lineS_size hrb (fun n h0 h1 => (l1Dec_writes n h0 h1).1)
          rw [ByteArray.size_append]
          simp only [ByteArray.size, List.size_toArray, List.length_cons, List.length_nil] at this ⊢
          omega
        clear hr
        have hb0 : Below wr.heap.size wr (wr.alloc (.cells #[.int .i64 r.e, .int .i64 r.a, .int .i64 r.f, .int .i64 r.t, .slice ba r.b.length bc] 66)) := (Below.refl _ _).alloc (Nat.le_refl _) _
        have hi1 := hi.below hb0 (Nat.le_refl _)
        have HB0 : Hid _ := hb0
        clear hb0
        go_wp2_with fail
        refine (ruleLine_any r ba bc _ decS lb hi1 (okd_of hrb) (but_eight hrb) (but_in hrb) T (fun w' h' => HTT.out w' (HBr.out.trans ((HB0.out.trans (h'.mono (by simp))).mono HBr.out.size))) HD.out).mono ?_
        rintro e w1 ⟨rfl, hb1⟩
        have HW1 : Hid (Below w.heap.size w w1) := HBr.out.trans ((HB0.out.trans (hb1.mono (by simp))).mono HBr.out.size)
        clear hb1
        obtain ⟨L, hL⟩ : ∃ L, L = lineS decS r ++ ⟨#[10]⟩ := ⟨_, rfl⟩
        rw [← hL] at zl ⊢
        have HL : Hid (L = lineS decS r ++ ⟨#[10]⟩) := hL
        clear hL
        go_wp2
        go_roundw
        case rel =>
          refine ⟨k + 1, _, by omega, rfl, by go_num, ?_, ?_, HW1.out⟩
          · rw [linesS_step decS rs k r HR.out, ← Hs.out, HL.out, ByteArray.append_assoc]
          · rw [ByteArray.size_append]; omega
        case measure => simp [intOf]; omega
      · obtain rfl : k = rs.length := by omega
        go_wp2
        go_ret
        refine ⟨ret_string ?_, HBr.out⟩
        rw [Hs.out, List.take_length]

end Go.Proofs.YtammejplaeaocaaDoor
