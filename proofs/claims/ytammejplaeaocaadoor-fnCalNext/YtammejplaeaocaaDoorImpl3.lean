/-
  The program's leastAbove over the rules: the next tick of all, and whether there is one. Condition: the rules are ok.
-/
import Derived.Test.YtammejplaeaocaaDoorImpl2
namespace Go.Proofs.YtammejplaeaocaaDoor
open Go.RowKit

/-- What leastAbove holds: the least so far, and whether there is one. -/
def lv (b : Int) : Int := if b < 0 then 0 else b
def lf (b : Int) : Bool := decide (0 ≤ b)
theorem lv_neg {b : Int} (h : b < 0) : lv b = 0 := by unfold lv; rw [if_pos h]
theorem lv_pos {b : Int} (h : ¬ b < 0) : lv b = b := by unfold lv; rw [if_neg h]
theorem lf_neg {b : Int} (h : b < 0) : lf b = false := by unfold lf; simp; omega
theorem lf_pos {b : Int} (h : ¬ b < 0) : lf b = true := by unfold lf; simp; omega
theorem tv_lv (r : CR) (t : Int) : tv r t = lv (first r t) := rfl
theorem tb_lf (r : CR) (t : Int) : tb r t = lf (first r t) := rfl

set_option maxHeartbeats 1000000 in
theorem leastAbove_any (a : Option Addr) (cap : Nat) (rs : List CR) (t : Int) (w : World) (lo lb : Nat) (hl : rs.length ≤ 4) (hc : RulesIn w lo lb a rs) (hok : ∀ r, r ∈ rs → Okd r) (h1 : In64 t) :
    Calls Tryd.prog 78 #[.slice a rs.length cap, .int .i64 t, .func (.func 61) #[] #[]] w fun e w' => e = .returned (.tuple #[.int .i64 (lv (nxtTo rs t)), .bool (lf (nxtTo rs t))]) ∧ Below w.heap.size w w' := by
  have HOK : Hid (∀ r, r ∈ rs → Okd r) := hok
  clear hok
  go_enter Tryd.func78, Tryd.ntmps78
  go_wp2
  go_loopw [8, 9, 11, 12, 13, 16] (fun v f _ _ _ i wr => ∃ k : Nat, k ≤ rs.length ∧ i = .int .i64 k ∧ v = .int .i64 (lv (nxtTo (rs.take k) t)) ∧ f = .bool (lf (nxtTo (rs.take k) t)) ∧ Below w.heap.size w wr) (fun _ _ _ _ _ i _ => rs.length - (intOf i).toNat)
  case atStart => exact ⟨0, Nat.zero_le _, rfl, rfl, rfl, Below.refl _ _⟩
  case round =>
    obtain ⟨k, hk, rfl, rfl, rfl, hB⟩ := hrel
    by_cases hlt : k < rs.length
    · obtain ⟨r, hr⟩ : ∃ r, rs[k]? = some r := ⟨_, List.getElem?_eq_getElem hlt⟩
      obtain ⟨_, b, off, ba, bc, rfl, _, hi, c0, c1, c2, c3, c4⟩ := hc.below hB (Nat.le_refl _) k r hr
      have ho := HOK.out r (List.mem_of_getElem? hr)
      have HN : Hid (nxtTo (rs.take (k + 1)) t = better (nxtTo (rs.take k) t) (first r t)) := nxtTo_take hr t
      have hsz := hB.size
      have HB : Hid (Below w.heap.size w wr) := hB
      have hb0 : Below wr.heap.size wr (wr.alloc (.cells #[.int .i64 r.e, .int .i64 r.a, .int .i64 r.f, .int .i64 r.t, .slice ba r.b.length bc] 66)) := (Below.refl _ _).alloc (Nat.le_refl _) _
      have hi1 := hi.below hb0 (Nat.le_refl _)
      have HB0 : Hid _ := hb0
      clear hB hr hb0
      go_wp2_with fail
      refine (tickAbove_any r t ba bc _ lb hi1 ho h1).mono ?_
      rintro e w1 ⟨rfl, hb1⟩
      have HB1 : Hid (Below w.heap.size w w1) := HB.out.trans ((HB0.out.trans (hb1.mono (by simp))).mono hsz)
      clear hb1 c0 c1 c2 c3 c4 hi hi1 HB HB0
      obtain ⟨old, hold⟩ : ∃ old, old = nxtTo (rs.take k) t := ⟨_, rfl⟩
      rw [← hold] at HN
      rw [← hold]
      clear hold
      by_cases q1 : first r t < 0
      · have e1 : tb r t = false := by rw [tb_lf, lf_neg q1]
        have HV : Hid (nxtTo (rs.take (k + 1)) t = old) := by show _ = _; rw [HN.out, better_no q1]
        clear q1
        go_wp2
        go_roundw
        case rel => exact ⟨k + 1, by omega, by go_num, by rw [HV.out], by rw [HV.out], HB1.out⟩
        case measure => simp [intOf]; omega
      · have e1 : tb r t = true := by rw [tb_lf, lf_pos q1]
        have e2 : tv r t = first r t := by rw [tv_lv, lv_pos q1]
        by_cases q2 : old < 0
        · have e3 : lf old = false := lf_neg q2
          have HV : Hid (nxtTo (rs.take (k + 1)) t = first r t) := by show _ = _; rw [HN.out, better_first q1 q2]
          have HQ : Hid (¬ first r t < 0) := q1
          clear q1 q2
          go_wp2
          go_roundw
          case rel => exact ⟨k + 1, by omega, by go_num, by rw [HV.out, lv_pos (by have := HQ.out; omega)], by rw [HV.out, lf_pos (by have := HQ.out; omega)], HB1.out⟩
          case measure => simp [intOf]; omega
        · have e3 : lf old = true := lf_pos q2
          have e4 : lv old = old := lv_pos q2
          have HQ : Hid (¬ first r t < 0) := q1
          by_cases q3 : first r t < old
          · have HV : Hid (nxtTo (rs.take (k + 1)) t = first r t) := by show _ = _; rw [HN.out, better_less q1 q3]
            clear q1 q2
            go_wp2
            go_roundw
            case rel => exact ⟨k + 1, by omega, by go_num, by rw [HV.out, lv_pos (by have := HQ.out; omega)], by rw [HV.out, lf_pos (by have := HQ.out; omega)], HB1.out⟩
            case measure => simp [intOf]; omega
          · have HV : Hid (nxtTo (rs.take (k + 1)) t = old) := by show _ = _; rw [HN.out, better_more q2 q3]
            have HE : Hid (lv old = old ∧ lf old = true) := ⟨e4, e3⟩
            clear q1 q2
            go_wp2
            go_roundw
            case rel => exact ⟨k + 1, by omega, by go_num, by rw [HV.out, HE.out.1], by rw [HV.out, HE.out.2], HB1.out⟩
            case measure => simp [intOf]; omega
    · obtain rfl : k = rs.length := by omega
      rw [List.take_length]
      go_wp2
      go_ret2
      exact ⟨rfl, hB⟩

end Go.Proofs.YtammejplaeaocaaDoor
