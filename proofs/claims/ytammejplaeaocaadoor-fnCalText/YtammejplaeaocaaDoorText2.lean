/-
  The specification's CalWrite writes rules, line by line; the empty text for rules that are not ok. No condition.
-/
import Derived.Test.YtammejplaeaocaaDoorText1
namespace Go.Proofs.YtammejplaeaocaaDoor
open Go.RowKit
open Go.Sort (grow)

/-- The rules' lines. -/
def linesS (d : Int → ByteArray) (rs : List CR) : ByteArray := rs.foldl (fun o r => o ++ lineS d r ++ ⟨#[10]⟩) ⟨#[]⟩
/-- What CalWrite answers. -/
def writeS (d : Int → ByteArray) (rs : List CR) : ByteArray := if rulesB rs = true then linesS d rs else ⟨#[]⟩
theorem writeS_no {d : Int → ByteArray} {rs : List CR} (h : rulesB rs = false) : writeS d rs = ⟨#[]⟩ := by unfold writeS; simp [h]
theorem writeS_ok {d : Int → ByteArray} {rs : List CR} (h : rulesB rs = true) : writeS d rs = linesS d rs := by unfold writeS; simp [h]

theorem linesS_step (d : Int → ByteArray) (rs : List CR) (k : Nat) (r : CR) (h : rs[k]? = some r) : linesS d (rs.take (k + 1)) = linesS d (rs.take k) ++ lineS d r ++ ⟨#[10]⟩ := by
  obtain ⟨hk, he⟩ := List.getElem?_eq_some_iff.1 h
  rw [List.take_succ_eq_append_getElem hk, he]
  unfold linesS
  rw [List.foldl_append]
  rfl

theorem butS_size {d : Int → ByteArray} : ∀ (l : List Int) (out : ByteArray), (∀ x, x ∈ l → (d x).size ≤ 6) → (butS d out l).size ≤ out.size + 7 * l.length
  | [], out, _ => by simp [butS]
  | x :: l, out, h => by
    have h1 := butS_size l (out ++ ⟨#[32]⟩ ++ d x) (fun y hy => h y (List.mem_cons_of_mem _ hy))
    have h2 := h x List.mem_cons_self
    have h3 : (out ++ ⟨#[32]⟩ ++ d x).size ≤ out.size + 7 := by
      rw [ByteArray.size_append, ByteArray.size_append]
      simp only [ByteArray.size, List.size_toArray, List.length_cons, List.length_nil] at h2 ⊢
      omega
    show (butS d (out ++ ⟨#[32]⟩ ++ d x) l).size ≤ _
    simp only [List.length_cons]
    omega

theorem but_in {r : CR} (h : ruleB r = true) : ∀ x, x ∈ r.b → 0 ≤ x ∧ x ≤ 100000 := by
  intro x hx
  have hb : butB r.b = true := by unfold ruleB at h; simp at h; exact h.2
  obtain ⟨i, hi, he⟩ := List.getElem_of_mem hx
  have := (List.all_eq_true.1 hb) i (List.mem_range.2 hi)
  unfold butAt at this
  rw [List.getElem?_eq_getElem hi] at this
  simp at this
  rw [he] at this
  exact inB_iff.1 this.1

theorem lineS_size {d : Int → ByteArray} {r : CR} (h : ruleB r = true) (hd : ∀ n, 0 ≤ n → n ≤ 100000 → (d n).size ≤ 6) : (lineS d r).size ≤ 104 := by
  have hb := but_in h
  obtain ⟨o1, o2, o3, o4, o5, o6, o7, o8, o9⟩ := okd_of h
  have z0 := hd r.e (by omega) (by omega)
  have z1 := hd r.a (by omega) (by omega)
  have z2 := hd r.f (by omega) (by omega)
  have z3 := hd r.t (by omega) (by omega)
  have hh : (headS d r).size ≤ 44 := by
    simp only [headS, ByteArray.size_append]
    simp only [ByteArray.size, List.size_toArray, List.length_cons, List.length_nil] at z0 z1 z2 z3 ⊢
    omega
  have hm : (markS (headS d r) r.b).size ≤ 48 := by
    cases r.b with
    | nil => show (headS d r).size ≤ 48; omega
    | cons x l =>
      show (headS d r ++ ⟨#[32, 98, 117, 116]⟩).size ≤ 48
      rw [ByteArray.size_append]
      simp only [ByteArray.size, List.size_toArray, List.length_cons, List.length_nil] at hh ⊢
      omega
  have := butS_size (d := d) r.b (markS (headS d r) r.b) (fun x hx => hd x (hb x hx).1 (hb x hx).2)
  unfold lineS
  omega

theorem rule_at {rs : List CR} (h : rulesB rs = true) {k : Nat} {r : CR} (hr : rs[k]? = some r) : ruleB r = true := by
  unfold rulesB at h
  simp at h
  exact h.2 r (List.mem_of_getElem? hr)
theorem rules_four {rs : List CR} (h : rulesB rs = true) : rs.length ≤ 4 := by
  unfold rulesB at h
  simp at h
  exact h.1.2

set_option maxHeartbeats 1000000 in
theorem specCalWrite_any (a : Option Addr) (cap : Nat) (rs : List CR) (w : World) (lo lb : Nat) (hl : rs.length ≤ 9223372036854775807) (hc : RulesIn w lo lb a rs) :
    Calls Tryd.prog 25 #[.slice a rs.length cap] w fun e w' => e = .returned (.string (writeS decS rs)) ∧ Below w.heap.size w w' := by
  cases hok : rulesB rs with
  | false =>
    rw [writeS_no hok]
    go_enter Tryd.func25, Tryd.ntmps25
    go_wp2_with (go_at_call 26; refine (specCalOk_any a cap rs _ lo lb hl hc).mono ?_; rintro e w1 ⟨rfl, hb1⟩)
    go_ret
    exact ⟨rfl, hb1⟩
  | true =>
    rw [writeS_ok hok]
    have h4 := rules_four hok
    have HO : Hid (rulesB rs = true) := hok
    go_enter Tryd.func25, Tryd.ntmps25
    go_wp2_with (go_at_call 26; refine (specCalOk_any a cap rs _ lo lb hl hc).mono ?_; rintro e w1 ⟨rfl, hb1⟩)
    have HB1 : Hid (Below w.heap.size w w1) := hb1
    clear hb1
    go_loopw [3, 4] (fun o i wr => ∃ (k : Nat) (s : ByteArray), k ≤ rs.length ∧ o = .string s ∧ i = .int .i64 k ∧ s = linesS decS (rs.take k) ∧ s.size ≤ 105 * k ∧ Below w.heap.size w wr) (fun _ i _ => rs.length - (intOf i).toNat)
    case atStart => exact ⟨0, ⟨#[]⟩, Nat.zero_le _, rfl, rfl, rfl, by simp [ByteArray.size], HB1.out⟩
    case round =>
      obtain ⟨k, s, hk, rfl, rfl, hs, hz, hB⟩ := hrel
      have Hs : Hid (s = linesS decS (rs.take k)) := hs
      have HBr : Hid (Below w.heap.size w wr) := hB
      clear hs hB
      by_cases hlt : k < rs.length
      · obtain ⟨r, hr⟩ : ∃ r, rs[k]? = some r := ⟨_, List.getElem?_eq_getElem hlt⟩
        obtain ⟨_, b, off, ba, bc, rfl, _, hi, c0, c1, c2, c3, c4⟩ := hc.below HBr.out (Nat.le_refl _) k r hr
        have HR : Hid (rs[k]? = some r) := hr
        have hrb := rule_at HO.out hr
        have zl : (lineS decS r).size ≤ 104 := lineS_size hrb (fun n h0 h1 => (l1Dec_writes n h0 h1).1)
        clear hr
        go_wp2_with (go_at_call 50; refine (l1Text_any r _ _ _ _ lb (by exact hi) (okd_of hrb) (but_in hrb) l1Dec_writes).mono ?_; rintro e w1 ⟨rfl, hw1⟩; have HW1 : Hid (Below wr.heap.size wr w1) := hw1; clear hw1)
        go_roundw
        case rel =>
          refine ⟨k + 1, _, by omega, rfl, by go_num, ?_, ?_, HBr.out.trans (HW1.out.mono HBr.out.size)⟩
          · rw [linesS_step decS rs k r HR.out, ← Hs.out]
          · rw [ByteArray.size_append, ByteArray.size_append]
            simp only [ByteArray.size, List.size_toArray, List.length_cons, List.length_nil] at hz zl ⊢
            omega
        case measure => simp [intOf]; omega
      · obtain rfl : k = rs.length := by omega
        go_wp2
        go_ret
        refine ⟨ret_string ?_, HBr.out⟩
        rw [Hs.out, List.take_length]

end Go.Proofs.YtammejplaeaocaaDoor
