/-
  The specification's l1Text writes a rule. Condition: the rule is ok.
-/
import Derived.Test.YtammejplaeaocaaDoorDec
import Derived.Test.YtammejplaeaocaaDoorMath
import Derived.Shelf.SlSortCmp.QuietGrown
namespace Go.Proofs.YtammejplaeaocaaDoor
open Go.RowKit
open Go.Sort (grow)

/-- At each number of this range a call hands these bytes back, few of them, and only makes memory. -/
def Writes (P : Program) (f : FuncId) (d : Int → ByteArray) : Prop :=
  ∀ n, 0 ≤ n → n ≤ 100000 → (d n).size ≤ 6 ∧ ∀ w, Calls P f #[.int .i64 n] w fun e w' => e = .returned (.string (d n)) ∧ ∃ q os, w' = grow (w.drewN q) os

/-- The beginning of a rule's line: its four numbers. -/
def headS (d : Int → ByteArray) (r : CR) : ByteArray :=
  ⟨#[101, 118, 101, 114, 121, 32]⟩ ++ d r.e ++ ⟨#[32, 97, 116, 32]⟩ ++ d r.a ++ ⟨#[32, 102, 114, 111, 109, 32]⟩ ++ d r.f ++ ⟨#[32, 116, 111, 32]⟩ ++ d r.t

/-- A number's digits. -/
def decS (n : Int) : ByteArray := ⟨(Lib.decDigits n.toNat).toArray⟩

theorem l1Dec_writes : Writes Tryd.prog 72 decS := fun n h0 h1 =>
  ⟨digits_len (by omega), fun w => (l1Dec_any n w h0 h1).mono fun e w' ⟨s, he, hs, hw⟩ => ⟨by rw [he, hs]; rfl, hw⟩⟩

/-- Behind the four numbers: what is left out, one behind the other. -/
def butS (d : Int → ByteArray) (out : ByteArray) (l : List Int) : ByteArray := l.foldl (fun o x => o ++ ⟨#[32]⟩ ++ d x) out
/-- The mark ahead of what is left out. -/
def markS (out : ByteArray) : List Int → ByteArray
  | [] => out
  | _ :: _ => out ++ ⟨#[32, 98, 117, 116]⟩
/-- A rule's line, without its end. -/
def lineS (d : Int → ByteArray) (r : CR) : ByteArray := butS d (markS (headS d r) r.b) r.b

theorem butS_step (d : Int → ByteArray) (out : ByteArray) (l : List Int) (k : Nat) (hk : k < l.length) : butS d out (l.take (k + 1)) = butS d out (l.take k) ++ ⟨#[32]⟩ ++ d (l[k]?.getD 0) := by
  rw [List.take_succ_eq_append_getElem hk, List.getElem?_eq_getElem hk]
  unfold butS
  rw [List.foldl_append]
  rfl

theorem ret_string {a b : ByteArray} (h : a = b) : Ending.returned (.string a) = .returned (.string b) := by rw [h]

set_option maxRecDepth 100000 in
set_option maxHeartbeats 4000000 in
theorem l1Text_any (r : CR) (a : Option Addr) (cap : Nat) (w : World) (d : Int → ByteArray) (lo : Nat) (hv : IntsIn w lo a r.b) (ho : Okd r) (hx : ∀ x, x ∈ r.b → 0 ≤ x ∧ x ≤ 100000) (hd : Writes Tryd.prog 72 d) :
    Calls Tryd.prog 50 #[r.val a cap] w fun e w' => e = .returned (.string (lineS d r)) ∧ Below w.heap.size w w' := by
  obtain ⟨o1, o2, o3, o4, o5, o6, o7, o8, o9⟩ := ho
  have hm : Tryd.prog.follows .mixedOrders = true := by kernel_rfl
  have e0 : ∀ n os, (grow ((w.alloc (.cells #[.int .i64 r.e, .int .i64 r.a, .int .i64 r.f, .int .i64 r.t, .slice a r.b.length cap] 66)).drewN n) os).cell? ⟨w.heap.size, 0, none⟩ = some (.int .i64 r.e) := cell_grown (by simp) (by simp)
  have e1 : ∀ n os, (grow ((w.alloc (.cells #[.int .i64 r.e, .int .i64 r.a, .int .i64 r.f, .int .i64 r.t, .slice a r.b.length cap] 66)).drewN n) os).cell? ⟨w.heap.size, 1, none⟩ = some (.int .i64 r.a) := cell_grown (by simp) (by simp)
  have e2 : ∀ n os, (grow ((w.alloc (.cells #[.int .i64 r.e, .int .i64 r.a, .int .i64 r.f, .int .i64 r.t, .slice a r.b.length cap] 66)).drewN n) os).cell? ⟨w.heap.size, 2, none⟩ = some (.int .i64 r.f) := cell_grown (by simp) (by simp)
  have e3 : ∀ n os, (grow ((w.alloc (.cells #[.int .i64 r.e, .int .i64 r.a, .int .i64 r.f, .int .i64 r.t, .slice a r.b.length cap] 66)).drewN n) os).cell? ⟨w.heap.size, 3, none⟩ = some (.int .i64 r.t) := cell_grown (by simp) (by simp)
  have z0 := (hd r.e (by omega) (by omega)).1
  have z1 := (hd r.a (by omega) (by omega)).1
  have z2 := (hd r.f (by omega) (by omega)).1
  have z3 := (hd r.t (by omega) (by omega)).1
  have H : Hid (Writes Tryd.prog 72 d) := hd
  clear hd
  go_enter Tryd.func50, Tryd.ntmps50
  go_wp2
  obtain ⟨W, HW0⟩ : ∃ W, W = w.alloc (.cells #[.int .i64 r.e, .int .i64 r.a, .int .i64 r.f, .int .i64 r.t, .slice a r.b.length cap] 66) := ⟨_, rfl⟩
  rw [← HW0] at e0 e1 e2 e3
  rw [← HW0]
  have HW : Hid (W = w.alloc (.cells #[.int .i64 r.e, .int .i64 r.a, .int .i64 r.f, .int .i64 r.t, .slice a r.b.length cap] 66)) := HW0
  clear HW0
  refine wp_region_quiet_grown (by assumption) (by kernel_rfl) ?_
  iterate 20
    refine wpQuiet_step (fun K hK => ?_)
    go_simp
    try (simp (disch := omega) only [if_neg]; go_simp)
    first
      | (refine hK _ ?_; clear hK K)
      | (apply Exists.intro
         refine ⟨fun _ => ?_, hK _ ?_⟩
         refine Calls.grown_of ((H.out _ (by omega) (by omega)).2 _)
         clear hK K)
  refine wpQuiet_nil ?_
  intro _ hw'
  obtain ⟨⟨nq, osq⟩, hw''⟩ := hw'
  subst hw''
  have hWs : W.heap.size = w.heap.size + 1 := by rw [HW.out]; simp
  have HB0 : Below (w.heap.size + 1) W (grow (W.drewN nq) osq) := hWs ▸ below_grow W nq osq
  have hbox0 : (grow (W.drewN nq) osq).cell? ⟨w.heap.size, 4, none⟩ = some (.slice a r.b.length cap) := by
    rw [HB0.cell (p := ⟨w.heap.size, 4, none⟩) (Nat.lt_succ_self _), HW.out]; simp
  have HZ : Hid ((headS d r).size ≤ 44) := by
    show _ ≤ _
    simp only [headS, ByteArray.size_append]
    simp only [ByteArray.size, List.size_toArray, List.length_cons, List.length_nil] at z0 z1 z2 z3 ⊢
    omega
  have HB : Hid (Below (w.heap.size + 1) W (grow (W.drewN nq) osq)) := HB0
  clear HB0 e0 e1 e2 e3 hWs
  obtain ⟨V, HV⟩ : ∃ V, V = grow (W.drewN nq) osq := ⟨_, rfl⟩
  change Exit.then _ _ Exit.normal _ (grow (W.drewN nq) osq)
  rw [← HV] at hbox0 HB ⊢
  clear HV
  have hH : (⟨#[101, 118, 101, 114, 121, 32]⟩ ++ d r.e ++ ⟨#[32, 97, 116, 32]⟩ ++ d r.a ++ ⟨#[32, 102, 114, 111, 109, 32]⟩ ++ d r.f ++ ⟨#[32, 116, 111, 32]⟩ ++ d r.t : ByteArray) = headS d r := rfl
  rw [hH]
  clear hH
  obtain ⟨S, HS0⟩ : ∃ S, S = headS d r := ⟨_, rfl⟩
  rw [← HS0] at HZ ⊢
  have HS : Hid (S = headS d r) := HS0
  have hSz : S.size ≤ 44 := HZ.out
  clear HS0 HZ
  have HI : Hid (IntsIn w lo a r.b) := hv
  clear hv
  have HE : Hid (∀ x, x ∈ r.b → 0 ≤ x ∧ x ≤ 100000) := hx
  clear hx
  by_cases hb : r.b.length = 0
  · go_wp2
    obtain ⟨M, hM⟩ : ∃ M, M = S := ⟨_, rfl⟩
    have HM : Hid (M = markS (headS d r) r.b) := by
      show _ = _
      rw [hM, HS.out, List.length_eq_zero_iff.1 hb]; rfl
    have hMz : M.size ≤ 48 := by rw [hM]; omega
    rw [← hM]
    clear hM
    go_loopw [3, 4] (fun o i wr => ∃ (k : Nat) (s : ByteArray), k ≤ r.b.length ∧ o = .string s ∧ i = .int .i64 k ∧ s = butS d M (r.b.take k) ∧ s.size ≤ 48 + 7 * k ∧ Below (w.heap.size + 1) W wr) (fun _ i _ => r.b.length - (intOf i).toNat)
    case atStart => exact ⟨0, M, Nat.zero_le _, rfl, rfl, rfl, by omega, HB.out⟩
    case round =>
      obtain ⟨k, s, hk, rfl, rfl, hs, hz, hB⟩ := hrel
      have hbox : wr.cell? ⟨w.heap.size, 4, none⟩ = some (.slice a r.b.length cap) := by
        rw [hB.cell (p := ⟨w.heap.size, 4, none⟩) (Nat.lt_succ_self _), HW.out]; simp
      have hB0 : Hid (Below w.heap.size w wr) := (HW.out ▸ (Below.refl w.heap.size w).alloc (Nat.le_refl _) _ : Below w.heap.size w W).trans (hB.mono (Nat.le_succ _))
      have HBr : Hid (Below (w.heap.size + 1) W wr) := hB
      have Hs : Hid (s = butS d M (r.b.take k)) := hs
      clear hB hs
      by_cases hlt : k < r.b.length
      · exact absurd hlt (by omega)
      · have hkl : k = r.b.length := by omega
        subst hkl
        go_wp2
        go_ret
        refine ⟨ret_string ?_, hB0.out⟩
        rw [Hs.out, HM.out, List.take_length]
        rfl
  · go_wp2
    rw [show decide (0 < r.b.length) = true from decide_eq_true (by omega)]
    obtain ⟨M, hM⟩ : ∃ M, M = S ++ ⟨#[32, 98, 117, 116]⟩ := ⟨_, rfl⟩
    have HM : Hid (M = markS (headS d r) r.b) := by
      show _ = _
      rw [hM, HS.out]
      cases hr : r.b with
      | nil => rw [hr] at hb; exact absurd rfl hb
      | cons x l => rfl
    have hMz : M.size ≤ 48 := by rw [hM, ByteArray.size_append]; simp only [ByteArray.size, List.size_toArray, List.length_cons, List.length_nil] at hSz ⊢; omega
    rw [← hM]
    clear hM
    go_loopw [3, 4] (fun o i wr => ∃ (k : Nat) (s : ByteArray), k ≤ r.b.length ∧ o = .string s ∧ i = .int .i64 k ∧ s = butS d M (r.b.take k) ∧ s.size ≤ 48 + 7 * k ∧ Below (w.heap.size + 1) W wr) (fun _ i _ => r.b.length - (intOf i).toNat)
    case atStart => exact ⟨0, M, Nat.zero_le _, rfl, rfl, rfl, by omega, HB.out⟩
    case round =>
      obtain ⟨k, s, hk, rfl, rfl, hs, hz, hB⟩ := hrel
      have hbox : wr.cell? ⟨w.heap.size, 4, none⟩ = some (.slice a r.b.length cap) := by
        rw [hB.cell (p := ⟨w.heap.size, 4, none⟩) (Nat.lt_succ_self _), HW.out]; simp
      have hB0 : Hid (Below w.heap.size w wr) := (HW.out ▸ (Below.refl w.heap.size w).alloc (Nat.le_refl _) _ : Below w.heap.size w W).trans (hB.mono (Nat.le_succ _))
      have HBr : Hid (Below (w.heap.size + 1) W wr) := hB
      have Hs : Hid (s = butS d M (r.b.take k)) := hs
      clear hB hs
      by_cases hlt : k < r.b.length
      · obtain ⟨b, off, rfl, _, c0⟩ := (HI.out.below hB0.out (Nat.le_refl _)).2.2 k hlt
        obtain ⟨x, hx0⟩ : ∃ x, x = r.b[k]?.getD 0 := ⟨_, rfl⟩
        rw [← hx0] at c0
        have HX : Hid (x = r.b[k]?.getD 0) := hx0
        obtain ⟨x0, x1⟩ : 0 ≤ x ∧ x ≤ 100000 := HE.out x (by rw [hx0, List.getElem?_eq_getElem hlt]; exact List.getElem_mem hlt)
        clear hx0
        have zx := (H.out x x0 x1).1
        go_wp2_with (go_at_call 72; refine ((H.out x x0 x1).2 _).mono ?_; rintro e w1 ⟨rfl, hw1⟩; have HW1 : Hid (∃ q os, w1 = grow (wr.drewN q) os) := hw1; clear hw1)
        go_roundw
        case rel =>
          obtain ⟨q, os, rfl⟩ := HW1.out
          refine ⟨k + 1, _, by omega, rfl, by go_num, ?_, ?_, HBr.out.trans ((below_grow wr q os).mono (by have := cell_lt hbox; simp at this; omega))⟩
          · rw [butS_step d M r.b k hlt, ← Hs.out, ← HX.out]
          · rw [ByteArray.size_append, ByteArray.size_append]
            simp only [ByteArray.size, List.size_toArray, List.length_cons, List.length_nil] at hz zx ⊢
            omega
        case measure => simp [intOf]; omega
      · have hkl : k = r.b.length := by omega
        subst hkl
        go_wp2
        go_ret
        refine ⟨ret_string ?_, hB0.out⟩
        rw [Hs.out, HM.out, List.take_length]
        rfl

end Go.Proofs.YtammejplaeaocaaDoor
