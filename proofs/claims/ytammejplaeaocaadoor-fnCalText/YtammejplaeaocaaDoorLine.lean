/-
  The program's ruleLine writes a rule's line. Condition: the rule is ok, and strconv.Itoa writes as its contract says.
-/
import Derived.Test.YtammejplaeaocaaDoorText2
namespace Go.Proofs.YtammejplaeaocaaDoor
open Go.RowKit
open Go.Sort (grow)

/-- As 'Writes', in worlds of which T holds. -/
def WritesIn (P : Program) (f : FuncId) (d : Int → ByteArray) (T : World → Prop) : Prop :=
  ∀ n, 0 ≤ n → n ≤ 100000 → (d n).size ≤ 6 ∧ ∀ w, T w → Calls P f #[.int .i64 n] w fun e w' => e = .returned (.string (d n)) ∧ ∃ q os, w' = grow (w.drewN q) os

theorem butS_out (d : Int → ByteArray) : ∀ (l : List Int) (out : ByteArray), butS d out l = out ++ butS d ⟨#[]⟩ l
  | [], out => by
    show out = out ++ ⟨#[]⟩
    exact (ByteArray.append_empty (b := out)).symm
  | x :: l, out => by
    show butS d (out ++ ⟨#[32]⟩ ++ d x) l = out ++ butS d (⟨#[]⟩ ++ ⟨#[32]⟩ ++ d x) l
    rw [butS_out d l (out ++ ⟨#[32]⟩ ++ d x), butS_out d l (⟨#[]⟩ ++ ⟨#[32]⟩ ++ d x)]
    have e : (⟨#[]⟩ : ByteArray) ++ ⟨#[32]⟩ = ⟨#[32]⟩ := rfl
    rw [e]
    simp only [ByteArray.append_assoc]

set_option maxHeartbeats 2000000 in
theorem spaced_any (l : List Int) (a : Option Addr) (cap : Nat) (w : World) (d : Int → ByteArray) (lo : Nat) (hv : IntsIn w lo a l) (hl : l.length ≤ 1000) (hx : ∀ x, x ∈ l → 0 ≤ x ∧ x ≤ 100000) (T : World → Prop) (hT : ∀ w', Below w.heap.size w w' → T w') (hd : WritesIn Tryd.prog 70 d T) :
    Calls Tryd.prog 71 #[.slice a l.length cap] w fun e w' => ∃ s, e = .returned (.string s) ∧ s = butS d ⟨#[]⟩ l ∧ s.size ≤ 7 * l.length ∧ Below w.heap.size w w' := by
  have H : Hid (WritesIn Tryd.prog 70 d T) := hd
  clear hd
  have HE : Hid (∀ x, x ∈ l → 0 ≤ x ∧ x ≤ 100000) := hx
  clear hx
  have HI : Hid (IntsIn w lo a l) := hv
  clear hv
  go_enter Tryd.func71, Tryd.ntmps71
  go_wp2
  go_loopw [3, 5, 8] (fun o _ i wr => ∃ (k : Nat) (s : ByteArray), k ≤ l.length ∧ o = .string s ∧ i = .int .i64 k ∧ s = butS d ⟨#[]⟩ (l.take k) ∧ s.size ≤ 7 * k ∧ Below w.heap.size w wr) (fun _ _ i _ => l.length - (intOf i).toNat)
  case atStart => exact ⟨0, ⟨#[]⟩, Nat.zero_le _, rfl, rfl, rfl, by simp [ByteArray.size], Below.refl _ _⟩
  case round =>
    obtain ⟨k, s, hk, rfl, rfl, hs, hz, hB⟩ := hrel
    have HBr : Hid (Below w.heap.size w wr) := hB
    have Hs : Hid (s = butS d ⟨#[]⟩ (l.take k)) := hs
    clear hB hs
    by_cases hlt : k < l.length
    · obtain ⟨b, off, rfl, _, c0⟩ := (HI.out.below HBr.out (Nat.le_refl _)).2.2 k hlt
      obtain ⟨x, hx0⟩ : ∃ x, x = l[k]?.getD 0 := ⟨_, rfl⟩
      rw [← hx0] at c0
      have HX : Hid (x = l[k]?.getD 0) := hx0
      obtain ⟨x0, x1⟩ : 0 ≤ x ∧ x ≤ 100000 := HE.out x (by rw [hx0, List.getElem?_eq_getElem hlt]; exact List.getElem_mem hlt)
      clear hx0
      have zx := (H.out x x0 x1).1
      have HTr : Hid (T wr) := hT _ HBr.out
      go_wp2_with (go_at_call 70; refine ((H.out x x0 x1).2 _ HTr.out).mono ?_; rintro e w1 ⟨rfl, hw1⟩; have HW1 : Hid (∃ q os, w1 = grow (wr.drewN q) os) := hw1; clear hw1)
      go_roundw
      case rel =>
        obtain ⟨q, os, rfl⟩ := HW1.out
        refine ⟨k + 1, _, by omega, rfl, by go_num, ?_, ?_, HBr.out.trans ((below_grow wr q os).mono HBr.out.size)⟩
        · rw [butS_step d ⟨#[]⟩ l k hlt, ← Hs.out, ← HX.out, ByteArray.append_assoc]
        · rw [ByteArray.size_append, ByteArray.size_append]
          simp only [ByteArray.size, List.size_toArray, List.length_cons, List.length_nil] at hz zx ⊢
          omega
      case measure => simp [intOf]; omega
    · have hkl : k = l.length := by omega
      subst hkl
      go_wp2
      go_ret
      refine ⟨s, rfl, ?_, hz, HBr.out⟩
      rw [Hs.out, List.take_length]

set_option maxRecDepth 100000 in
set_option maxHeartbeats 4000000 in
theorem ruleLine_any (r : CR) (a : Option Addr) (cap : Nat) (w : World) (d : Int → ByteArray) (lo : Nat) (hv : IntsIn w lo a r.b) (ho : Okd r) (h8 : r.b.length ≤ 8) (hx : ∀ x, x ∈ r.b → 0 ≤ x ∧ x ≤ 100000) (T : World → Prop) (hT : ∀ w', Below w.heap.size w w' → T w') (hd : WritesIn Tryd.prog 70 d T) :
    Calls Tryd.prog 49 #[r.val a cap] w fun e w' => e = .returned (.string (lineS d r ++ ⟨#[10]⟩)) ∧ Below w.heap.size w w' := by
  obtain ⟨o1, o2, o3, o4, o5, o6, o7, o8, o9⟩ := ho
  have HL8 : Hid (r.b.length ≤ 8) := h8
  clear h8
  have hm : Tryd.prog.follows .mixedOrders = true := by kernel_rfl
  have e0 : ∀ n os, (grow ((w.alloc (.cells #[.int .i64 r.e, .int .i64 r.a, .int .i64 r.f, .int .i64 r.t, .slice a r.b.length cap] 66)).drewN n) os).cell? ⟨w.heap.size, 0, none⟩ = some (.int .i64 r.e) := cell_grown (by simp) (by simp)
  have e1 : ∀ n os, (grow ((w.alloc (.cells #[.int .i64 r.e, .int .i64 r.a, .int .i64 r.f, .int .i64 r.t, .slice a r.b.length cap] 66)).drewN n) os).cell? ⟨w.heap.size, 1, none⟩ = some (.int .i64 r.a) := cell_grown (by simp) (by simp)
  have e2 : ∀ n os, (grow ((w.alloc (.cells #[.int .i64 r.e, .int .i64 r.a, .int .i64 r.f, .int .i64 r.t, .slice a r.b.length cap] 66)).drewN n) os).cell? ⟨w.heap.size, 2, none⟩ = some (.int .i64 r.f) := cell_grown (by simp) (by simp)
  have e3 : ∀ n os, (grow ((w.alloc (.cells #[.int .i64 r.e, .int .i64 r.a, .int .i64 r.f, .int .i64 r.t, .slice a r.b.length cap] 66)).drewN n) os).cell? ⟨w.heap.size, 3, none⟩ = some (.int .i64 r.t) := cell_grown (by simp) (by simp)
  have z0 := (hd r.e (by omega) (by omega)).1
  have z1 := (hd r.a (by omega) (by omega)).1
  have z2 := (hd r.f (by omega) (by omega)).1
  have z3 := (hd r.t (by omega) (by omega)).1
  have H : Hid (WritesIn Tryd.prog 70 d T) := hd
  clear hd
  go_enter Tryd.func49, Tryd.ntmps49
  go_wp2
  obtain ⟨W, HW0⟩ : ∃ W, W = w.alloc (.cells #[.int .i64 r.e, .int .i64 r.a, .int .i64 r.f, .int .i64 r.t, .slice a r.b.length cap] 66) := ⟨_, rfl⟩
  rw [← HW0] at e0 e1 e2 e3
  rw [← HW0]
  have HW : Hid (W = w.alloc (.cells #[.int .i64 r.e, .int .i64 r.a, .int .i64 r.f, .int .i64 r.t, .slice a r.b.length cap] 66)) := HW0
  clear HW0
  have HT : Hid (∀ n os, T (grow (W.drewN n) os)) := fun n os => hT _ ((HW.out ▸ (Below.refl w.heap.size w).alloc (Nat.le_refl _) _ : Below w.heap.size w W).trans ((below_grow W n os).mono (by rw [HW.out]; simp)))
  refine wp_region_quiet_grown (by assumption) (by kernel_rfl) ?_
  iterate 20
    refine wpQuiet_step (fun K hK => ?_)
    go_simp
    try (simp (disch := omega) only [if_neg]; go_simp)
    first
      | (refine hK _ ?_; clear hK K)
      | (apply Exists.intro
         refine ⟨fun _ => ?_, hK _ ?_⟩
         refine Calls.grown_of ((H.out _ (by omega) (by omega)).2 _ (HT.out _ _))
         clear hK K)
  refine wpQuiet_nil ?_
  intro _ hw'
  obtain ⟨⟨nq, osq⟩, hw''⟩ := hw'
  subst hw''
  have hWs : W.heap.size = w.heap.size + 1 := by rw [HW.out]; simp
  have HB0 : Below (w.heap.size + 1) W (grow (W.drewN nq) osq) := hWs ▸ below_grow W nq osq
  have hbox0 : (grow (W.drewN nq) osq).cell? ⟨w.heap.size, 4, none⟩ = some (.slice a r.b.length cap) := by
    rw [HB0.cell (p := ⟨w.heap.size, 4, none⟩) (Nat.lt_succ_self _), HW.out]; simp
  have HZ : Hid ((headS d r).size ≤ 44) := by
    show _ ≤ _
    simp only [headS, ByteArray.size_append]
    simp only [ByteArray.size, List.size_toArray, List.length_cons, List.length_nil] at z0 z1 z2 z3 ⊢
    omega
  have HB : Hid (Below (w.heap.size + 1) W (grow (W.drewN nq) osq)) := HB0
  clear HB0 e0 e1 e2 e3 hWs
  obtain ⟨V, HV⟩ : ∃ V, V = grow (W.drewN nq) osq := ⟨_, rfl⟩
  change Exit.then _ _ Exit.normal _ (grow (W.drewN nq) osq)
  rw [← HV] at hbox0 HB ⊢
  clear HV
  have hH : (⟨#[101, 118, 101, 114, 121, 32]⟩ ++ d r.e ++ ⟨#[32, 97, 116, 32]⟩ ++ d r.a ++ ⟨#[32, 102, 114, 111, 109, 32]⟩ ++ d r.f ++ ⟨#[32, 116, 111, 32]⟩ ++ d r.t : ByteArray) = headS d r := rfl
  rw [hH]
  clear hH
  obtain ⟨S, HS0⟩ : ∃ S, S = headS d r := ⟨_, rfl⟩
  rw [← HS0] at HZ ⊢
  have HS : Hid (S = headS d r) := HS0
  have hSz : S.size ≤ 44 := HZ.out
  clear HS0 HZ
  have HI : Hid (IntsIn w lo a r.b) := hv
  clear hv
  have HE : Hid (∀ x, x ∈ r.b → 0 ≤ x ∧ x ≤ 100000) := hx
  clear hx
  have hb8 : r.b.length ≤ 8 := HL8.out
  by_cases hb : r.b.length = 0
  · go_wp2
    go_ret
    refine ⟨ret_string ?_, (HW.out ▸ (Below.refl w.heap.size w).alloc (Nat.le_refl _) _ : Below w.heap.size w W).trans (HB.out.mono (Nat.le_succ _))⟩
    rw [HS.out]
    unfold lineS
    rw [List.length_eq_zero_iff.1 hb]
    rfl
  · have hBV : Hid (Below w.heap.size w V) := (HW.out ▸ (Below.refl w.heap.size w).alloc (Nat.le_refl _) _ : Below w.heap.size w W).trans (HB.out.mono (Nat.le_succ _))
    go_wp2_with (go_at_call 71; refine (spaced_any r.b a cap _ d lo (HI.out.below hBV.out (Nat.le_refl _)) (by omega) HE.out T (fun w' h' => hT w' (hBV.out.trans (h'.mono hBV.out.size))) H.out).mono ?_; rintro e w1 ⟨s, rfl, hs, hz, hw1⟩; have HW1 : Hid (Below V.heap.size V w1) := hw1; have Hs : Hid (s = butS d ⟨#[]⟩ r.b) := hs; clear hw1 hs)
    go_ret
    refine ⟨ret_string ?_, hBV.out.trans (HW1.out.mono hBV.out.size)⟩
    rw [HS.out, Hs.out]
    unfold lineS
    rw [butS_out d r.b (markS (headS d r) r.b)]
    cases hr : r.b with
    | nil => rw [hr] at hb; exact absurd rfl hb
    | cons x l =>
      show _ = headS d r ++ ⟨#[32, 98, 117, 116]⟩ ++ _ ++ _
      simp only [ByteArray.append_assoc]

end Go.Proofs.YtammejplaeaocaaDoor
