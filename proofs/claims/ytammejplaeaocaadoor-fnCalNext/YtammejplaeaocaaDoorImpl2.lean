/-
  The program's ticks: slices.Contains, tickAbove, leastAbove answer as plain data. No condition beyond: the rules are ok.
-/
import Derived.Test.YtammejplaeaocaaDoorSpec2
namespace Go.Proofs.YtammejplaeaocaaDoor
open Go.RowKit

/-- The first place of a tick, -1 if it is not there. -/
def idxB (l : List Int) (t : Int) : Int := if butHas l t = true then 0 else -1

set_option maxHeartbeats 400000 in
theorem sIndex_any (a : Option Addr) (cap : Nat) (l : List Int) (t : Int) (w : World) (lo : Nat) (hv : IntsIn w lo a l) :
    Calls Tryd.prog 94 #[.slice a l.length cap, .int .i64 t] w fun e w' => ∃ n : Int, e = .returned (.int .i64 n) ∧ (decide (0 ≤ n) = butHas l t) ∧ w' = w := by
  have hlen := hv.1
  go_enter Tryd.func94, Tryd.ntmps94
  go_wp2
  go_loopw [5, 8] (fun _ i wr => ∃ k : Nat, k ≤ l.length ∧ i = .int .i64 k ∧ wr = w ∧ ∀ j, j < k → l[j]?.getD 0 ≠ t) (fun _ i _ => l.length - (intOf i).toNat)
  case atStart => exact ⟨0, Nat.zero_le _, rfl, rfl, fun j hj => by omega⟩
  case round =>
    obtain ⟨k, hk, rfl, rfl, hbut⟩ := hrel
    have HU : Hid (∀ j, j < k → l[j]?.getD 0 ≠ t) := hbut
    clear hbut
    by_cases hlt : k < l.length
    · obtain ⟨b, off, rfl, _, c0⟩ := hv.2.2 k hlt
      obtain ⟨x, hx⟩ : ∃ x, x = l[k]?.getD 0 := ⟨_, rfl⟩
      rw [← hx] at c0
      have HX : Hid (x = l[k]?.getD 0) := hx
      clear hx
      by_cases hxt : x = t
      · have hd : (t == x) = true := by simp [hxt]
        have HT : Hid (x = t) := hxt
        clear hxt
        go_wp2
        go_ret
        exact ⟨k, rfl, by rw [butHas_hit hlt HX.out HT.out]; simp, rfl⟩
      · have hd : (t == x) = false := by simp; intro h; exact hxt h.symm
        have HT : Hid (¬ x = t) := hxt
        clear hxt
        go_wp2
        go_roundw
        case rel =>
          refine ⟨k + 1, by omega, by go_num, (by first | trivial | rfl), fun j hj => ?_⟩
          by_cases hjk : j = k
          · subst hjk; rw [← HX.out]; exact HT.out
          · exact HU.out j (by omega)
        case measure => simp [intOf]; omega
    · go_wp2
      go_ret
      exact ⟨-1, rfl, by rw [butHas_none (fun j hj => HU.out j (by omega))]; rfl, rfl⟩

set_option maxHeartbeats 400000 in
theorem sContains_any (a : Option Addr) (cap : Nat) (l : List Int) (t : Int) (w : World) (lo : Nat) (hv : IntsIn w lo a l) :
    Calls Tryd.prog 79 #[.slice a l.length cap, .int .i64 t] w fun e w' => e = .returned (.bool (butHas l t)) ∧ w' = w := by
  go_enter Tryd.func79, Tryd.ntmps79
  go_wp2_with fail
  refine (sIndex_any a cap l t _ lo hv).mono ?_
  rintro e w1 ⟨n, rfl, hn, rfl⟩
  have HN : Hid (decide (0 ≤ n) = butHas l t) := hn
  clear hn
  go_wp2
  go_ret
  exact ⟨ret_bool HN.out, rfl⟩

theorem ret_ib {k : IntKind} {a c : Int} {b d : Bool} (h1 : a = c) (h2 : b = d) : Ending.returned (.tuple #[.int k a, .bool b]) = .returned (.tuple #[.int k c, .bool d]) := by rw [h1, h2]

/-- What tickAbove answers. -/
def tv (r : CR) (t : Int) : Int := if first r t < 0 then 0 else first r t
def tb (r : CR) (t : Int) : Bool := decide (0 ≤ first r t)
theorem tv_hit {r : CR} {t x : Int} (h : first r t = x) (hx : 0 ≤ x) : tv r t = x := by unfold tv; rw [h, if_neg (by omega)]
theorem tb_hit {r : CR} {t x : Int} (h : first r t = x) (hx : 0 ≤ x) : tb r t = true := by unfold tb; rw [h]; simpa using hx
theorem tv_none {r : CR} {t : Int} (h : first r t = -1) : tv r t = 0 := by unfold tv; rw [h, if_pos (by omega)]
theorem tb_none {r : CR} {t : Int} (h : first r t = -1) : tb r t = false := by unfold tb; rw [h]; rfl

set_option maxHeartbeats 400000 in
theorem tickAbove_high (r : CR) (t : Int) (a : Option Addr) (cap : Nat) (w : World) (ho : Okd r) (h2 : ¬ t < r.t) :
    Calls Tryd.prog 61 #[r.val a cap, .int .i64 t] w fun e w' => e = .returned (.tuple #[.int .i64 (tv r t), .bool (tb r t)]) ∧ Below w.heap.size w w' := by
  have hm : first r t = -1 := first_high ho.e1 (by omega)
  rw [tv_none hm, tb_none hm]
  clear hm
  go_enter Tryd.func61, Tryd.ntmps61
  go_wp2
  go_ret2
  exact ⟨rfl, (Below.refl _ _).alloc (Nat.le_refl _) _⟩

set_option maxHeartbeats 1000000 in
theorem tickAbove_lo (r : CR) (t : Int) (a : Option Addr) (cap : Nat) (w : World) (lo : Nat) (hv : IntsIn w lo a r.b) (ho : Okd r) (h1 : -9223372036854775808 ≤ t) (h2 : t < r.t) (hs : t + 1 < r.f) :
    Calls Tryd.prog 61 #[r.val a cap, .int .i64 t] w fun e w' => e = .returned (.tuple #[.int .i64 (tv r t), .bool (tb r t)]) ∧ Below w.heap.size w w' := by
  obtain ⟨o1, o2, o3, o4, o5, o6, o7, o8, o9⟩ := ho
  obtain ⟨m1, m2, m3, m4⟩ := rem_facts (r := r) (s := r.f) ⟨o1, o2, o3, o4, o5, o6, o7, o8, o9⟩ (by omega)
  have HF : Hid (scanT r (r.f + (r.a - r.f) % r.e) = first r t) := by show _ = _; unfold first; rw [startOf_lo hs]; rfl
  go_enter Tryd.func61, Tryd.ntmps61
  go_wp2
  go_quiet (fail)
  go_wp2
  rw [rem_two]
  go_loopw [8] (fun i wr => ∃ x : Int, i = .int .i64 x ∧ 0 ≤ x ∧ x ≤ 101001 ∧ scanT r x = first r t ∧ Below (w.heap.size + 1) (w.alloc (.cells #[.int .i64 r.e, .int .i64 r.a, .int .i64 r.f, .int .i64 r.t, .slice a r.b.length cap] 66)) wr) (fun i _ => (101002 - intOf i).toNat)
  case atStart => exact ⟨_, rfl, by omega, by omega, HF.out, below_drewN (Below.refl _ _) _⟩
  case round =>
    obtain ⟨x, rfl, hx0, hx1, hsc, hB⟩ := hrel
    have HS : Hid (scanT r x = first r t) := hsc
    have hbox : ∀ j, wr.cell? ⟨w.heap.size, j, none⟩ = (w.alloc (.cells #[.int .i64 r.e, .int .i64 r.a, .int .i64 r.f, .int .i64 r.t, .slice a r.b.length cap] 66)).cell? ⟨w.heap.size, j, none⟩ := fun j => hB.cell (p := ⟨w.heap.size, j, none⟩) (Nat.lt_succ_self _)
    have d0 : wr.cell? ⟨w.heap.size, 0, none⟩ = some (.int .i64 r.e) := by rw [hbox]; simp
    have d3 : wr.cell? ⟨w.heap.size, 3, none⟩ = some (.int .i64 r.t) := by rw [hbox]; simp
    have d4 : wr.cell? ⟨w.heap.size, 4, none⟩ = some (.slice a r.b.length cap) := by rw [hbox]; simp
    have hB0 : Hid (Below w.heap.size w wr) := ((Below.refl _ _).alloc (Nat.le_refl _) _).trans (hB.mono (Nat.le_succ _))
    have HB : Hid (Below (w.heap.size + 1) (w.alloc (.cells #[.int .i64 r.e, .int .i64 r.a, .int .i64 r.f, .int .i64 r.t, .slice a r.b.length cap] 66)) wr) := hB
    have hv' := hv.below hB0.out (Nat.le_refl _)
    clear hsc hbox hB
    by_cases hle : x ≤ r.t
    · cases hbh : butHas r.b x with
      | false =>
        have hm : Hid (first r t = x) := by show _ = _; rw [← HS.out]; exact scanT_hit hle (by simpa [butHas] using hbh)
        go_wp2_with (go_at_call 79; refine (sContains_any a cap r.b x _ lo hv').mono ?_; rintro e w1 ⟨rfl, rfl⟩)
        go_ret2
        exact ⟨ret_ib (tv_hit hm.out hx0).symm (tb_hit hm.out hx0).symm, hB0.out⟩
      | true =>
        have hm : Hid (x ∈ r.b) := by show x ∈ r.b; simpa [butHas] using hbh
        go_wp2_with (go_at_call 79; refine (sContains_any a cap r.b x _ lo hv').mono ?_; rintro e w1 ⟨rfl, rfl⟩)
        go_roundw
        case rel =>
          have hfin : scanT r (x + r.e) = first r t := by rw [← HS.out, scanT_step o1 hle hm.out]
          have g1 : 0 ≤ x + r.e := by omega
          have g2 : x + r.e ≤ 101001 := by omega
          first | exact ⟨x + r.e, rfl, g1, g2, hfin, HB.out⟩ | ((repeat apply Exists.intro); exact ⟨⟨x + r.e, rfl, g1, g2, hfin, HB.out⟩, rfl⟩)
        case measure => simp [intOf]; omega
    · have hd : decide (x ≤ r.t) = false := by simpa using hle
      have hm : Hid (first r t = -1) := by show _ = _; rw [← HS.out]; exact scanT_high (by omega)
      go_wp2
      go_ret2
      exact ⟨ret_ib (tv_none hm.out).symm (tb_none hm.out).symm, hB0.out⟩

set_option maxHeartbeats 1000000 in
theorem tickAbove_hi (r : CR) (t : Int) (a : Option Addr) (cap : Nat) (w : World) (lo : Nat) (hv : IntsIn w lo a r.b) (ho : Okd r) (h1 : -9223372036854775808 ≤ t) (h2 : t < r.t) (hs : ¬ t + 1 < r.f) :
    Calls Tryd.prog 61 #[r.val a cap, .int .i64 t] w fun e w' => e = .returned (.tuple #[.int .i64 (tv r t), .bool (tb r t)]) ∧ Below w.heap.size w w' := by
  obtain ⟨o1, o2, o3, o4, o5, o6, o7, o8, o9⟩ := ho
  obtain ⟨m1, m2, m3, m4⟩ := rem_facts (r := r) (s := t + 1) ⟨o1, o2, o3, o4, o5, o6, o7, o8, o9⟩ (by omega)
  have HF : Hid (scanT r (t + 1 + (r.a - (t + 1)) % r.e) = first r t) := by show _ = _; unfold first; rw [startOf_hi hs]; rfl
  go_enter Tryd.func61, Tryd.ntmps61
  go_wp2
  go_quiet (fail)
  go_wp2
  rw [rem_two]
  go_loopw [8] (fun i wr => ∃ x : Int, i = .int .i64 x ∧ 0 ≤ x ∧ x ≤ 101001 ∧ scanT r x = first r t ∧ Below (w.heap.size + 1) (w.alloc (.cells #[.int .i64 r.e, .int .i64 r.a, .int .i64 r.f, .int .i64 r.t, .slice a r.b.length cap] 66)) wr) (fun i _ => (101002 - intOf i).toNat)
  case atStart => exact ⟨_, rfl, by omega, by omega, HF.out, below_drewN (Below.refl _ _) _⟩
  case round =>
    obtain ⟨x, rfl, hx0, hx1, hsc, hB⟩ := hrel
    have HS : Hid (scanT r x = first r t) := hsc
    have hbox : ∀ j, wr.cell? ⟨w.heap.size, j, none⟩ = (w.alloc (.cells #[.int .i64 r.e, .int .i64 r.a, .int .i64 r.f, .int .i64 r.t, .slice a r.b.length cap] 66)).cell? ⟨w.heap.size, j, none⟩ := fun j => hB.cell (p := ⟨w.heap.size, j, none⟩) (Nat.lt_succ_self _)
    have d0 : wr.cell? ⟨w.heap.size, 0, none⟩ = some (.int .i64 r.e) := by rw [hbox]; simp
    have d3 : wr.cell? ⟨w.heap.size, 3, none⟩ = some (.int .i64 r.t) := by rw [hbox]; simp
    have d4 : wr.cell? ⟨w.heap.size, 4, none⟩ = some (.slice a r.b.length cap) := by rw [hbox]; simp
    have hB0 : Hid (Below w.heap.size w wr) := ((Below.refl _ _).alloc (Nat.le_refl _) _).trans (hB.mono (Nat.le_succ _))
    have HB : Hid (Below (w.heap.size + 1) (w.alloc (.cells #[.int .i64 r.e, .int .i64 r.a, .int .i64 r.f, .int .i64 r.t, .slice a r.b.length cap] 66)) wr) := hB
    have hv' := hv.below hB0.out (Nat.le_refl _)
    clear hsc hbox hB
    by_cases hle : x ≤ r.t
    · cases hbh : butHas r.b x with
      | false =>
        have hm : Hid (first r t = x) := by show _ = _; rw [← HS.out]; exact scanT_hit hle (by simpa [butHas] using hbh)
        go_wp2_with (go_at_call 79; refine (sContains_any a cap r.b x _ lo hv').mono ?_; rintro e w1 ⟨rfl, rfl⟩)
        go_ret2
        exact ⟨ret_ib (tv_hit hm.out hx0).symm (tb_hit hm.out hx0).symm, hB0.out⟩
      | true =>
        have hm : Hid (x ∈ r.b) := by show x ∈ r.b; simpa [butHas] using hbh
        go_wp2_with (go_at_call 79; refine (sContains_any a cap r.b x _ lo hv').mono ?_; rintro e w1 ⟨rfl, rfl⟩)
        go_roundw
        case rel =>
          have hfin : scanT r (x + r.e) = first r t := by rw [← HS.out, scanT_step o1 hle hm.out]
          have g1 : 0 ≤ x + r.e := by omega
          have g2 : x + r.e ≤ 101001 := by omega
          first | exact ⟨x + r.e, rfl, g1, g2, hfin, HB.out⟩ | ((repeat apply Exists.intro); exact ⟨⟨x + r.e, rfl, g1, g2, hfin, HB.out⟩, rfl⟩)
        case measure => simp [intOf]; omega
    · have hd : decide (x ≤ r.t) = false := by simpa using hle
      have hm : Hid (first r t = -1) := by show _ = _; rw [← HS.out]; exact scanT_high (by omega)
      go_wp2
      go_ret2
      exact ⟨ret_ib (tv_none hm.out).symm (tb_none hm.out).symm, hB0.out⟩

theorem tickAbove_any (r : CR) (t : Int) (a : Option Addr) (cap : Nat) (w : World) (lo : Nat) (hv : IntsIn w lo a r.b) (ho : Okd r) (h1 : In64 t) :
    Calls Tryd.prog 61 #[r.val a cap, .int .i64 t] w fun e w' => e = .returned (.tuple #[.int .i64 (tv r t), .bool (tb r t)]) ∧ Below w.heap.size w w' := by
  by_cases h2 : t < r.t
  · by_cases hs : t + 1 < r.f
    · exact tickAbove_lo r t a cap w lo hv ho h1.1 h2 hs
    · exact tickAbove_hi r t a cap w lo hv ho h1.1 h2 hs
  · exact tickAbove_high r t a cap w ho h2

end Go.Proofs.YtammejplaeaocaaDoor
