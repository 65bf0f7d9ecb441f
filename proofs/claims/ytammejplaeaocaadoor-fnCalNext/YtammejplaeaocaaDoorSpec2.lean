/-
  The specification's CalNext (l1But, l1First, l1Next, CalNext) answers the next tick, as plain data. No condition.
-/
import Derived.Test.YtammejplaeaocaaDoorMath
namespace Go.Proofs.YtammejplaeaocaaDoor
open Go.RowKit

/-- A tick is left out. -/
def butHas (l : List Int) (t : Int) : Bool := decide (t ∈ l)
theorem butHas_hit {l : List Int} {t x : Int} {k : Nat} (hk : k < l.length) (hx : x = l[k]?.getD 0) (h : x = t) : butHas l t = true := by
  unfold butHas
  rw [List.getElem?_eq_getElem hk] at hx
  simp only [decide_eq_true_eq, ← h, hx]
  exact List.getElem_mem hk
theorem butHas_none {l : List Int} {t : Int} (h : ∀ j, j < l.length → l[j]?.getD 0 ≠ t) : butHas l t = false := by
  unfold butHas
  rw [decide_eq_false_iff_not]
  intro hm
  obtain ⟨i, hi⟩ := List.getElem?_of_mem hm
  have := (List.getElem?_eq_some_iff.1 hi).1
  exact h i this (by rw [hi]; rfl)

set_option maxHeartbeats 400000 in
theorem l1But_any (r : CR) (t : Int) (a : Option Addr) (cap : Nat) (w : World) (lo : Nat) (hv : IntsIn w lo a r.b) :
    Calls Tryd.prog 80 #[r.val a cap, .int .i64 t] w fun e w' => e = .returned (.bool (butHas r.b t)) ∧ Below w.heap.size w w' := by
  have hlen := hv.1
  go_enter Tryd.func80, Tryd.ntmps80
  go_wp2
  go_loopw [5] (fun i wr => ∃ k : Nat, k ≤ r.b.length ∧ i = .int .i64 k ∧ wr = w.alloc (.cells #[.int .i64 r.e, .int .i64 r.a, .int .i64 r.f, .int .i64 r.t, .slice a r.b.length cap] 66) ∧ ∀ j, j < k → r.b[j]?.getD 0 ≠ t) (fun i _ => r.b.length - (intOf i).toNat)
  case atStart => exact ⟨0, Nat.zero_le _, rfl, rfl, fun j hj => by omega⟩
  case round =>
    obtain ⟨k, hk, rfl, rfl, hbut⟩ := hrel
    have HB : Hid (Below w.heap.size w (w.alloc (.cells #[.int .i64 r.e, .int .i64 r.a, .int .i64 r.f, .int .i64 r.t, .slice a r.b.length cap] 66))) := (Below.refl _ _).alloc (Nat.le_refl _) _
    have HU : Hid (∀ j, j < k → r.b[j]?.getD 0 ≠ t) := hbut
    clear hbut
    by_cases hlt : k < r.b.length
    · obtain ⟨b, off, rfl, _, c0⟩ := (hv.below HB.out (Nat.le_refl _)).2.2 k hlt
      obtain ⟨x, hx⟩ : ∃ x, x = r.b[k]?.getD 0 := ⟨_, rfl⟩
      rw [← hx] at c0
      have HX : Hid (x = r.b[k]?.getD 0) := hx
      clear hx
      by_cases hxt : x = t
      · have hd : (x == t) = true := by simp [hxt]
        have HT : Hid (x = t) := hxt
        clear hxt
        go_wp2
        go_ret
        exact ⟨ret_bool (butHas_hit hlt HX.out HT.out).symm, HB.out⟩
      · have hd : (x == t) = false := by simp [hxt]
        have HT : Hid (¬ x = t) := hxt
        clear hxt
        go_wp2
        go_roundw
        case rel =>
          refine ⟨k + 1, by omega, by go_num, (by first | trivial | rfl), fun j hj => ?_⟩
          by_cases hjk : j = k
          · subst hjk; rw [← HX.out]; exact HT.out
          · exact HU.out j (by omega)
        case measure => simp [intOf]; omega
    · go_wp2
      go_ret
      exact ⟨ret_bool (butHas_none (fun j hj => HU.out j (by omega))).symm, HB.out⟩

theorem rem_two (a s e : Int) : (a - s % e + e) % e = (a - s) % e := by simp

/-- What the walk wants to know of the two remainders. -/
theorem rem_facts {r : CR} {s : Int} (ho : Okd r) (_h0 : 0 ≤ s) : 0 ≤ s % r.e ∧ s % r.e < r.e ∧ 0 ≤ (r.a - s) % r.e ∧ (r.a - s) % r.e < r.e := by
  have he := ho.e1
  exact ⟨Int.emod_nonneg _ (by omega), Int.emod_lt_of_pos _ (by omega), Int.emod_nonneg _ (by omega), Int.emod_lt_of_pos _ (by omega)⟩

set_option maxHeartbeats 1000000 in
theorem l1First_lo (r : CR) (t : Int) (a : Option Addr) (cap : Nat) (w : World) (lo : Nat) (hv : IntsIn w lo a r.b) (ho : Okd r) (h1 : -1 ≤ t) (h2 : t ≤ 100000) (hs : t + 1 < r.f) :
    Calls Tryd.prog 62 #[r.val a cap, .int .i64 t] w fun e w' => e = .returned (.int .i64 (first r t)) ∧ Below w.heap.size w w' := by
  obtain ⟨o1, o2, o3, o4, o5, o6, o7, o8, o9⟩ := ho
  obtain ⟨m1, m2, m3, m4⟩ := rem_facts (r := r) (s := r.f) ⟨o1, o2, o3, o4, o5, o6, o7, o8, o9⟩ (by omega)
  have HF : Hid (scanT r (r.f + (r.a - r.f) % r.e) = first r t) := by show _ = _; unfold first; rw [startOf_lo hs]; rfl
  go_enter Tryd.func62, Tryd.ntmps62
  go_wp2
  go_quiet (fail)
  go_wp2
  rw [rem_two]
  go_loopw [5] (fun i wr => ∃ x : Int, i = .int .i64 x ∧ 0 ≤ x ∧ x ≤ 101001 ∧ scanT r x = first r t ∧ Below (w.heap.size + 1) (w.alloc (.cells #[.int .i64 r.e, .int .i64 r.a, .int .i64 r.f, .int .i64 r.t, .slice a r.b.length cap] 66)) wr) (fun i _ => (101002 - intOf i).toNat)
  case atStart => exact ⟨_, rfl, by omega, by omega, HF.out, below_drewN (Below.refl _ _) _⟩
  case round =>
    obtain ⟨x, rfl, hx0, hx1, hsc, hB⟩ := hrel
    have HS : Hid (scanT r x = first r t) := hsc
    have hbox : ∀ j, wr.cell? ⟨w.heap.size, j, none⟩ = (w.alloc (.cells #[.int .i64 r.e, .int .i64 r.a, .int .i64 r.f, .int .i64 r.t, .slice a r.b.length cap] 66)).cell? ⟨w.heap.size, j, none⟩ := fun j => hB.cell (p := ⟨w.heap.size, j, none⟩) (Nat.lt_succ_self _)
    have d0 : wr.cell? ⟨w.heap.size, 0, none⟩ = some (.int .i64 r.e) := by rw [hbox]; simp
    have d1 : wr.cell? ⟨w.heap.size, 1, none⟩ = some (.int .i64 r.a) := by rw [hbox]; simp
    have d2 : wr.cell? ⟨w.heap.size, 2, none⟩ = some (.int .i64 r.f) := by rw [hbox]; simp
    have d3 : wr.cell? ⟨w.heap.size, 3, none⟩ = some (.int .i64 r.t) := by rw [hbox]; simp
    have d4 : wr.cell? ⟨w.heap.size, 4, none⟩ = some (.slice a r.b.length cap) := by rw [hbox]; simp
    have hB0 : Hid (Below w.heap.size w wr) := ((Below.refl _ _).alloc (Nat.le_refl _) _).trans (hB.mono (Nat.le_succ _))
    have hsz : w.heap.size + 1 ≤ wr.heap.size := by have := hB.size; simpa using this
    have hsz' : w.heap.size < wr.heap.size := hsz
    have HB : Hid (Below (w.heap.size + 1) (w.alloc (.cells #[.int .i64 r.e, .int .i64 r.a, .int .i64 r.f, .int .i64 r.t, .slice a r.b.length cap] 66)) wr) := hB
    have hv' := hv.below hB0.out (Nat.le_refl _)
    clear hsc hbox hB
    by_cases hle : x ≤ r.t
    · cases hbh : butHas r.b x with
      | false =>
        go_wp2_with (go_at_call 80; refine (l1But_any r x a cap _ lo hv').mono ?_; rintro e w1 ⟨rfl, hb1⟩; obtain ⟨hc1, _⟩ := bcell hb1)
        go_ret
        have hm : ¬ x ∈ r.b := by simpa [butHas] using hbh
        exact ⟨ret_int (by rw [← HS.out, scanT_hit hle hm]), hB0.out.trans (hb1.mono (by omega))⟩
      | true =>
        have hm : Hid (x ∈ r.b) := by show x ∈ r.b; simpa [butHas] using hbh
        go_wp2_with (go_at_call 80; refine (l1But_any r x a cap _ lo hv').mono ?_; rintro e w1 ⟨rfl, hb1⟩; obtain ⟨hc1, _⟩ := bcell hb1)
        go_roundw
        case rel =>
          have hfin : scanT r (x + r.e) = first r t := by rw [← HS.out, scanT_step o1 hle hm.out]
          have hb3 := HB.out.trans (hb1.mono hsz)
          have g1 : 0 ≤ x + r.e := by omega
          have g2 : x + r.e ≤ 101001 := by omega
          first | exact ⟨x + r.e, rfl, g1, g2, hfin, hb3⟩ | ((repeat apply Exists.intro); exact ⟨⟨rfl, g1, g2, hfin, hb3⟩, rfl⟩) | ((repeat apply Exists.intro); exact ⟨⟨x + r.e, rfl, g1, g2, hfin, hb3⟩, rfl⟩)
        case measure => simp [intOf]; omega
    · have hd : decide (x ≤ r.t) = false := by simpa using hle
      go_wp2
      go_ret
      exact ⟨ret_int (by rw [← HS.out, scanT_high (by omega)]), hB0.out⟩

set_option maxHeartbeats 1000000 in
theorem l1First_hi (r : CR) (t : Int) (a : Option Addr) (cap : Nat) (w : World) (lo : Nat) (hv : IntsIn w lo a r.b) (ho : Okd r) (h1 : -1 ≤ t) (h2 : t ≤ 100000) (hs : ¬ t + 1 < r.f) :
    Calls Tryd.prog 62 #[r.val a cap, .int .i64 t] w fun e w' => e = .returned (.int .i64 (first r t)) ∧ Below w.heap.size w w' := by
  obtain ⟨o1, o2, o3, o4, o5, o6, o7, o8, o9⟩ := ho
  obtain ⟨m1, m2, m3, m4⟩ := rem_facts (r := r) (s := t + 1) ⟨o1, o2, o3, o4, o5, o6, o7, o8, o9⟩ (by omega)
  have HF : Hid (scanT r (t + 1 + (r.a - (t + 1)) % r.e) = first r t) := by show _ = _; unfold first; rw [startOf_hi hs]; rfl
  go_enter Tryd.func62, Tryd.ntmps62
  go_wp2
  go_quiet (fail)
  go_wp2
  rw [rem_two]
  go_loopw [5] (fun i wr => ∃ x : Int, i = .int .i64 x ∧ 0 ≤ x ∧ x ≤ 101001 ∧ scanT r x = first r t ∧ Below (w.heap.size + 1) (w.alloc (.cells #[.int .i64 r.e, .int .i64 r.a, .int .i64 r.f, .int .i64 r.t, .slice a r.b.length cap] 66)) wr) (fun i _ => (101002 - intOf i).toNat)
  case atStart => exact ⟨_, rfl, by omega, by omega, HF.out, below_drewN (Below.refl _ _) _⟩
  case round =>
    obtain ⟨x, rfl, hx0, hx1, hsc, hB⟩ := hrel
    have HS : Hid (scanT r x = first r t) := hsc
    have hbox : ∀ j, wr.cell? ⟨w.heap.size, j, none⟩ = (w.alloc (.cells #[.int .i64 r.e, .int .i64 r.a, .int .i64 r.f, .int .i64 r.t, .slice a r.b.length cap] 66)).cell? ⟨w.heap.size, j, none⟩ := fun j => hB.cell (p := ⟨w.heap.size, j, none⟩) (Nat.lt_succ_self _)
    have d0 : wr.cell? ⟨w.heap.size, 0, none⟩ = some (.int .i64 r.e) := by rw [hbox]; simp
    have d1 : wr.cell? ⟨w.heap.size, 1, none⟩ = some (.int .i64 r.a) := by rw [hbox]; simp
    have d2 : wr.cell? ⟨w.heap.size, 2, none⟩ = some (.int .i64 r.f) := by rw [hbox]; simp
    have d3 : wr.cell? ⟨w.heap.size, 3, none⟩ = some (.int .i64 r.t) := by rw [hbox]; simp
    have d4 : wr.cell? ⟨w.heap.size, 4, none⟩ = some (.slice a r.b.length cap) := by rw [hbox]; simp
    have hB0 : Hid (Below w.heap.size w wr) := ((Below.refl _ _).alloc (Nat.le_refl _) _).trans (hB.mono (Nat.le_succ _))
    have hsz : w.heap.size + 1 ≤ wr.heap.size := by have := hB.size; simpa using this
    have hsz' : w.heap.size < wr.heap.size := hsz
    have HB : Hid (Below (w.heap.size + 1) (w.alloc (.cells #[.int .i64 r.e, .int .i64 r.a, .int .i64 r.f, .int .i64 r.t, .slice a r.b.length cap] 66)) wr) := hB
    have hv' := hv.below hB0.out (Nat.le_refl _)
    clear hsc hbox hB
    by_cases hle : x ≤ r.t
    · cases hbh : butHas r.b x with
      | false =>
        go_wp2_with (go_at_call 80; refine (l1But_any r x a cap _ lo hv').mono ?_; rintro e w1 ⟨rfl, hb1⟩; obtain ⟨hc1, _⟩ := bcell hb1)
        go_ret
        have hm : ¬ x ∈ r.b := by simpa [butHas] using hbh
        exact ⟨ret_int (by rw [← HS.out, scanT_hit hle hm]), hB0.out.trans (hb1.mono (by omega))⟩
      | true =>
        have hm : Hid (x ∈ r.b) := by show x ∈ r.b; simpa [butHas] using hbh
        go_wp2_with (go_at_call 80; refine (l1But_any r x a cap _ lo hv').mono ?_; rintro e w1 ⟨rfl, hb1⟩; obtain ⟨hc1, _⟩ := bcell hb1)
        go_roundw
        case rel =>
          have hfin : scanT r (x + r.e) = first r t := by rw [← HS.out, scanT_step o1 hle hm.out]
          have hb3 := HB.out.trans (hb1.mono hsz)
          have g1 : 0 ≤ x + r.e := by omega
          have g2 : x + r.e ≤ 101001 := by omega
          first | exact ⟨x + r.e, rfl, g1, g2, hfin, hb3⟩ | ((repeat apply Exists.intro); exact ⟨⟨rfl, g1, g2, hfin, hb3⟩, rfl⟩) | ((repeat apply Exists.intro); exact ⟨⟨x + r.e, rfl, g1, g2, hfin, hb3⟩, rfl⟩)
        case measure => simp [intOf]; omega
    · have hd : decide (x ≤ r.t) = false := by simpa using hle
      go_wp2
      go_ret
      exact ⟨ret_int (by rw [← HS.out, scanT_high (by omega)]), hB0.out⟩

theorem l1First_any (r : CR) (t : Int) (a : Option Addr) (cap : Nat) (w : World) (lo : Nat) (hv : IntsIn w lo a r.b) (ho : Okd r) (h1 : -1 ≤ t) (h2 : t ≤ 100000) :
    Calls Tryd.prog 62 #[r.val a cap, .int .i64 t] w fun e w' => e = .returned (.int .i64 (first r t)) ∧ Below w.heap.size w w' := by
  by_cases hs : t + 1 < r.f
  · exact l1First_lo r t a cap w lo hv ho h1 h2 hs
  · exact l1First_hi r t a cap w lo hv ho h1 h2 hs

theorem better_no {b x : Int} (h : x < 0) : better b x = b := by unfold better; rw [if_neg (by omega)]
theorem better_first {b x : Int} (h : ¬ x < 0) (hb : b < 0) : better b x = x := by unfold better; rw [if_pos (by omega)]
theorem better_less {b x : Int} (h : ¬ x < 0) (hb : x < b) : better b x = x := by unfold better; rw [if_pos (by omega)]
theorem better_more {b x : Int} (hb : ¬ b < 0) (hx : ¬ x < b) : better b x = b := by unfold better; rw [if_neg (by omega)]

set_option maxHeartbeats 1000000 in
theorem l1Next_any (a : Option Addr) (cap : Nat) (rs : List CR) (t : Int) (w : World) (lo lb : Nat) (hl : rs.length ≤ 4) (hc : RulesIn w lo lb a rs) (hok : rulesB rs = true) (h1 : -1 ≤ t) (h2 : t ≤ 100000) :
    Calls Tryd.prog 37 #[.slice a rs.length cap, .int .i64 t] w fun e w' => e = .returned (.int .i64 (nxtTo rs t)) ∧ Below w.heap.size w w' := by
  have HOK : Hid (rulesB rs = true) := hok
  clear hok
  go_enter Tryd.func37, Tryd.ntmps37
  go_wp2
  go_loopw [5, 6, 7] (fun b i _ wr => ∃ k : Nat, k ≤ rs.length ∧ i = .int .i64 k ∧ b = .int .i64 (nxtTo (rs.take k) t) ∧ Below w.heap.size w wr) (fun _ i _ _ => rs.length - (intOf i).toNat)
  case atStart => exact ⟨0, Nat.zero_le _, rfl, rfl, Below.refl _ _⟩
  case round =>
    obtain ⟨k, hk, rfl, rfl, hB⟩ := hrel
    by_cases hlt : k < rs.length
    · obtain ⟨r, hr⟩ : ∃ r, rs[k]? = some r := ⟨_, List.getElem?_eq_getElem hlt⟩
      obtain ⟨_, b, off, ba, bc, rfl, _, hi, c0, c1, c2, c3, c4⟩ := hc.below hB (Nat.le_refl _) k r hr
      have ho := okd_at HOK.out hr
      have HN : Hid (nxtTo (rs.take (k + 1)) t = better (nxtTo (rs.take k) t) (first r t)) := nxtTo_take hr t
      have hsz := hB.size
      have HB : Hid (Below w.heap.size w wr) := hB
      clear hB hr
      by_cases q1 : first r t < 0
      · have q1' : decide (0 ≤ first r t) = false := by simp; omega
        go_wp2_with (go_at_call 62; refine (l1First_any r t ba bc _ lb hi ho h1 h2).mono ?_; rintro e w1 ⟨rfl, hb1⟩)
        go_roundw
        case rel => exact ⟨k + 1, by omega, by go_num, by rw [HN.out, better_no q1], HB.out.trans (hb1.mono hsz)⟩
        case measure => simp [intOf]; omega
      · by_cases q2 : nxtTo (rs.take k) t < 0
        · go_wp2_with (go_at_call 62; refine (l1First_any r t ba bc _ lb hi ho h1 h2).mono ?_; rintro e w1 ⟨rfl, hb1⟩)
          go_roundw
          case rel => exact ⟨k + 1, by omega, by go_num, by rw [HN.out, better_first (by omega) q2], HB.out.trans (hb1.mono hsz)⟩
          case measure => simp [intOf]; omega
        · have q2' : decide (nxtTo (rs.take k) t < 0) = false := by simp; omega
          by_cases q3 : first r t < nxtTo (rs.take k) t
          · go_wp2_with (go_at_call 62; refine (l1First_any r t ba bc _ lb hi ho h1 h2).mono ?_; rintro e w1 ⟨rfl, hb1⟩)
            go_roundw
            case rel => exact ⟨k + 1, by omega, by go_num, by rw [HN.out, better_less (by omega) q3], HB.out.trans (hb1.mono hsz)⟩
            case measure => simp [intOf]; omega
          · go_wp2_with (go_at_call 62; refine (l1First_any r t ba bc _ lb hi ho h1 h2).mono ?_; rintro e w1 ⟨rfl, hb1⟩)
            go_roundw
            case rel => exact ⟨k + 1, by omega, by go_num, by rw [HN.out, better_more (by omega) (by omega)], HB.out.trans (hb1.mono hsz)⟩
            case measure => simp [intOf]; omega
    · obtain rfl : k = rs.length := by omega
      rw [List.take_length]
      go_wp2
      go_ret
      exact ⟨rfl, hB⟩

theorem nxt_no {rs : List CR} {t : Int} (h : rulesB rs = false) : nxt rs t = -1 := by unfold nxt; simp [h]
theorem nxt_yes {rs : List CR} {t : Int} (h : rulesB rs = true) : nxt rs t = nxtTo rs t := by unfold nxt; simp [h]
theorem len4 {rs : List CR} (h : rulesB rs = true) : rs.length ≤ 4 := by
  simp only [rulesB, Bool.and_eq_true, decide_eq_true_eq] at h; exact h.1.2
theorem okd_mem {rs : List CR} (h : rulesB rs = true) {r : CR} (hr : r ∈ rs) : Okd r := by
  obtain ⟨i, hi⟩ := List.getElem?_of_mem hr
  exact okd_at h hi
theorem nxt_high {rs : List CR} {t : Int} (h : rulesB rs = true) (ht : 100000 < t) : nxt rs t = -1 := by
  rw [nxt_yes h]
  exact nxtTo_none (fun r hr => first_high (okd_mem h hr).e1 (by have := (okd_mem h hr).t2; omega))
theorem nxt_low {rs : List CR} {t : Int} (h : rulesB rs = true) (ht : t < -1) : nxt rs t = nxtTo rs (-1) := by
  rw [nxt_yes h]
  exact nxtTo_congr (fun r hr => first_low (okd_mem h hr).f1 ht)

set_option maxHeartbeats 1000000 in
theorem specCalNext_any (a : Option Addr) (cap : Nat) (rs : List CR) (t : Int) (w : World) (lo lb : Nat) (hl : rs.length ≤ 9223372036854775807) (hc : RulesIn w lo lb a rs) :
    Calls Tryd.prog 13 #[.slice a rs.length cap, .int .i64 t] w fun e w' => e = .returned (.int .i64 (nxt rs t)) ∧ Below w.heap.size w w' := by
  cases hok : rulesB rs with
  | false =>
    rw [nxt_no hok]
    go_enter Tryd.func13, Tryd.ntmps13
    go_wp2_with (go_at_call 26; refine (specCalOk_any a cap rs _ lo lb hl hc).mono ?_; rintro e w1 ⟨rfl, hb1⟩)
    go_ret
    exact ⟨rfl, hb1⟩
  | true =>
    by_cases ht : 100000 < t
    · rw [nxt_high hok ht]
      go_enter Tryd.func13, Tryd.ntmps13
      go_wp2_with (go_at_call 26; refine (specCalOk_any a cap rs _ lo lb hl hc).mono ?_; rintro e w1 ⟨rfl, hb1⟩)
      go_ret
      exact ⟨rfl, hb1⟩
    · by_cases ht1 : t < -1
      · rw [nxt_low hok ht1]
        go_enter Tryd.func13, Tryd.ntmps13
        go_wp2_with fail
        refine (specCalOk_any a cap rs _ lo lb hl hc).mono ?_
        rintro e w1 ⟨rfl, hb1⟩
        have hc1 := hc.below hb1 (Nat.le_refl _)
        go_wp2_with fail
        refine (l1Next_any a cap rs (-1) _ lo lb (len4 hok) hc1 hok (by omega) (by omega)).mono ?_
        rintro e w2 ⟨rfl, hb2⟩
        go_wp2
        go_ret
        exact ⟨rfl, hb1.trans (hb2.mono hb1.size)⟩
      · rw [nxt_yes hok]
        go_enter Tryd.func13, Tryd.ntmps13
        go_wp2_with fail
        refine (specCalOk_any a cap rs _ lo lb hl hc).mono ?_
        rintro e w1 ⟨rfl, hb1⟩
        have hc1 := hc.below hb1 (Nat.le_refl _)
        go_wp2_with fail
        refine (l1Next_any a cap rs t _ lo lb (len4 hok) hc1 hok (by omega) (by omega)).mono ?_
        rintro e w2 ⟨rfl, hb2⟩
        go_wp2
        go_ret
        exact ⟨rfl, hb1.trans (hb2.mono hb1.size)⟩

end Go.Proofs.YtammejplaeaocaaDoor
