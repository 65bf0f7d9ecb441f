/-
  The program's CalOk (within, checkBut, checkRule, checkRules, wrongLine, CalOk) answers whether rules are ok, as plain data. Condition: the errors that it names, and errors.errorType, hold what the program's text lays.
-/
import Derived.Test.YtammejplaeaocaaDoorSpec1
import Derived.Test.YtammejplaeaocaaDoorAs
namespace Go.Proofs.YtammejplaeaocaaDoor
open Go.RowKit

/-- The package-level variable holds an error made by errors.New. -/
def ErrAt (w : World) (g : Nat) : Prop := ∃ p : Addr, w.cell? ⟨g, 0, none⟩ = some (.iface 166 (.pointer (some p)))
theorem ErrAt.below {w w' : World} {g B : Nat} (h : ErrAt w g) (hb : Below B w w') (hB : w.heap.size ≤ B) : ErrAt w' g := by
  obtain ⟨p, hp⟩ := h
  have := cell_lt hp
  exact ⟨p, (hb.cell (p := ⟨g, 0, none⟩) (by simp at this ⊢; omega)).trans hp⟩

/-- What the package-level variables hold that CalOk comes to. -/
structure Glob (w : World) : Prop where
  missing : ErrAt w 2
  many : ErrAt w 3
  bounds : ErrAt w 6
  but : ErrAt w 9
  ty : w.cell? ⟨5, 0, none⟩ = some (.iface 127 (.agg #[.pointer (some ⟨15, 59, none⟩)]))
theorem Glob.below {w w' : World} {B : Nat} (h : Glob w) (hb : Below B w w') (hB : w.heap.size ≤ B) : Glob w' :=
  ⟨h.missing.below hb hB, h.many.below hb hB, h.bounds.below hb hB, h.but.below hb hB,
   (hb.cell (p := ⟨5, 0, none⟩) (by have := cell_lt h.ty; simp at this ⊢; omega)).trans h.ty⟩

set_option maxHeartbeats 400000 in
theorem within_any (n low high : Int) (w : World) :
    Calls Tryd.prog 92 #[.int .i64 n, .int .i64 low, .int .i64 high] w fun e w' => e = .returned (.bool (inB n low high)) ∧ w' = w := by
  by_cases h1 : low ≤ n
  · by_cases h2 : n ≤ high
    · rw [inB_true h1 h2]
      go_enter Tryd.func92, Tryd.ntmps92
      go_wp2
      go_ret
      exact ⟨rfl, rfl⟩
    · rw [inB_high h2]
      go_enter Tryd.func92, Tryd.ntmps92
      go_wp2
      go_ret
      exact ⟨rfl, rfl⟩
  · rw [inB_low h1]
    go_enter Tryd.func92, Tryd.ntmps92
    go_wp2
    go_ret
    exact ⟨rfl, rfl⟩

/-- nil, if it is ok; else an error made by errors.New. -/
def ErrV (ok : Bool) (v : Value) : Prop := (ok = true ∧ v = .nilIface) ∨ (ok = false ∧ ∃ p : Addr, v = .iface 166 (.pointer (some p)))

/-- The ticks ascend at a place. -/
def ascAt (l : List Int) (i : Nat) : Bool := i == 0 || decide (l[i - 1]?.getD 0 < l[i]?.getD 0)
/-- The ticks ascend. -/
def ascB (l : List Int) : Bool := (List.range l.length).all (ascAt l)
theorem ascB_true {l : List Int} (h : ∀ j, j < l.length → ascAt l j = true) : ascB l = true := by
  unfold ascB; rw [List.all_eq_true]; intro j hj; exact h j (List.mem_range.1 hj)
theorem ascB_false {l : List Int} {k : Nat} (hk : k < l.length) (h : ascAt l k = false) : ascB l = false := by
  unfold ascB; rw [List.all_eq_false]; exact ⟨k, List.mem_range.2 hk, by simp [h]⟩
theorem ascB_at {l : List Int} (h : ascB l = true) {j : Nat} (hj : j < l.length) : ascAt l j = true := by
  unfold ascB at h; rw [List.all_eq_true] at h; exact h j (List.mem_range.2 hj)
theorem butAt_asc (l : List Int) (i : Nat) : butAt l i = (inB (l[i]?.getD 0) 0 100000 && ascAt l i) := rfl
theorem butB_asc {l : List Int} (h : ascB l = false) : butB l = false := by
  unfold ascB at h
  rw [List.all_eq_false] at h
  obtain ⟨k, hk, h1⟩ := h
  exact butB_false (List.mem_range.1 hk) (by rw [butAt_asc]; simp only [Bool.not_eq_true] at h1; rw [h1]; simp)

set_option maxHeartbeats 1000000 in
theorem ascending_any (a : Option Addr) (cap : Nat) (l : List Int) (w : World) (lo : Nat) (hv : IntsIn w lo a l) :
    Calls Tryd.prog 101 #[.slice a l.length cap] w fun e w' => e = .returned (.bool (ascB l)) ∧ Below w.heap.size w w' := by
  have hl := hv.1
  obtain ⟨R, hR⟩ : ∃ R, R = ascB l := ⟨_, rfl⟩
  have HR : Hid (R = ascB l) := hR
  rw [← hR]
  clear hR
  go_enter Tryd.func101, Tryd.ntmps101
  go_wp2
  go_loopw [3] (fun i wr => ∃ k : Nat, (k ≤ l.length ∨ k = 1) ∧ 1 ≤ k ∧ i = .int .i64 k ∧ Below w.heap.size w wr ∧ ∀ j, j < k → ascAt l j = true) (fun i _ => l.length - (intOf i).toNat)
  case atStart => exact ⟨1, Or.inr rfl, Nat.le_refl _, rfl, Below.refl _ _, fun j hj => by obtain rfl : j = 0 := (by omega); rfl⟩
  case round =>
    obtain ⟨k, hk, hk1, rfl, hB, hasc⟩ := hrel
    have HB : Hid (Below w.heap.size w wr) := hB
    clear hB
    have HU : Hid (∀ j, j < k → ascAt l j = true) := hasc
    clear hasc
    have HKL : Hid (k ≤ l.length ∨ k = 1) := hk
    clear hk
    by_cases hlt : k < l.length
    · obtain ⟨m, rfl⟩ : ∃ m, k = m + 1 := ⟨k - 1, by omega⟩
      obtain ⟨b, off, rfl, _, c0⟩ := (hv.below HB.out (Nat.le_refl _)).2.2 (m + 1) hlt
      obtain ⟨b2, off2, e2, _, c1⟩ := (hv.below HB.out (Nat.le_refl _)).2.2 m (by omega)
      injection e2 with e2
      injection e2 with e21 e22
      subst e21 e22
      obtain ⟨x, hx⟩ : ∃ x, x = l[m + 1]?.getD 0 := ⟨_, rfl⟩
      rw [← hx] at c0
      have HX : Hid (x = l[m + 1]?.getD 0) := hx
      clear hx
      obtain ⟨y, hy⟩ : ∃ y, y = l[m]?.getD 0 := ⟨_, rfl⟩
      rw [← hy] at c1
      have HY : Hid (y = l[m]?.getD 0) := hy
      clear hy
      by_cases hyx : y < x
      · go_wp2
        go_quiet (fail)
        go_wp2
        go_roundw
        case rel =>
          refine ⟨m + 1 + 1, Or.inl (by omega), by omega, by go_num, below_drewN HB.out _, fun j hj => ?_⟩
          by_cases hjm : j = m + 1
          · subst hjm; unfold ascAt; rw [← HX.out, Nat.add_sub_cancel, ← HY.out]; simpa using hyx
          · exact HU.out j (by omega)
        case measure => simp [intOf]; omega
      · have HF : Hid (R = false) := by
          show R = false
          rw [HR.out]
          refine ascB_false hlt ?_
          unfold ascAt; rw [← HX.out, Nat.add_sub_cancel, ← HY.out]; simpa using hyx
        go_wp2
        go_quiet (fail)
        go_wp2
        go_ret
        exact ⟨ret_bool HF.out.symm, below_drewN HB.out _⟩
    · have HF : Hid (R = true) := by
        show R = true
        rw [HR.out]
        exact ascB_true (fun j hj => HU.out j (by omega))
      go_wp2
      go_ret
      exact ⟨ret_bool HF.out.symm, HB.out⟩

set_option maxHeartbeats 1000000 in
theorem checkBut_any (a : Option Addr) (cap : Nat) (l : List Int) (w : World) (lo : Nat) (hv : IntsIn w lo a l) (hg : Glob w) :
    Calls Tryd.prog 93 #[.slice a l.length cap] w fun e w' => ∃ v, e = .returned v ∧ ErrV (decide (l.length ≤ 8) && butB l) v ∧ Below w.heap.size w w' := by
  by_cases h8 : 8 < l.length
  · obtain ⟨p, hp⟩ := hg.but
    have hl := hv.1
    have HE : Hid (ErrV (decide (l.length ≤ 8) && butB l) (.iface 166 (.pointer (some p)))) := Or.inr ⟨by simp [show ¬ l.length ≤ 8 by omega], p, rfl⟩
    go_enter Tryd.func93, Tryd.ntmps93
    go_wp2
    go_ret
    exact ⟨_, rfl, HE.out, Below.refl _ _⟩
  · have h8' : l.length ≤ 8 := by omega
    cases hasc : ascB l with
    | false =>
      obtain ⟨p, hp⟩ := hg.but
      have HE : Hid (ErrV (decide (l.length ≤ 8) && butB l) (.iface 166 (.pointer (some p)))) := Or.inr ⟨by simp [butB_asc hasc], p, rfl⟩
      go_enter Tryd.func93, Tryd.ntmps93
      go_wp2_with (go_at_call 101; refine (ascending_any a cap l _ lo hv).mono ?_; rintro e w' ⟨rfl, hb1⟩; rw [hasc]; have HB1 : Hid (Below w.heap.size w w') := hb1; have hp1 := (hb1.cell (p := ⟨9, 0, none⟩) (cell_lt hp)).trans hp; clear hb1)
      go_ret
      exact ⟨_, rfl, HE.out, HB1.out⟩
    | true =>
      have HA : Hid (ascB l = true) := hasc
      clear hasc
      go_enter Tryd.func93, Tryd.ntmps93
      go_wp2_with (go_at_call 101; refine (ascending_any a cap l _ lo hv).mono ?_; rintro e w1 ⟨rfl, hb1⟩; rw [HA.out])
      have HB1 : Hid (Below w.heap.size w w1) := hb1
      clear hb1
      go_loopw [4, 16] (fun _ i wr => ∃ k : Nat, k ≤ l.length ∧ i = .int .i64 k ∧ wr = w1 ∧ ∀ j, j < k → butAt l j = true) (fun _ i _ => l.length - (intOf i).toNat)
      case atStart => exact ⟨0, Nat.zero_le _, rfl, rfl, fun j hj => by omega⟩
      case round =>
        obtain ⟨k, hk, rfl, rfl, hbut⟩ := hrel
        have HU : Hid (∀ j, j < k → butAt l j = true) := hbut
        clear hbut
        obtain ⟨pb, hpb⟩ := (hg.below HB1.out (Nat.le_refl _)).bounds
        have HE : Hid (∀ p : Addr, butB l = false → ErrV (decide (l.length ≤ 8) && butB l) (.iface 166 (.pointer (some p)))) := fun p hb => Or.inr ⟨by simp [hb], p, rfl⟩
        by_cases hlt : k < l.length
        · obtain ⟨b, off, rfl, _, c0⟩ := (hv.below HB1.out (Nat.le_refl _)).2.2 k hlt
          obtain ⟨x, hx⟩ : ∃ x, x = l[k]?.getD 0 := ⟨_, rfl⟩
          rw [← hx] at c0
          have HX : Hid (x = l[k]?.getD 0) := hx
          clear hx
          cases h6 : inB x 0 100000 with
          | false =>
            go_wp2_with (go_at_call 92; refine (within_any _ _ _ _).mono ?_; rintro e w' ⟨rfl, rfl⟩)
            go_ret
            exact ⟨_, rfl, HE.out _ (butB_false hlt (butAt_in HX.out h6)), HB1.out⟩
          | true =>
            go_wp2_with (go_at_call 92; refine (within_any _ _ _ _).mono ?_; rintro e w' ⟨rfl, rfl⟩)
            go_roundw
            case rel =>
              refine ⟨k + 1, by omega, by go_num, (by first | trivial | rfl), fun j hj => ?_⟩
              by_cases hjk : j = k
              · subst hjk; rw [butAt_asc, ← HX.out, h6, ascB_at HA.out hlt]; rfl
              · exact HU.out j (by omega)
            case measure => simp [intOf]; omega
        · have HF : Hid (ErrV (decide (l.length ≤ 8) && butB l) .nilIface) := Or.inl ⟨by simp [h8', butB_true (fun j hj => HU.out j (by omega))], rfl⟩
          go_wp2
          go_ret
          exact ⟨_, rfl, HF.out, HB1.out⟩

set_option maxHeartbeats 1000000 in
theorem checkRule_any (r : CR) (a : Option Addr) (cap : Nat) (w : World) (lo : Nat) (hv : IntsIn w lo a r.b) (hg : Glob w) :
    Calls Tryd.prog 73 #[r.val a cap] w fun e w' => ∃ v, e = .returned v ∧ ErrV (ruleB r) v ∧ Below w.heap.size w w' := by
  have hb0 : Below w.heap.size w (w.alloc (.cells #[.int .i64 r.e, .int .i64 r.a, .int .i64 r.f, .int .i64 r.t, .slice a r.b.length cap] 66)) := (Below.refl _ _).alloc (Nat.le_refl _) _
  have hg1 := hg.below hb0 (Nat.le_refl _)
  have hv1 := hv.below hb0 (Nat.le_refl _)
  have HF : Hid _ := hb0
  clear hb0
  obtain ⟨pb, hpb⟩ := hg1.bounds
  have HE : Hid (headB r = false → ErrV (ruleB r) (.iface 166 (.pointer (some pb)))) := fun hb => Or.inr ⟨by simp [ruleB, hb], pb, rfl⟩
  cases h1 : inB r.e 1 1000 with
  | false =>
    go_enter Tryd.func73, Tryd.ntmps73
    go_wp2_with (go_at_call 92; refine (within_any _ _ _ _).mono ?_; rintro e w' ⟨rfl, rfl⟩)
    go_ret
    exact ⟨_, rfl, HE.out (by simp [headB, h1]), HF.out⟩
  | true =>
    have h1' := inB_iff.1 h1
    cases h2 : inB r.a 0 (r.e - 1) with
    | false =>
      go_enter Tryd.func73, Tryd.ntmps73
      go_wp2_with (go_at_call 92; refine (within_any _ _ _ _).mono ?_; rintro e w' ⟨rfl, rfl⟩)
      go_ret
      exact ⟨_, rfl, HE.out (by simp [headB, h2]), HF.out⟩
    | true =>
      cases h3 : inB r.f 0 100000 with
      | false =>
        go_enter Tryd.func73, Tryd.ntmps73
        go_wp2_with (go_at_call 92; refine (within_any _ _ _ _).mono ?_; rintro e w' ⟨rfl, rfl⟩)
        go_ret
        exact ⟨_, rfl, HE.out (by simp [headB, h3]), HF.out⟩
      | true =>
        cases h4 : inB r.t r.f 100000 with
        | false =>
          go_enter Tryd.func73, Tryd.ntmps73
          go_wp2_with (go_at_call 92; refine (within_any _ _ _ _).mono ?_; rintro e w' ⟨rfl, rfl⟩)
          go_ret
          exact ⟨_, rfl, HE.out (by simp [headB, h4]), HF.out⟩
        | true =>
          have e : ruleB r = (decide (r.b.length ≤ 8) && butB r.b) := by simp [ruleB, headB, h1, h2, h3, h4]
          rw [e]
          clear e
          go_enter Tryd.func73, Tryd.ntmps73
          go_wp2_with (first | (go_at_call 92; refine (within_any _ _ _ _).mono ?_; rintro e w' ⟨rfl, rfl⟩) | (go_at_call 93; refine (checkBut_any a cap r.b _ lo hv1 hg1).mono ?_; rintro e w1 ⟨v, rfl, hev, hb1⟩))
          go_ret
          exact ⟨_, rfl, hev, HF.out.trans (hb1.mono (by simp))⟩

/-- nil, if it is ok; else a lineError whose line is not 0. -/
def LineV (ok : Bool) (v : Value) : Prop := (ok = true ∧ v = .nilIface) ∨ (ok = false ∧ ∃ (n : Int) (p : Addr), 1 ≤ n ∧ n ≤ 1000 ∧ v = .iface 90 (.agg #[.int .i64 n, .iface 166 (.pointer (some p))]))

set_option maxHeartbeats 1000000 in
theorem checkRules_any (a : Option Addr) (cap : Nat) (rs : List CR) (w : World) (lo lb : Nat) (hl : rs.length ≤ 9223372036854775807) (hc : RulesIn w lo lb a rs) (hg : Glob w) :
    Calls Tryd.prog 53 #[.slice a rs.length cap] w fun e w' => ∃ v, e = .returned v ∧ LineV (rulesB rs) v ∧ Below w.heap.size w w' := by
  obtain ⟨pm, hpm⟩ := hg.missing
  obtain ⟨pn, hpn⟩ := hg.many
  have HE : Hid (∀ (n : Int) (p : Addr), 1 ≤ n → n ≤ 1000 → rulesB rs = false → LineV (rulesB rs) (.iface 90 (.agg #[.int .i64 n, .iface 166 (.pointer (some p))]))) := fun n p h1 h2 hb => Or.inr ⟨hb, n, p, h1, h2, rfl⟩
  by_cases h0 : rs.length = 0
  · have hz : ((rs.length : Int) == 0) = true := by simp [h0]
    have HB : Hid (rulesB rs = false) := by show rulesB rs = false; simp [rulesB, h0]
    clear h0
    go_enter Tryd.func53, Tryd.ntmps53
    go_wp2
    go_ret
    exact ⟨_, rfl, HE.out _ _ (by omega) (by omega) HB.out, Below.refl _ _⟩
  · have hz : ((rs.length : Int) == 0) = false := by simp; intro h; simp [h] at h0
    by_cases h4 : 4 < rs.length
    · have HB : Hid (rulesB rs = false) := by show rulesB rs = false; simp [rulesB, show ¬ rs.length ≤ 4 by omega]
      go_enter Tryd.func53, Tryd.ntmps53
      go_wp2
      go_ret
      exact ⟨_, rfl, HE.out _ _ (by omega) (by omega) HB.out, Below.refl _ _⟩
    · have HN : Hid (¬ rs.length = 0) := h0
      clear h0 hpm hpn
      have h4' : rs.length ≤ 4 := by omega
      go_enter Tryd.func53, Tryd.ntmps53
      go_wp2
      go_loopw [3, 4, 5, 20] (fun _ _ _ i wr => ∃ k : Nat, k ≤ rs.length ∧ i = .int .i64 k ∧ Below w.heap.size w wr ∧ ∀ (j : Nat) r, j < k → rs[j]? = some r → ruleB r = true) (fun _ _ _ i _ => rs.length - (intOf i).toNat)
      case atStart => exact ⟨0, Nat.zero_le _, rfl, Below.refl _ _, fun j r hj => by omega⟩
      case round =>
        obtain ⟨k, hk, rfl, hB, hok⟩ := hrel
        have HOK : Hid (∀ (j : Nat) r, j < k → rs[j]? = some r → ruleB r = true) := hok
        clear hok
        by_cases hlt : k < rs.length
        · obtain ⟨r, hr⟩ : ∃ r, rs[k]? = some r := ⟨_, List.getElem?_eq_getElem hlt⟩
          obtain ⟨_, b, off, ba, bc, rfl, _, hi, c0, c1, c2, c3, c4⟩ := hc.below hB (Nat.le_refl _) k r hr
          have HR : Hid (rs[k]? = some r) := hr
          clear hr
          have hsz := hB.size
          have HBB : Hid (Below w.heap.size w wr) := hB
          have hgr := hg.below hB (Nat.le_refl _)
          clear hB
          have hb0 : Below wr.heap.size wr (wr.alloc (.cells #[.int .i64 r.e, .int .i64 r.a, .int .i64 r.f, .int .i64 r.t, .slice ba r.b.length bc] 66)) := (Below.refl _ _).alloc (Nat.le_refl _) _
          have hi1 := hi.below hb0 (Nat.le_refl _)
          have hg1 := hgr.below hb0 (Nat.le_refl _)
          have HB0 : Hid _ := hb0
          clear hb0
          go_wp2_with fail
          refine (checkRule_any r ba bc _ lb hi1 hg1).mono ?_
          rintro e w1 ⟨v, rfl, (⟨hrb, rfl⟩ | ⟨hrb, p, rfl⟩), hb1⟩
          · have HB1 : Hid (Below w.heap.size w w1) := HBB.out.trans ((HB0.out.trans (hb1.mono (by simp))).mono hsz)
            clear hb1
            go_wp2
            go_roundw
            case rel =>
              refine ⟨k + 1, by omega, by go_num, HB1.out, fun j r' hj hr' => ?_⟩
              by_cases hjk : j = k
              · subst hjk
                rw [HR.out] at hr'
                cases hr'
                exact hrb
              · exact HOK.out j r' (by omega) hr'
            case measure => simp [intOf]; omega
          · have HB1 : Hid (Below w.heap.size w w1) := HBB.out.trans ((HB0.out.trans (hb1.mono (by simp))).mono hsz)
            clear hb1
            go_wp2
            go_ret
            exact ⟨_, rfl, HE.out _ _ (by omega) (by omega) (rulesB_false HR.out hrb), HB1.out⟩
        · have HF : Hid (LineV (rulesB rs) .nilIface) := Or.inl ⟨by rw [rulesB_len (fun i r hi => HOK.out i r (by have := (List.getElem?_eq_some_iff.1 hi).1; omega) hi)]; exact inB_true (by have := HN.out; omega) (by omega), rfl⟩
          go_wp2
          go_ret
          exact ⟨_, rfl, HF.out, hB⟩

set_option maxHeartbeats 1000000 in
theorem wrongLine_nil (w : World) :
    Calls Tryd.prog 45 #[.nilIface] w fun e w' => e = .returned (.int .i64 0) ∧ Below w.heap.size w w' := by
  go_enter Tryd.func45, Tryd.ntmps45
  go_wp2_with (go_at_call 68; refine (as_nil _ _).mono ?_; rintro e w' ⟨rfl, rfl⟩)
  go_ret
  exact ⟨rfl, (Below.refl _ _).alloc (Nat.le_refl _) _⟩

set_option maxHeartbeats 1000000 in
theorem wrongLine_line (n : Int) (p : Addr) (w : World) (hg : Glob w) :
    Calls Tryd.prog 45 #[.iface 90 (.agg #[.int .i64 n, .iface 166 (.pointer (some p))])] w fun e w' => e = .returned (.int .i64 n) ∧ Below w.heap.size w w' := by
  have hb0 : Below w.heap.size w (w.alloc (.cells #[.int .i64 0, .nilIface] 90)) := (Below.refl _ _).alloc (Nat.le_refl _) _
  have hty := (hg.below hb0 (Nat.le_refl _)).ty
  have HB0 : Hid _ := hb0
  clear hb0
  go_enter Tryd.func45, Tryd.ntmps45
  go_wp2_with fail
  refine (as_hit n p w.heap.size (.int .i64 0) .nilIface _ hty (by simp) (by simp) (by simp) (by simp)).mono ?_
  rintro e w1 ⟨rfl, hw1⟩
  have c0 : w1.cell? ⟨w.heap.size, 0, none⟩ = some (.int .i64 n) := by
    rw [hw1, cell_setCell_off _ (by omega)]
    refine cell_setCell_same _ ⟨.int .i64 0, ?_⟩
    rw [World.cell?_alloc_lt _ _ _ (by simp; omega), World.cell?_alloc_lt _ _ _ (by simp; omega), World.cell?_alloc_lt _ _ _ (by simp; omega), World.cell?_alloc_lt _ _ _ (by simp)]
    simp
  have HB1 : Hid (Below w.heap.size w w1) := by
    show Below _ _ _
    rw [hw1]
    exact ((((((HB0.out.alloc (by simp) _).alloc (by simp; omega) _).alloc (by simp; omega) _).alloc (by simp; omega) _).setCell (p := ⟨w.heap.size, 0, none⟩) (Nat.le_refl _) _).setCell (p := ⟨w.heap.size, 1, none⟩) (Nat.le_refl _) _)
  clear hw1
  go_wp2
  go_ret
  exact ⟨rfl, HB1.out⟩

set_option maxHeartbeats 1000000 in
theorem implCalOk_any (a : Option Addr) (cap : Nat) (rs : List CR) (w : World) (lo lb : Nat) (hl : rs.length ≤ 9223372036854775807) (hc : RulesIn w lo lb a rs) (hg : Glob w) :
    Calls Tryd.prog 27 #[.slice a rs.length cap] w fun e w' => e = .returned (.bool (rulesB rs)) ∧ Below w.heap.size w w' := by
  go_enter Tryd.func27, Tryd.ntmps27
  go_wp2_with fail
  refine (checkRules_any a cap rs _ lo lb hl hc hg).mono ?_
  rintro e w1 ⟨v, rfl, (⟨hrb, rfl⟩ | ⟨hrb, n, p, hn1, hn2, rfl⟩), hb1⟩
  · have HR : Hid (rulesB rs = true) := hrb
    clear hrb
    go_wp2_with (go_at_call 45; refine (wrongLine_nil _).mono ?_; rintro e w2 ⟨rfl, hb2⟩)
    go_ret
    exact ⟨ret_bool HR.out.symm, hb1.trans (hb2.mono hb1.size)⟩
  · have HR : Hid (rulesB rs = false) := hrb
    clear hrb
    have hn0 : (n == 0) = false := by simp; omega
    have hg1 := hg.below hb1 (Nat.le_refl _)
    go_wp2_with (go_at_call 45; refine (wrongLine_line n p _ hg1).mono ?_; rintro e w2 ⟨rfl, hb2⟩)
    go_ret
    exact ⟨ret_bool HR.out.symm, hb1.trans (hb2.mono hb1.size)⟩

end Go.Proofs.YtammejplaeaocaaDoor
