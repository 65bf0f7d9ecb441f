/-
  The laws' marking of rules that a call has made. Condition: bounds on how many there are.
-/
import Derived.Test.YtammejplaeaocaaDoorMark
namespace Go.Proofs.YtammejplaeaocaaDoor
open Go.RowKit

/-- Rules of one's own, marked from a number on. -/
def mkE : List (CR × Value) → Int → List (CR × Value)
  | [], _ => []
  | p :: es, k => (⟨k, k + 1, k + 2, k + 3, seqI (k + 4) p.1.b.length⟩, p.2) :: mkE es (k + 4 + p.1.b.length)
theorem mkE_fst : ∀ (es : List (CR × Value)) (k : Int), (mkE es k).map Prod.fst = mk (es.map Prod.fst) k
  | [], _ => rfl
  | p :: es, k => by simp only [mkE, List.map_cons, mk]; rw [mkE_fst es]
theorem mkE_len : ∀ (es : List (CR × Value)) (k : Int), (mkE es k).length = es.length
  | [], _ => rfl
  | p :: es, k => by simp [mkE, mkE_len es]
theorem mkE_snoc : ∀ (es : List (CR × Value)) (p : CR × Value) (k : Int), mkE (es ++ [p]) k = mkE es k ++ [(⟨endK (es.map Prod.fst) k, endK (es.map Prod.fst) k + 1, endK (es.map Prod.fst) k + 2, endK (es.map Prod.fst) k + 3, seqI (endK (es.map Prod.fst) k + 4) p.1.b.length⟩, p.2)]
  | [], p, k => rfl
  | q :: es, p, k => by simp only [List.cons_append, mkE, List.map_cons, endK]; rw [mkE_snoc es p _]

theorem flat_append : ∀ (A B : List (CR × Value)), flat (A ++ B) = flat A ++ flat B
  | [], B => rfl
  | p :: A, B => by simp [flat, flat_append A B]
theorem flat_set4 (A B : List (CR × Value)) (p : CR × Value) (x0 x1 x2 x3 : Int) :
    ((((flat (A ++ p :: B)).set (A.length * 5) (.int .i64 x0)).set (A.length * 5 + 1) (.int .i64 x1)).set (A.length * 5 + 2) (.int .i64 x2)).set (A.length * 5 + 3) (.int .i64 x3) = flat (A ++ (⟨x0, x1, x2, x3, p.1.b⟩, p.2) :: B) := by
  rw [flat_append, flat_append]
  have hl := flat_len A
  rw [List.set_append_right _ _ (by omega), List.set_append_right _ _ (by omega), List.set_append_right _ _ (by omega), List.set_append_right _ _ (by omega), hl, Nat.sub_self, show A.length * 5 + 1 - A.length * 5 = 1 by omega, show A.length * 5 + 2 - A.length * 5 = 2 by omega, show A.length * 5 + 3 - A.length * 5 = 3 by omega]
  rfl

theorem mid_at {A B : List (CR × Value)} {p q : CR × Value} {i : Nat} (h : (A ++ p :: B)[i]? = some q) : (i = A.length ∧ q = p) ∨ (i ≠ A.length ∧ ∀ p', (A ++ p' :: B)[i]? = some q) := by
  by_cases hi : i = A.length
  · subst hi
    rw [List.getElem?_append_right (Nat.le_refl _), Nat.sub_self, List.getElem?_cons_zero] at h
    injection h with h
    exact Or.inl ⟨rfl, h.symm⟩
  · refine Or.inr ⟨hi, fun p' => ?_⟩
    by_cases hl : i < A.length
    · rw [List.getElem?_append_left hl] at h ⊢; exact h
    · rw [List.getElem?_append_right (by omega)] at h ⊢
      obtain ⟨t, ht⟩ : ∃ t, i - A.length = t + 1 := ⟨i - A.length - 1, by omega⟩
      rw [ht, List.getElem?_cons_succ] at h ⊢
      exact h
theorem mid_self (A B : List (CR × Value)) (p : CR × Value) : (A ++ p :: B)[A.length]? = some p := by
  rw [List.getElem?_append_right (Nat.le_refl _), Nat.sub_self]; rfl

/-- The four numbers of a rule are written. -/
theorem OwnRules.four {W : World} {lo g n cap : Nat} {A B : List (CR × Value)} {p : CR × Value} (h : OwnRules W lo (.slice (some ⟨g, 0, none⟩) n cap) (A ++ p :: B)) (x0 x1 x2 x3 : Int) (hx : In64 x0 ∧ In64 x1 ∧ In64 x2 ∧ In64 x3) :
    OwnRules ((((W.setCell ⟨g, A.length * 5, none⟩ (.int .i64 x0)).setCell ⟨g, A.length * 5 + 1, none⟩ (.int .i64 x1)).setCell ⟨g, A.length * 5 + 2, none⟩ (.int .i64 x2)).setCell ⟨g, A.length * 5 + 3, none⟩ (.int .i64 x3)) lo (.slice (some ⟨g, 0, none⟩) n cap) (A ++ (⟨x0, x1, x2, x3, p.1.b⟩, p.2) :: B) := by
  have hn : n = (A ++ p :: B).length := by
    rcases h.row.2 with ⟨hv, _⟩ | ⟨g', cap', cur, hv, _⟩
    · cases hv
    · injection hv
  have hl : (A ++ (⟨x0, x1, x2, x3, p.1.b⟩, p.2) :: B : List (CR × Value)).length = n := by rw [hn]; simp
  have hrow := h.row
  rw [← hn] at hrow
  obtain ⟨r1, g1⟩ := hrow.stored (A.length * 5) (.int .i64 x0)
  obtain ⟨r2, g2⟩ := r1.stored (A.length * 5 + 1) (.int .i64 x1)
  obtain ⟨r3, g3⟩ := r2.stored (A.length * 5 + 2) (.int .i64 x2)
  obtain ⟨r4, g4⟩ := r3.stored (A.length * 5 + 3) (.int .i64 x3)
  rw [flat_set4] at r4
  have hg := grown_trans (grown_trans (grown_trans g1 g2) g3) g4
  refine ⟨by rw [hl]; exact r4, fun i q hq => ?_, fun i j q q' hq hq' hij k hk => ?_, fun i q hq => ?_⟩
  · rcases mid_at hq with ⟨hi, rfl⟩ | ⟨hi, hq2⟩
    · exact (h.buf _ p (mid_self A B p)).kept hg (rows_apart (by decide) h.row (h.buf _ p (mid_self A B p)))
    · exact (h.buf i q (hq2 p)).kept hg (rows_apart (by decide) h.row (h.buf i q (hq2 p)))
  · have a1 : ∃ u, (A ++ p :: B)[i]? = some u ∧ u.2 = q.2 := by
      rcases mid_at hq with ⟨hi, rfl⟩ | ⟨hi, hq2⟩
      · exact ⟨p, by rw [hi]; exact mid_self A B p, rfl⟩
      · exact ⟨q, hq2 p, rfl⟩
    have a2 : ∃ u, (A ++ p :: B)[j]? = some u ∧ u.2 = q'.2 := by
      rcases mid_at hq' with ⟨hi, rfl⟩ | ⟨hi, hq2⟩
      · exact ⟨p, by rw [hi]; exact mid_self A B p, rfl⟩
      · exact ⟨q', hq2 p, rfl⟩
    obtain ⟨u1, h1, e1⟩ := a1
    obtain ⟨u2, h2, e2⟩ := a2
    rw [← e2]
    exact h.apart i j u1 u2 h1 h2 hij k (by rw [e1]; exact hk)
  · rcases mid_at hq with ⟨hi, rfl⟩ | ⟨hi, hq2⟩
    · exact ⟨hx, (h.rng _ p (mid_self A B p)).2⟩
    · exact h.rng i q (hq2 p)

/-- The ticks of a rule that are left out are written. -/
theorem OwnRules.ticks {W W' : World} {lo : Nat} {v : Value} {A B : List (CR × Value)} {p : CR × Value} (h : OwnRules W lo v (A ++ p :: B)) {l : List Int} (hl : l.length = p.1.b.length) (hb : W'.ownsRow lo 3 1 p.2 p.1.b.length (ints l)) (hg : W.grownBy W' p.2.ownBlock) (hx : ∀ x, x ∈ l → In64 x) :
    OwnRules W' lo v (A ++ ({ p.1 with b := l }, p.2) :: B) := by
  have hself := h.buf _ p (mid_self A B p)
  refine ⟨?_, fun i q hq => ?_, fun i j q q' hq hq' hij k hk => ?_, fun i q hq => ?_⟩
  · have e : flat (A ++ ({ p.1 with b := l }, p.2) :: B) = flat (A ++ p :: B) := by rw [flat_append, flat_append]; rfl
    rw [e, show (A ++ ({ p.1 with b := l }, p.2) :: B : List (CR × Value)).length = (A ++ p :: B).length by simp]
    exact h.row.kept hg (rows_apart (by decide) hself h.row)
  · rcases mid_at hq with ⟨hi, rfl⟩ | ⟨hi, hq2⟩
    · show W'.ownsRow lo 3 1 p.2 l.length (ints l)
      rw [hl]; exact hb
    · refine (h.buf i q (hq2 p)).kept hg ?_
      cases hk : q.2.ownBlock with
      | none => exact Or.inl rfl
      | some k =>
        right
        intro e
        rcases Nat.lt_or_ge i A.length with h1 | h1
        · exact h.apart i A.length q p (hq2 p) (mid_self A B p) h1 k hk e.symm
        · exact h.apart A.length i p q (mid_self A B p) (hq2 p) (by omega) k e.symm hk
  · have a1 : ∃ u, (A ++ p :: B)[i]? = some u ∧ u.2 = q.2 := by
      rcases mid_at hq with ⟨hi, rfl⟩ | ⟨hi, hq2⟩
      · exact ⟨p, by rw [hi]; exact mid_self A B p, rfl⟩
      · exact ⟨q, hq2 p, rfl⟩
    have a2 : ∃ u, (A ++ p :: B)[j]? = some u ∧ u.2 = q'.2 := by
      rcases mid_at hq' with ⟨hi, rfl⟩ | ⟨hi, hq2⟩
      · exact ⟨p, by rw [hi]; exact mid_self A B p, rfl⟩
      · exact ⟨q', hq2 p, rfl⟩
    obtain ⟨u1, h1, e1⟩ := a1
    obtain ⟨u2, h2, e2⟩ := a2
    rw [← e2]
    exact h.apart i j u1 u2 h1 h2 hij k (by rw [e1]; exact hk)
  · rcases mid_at hq with ⟨hi, rfl⟩ | ⟨hi, hq2⟩
    · exact ⟨(h.rng _ p (mid_self A B p)).1, hx⟩
    · exact h.rng i q (hq2 p)

set_option maxRecDepth 100000 in
set_option maxHeartbeats 2000000 in
theorem markRules_any (v : Value) (es : List (CR × Value)) (k : Int) (w : World) (lo : Nat) (hv : OwnRules w lo v es) (h0 : 0 ≤ k) (h1 : k + 4 * es.length + bulk (es.map Prod.fst) ≤ 1000000) (hlo : lo ≤ w.heap.size) :
    Calls Tryd.prog 31 #[v, .int .i64 k] w fun e w' => e = .returned (.int .i64 (endK (es.map Prod.fst) k)) ∧ OwnRules w' lo v (mkE es k) ∧ Below lo w w' := by
  have HB1 : Hid (∀ j, j ≤ es.length → k + 4 * j + bulk ((es.take j).map Prod.fst) ≤ 1000000 ∧ endK ((es.take j).map Prod.fst) k = k + 4 * j + bulk ((es.take j).map Prod.fst)) := fun j hj => by
    have h2 := bulk_take_le (es.map Prod.fst) j
    have h3 := endK_bulk ((es.take j).map Prod.fst) k
    rw [List.length_map, List.length_take, Nat.min_eq_left hj] at h3
    rw [← List.map_take] at h2
    exact ⟨by omega, h3⟩
  obtain ⟨a, cap, rfl, hbig⟩ := hv.shape
  go_enter Tryd.func31, Tryd.ntmps31
  go_wp2
  go_loopw [1, 5] (fun kk i wr => ∃ j : Nat, j ≤ es.length ∧ i = .int .i64 j ∧ kk = .int .i64 (endK ((es.take j).map Prod.fst) k) ∧ Hid (OwnRules wr lo (.slice a es.length cap) (mkE (es.take j) k ++ es.drop j)) ∧ Hid (Below lo w wr)) (fun _ i _ => es.length - (intOf i).toNat)
  case atStart => exact ⟨0, Nat.zero_le _, rfl, by simp [endK], by show OwnRules _ _ _ _; simpa [mkE] using hv, Below.refl _ _⟩
  case round =>
    obtain ⟨j, hj, rfl, rfl, HO, HB⟩ := hrel
    obtain ⟨hb1, hb2⟩ := HB1.out j hj
    obtain ⟨m, hm⟩ : ∃ m, m = endK ((es.take j).map Prod.fst) k := ⟨_, rfl⟩
    have HM : Hid (m = endK ((es.take j).map Prod.fst) k) := hm
    rw [← hm] at hb2 ⊢
    have hm0 : 0 ≤ m := by omega
    have hm1 : m ≤ 1000000 := by omega
    clear hm
    by_cases hlt : j < es.length
    · obtain ⟨p, hp⟩ : ∃ p, es[j]? = some p := ⟨_, List.getElem?_eq_getElem hlt⟩
      obtain ⟨g, rfl⟩ : ∃ g, a = some ⟨g, 0, none⟩ := by
        rcases HO.out.row.2 with ⟨_, h00⟩ | ⟨g, cap', cur, hv', _⟩
        · simp [mkE_len] at h00; omega
        · injection hv' with ha; exact ⟨g, ha⟩
      have hdr : es.drop j = p :: es.drop (j + 1) := by
        obtain ⟨hj2, he⟩ := List.getElem?_eq_some_iff.1 hp
        rw [List.drop_eq_getElem_cons hj2, he]
      have HO2 : Hid (OwnRules wr lo (.slice (some ⟨g, 0, none⟩) es.length cap) (mkE (es.take j) k ++ p :: es.drop (j + 1))) := by
        have := HO.out
        rwa [hdr] at this
      have hjl : (mkE (es.take j) k).length = j := by rw [mkE_len, List.length_take]; omega
      have hn1 := HB1.out (j + 1) (by omega)
      have hstep : endK ((es.take (j + 1)).map Prod.fst) k = m + 4 + p.1.b.length := by
        obtain ⟨hj2, he⟩ := List.getElem?_eq_some_iff.1 hp
        rw [List.take_succ_eq_append_getElem hj2, he, List.map_append]
        show endK (_ ++ [p.1]) k = _
        rw [endK_snoc, ← HM.out]
      rw [hstep] at hn1
      have hbnd : m + 4 + p.1.b.length ≤ 1000000 := by omega
      have HST : Hid (endK ((es.take (j + 1)).map Prod.fst) k = m + 4 + p.1.b.length) := hstep
      have HTK : Hid (es.take (j + 1) = es.take j ++ [p]) := by
        obtain ⟨hj2, he⟩ := List.getElem?_eq_some_iff.1 hp
        show _ = _
        rw [List.take_succ_eq_append_getElem hj2, he]
      have hself := HO2.out.row
      have hlen5 : (mkE (es.take j) k ++ p :: es.drop (j + 1)).length = es.length := by simp [mkE_len]; omega
      rw [hlen5] at hself
      have hcells : ∀ i, i < 5 → wr.cell? ⟨g, j * 5 + i, none⟩ = (five p)[i]? := fun i hi => by
        rw [hself.cellAt (j * 5 + i) (by omega)]
        have := flat_at (mkE (es.take j) k ++ p :: es.drop (j + 1)) j p i (by have := mid_self (mkE (es.take j) k) (es.drop (j + 1)) p; rwa [hjl] at this) hi
        exact this
      have c0 : wr.cell? ⟨g, j * 5, none⟩ = some (.int .i64 p.1.e) := hcells 0 (by omega)
      have c1 : wr.cell? ⟨g, j * 5 + 1, none⟩ = some (.int .i64 p.1.a) := hcells 1 (by omega)
      have c2 : wr.cell? ⟨g, j * 5 + 2, none⟩ = some (.int .i64 p.1.f) := hcells 2 (by omega)
      have c3 : wr.cell? ⟨g, j * 5 + 3, none⟩ = some (.int .i64 p.1.t) := hcells 3 (by omega)
      have c4 : wr.cell? ⟨g, j * 5 + 4, none⟩ = some p.2 := hcells 4 (by omega)
      have f0 := hself.frozenAt (j * 5)
      have f1 := hself.frozenAt (j * 5 + 1)
      have f2 := hself.frozenAt (j * 5 + 2)
      have f3 := hself.frozenAt (j * 5 + 3)
      have hglo : lo ≤ g := (hself.lt g rfl).1
      have HO3 : Hid (OwnRules ((((wr.setCell ⟨g, j * 5, none⟩ (.int .i64 m)).setCell ⟨g, j * 5 + 1, none⟩ (.int .i64 (m + 1))).setCell ⟨g, j * 5 + 2, none⟩ (.int .i64 (m + 2))).setCell ⟨g, j * 5 + 3, none⟩ (.int .i64 (m + 3))) lo (.slice (some ⟨g, 0, none⟩) es.length cap) (mkE (es.take j) k ++ (⟨m, m + 1, m + 2, m + 3, p.1.b⟩, p.2) :: es.drop (j + 1))) := by
        have := HO2.out.four m (m + 1) (m + 2) (m + 3) ⟨⟨by omega, by omega⟩, ⟨by omega, by omega⟩, ⟨by omega, by omega⟩, ⟨by omega, by omega⟩⟩
        rw [hjl] at this
        exact this
      have HB4 : Hid (Below lo w ((((wr.setCell ⟨g, j * 5, none⟩ (.int .i64 m)).setCell ⟨g, j * 5 + 1, none⟩ (.int .i64 (m + 1))).setCell ⟨g, j * 5 + 2, none⟩ (.int .i64 (m + 2))).setCell ⟨g, j * 5 + 3, none⟩ (.int .i64 (m + 3)))) := (((HB.out.setCell (p := ⟨g, j * 5, none⟩) hglo _).setCell (p := ⟨g, j * 5 + 1, none⟩) hglo _).setCell (p := ⟨g, j * 5 + 2, none⟩) hglo _).setCell (p := ⟨g, j * 5 + 3, none⟩) hglo _
      have hbuf := HO3.out.buf j (⟨m, m + 1, m + 2, m + 3, p.1.b⟩, p.2) (by have := mid_self (mkE (es.take j) k) (es.drop (j + 1)) (⟨m, m + 1, m + 2, m + 3, p.1.b⟩, p.2); rwa [hjl] at this)
      have hcall := markInts_any p.2 p.1.b (m + 4) _ lo hbuf (by omega) (by omega)
      obtain ⟨ba, bc, hbv⟩ : ∃ ba bc, p.2 = .slice ba p.1.b.length bc := by
        rcases hbuf.2 with ⟨hv, h0⟩ | ⟨g', cap', cur, hv, _⟩
        · exact ⟨none, 0, by rw [hv, show p.1.b.length = 0 from h0]⟩
        · exact ⟨_, _, hv⟩
      have HBUF : Hid (lo ≤ w.heap.size ∧ ∀ k, p.2.ownBlock = some k → lo ≤ k) := ⟨hlo, fun k hk => (hbuf.lt k hk).1⟩
      have HPV : Hid (p.2 = .slice ba p.1.b.length bc) := hbv
      rw [hbv] at c4 hcall
      clear hcells hself hbuf hstep hn1 hb1 hb2 hdr hp hbv HO HO2
      have e1 : m + 1 + 1 = m + 2 := by omega
      have e2 : m + 2 + 1 = m + 3 := by omega
      have e3 : m + 3 + 1 = m + 4 := by omega
      obtain ⟨n, hn⟩ : ∃ n, n = p.1.b.length := ⟨_, rfl⟩
      go_wp2_with (go_at_call 57; refine hcall.mono ?_; rintro e w1 ⟨rfl, hw1, hgr, hsz⟩; have HW1 : Hid (_ ∧ _) := ⟨hw1, hgr⟩; clear hw1 hgr hsz)
      go_roundw
      case rel =>
        obtain ⟨hw1, hgr⟩ := HW1.out
        rw [← HPV.out] at hw1 hgr
        refine ⟨j + 1, by omega, by go_num, by rw [HST.out], ?_, HB4.out.grown hgr (by have := HB4.out.size; have := HBUF.out.1; omega) (fun q hq => HBUF.out.2 q hq)⟩
        have h3 := HO3.out.ticks (l := seqI (m + 4) p.1.b.length) (seqI_len _ _) hw1 hgr (seqI_in (by omega) (by omega))
        show OwnRules _ _ _ _
        have e4 : mkE (es.take (j + 1)) k ++ es.drop (j + 1) = mkE (es.take j) k ++ (⟨m, m + 1, m + 2, m + 3, seqI (m + 4) p.1.b.length⟩, p.2) :: es.drop (j + 1) := by
          rw [HTK.out, mkE_snoc, ← HM.out, List.append_assoc]
          rfl
        rw [e4]
        exact h3
      case measure => simp [intOf]; omega
    · obtain rfl : j = es.length := by omega
      have HE : Hid (m = endK (es.map Prod.fst) k) := by show _ = _; rw [HM.out, List.take_length]
      have HO2 : Hid (OwnRules wr lo (.slice a es.length cap) (mkE es k)) := by
        have := HO.out
        rwa [List.take_length, List.drop_length, List.append_nil] at this
      go_wp2
      go_ret
      exact ⟨ret_int HE.out, HO2.out, HB.out⟩

end Go.Proofs.YtammejplaeaocaaDoor
