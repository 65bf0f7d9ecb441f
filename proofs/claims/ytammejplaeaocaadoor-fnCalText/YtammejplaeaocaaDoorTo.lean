/-
  The laws' own functions toIntS, toCalRule, toCalRuleS: a copy in new memory. Condition: at most 1048576 ints a list and as many rules.
-/
import Derived.Test.YtammejplaeaocaaDoorSz
import Derived.Deep.OwnRows
namespace Go.Proofs.YtammejplaeaocaaDoor
open Go.RowKit

theorem Tryd.infoInt : (Tryd.prog.info? 3).map (fun i => (i.zero, i.size, i.bytes)) = some (some (.int .i64 0), 1, 8) := by kernel_rfl

set_option maxHeartbeats 400000 in
theorem toInts_any (a : Option Addr) (cap : Nat) (l : List Int) (w : World) (lo : Nat) (hv : IntsIn w lo a l) (hl : l.length ≤ 1048576) :
    Calls Tryd.prog 75 #[.slice a l.length cap] w fun e w' => ∃ a' cap', e = .returned (.slice a' l.length cap') ∧ IntsIn w' w.heap.size a' l ∧ Below w.heap.size w w' := by
  obtain ⟨_, hr, hc⟩ := hv
  have hmk := run_make_row' (P := Tryd.prog) 64 3 (.int .i64 0) 8 Tryd.underlying64 Tryd.infoInt rfl .i64 .i64 l.length (by omega) (by omega)
  have HC : Hid (∀ i, i < l.length → ∃ b off, a = some ⟨b, off, none⟩ ∧ lo ≤ b ∧ w.cell? ⟨b, off + i, none⟩ = some (.int .i64 (l[i]?.getD 0))) := hc
  clear hc
  have HR : Hid (∀ x, x ∈ l → In64 x) := hr
  clear hr
  go_enter Tryd.func75, Tryd.ntmps75
  go_wp2
  go_loopw [4] (fun i wr => ∃ k : Nat, k ≤ l.length ∧ i = .int .i64 k ∧ Below w.heap.size w wr ∧ wr.rowIs w.heap.size 3 l.length (fun j => .int .i64 (if j < k then l[j]?.getD 0 else 0))) (fun i _ => l.length - (intOf i).toNat)
  case atStart => exact ⟨0, Nat.zero_le _, rfl, (Below.refl _ _).alloc (Nat.le_refl _) _, (World.rowIs_made w (.int .i64 0) l.length 3).congr (fun i _ => by simp)⟩
  case round =>
    obtain ⟨k, hk, rfl, hB, hrow⟩ := hrel
    by_cases hlt : k < l.length
    · obtain ⟨b, off, rfl, _, c0⟩ := HC.out k hlt
      have hbl : b < w.heap.size := by have := cell_lt c0; simpa using this
      have c1 : wr.cell? ⟨b, off + k, none⟩ = some (.int .i64 (l[k]?.getD 0)) := (hB.cell (p := ⟨b, _, none⟩) hbl).trans c0
      have c2 := hrow.cell hlt
      have c3 := hrow.frozen k
      clear c0
      have HROW : Hid (wr.rowIs w.heap.size 3 l.length (fun j => .int .i64 (if j < k then l[j]?.getD 0 else 0))) := hrow
      clear hrow
      simp only [Nat.lt_irrefl, if_false] at c2
      go_wp2
      go_roundw
      case rel =>
        refine ⟨k + 1, by omega, by go_num, hB.setCell (p := ⟨w.heap.size, k, none⟩) (Nat.le_refl _) _, (HROW.out.set k _).congr fun j hj => ?_⟩
        by_cases hjk : j = k
        · subst hjk
          simp [hlt]
        · simp only [hjk, if_false]
          congr 1
          by_cases hjl : j < k
          · rw [if_pos hjl, if_pos (by omega)]
          · rw [if_neg hjl, if_neg (by omega)]
      case measure => simp [intOf]; omega
    · obtain rfl : k = l.length := by omega
      go_wp2
      go_ret
      refine ⟨some ⟨w.heap.size, 0, none⟩, l.length, rfl, ⟨by omega, HR.out, fun i hi => ⟨w.heap.size, 0, rfl, Nat.le_refl _, ?_⟩⟩, hB⟩
      have := hrow.cell hi
      rw [if_pos hi] at this
      rw [Nat.zero_add]
      exact this

theorem bcell {W w1 : World} (hb : Below W.heap.size W w1) : (∀ b o, b < W.heap.size → w1.cell? ⟨b, o, none⟩ = W.cell? ⟨b, o, none⟩) ∧ (∀ b o, b < W.heap.size → w1.frozen? ⟨b, o, none⟩ = W.frozen? ⟨b, o, none⟩) :=
  ⟨fun b o h => hb.cell (p := ⟨b, o, none⟩) h, fun b o h => hb.frozen (p := ⟨b, o, none⟩) h⟩

set_option maxHeartbeats 400000 in
theorem toRule_any (r : CR) (a : Option Addr) (cap : Nat) (w : World) (lo : Nat) (hv : IntsIn w lo a r.b) (hl : r.b.length ≤ 1048576) :
    Calls Tryd.prog 55 #[r.val a cap] w fun e w' => ∃ a' cap', e = .returned (r.val a' cap') ∧ IntsIn w' w.heap.size a' r.b ∧ Below w.heap.size w w' := by
  go_enter Tryd.func55, Tryd.ntmps55
  go_wp2_with fail
  refine (toInts_any a cap r.b _ lo (hv.below (((((Below.refl _ _).alloc (Nat.le_refl _) _).alloc (by simp) _).alloc (by simp; omega) _)) (Nat.le_refl _)) hl).mono ?_
  rintro e w1 ⟨a', cap', rfl, hu, hb⟩
  obtain ⟨hc, hf⟩ := bcell hb
  have hz : w.heap.size + 1 + 1 < w1.heap.size := by have := hb.size; simp at this; omega
  have hu' : Hid (IntsIn w1 (w.heap.size + 1 + 1 + 1) a' r.b) := by show IntsIn _ _ _ _; simpa using hu
  have hb' : Hid (Below w.heap.size w w1) := ((((Below.refl _ _).alloc (Nat.le_refl _) _).alloc (by simp) _).alloc (by simp; omega) _).trans (hb.mono (by simp; omega))
  go_wp2
  refine bodyPost_ret (v := r.val a' cap') (by simp [results, Tryd.results55, go_sem, hc]) rfl ⟨a', cap', rfl, ?_, ?_⟩
  · refine IntsIn.mono (((((((hu'.out.setCell _ ?_ _).setCell _ ?_ _).setCell _ ?_ _).setCell _ ?_ _).setCell _ ?_ _).setCell _ ?_ _)) (by omega) <;> (simp; try omega)
  · refine (((((hb'.out.setCell ?_ _).setCell ?_ _).setCell ?_ _).setCell ?_ _).setCell ?_ _).setCell ?_ _ <;> (simp; try omega)

/-- 'make([]impl.CalRule, n)': a new row of 5 n cells. -/
theorem Tryd.infoRule : (Tryd.prog.info? 66).map (fun i => (i.zero, i.size, i.bytes)) = some (some (.agg #[.int .i64 0, .int .i64 0, .int .i64 0, .int .i64 0, .slice none 0 0]), 5, 56) := by kernel_rfl

theorem makeRules (n : Nat) (hn : n ≤ 1048576) (w : World) :
    (Instr.makeSlice 23 (.int .i64 (n : Int)) (.int .i64 (n : Int))).run Tryd.prog w = .ok (.slice (some ⟨w.heap.size, 0, none⟩) n n)
      (w.alloc (.cells (madeCells #[.int .i64 0, .int .i64 0, .int .i64 0, .int .i64 0, .slice none 0 0] (n * 5)) 66)) := by
  obtain ⟨i, hi, hzz⟩ := Option.map_eq_some_iff.1 Tryd.infoRule
  simp only [Prod.mk.injEq] at hzz
  obtain ⟨hz, hs, hb⟩ := hzz
  have hr := run_make (P := Tryd.prog) w 23 66 i _ Tryd.underlying23 hi hz .i64 .i64 n n (by omega) (Int.le_refl _) (by rw [hb]; omega) (by omega)
  simp only [Int.toNat_natCast, hs] at hr
  exact hr

/-- A rule's five cells are written behind the others. -/
theorem rules_step {W : World} {g N lo lb : Nat} {t : TypeId} {rs : List CR} {k : Nat} {r : CR} {ba : Option Addr} {bc : Nat} (hrow : RulesIn W lo lb (some ⟨g, 0, none⟩) (rs.take k)) (hr : rs[k]? = some r) (hin : r.In)
    (hg : Row W g t N) (hN : k * 5 + 5 ≤ N) (hlo : lo ≤ g) (hlb : g < lb) (hi : IntsIn W lb ba r.b) :
    RulesIn (((((W.setCell ⟨g, k * 5, none⟩ (.int .i64 r.e)).setCell ⟨g, k * 5 + 1, none⟩ (.int .i64 r.a)).setCell ⟨g, k * 5 + 2, none⟩ (.int .i64 r.f)).setCell ⟨g, k * 5 + 3, none⟩ (.int .i64 r.t)).setCell ⟨g, k * 5 + 4, none⟩ (.slice ba r.b.length bc))
      lo lb (some ⟨g, 0, none⟩) (rs.take (k + 1)) := by
  have keep : ∀ {a : Option Addr} {l : List Int}, IntsIn W lb a l → IntsIn (((((W.setCell ⟨g, k * 5, none⟩ (.int .i64 r.e)).setCell ⟨g, k * 5 + 1, none⟩ (.int .i64 r.a)).setCell ⟨g, k * 5 + 2, none⟩ (.int .i64 r.f)).setCell ⟨g, k * 5 + 3, none⟩ (.int .i64 r.t)).setCell ⟨g, k * 5 + 4, none⟩ (.slice ba r.b.length bc)) lb a l :=
    fun h => ((((h.setCell _ hlb _).setCell _ hlb _).setCell _ hlb _).setCell _ hlb _).setCell _ hlb _
  intro i r' hi'
  have hik : i < k + 1 := by
    have := (List.getElem?_eq_some_iff.1 hi').1
    simp at this
    omega
  by_cases hk : i = k
  · subst hk
    have e : r' = r := by
      rw [List.getElem?_take_of_lt (by omega), hr] at hi'
      exact (Option.some.inj hi').symm
    subst e
    refine ⟨hin, g, 0, ba, bc, rfl, hlo, keep hi, ?_, ?_, ?_, ?_, ?_⟩
    · rw [Nat.zero_add, cell_setCell_off _ (by omega), cell_setCell_off _ (by omega), cell_setCell_off _ (by omega), cell_setCell_off _ (by omega)]
      exact cell_setCell_same _ (hg.cell (by omega))
    · rw [Nat.zero_add, cell_setCell_off _ (by omega), cell_setCell_off _ (by omega), cell_setCell_off _ (by omega)]
      exact cell_setCell_same _ ((hg.setCell _ _).cell (by omega))
    · rw [Nat.zero_add, cell_setCell_off _ (by omega), cell_setCell_off _ (by omega)]
      exact cell_setCell_same _ (((hg.setCell _ _).setCell _ _).cell (by omega))
    · rw [Nat.zero_add, cell_setCell_off _ (by omega)]
      exact cell_setCell_same _ ((((hg.setCell _ _).setCell _ _).setCell _ _).cell (by omega))
    · rw [Nat.zero_add]
      exact cell_setCell_same _ (((((hg.setCell _ _).setCell _ _).setCell _ _).setCell _ _).cell (by omega))
  · have hi2 : (rs.take k)[i]? = some r' := by
      rw [List.getElem?_take_of_lt (by omega)] at hi' ⊢
      exact hi'
    obtain ⟨h0, b, off, ba', bc', e, h1, h2, h3, h4, h5, h6, h7⟩ := hrow i r' hi2
    injection e with e
    injection e with e1 e2
    subst e1 e2
    refine ⟨h0, g, 0, ba', bc', rfl, h1, keep h2, ?_, ?_, ?_, ?_, ?_⟩
    all_goals rw [cell_setCell_off _ (by omega), cell_setCell_off _ (by omega), cell_setCell_off _ (by omega), cell_setCell_off _ (by omega), cell_setCell_off _ (by omega)]; assumption

set_option maxHeartbeats 400000 in
theorem toRules_any (a : Option Addr) (cap : Nat) (rs : List CR) (w : World) (lo lb : Nat) (hc : RulesIn w lo lb a rs) (hl : rs.length + bulk rs ≤ 1048576) :
    Calls Tryd.prog 29 #[.slice a rs.length cap] w fun e w' => ∃ a', e = .returned (.slice a' rs.length rs.length) ∧ RulesIn w' w.heap.size (w.heap.size + 1) a' rs ∧ Below w.heap.size w w' := by
  have hmk := makeRules rs.length (by omega)
  go_enter Tryd.func29, Tryd.ntmps29
  go_wp2
  go_loopw [4] (fun i wr => ∃ k : Nat, k ≤ rs.length ∧ i = .int .i64 k ∧ Below w.heap.size w wr ∧ Row wr w.heap.size 66 (rs.length * 5) ∧ RulesIn wr w.heap.size (w.heap.size + 1) (some ⟨w.heap.size, 0, none⟩) (rs.take k)) (fun i _ => rs.length - (intOf i).toNat)
  case atStart =>
    have hR := Row.new w (madeCells #[.int .i64 0, .int .i64 0, .int .i64 0, .int .i64 0, .slice none 0 0] (rs.length * 5)) 66
    rw [size_madeCells] at hR
    exact ⟨0, Nat.zero_le _, rfl, (Below.refl _ _).alloc (Nat.le_refl _) _, hR, by intro i r hi; simp at hi⟩
  case round =>
    obtain ⟨k, hk, rfl, hB, hR, hrow⟩ := hrel
    by_cases hlt : k < rs.length
    · obtain ⟨r, hr⟩ : ∃ r, rs[k]? = some r := ⟨_, List.getElem?_eq_getElem hlt⟩
      obtain ⟨hin, b, off, ba, bc, rfl, _, hbv, c0, c1, c2, c3, c4⟩ := (hc.below hB (Nat.le_refl _)) k r hr
      have hbl : Hid (r.b.length ≤ 1048576) := by
        show r.b.length ≤ _
        have := bulk_take rs k r hr
        have := bulk_take_le rs (k + 1)
        omega
      go_wp2_with fail
      refine (toRule_any r ba bc _ lb hbv hbl.out).mono ?_
      rintro e w1 ⟨a', cap', rfl, hu, hb⟩
      have hB1 : Hid (Below w.heap.size w w1) := hB.trans (hb.mono hB.size)
      have hR1 := hR.below hb hR.lt
      have hrow1 := hrow.below hb (Nat.le_refl _)
      have hlt1 := hR.lt
      clear hb hrow hB hR c0 c1 c2 c3 c4 hbv
      obtain ⟨x0, d0⟩ := hR1.cell (j := k * 5) (by omega)
      obtain ⟨x1, d1⟩ := hR1.cell (j := k * 5 + 1) (by omega)
      obtain ⟨x2, d2⟩ := hR1.cell (j := k * 5 + 2) (by omega)
      obtain ⟨x3, d3⟩ := hR1.cell (j := k * 5 + 3) (by omega)
      obtain ⟨x4, d4⟩ := hR1.cell (j := k * 5 + 4) (by omega)
      have f0 := hR1.frozen (k * 5)
      have f1 := hR1.frozen (k * 5 + 1)
      have f2 := hR1.frozen (k * 5 + 2)
      have f3 := hR1.frozen (k * 5 + 3)
      have f4 := hR1.frozen (k * 5 + 4)
      go_wp2
      go_roundw
      case rel =>
        refine ⟨k + 1, by omega, by go_num, ?_, ((((hR1.setCell _ _).setCell _ _).setCell _ _).setCell _ _).setCell _ _, ?_⟩
        · exact ((((hB1.out.setCell (p := ⟨w.heap.size, k * 5, none⟩) (Nat.le_refl _) _).setCell (p := ⟨w.heap.size, k * 5 + 1, none⟩) (Nat.le_refl _) _).setCell (p := ⟨w.heap.size, k * 5 + 2, none⟩) (Nat.le_refl _) _).setCell (p := ⟨w.heap.size, k * 5 + 3, none⟩) (Nat.le_refl _) _).setCell (p := ⟨w.heap.size, k * 5 + 4, none⟩) (Nat.le_refl _) _
        · exact rules_step hrow1 hr hin hR1 (by omega) (Nat.le_refl _) (Nat.lt_succ_self _) (hu.mono hlt1)
      case measure => simp [intOf]; omega
    · obtain rfl : k = rs.length := by omega
      rw [List.take_length] at hrow
      go_wp2
      go_ret
      exact ⟨_, rfl, hrow, hB⟩

end Go.Proofs.YtammejplaeaocaaDoor
