/-
  FnExactCalWrite, proved: at every argument the program's CalWrite answers as the specification's; it writes into no argument. Condition: the listed package-level variables hold what the program's text lays (the card ties them).
-/
import Derived.Test.YtammejplaeaocaaDoorCards
import Derived.Test.YtammejplaeaocaaDoorTie
import Derived.Test.YtammejplaeaocaaDoorGlob
import Derived.Test.YtammejplaeaocaaDoorLawWrite
import Derived.SevenTiedAt
import Derived.Lib.LaidTab
namespace Go.Proofs.YtammejplaeaocaaDoor
open Go.ChangeShapes Go.WideShapes Go.RowKit

namespace RowWrite
/-- What the list gives. -/
theorem globTab_of_laid {W : World} (h : laidMetH Tryd.prog Rows.fnExactCalWriteRow.laid W) : Glob W ∧ Tab W := by
  have h' : laidMet Tryd.prog [("math/bits.deBruijn32tab", Rows.laid_math_bits_deBruijn32tab), ("math/bits.deBruijn64tab", Rows.laid_math_bits_deBruijn64tab), ("internal/strconv.uint64pow10", Rows.laid_internal_strconv_uint64pow10), ("loop.example/dunsched/impl.errMissing", Rows.laid_loop_example_dunsched_impl_errMissing), ("loop.example/dunsched/impl.errMany", Rows.laid_loop_example_dunsched_impl_errMany), ("loop.example/dunsched/impl.errBounds", Rows.laid_loop_example_dunsched_impl_errBounds), ("loop.example/dunsched/impl.errBut", Rows.laid_loop_example_dunsched_impl_errBut)] W ∧ handlesMet Tryd.prog [("errors.errorType", Rows.laid_errors_errorType)] W := h
  obtain ⟨hl, hh⟩ := h'
  have h3 := hl.tail.tail
  have h4 := h3.tail
  refine ⟨⟨errAt_of h4 Tryd.gMissing Tryd.tMissing, errAt_of h4.tail Tryd.gMany Tryd.tMany, errAt_of h4.tail.tail Tryd.gBounds Tryd.tBounds, errAt_of h4.tail.tail.tail Tryd.gBut Tryd.tBut, handle_of hh⟩, ?_⟩
  have e : (Rows.laid_internal_strconv_uint64pow10 : DataW Unit) = Lib.tabData .u64 Lib.pow10Tab := by
    unfold Rows.laid_internal_strconv_uint64pow10 Lib.tabData
    have : Lib.pow10Tab = [1, 10, 100, 1000, 10000, 100000, 1000000, 10000000, 100000000, 1000000000, 10000000000, 100000000000, 1000000000000, 10000000000000, 100000000000000, 1000000000000000, 10000000000000000, 100000000000000000, 1000000000000000000, 10000000000000000000] := by decide
    rw [this]; rfl
  rw [e] at h3
  exact Lib.tabIs_of_head tabNamed (t := 156) (by kernel_rfl) Tryd.underlying156 Tryd.underlying145 (by kernel_rfl) (by kernel_rfl) h3

theorem door_met (os : Os) (args : Array Value) : laidMetH Tryd.prog Rows.fnExactCalWriteRow.laid ((World.doorLaid Tryd.prog 193 os).forCall (fun _ _ => 0) ⟨#[], args, []⟩).memory :=
  laidMetH_of_parts3 (fuel := 8) (laidMet_of_run' 8 (by kernel_rfl) (by kernel_rfl)) (by kernel_rfl) (by kernel_rfl)

theorem readRules : Tryd.prog.readableRec 39 = true := by kernel_rfl
theorem rowedRules : 39 < Tryd.prog.types.size := by rw [Tryd.tsize]; decide
theorem varsOk : varsRowed Tryd.prog Rows.fnExactCalWriteSpec.vars = true := by kernel_rfl

set_option maxRecDepth 100000 in
theorem lifted (os : Os) (started : os.Started) (H : Type) (enc : TypeId × Value → H) :
    ReturnsInHanded {} Tryd.checked os 9 .any (fun w args => (Rows.fnExactCalWriteSpec.pre enc Tryd.prog Tryd.f9 [] false w args ∧ laidMetH Tryd.prog Rows.fnExactCalWriteRow.laid w) ∧ sizedMet enc Tryd.prog Tryd.f9 (OpenSpec.ofChange Rows.fnExactCalWriteSpec) false w args)
      (Rows.fnExactCalWriteSpec.post enc Tryd.prog Tryd.f9 false true false false) := by
  refine returnsInHanded_of_change_and (C := Tryd.checked) (X := fun w _ => laidMetH Tryd.prog Rows.fnExactCalWriteRow.laid w) (fun _ _ _ hh h => h.of_heap hh) Tryd.own started (by kernel_rfl) Tryd.func9
    (ChangeSpec.witness_shaped (enc := enc) (C := Tryd.checked) (os := os) (X := fun w _ => laidMetH Tryd.prog Rows.fnExactCalWriteRow.laid w) false (World.doorLaid Tryd.prog 193 os) #[.slice none 0 0] 8 rfl (World.shaped_of_RefB (by kernel_rfl) (by kernel_rfl)) (by kernel_rfl) (by kernel_rfl) (by kernel_rfl) (door_met os _)) ?_
  intro W base args ds gs before hval0 hW _ _ hL _
  have hval : ∀ (j : Nat) t v, Tryd.f9.params[j]? = some t → args[j]? = some v → Value.okWide Tryd.prog W .any base t v := hval0
  have hW' := hW
  obtain ⟨p, q, hA0, hV, rfl, hfz, hnd⟩ := hW
  have hA : DataW.TrodAll enc Tryd.prog W 0 (fun _ => true) true Tryd.f9.params.toList args.toList ds p := hA0
  rw [Tryd.params9] at hA hval
  obtain ⟨v0, d0, rfl, rfl, h0⟩ := trodAll_one hA
  obtain ⟨a0, len, cap0, rfl⟩ := okWide_slice Tryd.underlying39 (hval 0 39 v0 rfl rfl)
  obtain ⟨g1, g2, g3, g4, rfl⟩ : ∃ g1 g2 g3 g4, gs = [g1, g2, g3, g4] := by
    have hl := trodVars_len hV
    match gs, hl with
    | [g1, g2, g3, g4], _ => exact ⟨g1, g2, g3, g4, rfl⟩
  have hlt := hA0.lt
  obtain ⟨hg, ht⟩ := globTab_of_laid hL
  obtain ⟨a, rs, cap, e1, hl, hc⟩ : ∃ a rs cap, [Value.slice a0 len cap0] = [.slice a (List.length rs) cap] ∧ rs.length ≤ 9223372036854775807 ∧ RulesIn W 0 0 a rs := by
    obtain ⟨fuel, hf⟩ := h0
    exact open_rulesIn (by simpa [Value.cells] using hf)
  simp only [List.cons.injEq, Value.slice.injEq, and_true] at e1
  obtain ⟨rfl, rfl, rfl⟩ := e1
  refine (lawWrite a0 cap0 rs W 0 0 hl hc hg ht).mono fun e W' ⟨he, hb⟩ => ?_
  subst he
  refine ⟨_, rfl, _, _, _, [], p, q, hW', ?_, ?_, ?_, hb.frame _, fun h => by cases h⟩
  · exact trodAll_mk1 (shut_bool Tryd.underlying4 true)
  · exact trodAll_mk1 (Below.trod Tryd.laidOut readRules rowedRules h0 hb hlt)
  · exact Below.trodVars Tryd.laidOut hb varsOk hV

theorem said : Rows.FnExactCalWriteSaid :=
  OpenClaim.holds_of_wide 9 Tryd.f9 rfl rfl rfl rfl rfl rfl rfl ⟨rfl, rfl, rfl, rfl, rfl⟩ rfl rfl rfl rfl rfl (by kernel_rfl) Tryd.func9 (by kernel_rfl)
    (of_decide_eq_true (by kernel_rfl)) (by unfold Func.isWrapper; first | (rw [if_pos (by decide +kernel)]; kernel_rfl) | (rw [if_neg (by decide +kernel)]; exact ⟨rfl, rfl⟩))
    (fun os started H enc _ => lifted os started H enc)

theorem plain (f : FuncId) (fn : Func) (hf : Tryd.pinned.checked.prog.funcNamed "loop.example/dunsched/laws.FnExactCalWrite" = some f) (hfn : Tryd.pinned.checked.prog.funcs[f]? = some fn) :
    true = Tryd.pinned.checked.prog.looks [] ∧ ∀ (j : Nat) t, fn.params[j]? = some t → Tryd.pinned.checked.prog.wantsStandIn t = false := by
  obtain rfl : f = 9 := Option.some.inj ((show Tryd.prog.funcNamed "loop.example/dunsched/laws.FnExactCalWrite" = some 9 by kernel_rfl).symm.trans hf) |>.symm
  obtain rfl : fn = Tryd.f9 := (Option.some.inj (Tryd.func9.symm.trans hfn)).symm
  refine ⟨by kernel_rfl, fun j t ht => ?_⟩
  rw [Tryd.params9] at ht
  have hm : t ∈ [39] := by simpa using Array.mem_of_getElem? ht
  have hall : ([39].all fun u => !Tryd.prog.wantsStandIn u) = true := by kernel_rfl
  exact (show Tryd.prog.wantsStandIn t = false by simpa using List.all_eq_true.1 hall t hm)

end RowWrite

/-- ████ THE CARD ████ -/
theorem fnExactCalWrite_card : Rows.FnExactCalWriteCardSaid :=
  Claim7.holds_tied_plain_at .later [] _ _ _ _ RowWrite.said (fun _ h => by cases h) (by kernel_rfl) (fun _ h => by cases h) fnExactCalWrite_row_tie rfl ⟨rfl, rfl⟩ (by kernel_rfl) rfl RowWrite.plain (by kernel_rfl)

#print axioms fnExactCalWrite_card
end Go.Proofs.YtammejplaeaocaaDoor
