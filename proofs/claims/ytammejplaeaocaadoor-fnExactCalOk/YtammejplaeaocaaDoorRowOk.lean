/-
  FnExactCalOk, proved: at every argument the program's CalOk answers as the specification's; it writes into no argument. Condition: the listed package-level variables hold what the program's text lays (the card ties them).
-/
import Derived.Test.YtammejplaeaocaaDoorCards
import Derived.Test.YtammejplaeaocaaDoorTie
import Derived.Test.YtammejplaeaocaaDoorGlob
import Derived.Test.YtammejplaeaocaaDoorLawOk
import Derived.SevenTiedAt
namespace Go.Proofs.YtammejplaeaocaaDoor
open Go.ChangeShapes Go.WideShapes Go.RowKit

theorem Tryd.readRules : Tryd.prog.readableRec 39 = true := by kernel_rfl
theorem Tryd.rowedRules : 39 < Tryd.prog.types.size := by rw [Tryd.tsize]; decide
theorem Tryd.varsOk : varsRowed Tryd.prog Rows.fnExactCalOkSpec.vars = true := by kernel_rfl

set_option maxRecDepth 100000 in
theorem fnExactCalOk_lifted (os : Os) (started : os.Started) (H : Type) (enc : TypeId × Value → H) :
    ReturnsInHanded {} Tryd.checked os 5 .any (fun w args => (Rows.fnExactCalOkSpec.pre enc Tryd.prog Tryd.f5 [] false w args ∧ laidMetH Tryd.prog Rows.fnExactCalOkRow.laid w) ∧ sizedMet enc Tryd.prog Tryd.f5 (OpenSpec.ofChange Rows.fnExactCalOkSpec) false w args)
      (Rows.fnExactCalOkSpec.post enc Tryd.prog Tryd.f5 false true false false) := by
  refine returnsInHanded_of_change_and (C := Tryd.checked) (X := fun w _ => laidMetH Tryd.prog Rows.fnExactCalOkRow.laid w) (fun _ _ _ hh h => h.of_heap hh) Tryd.own started (by kernel_rfl) Tryd.func5
    (ChangeSpec.witness_shaped (enc := enc) (C := Tryd.checked) (os := os) (X := fun w _ => laidMetH Tryd.prog Rows.fnExactCalOkRow.laid w) false (World.doorLaid Tryd.prog 193 os) #[.slice none 0 0] 8 rfl (World.shaped_of_RefB (by kernel_rfl) (by kernel_rfl)) (by kernel_rfl) (by kernel_rfl) (by kernel_rfl) (door_met os _)) ?_
  intro W base args ds gs before hval0 hW _ _ hL _
  have hval : ∀ (j : Nat) t v, Tryd.f5.params[j]? = some t → args[j]? = some v → Value.okWide Tryd.prog W .any base t v := hval0
  have hW' := hW
  obtain ⟨p, q, hA0, hV, rfl, hfz, hnd⟩ := hW
  have hA : DataW.TrodAll enc Tryd.prog W 0 (fun _ => true) true Tryd.f5.params.toList args.toList ds p := hA0
  rw [Tryd.params5] at hA hval
  obtain ⟨v0, d0, rfl, rfl, h0⟩ := trodAll_one hA
  obtain ⟨a0, len, cap0, rfl⟩ := okWide_slice Tryd.underlying39 (hval 0 39 v0 rfl rfl)
  obtain ⟨g1, g2, g3, g4, rfl⟩ : ∃ g1 g2 g3 g4, gs = [g1, g2, g3, g4] := by
    have hl := trodVars_len hV
    match gs, hl with
    | [g1, g2, g3, g4], _ => exact ⟨g1, g2, g3, g4, rfl⟩
  have hlt := hA0.lt
  have hg := glob_of_laid hL
  obtain ⟨a, rs, cap, e1, hl, hc⟩ : ∃ a rs cap, [Value.slice a0 len cap0] = [.slice a (List.length rs) cap] ∧ rs.length ≤ 9223372036854775807 ∧ RulesIn W 0 0 a rs := by
    obtain ⟨fuel, hf⟩ := h0
    exact open_rulesIn (by simpa [Value.cells] using hf)
  simp only [List.cons.injEq, Value.slice.injEq, and_true] at e1
  obtain ⟨rfl, rfl, rfl⟩ := e1
  refine (lawOk a0 cap0 rs W 0 0 hl hc hg).mono fun e W' ⟨he, hb⟩ => ?_
  subst he
  refine ⟨_, rfl, _, _, _, [], p, q, hW', ?_, ?_, ?_, hb.frame _, fun h => by cases h⟩
  · exact trodAll_mk1 (shut_bool Tryd.underlying4 true)
  · exact trodAll_mk1 (Below.trod Tryd.laidOut Tryd.readRules Tryd.rowedRules h0 hb hlt)
  · exact Below.trodVars Tryd.laidOut hb Tryd.varsOk hV

theorem fnExactCalOk_said : Rows.FnExactCalOkSaid :=
  OpenClaim.holds_of_wide 5 Tryd.f5 rfl rfl rfl rfl rfl rfl rfl ⟨rfl, rfl, rfl, rfl, rfl⟩ rfl rfl rfl rfl rfl (by kernel_rfl) Tryd.func5 (by kernel_rfl)
    (of_decide_eq_true (by kernel_rfl)) (by unfold Func.isWrapper; first | (rw [if_pos (by decide +kernel)]; kernel_rfl) | (rw [if_neg (by decide +kernel)]; exact ⟨rfl, rfl⟩))
    (fun os started H enc _ => fnExactCalOk_lifted os started H enc)

theorem fnExactCalOk_plain (f : FuncId) (fn : Func) (hf : Tryd.pinned.checked.prog.funcNamed "loop.example/dunsched/laws.FnExactCalOk" = some f) (hfn : Tryd.pinned.checked.prog.funcs[f]? = some fn) :
    true = Tryd.pinned.checked.prog.looks [] ∧ ∀ (j : Nat) t, fn.params[j]? = some t → Tryd.pinned.checked.prog.wantsStandIn t = false := by
  obtain rfl : f = 5 := Option.some.inj ((show Tryd.prog.funcNamed "loop.example/dunsched/laws.FnExactCalOk" = some 5 by kernel_rfl).symm.trans hf) |>.symm
  obtain rfl : fn = Tryd.f5 := (Option.some.inj (Tryd.func5.symm.trans hfn)).symm
  refine ⟨by kernel_rfl, fun j t ht => ?_⟩
  rw [Tryd.params5] at ht
  have hm : t ∈ [39] := by simpa using Array.mem_of_getElem? ht
  have hall : ([39].all fun u => !Tryd.prog.wantsStandIn u) = true := by kernel_rfl
  exact (show Tryd.prog.wantsStandIn t = false by simpa using List.all_eq_true.1 hall t hm)

/-- ████ THE CARD ████ -/
theorem fnExactCalOk_card : Rows.FnExactCalOkCardSaid :=
  Claim7.holds_tied_plain_at .later [] _ _ _ _ fnExactCalOk_said (fun _ h => by cases h) (by kernel_rfl) (fun _ h => by cases h) fnExactCalOk_row_tie rfl ⟨rfl, rfl⟩ (by kernel_rfl) rfl fnExactCalOk_plain (by kernel_rfl)

#print axioms fnExactCalOk_card
end Go.Proofs.YtammejplaeaocaaDoor
