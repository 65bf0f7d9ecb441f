/-
  FnExactCalCount, proved: at every argument the program's CalCount answers as the specification's; it writes into no argument. Condition: the listed package-level variables hold what the program's text lays (the card ties them).
-/
import Derived.Test.YtammejplaeaocaaDoorCards
import Derived.Test.YtammejplaeaocaaDoorTie
import Derived.Test.YtammejplaeaocaaDoorGlob
import Derived.Test.YtammejplaeaocaaDoorLawCount
import Derived.SevenTiedAt
namespace Go.Proofs.YtammejplaeaocaaDoor
open Go.ChangeShapes Go.WideShapes Go.RowKit

namespace RowCount
theorem readRules : Tryd.prog.readableRec 39 = true := by kernel_rfl
theorem rowedRules : 39 < Tryd.prog.types.size := by rw [Tryd.tsize]; decide
theorem varsOk : varsRowed Tryd.prog Rows.fnExactCalCountSpec.vars = true := by kernel_rfl

set_option maxRecDepth 100000 in
theorem lifted (os : Os) (started : os.Started) (H : Type) (enc : TypeId × Value → H) :
    ReturnsInHanded {} Tryd.checked os 8 .any (fun w args => (Rows.fnExactCalCountSpec.pre enc Tryd.prog Tryd.f8 [] false w args ∧ laidMetH Tryd.prog Rows.fnExactCalCountRow.laid w) ∧ sizedMet enc Tryd.prog Tryd.f8 (OpenSpec.ofChange Rows.fnExactCalCountSpec) false w args)
      (Rows.fnExactCalCountSpec.post enc Tryd.prog Tryd.f8 false true false false) := by
  refine returnsInHanded_of_change_and (C := Tryd.checked) (X := fun w _ => laidMetH Tryd.prog Rows.fnExactCalCountRow.laid w) (fun _ _ _ hh h => h.of_heap hh) Tryd.own started (by kernel_rfl) Tryd.func8
    (ChangeSpec.witness_shaped (enc := enc) (C := Tryd.checked) (os := os) (X := fun w _ => laidMetH Tryd.prog Rows.fnExactCalCountRow.laid w) false (World.doorLaid Tryd.prog 193 os) #[.slice none 0 0, .int .i64 0, .int .i64 0] 8 rfl (World.shaped_of_RefB (by kernel_rfl) (by kernel_rfl)) (by kernel_rfl) (by kernel_rfl) (by kernel_rfl) (door_met os _)) ?_
  intro W base args ds gs before hval0 hW _ _ hL _
  have hval : ∀ (j : Nat) t v, Tryd.f8.params[j]? = some t → args[j]? = some v → Value.okWide Tryd.prog W .any base t v := hval0
  have hW' := hW
  obtain ⟨p, q, hA0, hV, rfl, hfz, hnd⟩ := hW
  have hA : DataW.TrodAll enc Tryd.prog W 0 (fun _ => true) true Tryd.f8.params.toList args.toList ds p := hA0
  have hlt := hA0.lt
  rw [Tryd.params8] at hA hval
  obtain ⟨v0, v1, v2, d0, d1, d2, p0, p1, p2, rfl, rfl, rfl, h0, h1, h2⟩ := trodAll_three hA
  obtain ⟨a0, len, cap0, rfl⟩ := okWide_slice Tryd.underlying39 (hval 0 39 v0 rfl rfl)
  obtain ⟨t, rfl, rfl, rfl, wt⟩ := open_int Tryd.underlying3 (hval 1 3 v1 rfl rfl) h1
  obtain ⟨to, rfl, rfl, rfl, wto⟩ := open_int Tryd.underlying3 (hval 2 3 v2 rfl rfl) h2
  obtain ⟨g1, g2, g3, g4, rfl⟩ : ∃ g1 g2 g3 g4, gs = [g1, g2, g3, g4] := by
    have hl := trodVars_len hV
    match gs, hl with
    | [g1, g2, g3, g4], _ => exact ⟨g1, g2, g3, g4, rfl⟩
  have hg := glob_of_laid hL
  obtain ⟨a, rs, cap, e1, hl, hc⟩ : ∃ a rs cap, [Value.slice a0 len cap0] = [.slice a (List.length rs) cap] ∧ rs.length ≤ 9223372036854775807 ∧ RulesIn W 0 0 a rs := by
    obtain ⟨fuel, hf⟩ := h0
    exact open_rulesIn (by simpa [Value.cells] using hf)
  simp only [List.cons.injEq, Value.slice.injEq, and_true] at e1
  obtain ⟨rfl, rfl, rfl⟩ := e1
  refine (lawCount a0 cap0 rs t to W 0 0 hl hc hg (In64_of_wf wt)).mono fun e W' ⟨he, hb⟩ => ?_
  subst he
  refine ⟨_, rfl, _, _, _, [], p0 ++ ([] ++ []), q, hW', ?_, ?_, ?_, hb.frame _, fun h => by cases h⟩
  · exact trodAll_mk1 (shut_bool Tryd.underlying4 true)
  · exact trodAll_mk3 (Below.trod Tryd.laidOut readRules rowedRules h0 hb (fun x hx => hlt x (by simp [hx]))) (shut_int Tryd.underlying3 wt) (shut_int Tryd.underlying3 wto)
  · exact Below.trodVars Tryd.laidOut hb varsOk hV

theorem said : Rows.FnExactCalCountSaid :=
  OpenClaim.holds_of_wide 8 Tryd.f8 rfl rfl rfl rfl rfl rfl rfl ⟨rfl, rfl, rfl, rfl, rfl⟩ rfl rfl rfl rfl rfl (by kernel_rfl) Tryd.func8 (by kernel_rfl)
    (of_decide_eq_true (by kernel_rfl)) (by unfold Func.isWrapper; first | (rw [if_pos (by decide +kernel)]; kernel_rfl) | (rw [if_neg (by decide +kernel)]; exact ⟨rfl, rfl⟩))
    (fun os started H enc _ => lifted os started H enc)

theorem plain (f : FuncId) (fn : Func) (hf : Tryd.pinned.checked.prog.funcNamed "loop.example/dunsched/laws.FnExactCalCount" = some f) (hfn : Tryd.pinned.checked.prog.funcs[f]? = some fn) :
    true = Tryd.pinned.checked.prog.looks [] ∧ ∀ (j : Nat) t, fn.params[j]? = some t → Tryd.pinned.checked.prog.wantsStandIn t = false := by
  obtain rfl : f = 8 := Option.some.inj ((show Tryd.prog.funcNamed "loop.example/dunsched/laws.FnExactCalCount" = some 8 by kernel_rfl).symm.trans hf) |>.symm
  obtain rfl : fn = Tryd.f8 := (Option.some.inj (Tryd.func8.symm.trans hfn)).symm
  refine ⟨by kernel_rfl, fun j t ht => ?_⟩
  rw [Tryd.params8] at ht
  have hm : t ∈ [39, 3, 3] := by simpa using Array.mem_of_getElem? ht
  have hall : ([39, 3, 3].all fun u => !Tryd.prog.wantsStandIn u) = true := by kernel_rfl
  exact (show Tryd.prog.wantsStandIn t = false by simpa using List.all_eq_true.1 hall t hm)
end RowCount

/-- ████ THE CARD ████ -/
theorem fnExactCalCount_card : Rows.FnExactCalCountCardSaid :=
  Claim7.holds_tied_plain_at .later [] _ _ _ _ RowCount.said (fun _ h => by cases h) (by kernel_rfl) (fun _ h => by cases h) fnExactCalCount_row_tie rfl ⟨rfl, rfl⟩ (by kernel_rfl) rfl RowCount.plain (by kernel_rfl)

#print axioms fnExactCalCount_card
end Go.Proofs.YtammejplaeaocaaDoor
