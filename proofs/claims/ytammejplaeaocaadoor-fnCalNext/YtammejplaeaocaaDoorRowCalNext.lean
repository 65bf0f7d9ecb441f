/-
  FnCalNext, proved: at every two codes the next tick that CalNext answers is the first due one behind the tick, and CalCount counts the due ticks; no argument is written into. Condition: the listed package-level variables hold what the program's text lays (the card ties them).
-/
import Derived.Test.YtammejplaeaocaaDoorCards
import Derived.Test.YtammejplaeaocaaDoorTie
import Derived.Test.YtammejplaeaocaaDoorGlob
import Derived.Test.YtammejplaeaocaaDoorLawCalNext
import Derived.Test.YtammejplaeaocaaDoorSpoil
import Derived.Test.YtammejplaeaocaaDoorCode
import Derived.SevenTiedAt
namespace Go.Proofs.YtammejplaeaocaaDoor
open Go.ChangeShapes Go.WideShapes Go.RowKit

namespace RowCalNext
theorem readBytes : Tryd.prog.readableRec 22 = true := by kernel_rfl
theorem rowedBytes : 22 < Tryd.prog.types.size := by rw [Tryd.tsize]; decide
theorem varsOk : varsRowed Tryd.prog Rows.fnCalNextSpec.vars = true := by kernel_rfl

set_option maxRecDepth 100000 in
theorem lifted (os : Os) (started : os.Started) (H : Type) (enc : TypeId × Value → H) :
    ReturnsInHanded {} Tryd.checked os 3 .any (fun w args => (Rows.fnCalNextSpec.pre enc Tryd.prog Tryd.f3 [] false w args ∧ laidMetH Tryd.prog Rows.fnCalNextRow.laid w) ∧ sizedMet enc Tryd.prog Tryd.f3 (OpenSpec.ofChange Rows.fnCalNextSpec) false w args)
      (Rows.fnCalNextSpec.post enc Tryd.prog Tryd.f3 false true false false) := by
  refine returnsInHanded_of_change_and (C := Tryd.checked) (X := fun w _ => laidMetH Tryd.prog Rows.fnCalNextRow.laid w) (fun _ _ _ hh h => h.of_heap hh) Tryd.own started (by kernel_rfl) Tryd.func3
    (ChangeSpec.witness_shaped (enc := enc) (C := Tryd.checked) (os := os) (X := fun w _ => laidMetH Tryd.prog Rows.fnCalNextRow.laid w) false (World.doorLaid Tryd.prog 193 os) #[.slice none 0 0, .slice none 0 0] 8 rfl (World.shaped_of_RefB (by kernel_rfl) (by kernel_rfl)) (by kernel_rfl) (by kernel_rfl) (by kernel_rfl) (door_met os _)) ?_
  intro W base args ds gs before hval0 hW _ _ hL _
  have hval : ∀ (j : Nat) t v, Tryd.f3.params[j]? = some t → args[j]? = some v → Value.okWide Tryd.prog W .any base t v := hval0
  have hW' := hW
  obtain ⟨p, q, hA0, hV, rfl, hfz, hnd⟩ := hW
  have hA : DataW.TrodAll enc Tryd.prog W 0 (fun _ => true) true Tryd.f3.params.toList args.toList ds p := hA0
  have hlt := hA0.lt
  rw [Tryd.params3] at hA hval
  obtain ⟨v0, v1, d0, d1, p0, p1, rfl, rfl, rfl, h0, h1⟩ := trodAll_two hA
  obtain ⟨a0, len, cap0, rfl⟩ := okWide_slice Tryd.underlying22 (hval 0 22 v0 rfl rfl)
  obtain ⟨a1, len1, cap1, rfl⟩ := okWide_slice Tryd.underlying22 (hval 1 22 v1 rfl rfl)
  obtain ⟨g1, g2, g3, g4, rfl⟩ : ∃ g1 g2 g3 g4, gs = [g1, g2, g3, g4] := by
    have hl := trodVars_len hV
    match gs, hl with
    | [g1, g2, g3, g4], _ => exact ⟨g1, g2, g3, g4, rfl⟩
  have hg := glob_of_laid hL
  obtain ⟨a, n, cap, e1, hl, hm, hc⟩ : ∃ a n cap, [Value.slice a0 len cap0] = [.slice a n cap] ∧ n ≤ cap ∧ cap ≤ 9223372036854775807 ∧ BytesAt W a n := by
    obtain ⟨fuel, hf⟩ := h0
    exact open_bytes (by simpa [Value.cells] using hf)
  obtain ⟨a', n', cap', e1', hl', hm', hc'⟩ : ∃ a n cap, [Value.slice a1 len1 cap1] = [.slice a n cap] ∧ n ≤ cap ∧ cap ≤ 9223372036854775807 ∧ BytesAt W a n := by
    obtain ⟨fuel, hf⟩ := h1
    exact open_bytes (by simpa [Value.cells] using hf)
  simp only [List.cons.injEq, Value.slice.injEq, and_true] at e1 e1'
  obtain ⟨rfl, rfl, rfl⟩ := e1
  obtain ⟨rfl, rfl, rfl⟩ := e1'
  refine (lawCalNext l3Spoil_any a0 a1 len len1 cap0 cap1 W hc hc' hl hm hl' hm' hg).mono fun e W' ⟨he, hb⟩ => ?_
  subst he
  refine ⟨_, rfl, _, _, _, [], p0 ++ p1, q, hW', ?_, ?_, ?_, hb.frame _, fun h => by cases h⟩
  · exact trodAll_mk1 (shut_bool Tryd.underlying4 true)
  · exact trodAll_mk2 (Below.trod Tryd.laidOut readBytes rowedBytes h0 hb (fun x hx => hlt x (by simp [hx]))) (Below.trod Tryd.laidOut readBytes rowedBytes h1 hb (fun x hx => hlt x (by simp [hx])))
  · exact Below.trodVars Tryd.laidOut hb varsOk hV

theorem said : Rows.FnCalNextSaid :=
  OpenClaim.holds_of_wide 3 Tryd.f3 rfl rfl rfl rfl rfl rfl rfl ⟨rfl, rfl, rfl, rfl, rfl⟩ rfl rfl rfl rfl rfl (by kernel_rfl) Tryd.func3 (by kernel_rfl)
    (of_decide_eq_true (by kernel_rfl)) (by unfold Func.isWrapper; first | (rw [if_pos (by decide +kernel)]; kernel_rfl) | (rw [if_neg (by decide +kernel)]; exact ⟨rfl, rfl⟩))
    (fun os started H enc _ => lifted os started H enc)

theorem plain (f : FuncId) (fn : Func) (hf : Tryd.pinned.checked.prog.funcNamed "loop.example/dunsched/laws.FnCalNext" = some f) (hfn : Tryd.pinned.checked.prog.funcs[f]? = some fn) :
    true = Tryd.pinned.checked.prog.looks [] ∧ ∀ (j : Nat) t, fn.params[j]? = some t → Tryd.pinned.checked.prog.wantsStandIn t = false := by
  obtain rfl : f = 3 := Option.some.inj ((show Tryd.prog.funcNamed "loop.example/dunsched/laws.FnCalNext" = some 3 by kernel_rfl).symm.trans hf) |>.symm
  obtain rfl : fn = Tryd.f3 := (Option.some.inj (Tryd.func3.symm.trans hfn)).symm
  refine ⟨by kernel_rfl, fun j t ht => ?_⟩
  rw [Tryd.params3] at ht
  have hm : t ∈ [22] := by simpa using Array.mem_of_getElem? ht
  have hall : ([22].all fun u => !Tryd.prog.wantsStandIn u) = true := by kernel_rfl
  exact (show Tryd.prog.wantsStandIn t = false by simpa using List.all_eq_true.1 hall t hm)
end RowCalNext

/-- ████ THE CARD ████ -/
theorem fnCalNext_card : Rows.FnCalNextCardSaid :=
  Claim7.holds_tied_plain_at .later [] _ _ _ _ RowCalNext.said (fun _ h => by cases h) (by kernel_rfl) (fun _ h => by cases h) fnCalNext_row_tie rfl ⟨rfl, rfl⟩ (by kernel_rfl) rfl RowCalNext.plain (by kernel_rfl)

#print axioms fnCalNext_card
end Go.Proofs.YtammejplaeaocaaDoor
