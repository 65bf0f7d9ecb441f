/-
  FnExactCalRead, proved: at every text the program's CalRead answers as the specification's; its answer owns its memory, behind another call too. Condition: the listed package-level variables hold what the program's text lays (the card ties them).
-/
import Derived.Test.YtammejplaeaocaaDoorCards
import Derived.Test.YtammejplaeaocaaDoorTie
import Derived.Test.YtammejplaeaocaaDoorGlob
import Derived.Test.YtammejplaeaocaaDoorLawRead
import Derived.SevenTiedAt
import Derived.Lay
namespace Go.Proofs.YtammejplaeaocaaDoor
open Go.ChangeShapes Go.WideShapes Go.RowKit

namespace RowRead
theorem gSize : Tryd.prog.globalNamed "loop.example/dunsched/impl.errSize" = some 0 := by kernel_rfl
theorem gNewline : Tryd.prog.globalNamed "loop.example/dunsched/impl.errNewline" = some 1 := by kernel_rfl
theorem gForm : Tryd.prog.globalNamed "loop.example/dunsched/impl.errForm" = some 4 := by kernel_rfl
theorem gNumber : Tryd.prog.globalNamed "loop.example/dunsched/impl.errNumber" = some 8 := by kernel_rfl
theorem tSize : (Tryd.prog.globals[0]?).map (·.type) = some 59 := by kernel_rfl
theorem tNewline : (Tryd.prog.globals[1]?).map (·.type) = some 59 := by kernel_rfl
theorem tForm : (Tryd.prog.globals[4]?).map (·.type) = some 59 := by kernel_rfl
theorem tNumber : (Tryd.prog.globals[8]?).map (·.type) = some 59 := by kernel_rfl

/-- What the list gives. -/
theorem glob2_of_laid {W : World} (h : laidMetH Tryd.prog Rows.fnExactCalReadRow.laid W) : Glob2 W := by
  have h' : laidMet Tryd.prog [("unicode/utf8.acceptRanges", Rows.laid_unicode_utf8_acceptRanges), ("loop.example/dunsched/impl.errMissing", Rows.laid_loop_example_dunsched_impl_errMissing), ("loop.example/dunsched/impl.errMany", Rows.laid_loop_example_dunsched_impl_errMany), ("loop.example/dunsched/impl.errBounds", Rows.laid_loop_example_dunsched_impl_errBounds), ("loop.example/dunsched/impl.errBut", Rows.laid_loop_example_dunsched_impl_errBut), ("loop.example/dunsched/impl.errSize", Rows.laid_loop_example_dunsched_impl_errSize), ("loop.example/dunsched/impl.errNewline", Rows.laid_loop_example_dunsched_impl_errNewline), ("loop.example/dunsched/impl.errForm", Rows.laid_loop_example_dunsched_impl_errForm), ("loop.example/dunsched/impl.errNumber", Rows.laid_loop_example_dunsched_impl_errNumber), ("unicode/utf8.first", Rows.laid_unicode_utf8_first)] W ∧ handlesMet Tryd.prog [("errors.errorType", Rows.laid_errors_errorType)] W := h
  obtain ⟨hl, hh⟩ := h'
  have h1 := hl.tail
  have h2 := h1.tail.tail.tail.tail
  exact ⟨⟨errAt_of h1 Tryd.gMissing Tryd.tMissing, errAt_of h1.tail Tryd.gMany Tryd.tMany, errAt_of h1.tail.tail Tryd.gBounds Tryd.tBounds, errAt_of h1.tail.tail.tail Tryd.gBut Tryd.tBut, handle_of hh⟩, errAt_of h2 gSize tSize, errAt_of h2.tail gNewline tNewline, errAt_of h2.tail.tail gForm tForm, errAt_of h2.tail.tail.tail gNumber tNumber⟩

/-- The listed variables but the handle. -/
def plainLaid : List (String × DataW Unit) := Rows.fnExactCalReadRow.laid.filter fun x => x.2.handleName?.isNone
/-- Variables laid by the function into a world. -/
theorem met_laid {P : Program} {w0 : World} {l : List (String × DataW Unit)} (hf : w0.layFits P l [] = true) (hi : w0.layIfaces P l (w0.layVars P l) = true) : laidMet P l (w0.layVars P l) := by
  have e1 : (l.filter fun x => (l.map (·.1)).contains x.1) = l := List.filter_eq_self.2 fun x hx => List.contains_iff_mem.2 (List.mem_map_of_mem hx)
  have e2 : (l.filter fun x => !(l.map (·.1)).contains x.1) = [] := List.filter_eq_nil_iff.2 fun x hx => by rw [List.contains_iff_mem.2 (List.mem_map_of_mem hx)]; simp
  exact laidMet_layVars (w0 := w0) (l.map (·.1)) [] (by rw [e1]) (by rw [e1]; exact hf) (by rw [e1]; exact hi) (by rw [e2]; exact LaidIn.none)

/-- A start that meets the list: what the door's own run leaves, the plain variables laid anew (the pinned table among them). -/
noncomputable def start (os : Os) : World := (World.doorLaid Tryd.prog 193 os).layVars Tryd.prog plainLaid
theorem start_met (os : Os) (args : Array Value) : laidMetH Tryd.prog Rows.fnExactCalReadRow.laid ((start os).forCall (fun _ _ => 0) ⟨#[], args, []⟩).memory :=
  laidMetH_of_parts3 (fuel := 8) ((met_laid (w0 := World.doorLaid Tryd.prog 193 os) (l := plainLaid) (by kernel_rfl) (by kernel_rfl)).of_heap (by simp [World.memory, World.forCall, Input.heap, start])) (by kernel_rfl) (by kernel_rfl)

theorem readStr : Tryd.prog.readableRec 9 = true := by kernel_rfl
theorem rowedStr : 9 < Tryd.prog.types.size := by rw [Tryd.tsize]; decide
theorem varsOk : varsRowed Tryd.prog Rows.fnExactCalReadSpec.vars = true := by kernel_rfl

set_option maxRecDepth 100000 in
theorem lifted (os : Os) (started : os.Started) (H : Type) (enc : TypeId × Value → H) :
    ReturnsInHanded {} Tryd.checked os 10 .any (fun w args => (Rows.fnExactCalReadSpec.pre enc Tryd.prog Tryd.f10 [] false w args ∧ laidMetH Tryd.prog Rows.fnExactCalReadRow.laid w) ∧ sizedMet enc Tryd.prog Tryd.f10 (OpenSpec.ofChange Rows.fnExactCalReadSpec) false w args)
      (Rows.fnExactCalReadSpec.post enc Tryd.prog Tryd.f10 false true false false) := by
  refine returnsInHanded_of_calls (C := Tryd.checked) Tryd.own started (by kernel_rfl)
    (ChangeSpec.witness_shaped (enc := enc) (C := Tryd.checked) (os := os) (X := fun w _ => laidMetH Tryd.prog Rows.fnExactCalReadRow.laid w) false (start os) #[.string ⟨#[]⟩] 8 (World.layVars_os _ _ _) (World.shaped_of_ZipB (by kernel_rfl) (by kernel_rfl)) (by kernel_rfl) (by kernel_rfl) (by kernel_rfl) (start_met os _)) ?_
  intro w tape i _ hsh _ hok hpre _
  obtain ⟨_, _, _, fn', hfn', _, _, _, _, hval0⟩ := hok
  have efn : fn' = Tryd.f10 := Option.some.inj (hfn'.symm.trans Tryd.func10)
  subst efn
  obtain ⟨⟨⟨ds, gs, before, hw0, _⟩, hx⟩, _⟩ := hpre
  have hL : laidMetH Tryd.prog Rows.fnExactCalReadRow.laid (w.forCall tape i) := hx.of_heap (by rfl)
  have hW := DataW.Whole.of_heap (w' := w.forCall tape i) (by rfl) hw0
  obtain ⟨W, hWe⟩ : ∃ W, W = w.forCall tape i := ⟨_, rfl⟩
  obtain ⟨args, hargs⟩ : ∃ args, args = i.args := ⟨_, rfl⟩
  have key : Calls Tryd.prog 10 args W fun e W' => ∃ v, e = .returned v ∧ Rows.fnExactCalReadSpec.post enc Tryd.prog Tryd.f10 false true false false W args v W' := by
    rw [← hWe] at hL hW hsh hval0
    rw [← hargs] at hW hval0
    clear hWe hargs hw0 hx
    have hval : ∀ (j : Nat) t v, Tryd.f10.params[j]? = some t → args[j]? = some v → Value.okWide Tryd.prog W .any _ t v := hval0
    have hW' := hW
    obtain ⟨p, q, hA0, hV, rfl, hfz, hnd⟩ := hW
    have hA : DataW.TrodAll enc Tryd.prog W 0 (fun _ => true) true Tryd.f10.params.toList args.toList ds p := hA0
    rw [Tryd.params10] at hA hval
    obtain ⟨v0, d0, rfl, rfl, h0⟩ := trodAll_one hA
    obtain ⟨s, rfl⟩ := okWide_string Tryd.underlying9 (hval 0 9 v0 rfl rfl)
    obtain ⟨g1, g2, g3, g4, g5, g6, g7, g8, rfl⟩ : ∃ g1 g2 g3 g4 g5 g6 g7 g8, gs = [g1, g2, g3, g4, g5, g6, g7, g8] := by
      have hl := trodVars_len hV
      match gs, hl with
      | [g1, g2, g3, g4, g5, g6, g7, g8], _ => exact ⟨g1, g2, g3, g4, g5, g6, g7, g8, rfl⟩
    have hlt := hA0.lt
    refine (lawRead s W (glob2_of_laid hL) (Tryd.laysM146.s1_3 W hsh)).mono fun e W' ⟨he, hb⟩ => ?_
    subst he
    refine ⟨_, rfl, _, _, _, [], p, q, hW', ?_, ?_, ?_, hb.frame _, fun h => by cases h⟩
    · exact trodAll_mk1 (shut_bool Tryd.underlying4 true)
    · exact trodAll_mk1 (Below.trod Tryd.laidOut readStr rowedStr h0 hb hlt)
    · exact Below.trodVars Tryd.laidOut hb varsOk hV
  rw [hargs, hWe] at key
  refine key.mono fun e W' ⟨v, he, hp⟩ => ?_
  subst he
  exact ChangeSpec.post_blind hp

theorem said : Rows.FnExactCalReadSaid :=
  OpenClaim.holds_of_wide 10 Tryd.f10 rfl rfl rfl rfl rfl rfl rfl ⟨rfl, rfl, rfl, rfl, rfl⟩ rfl rfl rfl rfl rfl (by kernel_rfl) Tryd.func10 (by kernel_rfl)
    (of_decide_eq_true (by kernel_rfl)) (by unfold Func.isWrapper; first | (rw [if_pos (by decide +kernel)]; kernel_rfl) | (rw [if_neg (by decide +kernel)]; exact ⟨rfl, rfl⟩))
    (fun os started H enc _ => lifted os started H enc)

theorem plain (f : FuncId) (fn : Func) (hf : Tryd.pinned.checked.prog.funcNamed "loop.example/dunsched/laws.FnExactCalRead" = some f) (hfn : Tryd.pinned.checked.prog.funcs[f]? = some fn) :
    true = Tryd.pinned.checked.prog.looks [] ∧ ∀ (j : Nat) t, fn.params[j]? = some t → Tryd.pinned.checked.prog.wantsStandIn t = false := by
  obtain rfl : f = 10 := Option.some.inj ((show Tryd.prog.funcNamed "loop.example/dunsched/laws.FnExactCalRead" = some 10 by kernel_rfl).symm.trans hf) |>.symm
  obtain rfl : fn = Tryd.f10 := (Option.some.inj (Tryd.func10.symm.trans hfn)).symm
  refine ⟨by kernel_rfl, fun j t ht => ?_⟩
  rw [Tryd.params10] at ht
  have hm : t ∈ [9] := by simpa using Array.mem_of_getElem? ht
  have hall : ([9].all fun u => !Tryd.prog.wantsStandIn u) = true := by kernel_rfl
  exact (show Tryd.prog.wantsStandIn t = false by simpa using List.all_eq_true.1 hall t hm)

end RowRead

/-- ████ THE CARD ████ -/
theorem fnExactCalRead_card : Rows.FnExactCalReadCardSaid :=
  Claim7.holds_tied_plain_at .later [] _ _ _ _ RowRead.said (fun _ h => by cases h) (by kernel_rfl) (fun _ h => by cases h) fnExactCalRead_row_tie rfl ⟨rfl, rfl⟩ (by kernel_rfl) rfl RowRead.plain (by kernel_rfl)

#print axioms fnExactCalRead_card
end Go.Proofs.YtammejplaeaocaaDoor
