/-
  FnCalText, proved: at every two codes what CalRead reads of a drawn text is written so, and what CalWrite writes of drawn rules is read as it; no argument is written into. Condition: the listed package-level variables hold what the program's text lays (the card ties them).
-/
import Derived.Test.YtammejplaeaocaaDoorCards
import Derived.Test.YtammejplaeaocaaDoorTie
import Derived.Test.YtammejplaeaocaaDoorGlob
import Derived.Test.YtammejplaeaocaaDoorLawCalText
import Derived.Test.YtammejplaeaocaaDoorSpoil
import Derived.Test.YtammejplaeaocaaDoorCode
import Derived.Lib.LaidTab
import Derived.SevenTiedAt
import Derived.Lay
namespace Go.Proofs.YtammejplaeaocaaDoor
open Go.ChangeShapes Go.WideShapes Go.RowKit

namespace RowCalText
theorem gSize : Tryd.prog.globalNamed "loop.example/dunsched/impl.errSize" = some 0 := by kernel_rfl
theorem gNewline : Tryd.prog.globalNamed "loop.example/dunsched/impl.errNewline" = some 1 := by kernel_rfl
theorem gForm : Tryd.prog.globalNamed "loop.example/dunsched/impl.errForm" = some 4 := by kernel_rfl
theorem gNumber : Tryd.prog.globalNamed "loop.example/dunsched/impl.errNumber" = some 8 := by kernel_rfl
theorem tSize : (Tryd.prog.globals[0]?).map (·.type) = some 59 := by kernel_rfl
theorem tNewline : (Tryd.prog.globals[1]?).map (·.type) = some 59 := by kernel_rfl
theorem tForm : (Tryd.prog.globals[4]?).map (·.type) = some 59 := by kernel_rfl
theorem tNumber : (Tryd.prog.globals[8]?).map (·.type) = some 59 := by kernel_rfl

/-- What the list gives. -/
theorem all_of_laid {W : World} (h : laidMetH Tryd.prog Rows.fnCalTextRow.laid W) : Glob2 W ∧ Tab W := by
  have h' : laidMet Tryd.prog [("math/bits.deBruijn32tab", Rows.laid_math_bits_deBruijn32tab), ("math/bits.deBruijn64tab", Rows.laid_math_bits_deBruijn64tab), ("internal/strconv.uint64pow10", Rows.laid_internal_strconv_uint64pow10), ("unicode/utf8.acceptRanges", Rows.laid_unicode_utf8_acceptRanges), ("loop.example/dunsched/impl.errMissing", Rows.laid_loop_example_dunsched_impl_errMissing), ("loop.example/dunsched/impl.errMany", Rows.laid_loop_example_dunsched_impl_errMany), ("loop.example/dunsched/impl.errBounds", Rows.laid_loop_example_dunsched_impl_errBounds), ("loop.example/dunsched/impl.errBut", Rows.laid_loop_example_dunsched_impl_errBut), ("loop.example/dunsched/impl.errSize", Rows.laid_loop_example_dunsched_impl_errSize), ("loop.example/dunsched/impl.errNewline", Rows.laid_loop_example_dunsched_impl_errNewline), ("loop.example/dunsched/impl.errForm", Rows.laid_loop_example_dunsched_impl_errForm), ("loop.example/dunsched/impl.errNumber", Rows.laid_loop_example_dunsched_impl_errNumber), ("unicode/utf8.first", Rows.laid_unicode_utf8_first)] W ∧ handlesMet Tryd.prog [("errors.errorType", Rows.laid_errors_errorType)] W := h
  obtain ⟨hl, hh⟩ := h'
  have h3 := hl.tail.tail
  have h1 := h3.tail.tail
  have h2 := h1.tail.tail.tail.tail
  refine ⟨⟨⟨errAt_of h1 Tryd.gMissing Tryd.tMissing, errAt_of h1.tail Tryd.gMany Tryd.tMany, errAt_of h1.tail.tail Tryd.gBounds Tryd.tBounds, errAt_of h1.tail.tail.tail Tryd.gBut Tryd.tBut, handle_of hh⟩, errAt_of h2 gSize tSize, errAt_of h2.tail gNewline tNewline, errAt_of h2.tail.tail gForm tForm, errAt_of h2.tail.tail.tail gNumber tNumber⟩, ?_⟩
  have e : (Rows.laid_internal_strconv_uint64pow10 : DataW Unit) = Lib.tabData .u64 Lib.pow10Tab := by
    unfold Rows.laid_internal_strconv_uint64pow10 Lib.tabData
    have : Lib.pow10Tab = [1, 10, 100, 1000, 10000, 100000, 1000000, 10000000, 100000000, 1000000000, 10000000000, 100000000000, 1000000000000, 10000000000000, 100000000000000, 1000000000000000, 10000000000000000, 100000000000000000, 1000000000000000000, 10000000000000000000] := by decide
    rw [this]; rfl
  rw [e] at h3
  exact Lib.tabIs_of_head tabNamed (t := 156) (by kernel_rfl) Tryd.underlying156 Tryd.underlying145 (by kernel_rfl) (by kernel_rfl) h3

/-- The listed variables but the handle. -/
def plainLaid : List (String × DataW Unit) := Rows.fnCalTextRow.laid.filter fun x => x.2.handleName?.isNone
/-- Variables laid by the function into a world. -/
theorem met_laid {P : Program} {w0 : World} {l : List (String × DataW Unit)} (hf : w0.layFits P l [] = true) (hi : w0.layIfaces P l (w0.layVars P l) = true) : laidMet P l (w0.layVars P l) := by
  have e1 : (l.filter fun x => (l.map (·.1)).contains x.1) = l := List.filter_eq_self.2 fun x hx => List.contains_iff_mem.2 (List.mem_map_of_mem hx)
  have e2 : (l.filter fun x => !(l.map (·.1)).contains x.1) = [] := List.filter_eq_nil_iff.2 fun x hx => by rw [List.contains_iff_mem.2 (List.mem_map_of_mem hx)]; simp
  exact laidMet_layVars (w0 := w0) (l.map (·.1)) [] (by rw [e1]) (by rw [e1]; exact hf) (by rw [e1]; exact hi) (by rw [e2]; exact LaidIn.none)

/-- A start that meets the list: what the door's own run leaves, the plain variables laid anew (the pinned table among them). -/
noncomputable def start (os : Os) : World := (World.doorLaid Tryd.prog 193 os).layVars Tryd.prog plainLaid
theorem start_met (os : Os) (args : Array Value) : laidMetH Tryd.prog Rows.fnCalTextRow.laid ((start os).forCall (fun _ _ => 0) ⟨#[], args, []⟩).memory :=
  laidMetH_of_parts3 (fuel := 8) ((met_laid (w0 := World.doorLaid Tryd.prog 193 os) (l := plainLaid) (by kernel_rfl) (by kernel_rfl)).of_heap (by simp [World.memory, World.forCall, Input.heap, start])) (by kernel_rfl) (by kernel_rfl)

theorem readBytes : Tryd.prog.readableRec 22 = true := by kernel_rfl
theorem rowedBytes : 22 < Tryd.prog.types.size := by rw [Tryd.tsize]; decide
theorem varsOk : varsRowed Tryd.prog Rows.fnCalTextSpec.vars = true := by kernel_rfl

set_option maxRecDepth 100000 in
theorem lifted (os : Os) (started : os.Started) (H : Type) (enc : TypeId × Value → H) :
    ReturnsInHanded {} Tryd.checked os 4 .any (fun w args => (Rows.fnCalTextSpec.pre enc Tryd.prog Tryd.f4 [] false w args ∧ laidMetH Tryd.prog Rows.fnCalTextRow.laid w) ∧ sizedMet enc Tryd.prog Tryd.f4 (OpenSpec.ofChange Rows.fnCalTextSpec) false w args)
      (Rows.fnCalTextSpec.post enc Tryd.prog Tryd.f4 false true false false) := by
  refine returnsInHanded_of_calls (C := Tryd.checked) Tryd.own started (by kernel_rfl)
    (ChangeSpec.witness_shaped (enc := enc) (C := Tryd.checked) (os := os) (X := fun w _ => laidMetH Tryd.prog Rows.fnCalTextRow.laid w) false (start os) #[.slice none 0 0, .slice none 0 0] 8 (World.layVars_os _ _ _) (World.shaped_of_ZipB (by kernel_rfl) (by kernel_rfl)) (by kernel_rfl) (by kernel_rfl) (by kernel_rfl) (start_met os _)) ?_
  intro w tape i _ hsh _ hok hpre _
  obtain ⟨_, _, _, fn', hfn', _, _, _, _, hval0⟩ := hok
  have efn : fn' = Tryd.f4 := Option.some.inj (hfn'.symm.trans Tryd.func4)
  subst efn
  obtain ⟨⟨⟨ds, gs, before, hw0, _⟩, hx⟩, _⟩ := hpre
  have hL : laidMetH Tryd.prog Rows.fnCalTextRow.laid (w.forCall tape i) := hx.of_heap (by rfl)
  have hW := DataW.Whole.of_heap (w' := w.forCall tape i) (by rfl) hw0
  obtain ⟨W, hWe⟩ : ∃ W, W = w.forCall tape i := ⟨_, rfl⟩
  obtain ⟨args, hargs⟩ : ∃ args, args = i.args := ⟨_, rfl⟩
  have key : Calls Tryd.prog 4 args W fun e W' => ∃ v, e = .returned v ∧ Rows.fnCalTextSpec.post enc Tryd.prog Tryd.f4 false true false false W args v W' := by
    rw [← hWe] at hL hW hsh hval0
    rw [← hargs] at hW hval0
    clear hWe hargs hw0 hx
    have hval : ∀ (j : Nat) t v, Tryd.f4.params[j]? = some t → args[j]? = some v → Value.okWide Tryd.prog W .any _ t v := hval0
    have hW' := hW
    obtain ⟨p, q, hA0, hV, rfl, hfz, hnd⟩ := hW
    have hA : DataW.TrodAll enc Tryd.prog W 0 (fun _ => true) true Tryd.f4.params.toList args.toList ds p := hA0
    rw [Tryd.params4] at hA hval
    obtain ⟨v0, v1, d0, d1, p0, p1, rfl, rfl, rfl, h0, h1⟩ := trodAll_two hA
    obtain ⟨a0, len, cap0, rfl⟩ := okWide_slice Tryd.underlying22 (hval 0 22 v0 rfl rfl)
    obtain ⟨a1, len1, cap1, rfl⟩ := okWide_slice Tryd.underlying22 (hval 1 22 v1 rfl rfl)
    obtain ⟨g1, g2, g3, g4, g5, g6, g7, g8, rfl⟩ : ∃ g1 g2 g3 g4 g5 g6 g7 g8, gs = [g1, g2, g3, g4, g5, g6, g7, g8] := by
      have hl := trodVars_len hV
      match gs, hl with
      | [g1, g2, g3, g4, g5, g6, g7, g8], _ => exact ⟨g1, g2, g3, g4, g5, g6, g7, g8, rfl⟩
    have hlt := hA0.lt
    obtain ⟨hgl, htb⟩ := all_of_laid hL
    obtain ⟨a, n, cap, e1, hl, hm, hc⟩ : ∃ a n cap, [Value.slice a0 len cap0] = [.slice a n cap] ∧ n ≤ cap ∧ cap ≤ 9223372036854775807 ∧ BytesAt W a n := by
      obtain ⟨fuel, hf⟩ := h0
      exact open_bytes (by simpa [Value.cells] using hf)
    obtain ⟨a', n', cap', e1', hl', hm', hc'⟩ : ∃ a n cap, [Value.slice a1 len1 cap1] = [.slice a n cap] ∧ n ≤ cap ∧ cap ≤ 9223372036854775807 ∧ BytesAt W a n := by
      obtain ⟨fuel, hf⟩ := h1
      exact open_bytes (by simpa [Value.cells] using hf)
    simp only [List.cons.injEq, Value.slice.injEq, and_true] at e1 e1'
    obtain ⟨rfl, rfl, rfl⟩ := e1
    obtain ⟨rfl, rfl, rfl⟩ := e1'
    refine (lawCalText l3Spoil_any a0 a1 len len1 cap0 cap1 W hc hc' hl hm hl' hm' hgl (Tryd.laysM146.s1_3 W hsh) htb).mono fun e W' ⟨he, hb⟩ => ?_
    subst he
    refine ⟨_, rfl, _, _, _, [], p0 ++ p1, q, hW', ?_, ?_, ?_, hb.frame _, fun h => by cases h⟩
    · exact trodAll_mk1 (shut_bool Tryd.underlying4 true)
    · exact trodAll_mk2 (Below.trod Tryd.laidOut readBytes rowedBytes h0 hb (fun x hx => hlt x (by simp [hx]))) (Below.trod Tryd.laidOut readBytes rowedBytes h1 hb (fun x hx => hlt x (by simp [hx])))
    · exact Below.trodVars Tryd.laidOut hb varsOk hV
  rw [hargs, hWe] at key
  refine key.mono fun e W' ⟨v, he, hp⟩ => ?_
  subst he
  exact ChangeSpec.post_blind hp

theorem said : Rows.FnCalTextSaid :=
  OpenClaim.holds_of_wide 4 Tryd.f4 rfl rfl rfl rfl rfl rfl rfl ⟨rfl, rfl, rfl, rfl, rfl⟩ rfl rfl rfl rfl rfl (by kernel_rfl) Tryd.func4 (by kernel_rfl)
    (of_decide_eq_true (by kernel_rfl)) (by unfold Func.isWrapper; first | (rw [if_pos (by decide +kernel)]; kernel_rfl) | (rw [if_neg (by decide +kernel)]; exact ⟨rfl, rfl⟩))
    (fun os started H enc _ => lifted os started H enc)

theorem plain (f : FuncId) (fn : Func) (hf : Tryd.pinned.checked.prog.funcNamed "loop.example/dunsched/laws.FnCalText" = some f) (hfn : Tryd.pinned.checked.prog.funcs[f]? = some fn) :
    true = Tryd.pinned.checked.prog.looks [] ∧ ∀ (j : Nat) t, fn.params[j]? = some t → Tryd.pinned.checked.prog.wantsStandIn t = false := by
  obtain rfl : f = 4 := Option.some.inj ((show Tryd.prog.funcNamed "loop.example/dunsched/laws.FnCalText" = some 4 by kernel_rfl).symm.trans hf) |>.symm
  obtain rfl : fn = Tryd.f4 := (Option.some.inj (Tryd.func4.symm.trans hfn)).symm
  refine ⟨by kernel_rfl, fun j t ht => ?_⟩
  rw [Tryd.params4] at ht
  have hm : t ∈ [22] := by simpa using Array.mem_of_getElem? ht
  have hall : ([22].all fun u => !Tryd.prog.wantsStandIn u) = true := by kernel_rfl
  exact (show Tryd.prog.wantsStandIn t = false by simpa using List.all_eq_true.1 hall t hm)

end RowCalText

/-- ████ THE CARD ████ -/
theorem fnCalText_card : Rows.FnCalTextCardSaid :=
  Claim7.holds_tied_plain_at .later [] _ _ _ _ RowCalText.said (fun _ h => by cases h) (by kernel_rfl) (fun _ h => by cases h) fnCalText_row_tie rfl ⟨rfl, rfl⟩ (by kernel_rfl) rfl RowCalText.plain (by kernel_rfl)

#print axioms fnCalText_card
end Go.Proofs.YtammejplaeaocaaDoor
