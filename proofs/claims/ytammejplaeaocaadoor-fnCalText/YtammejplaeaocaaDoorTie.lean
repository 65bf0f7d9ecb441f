/-
  DERIVED. GIVEN WITH THE SEED: THE PROGRAM's TIES (one call each: nine closed facts by the kernel) AND EACH ROW's TIE, after the 31st guide's Derived/Test/Toyas{Tie, Card}.lean. No idea stands in it: it is a product of the set-up. Laid BY PROGRAM, IN A SANDBOX (cutbox-door.mjs). By AI agents, Wed Nov 11 2026. No macro, syntax, notation, axiom, sorry.
-/
import Derived.Test.YtammejplaeaocaaDoorRows
import Derived.LaidByTextLater
import Derived.SevenTiedAt
import Derived.LaidSub
import Derived.LaidOnce
namespace Go.Proofs.YtammejplaeaocaaDoor
open Go
set_option maxRecDepth 100000
theorem seatTie1 : Tryd.prog.laidByTextLater [("math/bits.deBruijn32tab", Rows.laid_math_bits_deBruijn32tab), ("math/bits.deBruijn64tab", Rows.laid_math_bits_deBruijn64tab), ("internal/strconv.uint64pow10", Rows.laid_internal_strconv_uint64pow10), ("unicode/utf8.acceptRanges", Rows.laid_unicode_utf8_acceptRanges), ("errors.errorType", Rows.laid_errors_errorType), ("loop.example/dunsched/impl.errMissing", Rows.laid_loop_example_dunsched_impl_errMissing), ("loop.example/dunsched/impl.errMany", Rows.laid_loop_example_dunsched_impl_errMany), ("loop.example/dunsched/impl.errBounds", Rows.laid_loop_example_dunsched_impl_errBounds), ("loop.example/dunsched/impl.errBut", Rows.laid_loop_example_dunsched_impl_errBut), ("loop.example/dunsched/impl.errSize", Rows.laid_loop_example_dunsched_impl_errSize), ("loop.example/dunsched/impl.errNewline", Rows.laid_loop_example_dunsched_impl_errNewline), ("loop.example/dunsched/impl.errForm", Rows.laid_loop_example_dunsched_impl_errForm), ("loop.example/dunsched/impl.errNumber", Rows.laid_loop_example_dunsched_impl_errNumber)] [.data, .data, .data, .data, .handle, .sentinel, .sentinel, .sentinel, .sentinel, .sentinel, .sentinel, .sentinel, .sentinel] true :=
  Program.laidByTextLater_by_one 193 8 65 (by kernel_rfl) (by kernel_rfl) (by kernel_rfl) (by kernel_rfl) (by kernel_rfl) (by kernel_rfl) (fun _ _ => by kernel_rfl)
theorem pin_laid_unicode_utf8_first : Tryd.pinned.checked.prog.pinnedFits "unicode/utf8.first" = true := by kernel_rfl
theorem noOwnUnsafe : Tryd.pinned.checked.prog.headLifts.contains "ownunsafe" = false := by kernel_rfl
theorem tie : Tryd.prog.laidByTextLater [("errors.errorType", Rows.laid_errors_errorType), ("loop.example/dunsched/impl.errMissing", Rows.laid_loop_example_dunsched_impl_errMissing), ("loop.example/dunsched/impl.errMany", Rows.laid_loop_example_dunsched_impl_errMany), ("loop.example/dunsched/impl.errBounds", Rows.laid_loop_example_dunsched_impl_errBounds), ("loop.example/dunsched/impl.errBut", Rows.laid_loop_example_dunsched_impl_errBut)] [.handle, .sentinel, .sentinel, .sentinel, .sentinel] true :=
  Program.laidByTextLater.sub seatTie1 ["errors.errorType", "loop.example/dunsched/impl.errMissing", "loop.example/dunsched/impl.errMany", "loop.example/dunsched/impl.errBounds", "loop.example/dunsched/impl.errBut"] (by kernel_rfl) (by kernel_rfl)
theorem fnCalNext_row_tie : Rows.fnCalNextRow.laidByTextAt .later Tryd.pinned [.handle, .sentinel, .sentinel, .sentinel, .sentinel] true :=
  OpenClaim.laidByTextAt_later rfl rfl tie noOwnUnsafe
theorem fnExactCalOk_row_tie : Rows.fnExactCalOkRow.laidByTextAt .later Tryd.pinned [.handle, .sentinel, .sentinel, .sentinel, .sentinel] true :=
  OpenClaim.laidByTextAt_later rfl rfl tie noOwnUnsafe
theorem fnExactCalDue_row_tie : Rows.fnExactCalDueRow.laidByTextAt .later Tryd.pinned [.handle, .sentinel, .sentinel, .sentinel, .sentinel] true :=
  OpenClaim.laidByTextAt_later rfl rfl tie noOwnUnsafe
theorem fnExactCalNext_row_tie : Rows.fnExactCalNextRow.laidByTextAt .later Tryd.pinned [.handle, .sentinel, .sentinel, .sentinel, .sentinel] true :=
  OpenClaim.laidByTextAt_later rfl rfl tie noOwnUnsafe
theorem fnExactCalCount_row_tie : Rows.fnExactCalCountRow.laidByTextAt .later Tryd.pinned [.handle, .sentinel, .sentinel, .sentinel, .sentinel] true :=
  OpenClaim.laidByTextAt_later rfl rfl tie noOwnUnsafe
theorem fits2 : Tryd.pinned.checked.prog.listedFits [("math/bits.deBruijn32tab", Rows.laid_math_bits_deBruijn32tab), ("math/bits.deBruijn64tab", Rows.laid_math_bits_deBruijn64tab), ("internal/strconv.uint64pow10", Rows.laid_internal_strconv_uint64pow10), ("unicode/utf8.acceptRanges", Rows.laid_unicode_utf8_acceptRanges), ("errors.errorType", Rows.laid_errors_errorType), ("loop.example/dunsched/impl.errMissing", Rows.laid_loop_example_dunsched_impl_errMissing), ("loop.example/dunsched/impl.errMany", Rows.laid_loop_example_dunsched_impl_errMany), ("loop.example/dunsched/impl.errBounds", Rows.laid_loop_example_dunsched_impl_errBounds), ("loop.example/dunsched/impl.errBut", Rows.laid_loop_example_dunsched_impl_errBut), ("loop.example/dunsched/impl.errSize", Rows.laid_loop_example_dunsched_impl_errSize), ("loop.example/dunsched/impl.errNewline", Rows.laid_loop_example_dunsched_impl_errNewline), ("loop.example/dunsched/impl.errForm", Rows.laid_loop_example_dunsched_impl_errForm), ("loop.example/dunsched/impl.errNumber", Rows.laid_loop_example_dunsched_impl_errNumber), ("unicode/utf8.first", Rows.laid_unicode_utf8_first)] = true := by
  unfold Program.listedFits
  rw [noOwnUnsafe]
  kernel_rfl
theorem tie2 : Tryd.prog.laidByTextLater [("math/bits.deBruijn32tab", Rows.laid_math_bits_deBruijn32tab), ("math/bits.deBruijn64tab", Rows.laid_math_bits_deBruijn64tab), ("internal/strconv.uint64pow10", Rows.laid_internal_strconv_uint64pow10), ("unicode/utf8.acceptRanges", Rows.laid_unicode_utf8_acceptRanges), ("errors.errorType", Rows.laid_errors_errorType), ("loop.example/dunsched/impl.errMissing", Rows.laid_loop_example_dunsched_impl_errMissing), ("loop.example/dunsched/impl.errMany", Rows.laid_loop_example_dunsched_impl_errMany), ("loop.example/dunsched/impl.errBounds", Rows.laid_loop_example_dunsched_impl_errBounds), ("loop.example/dunsched/impl.errBut", Rows.laid_loop_example_dunsched_impl_errBut), ("loop.example/dunsched/impl.errSize", Rows.laid_loop_example_dunsched_impl_errSize), ("loop.example/dunsched/impl.errNewline", Rows.laid_loop_example_dunsched_impl_errNewline), ("loop.example/dunsched/impl.errForm", Rows.laid_loop_example_dunsched_impl_errForm), ("loop.example/dunsched/impl.errNumber", Rows.laid_loop_example_dunsched_impl_errNumber)] [.data, .data, .data, .data, .handle, .sentinel, .sentinel, .sentinel, .sentinel, .sentinel, .sentinel, .sentinel, .sentinel] true :=
  Program.laidByTextLater.sub seatTie1 ["math/bits.deBruijn32tab", "math/bits.deBruijn64tab", "internal/strconv.uint64pow10", "unicode/utf8.acceptRanges", "errors.errorType", "loop.example/dunsched/impl.errMissing", "loop.example/dunsched/impl.errMany", "loop.example/dunsched/impl.errBounds", "loop.example/dunsched/impl.errBut", "loop.example/dunsched/impl.errSize", "loop.example/dunsched/impl.errNewline", "loop.example/dunsched/impl.errForm", "loop.example/dunsched/impl.errNumber"] (by kernel_rfl) (by kernel_rfl)
theorem fnCalText_row_tie : Rows.fnCalTextRow.laidByTextAt .later Tryd.pinned [.data, .data, .data, .data, .handle, .sentinel, .sentinel, .sentinel, .sentinel, .sentinel, .sentinel, .sentinel, .sentinel, .pinned] true :=
  OpenClaim.laidByTextAt_pinned rfl rfl tie2 rfl rfl rfl rfl (fun y hy _e => by
    simp only [Rows.fnCalTextRow, List.zip_cons_cons, List.zip_nil_right, List.mem_cons, List.mem_nil_iff, or_false] at hy
    rcases hy with rfl | rfl | rfl | rfl | rfl | rfl | rfl | rfl | rfl | rfl | rfl | rfl | rfl | rfl
    · cases _e
    · cases _e
    · cases _e
    · cases _e
    · cases _e
    · cases _e
    · cases _e
    · cases _e
    · cases _e
    · cases _e
    · cases _e
    · cases _e
    · cases _e
    · exact ⟨pin_laid_unicode_utf8_first, by kernel_rfl⟩) fits2
theorem tie3 : Tryd.prog.laidByTextLater [("math/bits.deBruijn32tab", Rows.laid_math_bits_deBruijn32tab), ("math/bits.deBruijn64tab", Rows.laid_math_bits_deBruijn64tab), ("internal/strconv.uint64pow10", Rows.laid_internal_strconv_uint64pow10), ("errors.errorType", Rows.laid_errors_errorType), ("loop.example/dunsched/impl.errMissing", Rows.laid_loop_example_dunsched_impl_errMissing), ("loop.example/dunsched/impl.errMany", Rows.laid_loop_example_dunsched_impl_errMany), ("loop.example/dunsched/impl.errBounds", Rows.laid_loop_example_dunsched_impl_errBounds), ("loop.example/dunsched/impl.errBut", Rows.laid_loop_example_dunsched_impl_errBut)] [.data, .data, .data, .handle, .sentinel, .sentinel, .sentinel, .sentinel] true :=
  Program.laidByTextLater.sub seatTie1 ["math/bits.deBruijn32tab", "math/bits.deBruijn64tab", "internal/strconv.uint64pow10", "errors.errorType", "loop.example/dunsched/impl.errMissing", "loop.example/dunsched/impl.errMany", "loop.example/dunsched/impl.errBounds", "loop.example/dunsched/impl.errBut"] (by kernel_rfl) (by kernel_rfl)
theorem fnExactCalWrite_row_tie : Rows.fnExactCalWriteRow.laidByTextAt .later Tryd.pinned [.data, .data, .data, .handle, .sentinel, .sentinel, .sentinel, .sentinel] true :=
  OpenClaim.laidByTextAt_later rfl rfl tie3 noOwnUnsafe
theorem fits4 : Tryd.pinned.checked.prog.listedFits [("unicode/utf8.acceptRanges", Rows.laid_unicode_utf8_acceptRanges), ("errors.errorType", Rows.laid_errors_errorType), ("loop.example/dunsched/impl.errMissing", Rows.laid_loop_example_dunsched_impl_errMissing), ("loop.example/dunsched/impl.errMany", Rows.laid_loop_example_dunsched_impl_errMany), ("loop.example/dunsched/impl.errBounds", Rows.laid_loop_example_dunsched_impl_errBounds), ("loop.example/dunsched/impl.errBut", Rows.laid_loop_example_dunsched_impl_errBut), ("loop.example/dunsched/impl.errSize", Rows.laid_loop_example_dunsched_impl_errSize), ("loop.example/dunsched/impl.errNewline", Rows.laid_loop_example_dunsched_impl_errNewline), ("loop.example/dunsched/impl.errForm", Rows.laid_loop_example_dunsched_impl_errForm), ("loop.example/dunsched/impl.errNumber", Rows.laid_loop_example_dunsched_impl_errNumber), ("unicode/utf8.first", Rows.laid_unicode_utf8_first)] = true := by
  unfold Program.listedFits
  rw [noOwnUnsafe]
  kernel_rfl
theorem tie4 : Tryd.prog.laidByTextLater [("unicode/utf8.acceptRanges", Rows.laid_unicode_utf8_acceptRanges), ("errors.errorType", Rows.laid_errors_errorType), ("loop.example/dunsched/impl.errMissing", Rows.laid_loop_example_dunsched_impl_errMissing), ("loop.example/dunsched/impl.errMany", Rows.laid_loop_example_dunsched_impl_errMany), ("loop.example/dunsched/impl.errBounds", Rows.laid_loop_example_dunsched_impl_errBounds), ("loop.example/dunsched/impl.errBut", Rows.laid_loop_example_dunsched_impl_errBut), ("loop.example/dunsched/impl.errSize", Rows.laid_loop_example_dunsched_impl_errSize), ("loop.example/dunsched/impl.errNewline", Rows.laid_loop_example_dunsched_impl_errNewline), ("loop.example/dunsched/impl.errForm", Rows.laid_loop_example_dunsched_impl_errForm), ("loop.example/dunsched/impl.errNumber", Rows.laid_loop_example_dunsched_impl_errNumber)] [.data, .handle, .sentinel, .sentinel, .sentinel, .sentinel, .sentinel, .sentinel, .sentinel, .sentinel] true :=
  Program.laidByTextLater.sub seatTie1 ["unicode/utf8.acceptRanges", "errors.errorType", "loop.example/dunsched/impl.errMissing", "loop.example/dunsched/impl.errMany", "loop.example/dunsched/impl.errBounds", "loop.example/dunsched/impl.errBut", "loop.example/dunsched/impl.errSize", "loop.example/dunsched/impl.errNewline", "loop.example/dunsched/impl.errForm", "loop.example/dunsched/impl.errNumber"] (by kernel_rfl) (by kernel_rfl)
theorem fnExactCalRead_row_tie : Rows.fnExactCalReadRow.laidByTextAt .later Tryd.pinned [.data, .handle, .sentinel, .sentinel, .sentinel, .sentinel, .sentinel, .sentinel, .sentinel, .sentinel, .pinned] true :=
  OpenClaim.laidByTextAt_pinned rfl rfl tie4 rfl rfl rfl rfl (fun y hy _e => by
    simp only [Rows.fnExactCalReadRow, List.zip_cons_cons, List.zip_nil_right, List.mem_cons, List.mem_nil_iff, or_false] at hy
    rcases hy with rfl | rfl | rfl | rfl | rfl | rfl | rfl | rfl | rfl | rfl | rfl
    · cases _e
    · cases _e
    · cases _e
    · cases _e
    · cases _e
    · cases _e
    · cases _e
    · cases _e
    · cases _e
    · cases _e
    · exact ⟨pin_laid_unicode_utf8_first, by kernel_rfl⟩) fits4
theorem fnCalNextUpto_row_tie : Rows.fnCalNextUptoRow.laidByTextAt .later Tryd.pinned [.handle, .sentinel, .sentinel, .sentinel, .sentinel] true :=
  OpenClaim.laidByTextAt_later rfl rfl tie noOwnUnsafe
theorem fnCalTextUpto_row_tie : Rows.fnCalTextUptoRow.laidByTextAt .later Tryd.pinned [.data, .data, .data, .data, .handle, .sentinel, .sentinel, .sentinel, .sentinel, .sentinel, .sentinel, .sentinel, .sentinel, .pinned] true :=
  OpenClaim.laidByTextAt_pinned rfl rfl tie2 rfl rfl rfl rfl (fun y hy _e => by
    simp only [Rows.fnCalTextUptoRow, List.zip_cons_cons, List.zip_nil_right, List.mem_cons, List.mem_nil_iff, or_false] at hy
    rcases hy with rfl | rfl | rfl | rfl | rfl | rfl | rfl | rfl | rfl | rfl | rfl | rfl | rfl | rfl
    · cases _e
    · cases _e
    · cases _e
    · cases _e
    · cases _e
    · cases _e
    · cases _e
    · cases _e
    · cases _e
    · cases _e
    · cases _e
    · cases _e
    · cases _e
    · exact ⟨pin_laid_unicode_utf8_first, by kernel_rfl⟩) fits2
theorem fnExactCalOkUpto_row_tie : Rows.fnExactCalOkUptoRow.laidByTextAt .later Tryd.pinned [.handle, .sentinel, .sentinel, .sentinel, .sentinel] true :=
  OpenClaim.laidByTextAt_later rfl rfl tie noOwnUnsafe
theorem fnExactCalDueUpto_row_tie : Rows.fnExactCalDueUptoRow.laidByTextAt .later Tryd.pinned [.handle, .sentinel, .sentinel, .sentinel, .sentinel] true :=
  OpenClaim.laidByTextAt_later rfl rfl tie noOwnUnsafe
theorem fnExactCalNextUpto_row_tie : Rows.fnExactCalNextUptoRow.laidByTextAt .later Tryd.pinned [.handle, .sentinel, .sentinel, .sentinel, .sentinel] true :=
  OpenClaim.laidByTextAt_later rfl rfl tie noOwnUnsafe
theorem fnExactCalCountUpto_row_tie : Rows.fnExactCalCountUptoRow.laidByTextAt .later Tryd.pinned [.handle, .sentinel, .sentinel, .sentinel, .sentinel] true :=
  OpenClaim.laidByTextAt_later rfl rfl tie noOwnUnsafe
theorem fnExactCalWriteUpto_row_tie : Rows.fnExactCalWriteUptoRow.laidByTextAt .later Tryd.pinned [.data, .data, .data, .handle, .sentinel, .sentinel, .sentinel, .sentinel] true :=
  OpenClaim.laidByTextAt_later rfl rfl tie3 noOwnUnsafe
theorem fnExactCalReadUpto_row_tie : Rows.fnExactCalReadUptoRow.laidByTextAt .later Tryd.pinned [.data, .handle, .sentinel, .sentinel, .sentinel, .sentinel, .sentinel, .sentinel, .sentinel, .sentinel, .pinned] true :=
  OpenClaim.laidByTextAt_pinned rfl rfl tie4 rfl rfl rfl rfl (fun y hy _e => by
    simp only [Rows.fnExactCalReadUptoRow, List.zip_cons_cons, List.zip_nil_right, List.mem_cons, List.mem_nil_iff, or_false] at hy
    rcases hy with rfl | rfl | rfl | rfl | rfl | rfl | rfl | rfl | rfl | rfl | rfl
    · cases _e
    · cases _e
    · cases _e
    · cases _e
    · cases _e
    · cases _e
    · cases _e
    · cases _e
    · cases _e
    · cases _e
    · exact ⟨pin_laid_unicode_utf8_first, by kernel_rfl⟩) fits4
end Go.Proofs.YtammejplaeaocaaDoor
