/-
  What the rows' list of package-level variables gives the walks: each sentinel error holds a pointer to an errorString, errors.errorType the handle of the type error; and a start that meets it. No condition.
-/
import Derived.Test.YtammejplaeaocaaDoorRows
import Derived.Test.YtammejplaeaocaaDoorImpl1
import Derived.Test.YtammejplaeaocaaDoorOpen
import Derived.LaidMore
import Derived.LaidHandle
import Derived.Stop.LaidErr
import Derived.OpenVars
import Derived.Stop.Joined
namespace Go.Proofs.YtammejplaeaocaaDoor
open Go.ChangeShapes Go.WideShapes Go.RowKit

theorem Tryd.own : ownKnob Tryd.prog.godebug = none := by kernel_rfl
theorem Tryd.laidOut : laidOutB Tryd.prog = true := by kernel_rfl
theorem Tryd.et : Tryd.prog.globalNamed "errors.errorType" = some 5 := by kernel_rfl
theorem Tryd.rt : (Tryd.prog.cutTypes.find? (·.1 == "internal/reflectlite.rtype")).map (·.2) = some 127 := by kernel_rfl
theorem Tryd.oneRow : ((List.range 199).filter fun t => Tryd.prog.rowNamed t [101, 114, 114, 111, 114]) = [59] := by kernel_rfl
theorem Tryd.tsize : Tryd.prog.types.size = 199 := by kernel_rfl
theorem Tryd.handleError : typeHandle Tryd.prog 59 = .pointer (some ⟨15, 59, none⟩) := by kernel_rfl
theorem Tryd.gMissing : Tryd.prog.globalNamed "loop.example/dunsched/impl.errMissing" = some 2 := by kernel_rfl
theorem Tryd.gMany : Tryd.prog.globalNamed "loop.example/dunsched/impl.errMany" = some 3 := by kernel_rfl
theorem Tryd.gBounds : Tryd.prog.globalNamed "loop.example/dunsched/impl.errBounds" = some 6 := by kernel_rfl
theorem Tryd.gBut : Tryd.prog.globalNamed "loop.example/dunsched/impl.errBut" = some 9 := by kernel_rfl
theorem Tryd.tMissing : (Tryd.prog.globals[2]?).map (·.type) = some 59 := by kernel_rfl
theorem Tryd.tMany : (Tryd.prog.globals[3]?).map (·.type) = some 59 := by kernel_rfl
theorem Tryd.tBounds : (Tryd.prog.globals[6]?).map (·.type) = some 59 := by kernel_rfl
theorem Tryd.tBut : (Tryd.prog.globals[9]?).map (·.type) = some 59 := by kernel_rfl
theorem Tryd.cellsES : Tryd.prog.cellsOf 187 = 1 := by kernel_rfl
theorem Tryd.cellsStr : Tryd.prog.cellsOf 9 = 1 := by kernel_rfl
theorem Tryd.star : "*" ++ "errors.errorString" = "*errors.errorString" := by decide
theorem Tryd.rowES (u : TypeId) (h : Tryd.prog.typeName? 3 u = some "*errors.errorString") : u = 166 :=
  typeName_ptr_named (nm := "errors.errorString") (by rw [Tryd.star]; kernel_rfl) (by kernel_rfl) (by decide) u (by rw [Tryd.star]; exact h)

/-- The handle of the type error. -/
theorem handle_of {W : World} (h : handlesMet Tryd.prog [("errors.errorType", Rows.laid_errors_errorType)] W) : W.cell? ⟨5, 0, none⟩ = some (.iface 127 (.agg #[.pointer (some ⟨15, 59, none⟩)])) := by
  obtain ⟨name, u, ty, e1, e2, e3, e4, e5⟩ := h _ (List.mem_singleton.2 rfl)
  have en : name = [101, 114, 114, 111, 114] := (Option.some.inj e1).symm
  subst en
  obtain rfl := Option.some.inj (Tryd.rt.symm.trans e2)
  have hm : ty ∈ (List.range 199).filter fun t => Tryd.prog.rowNamed t [101, 114, 114, 111, 114] := List.mem_filter.2 ⟨List.mem_range.2 (by rw [← Tryd.tsize]; exact e3), e4⟩
  rw [Tryd.oneRow] at hm
  obtain rfl := List.mem_singleton.1 hm
  rw [Tryd.handleError] at e5
  simpa using World.var?_cell Tryd.et e5 0

/-- The head of a list of sentinels. -/
theorem errAt_of {n : String} {text : List UInt8} {r : List (String × DataW Unit)} {W : World} {g : Nat} (h : laidMet Tryd.prog ((n, .iface "*errors.errorString" (.ptr (.agg [.lit (.string text)]))) :: r) W)
    (hg : Tryd.prog.globalNamed n = some g) (ht : (Tryd.prog.globals[g]?).map (·.type) = some 59) : ErrAt W g := by
  obtain ⟨a, s, hv, _⟩ := laid_sentinel h hg ht Tryd.underlying59 Tryd.rowES Tryd.underlying166 Tryd.underlying187 rfl rfl Tryd.underlying9 Tryd.cellsES Tryd.cellsStr
  exact ⟨a, by simpa using World.var?_cell hg hv 0⟩

/-- WHAT THE LIST GIVES. -/
theorem glob_of_laid {W : World} (h : laidMetH Tryd.prog Rows.fnExactCalOkRow.laid W) : Glob W := by
  have h' : laidMet Tryd.prog [("loop.example/dunsched/impl.errMissing", Rows.laid_loop_example_dunsched_impl_errMissing), ("loop.example/dunsched/impl.errMany", Rows.laid_loop_example_dunsched_impl_errMany), ("loop.example/dunsched/impl.errBounds", Rows.laid_loop_example_dunsched_impl_errBounds), ("loop.example/dunsched/impl.errBut", Rows.laid_loop_example_dunsched_impl_errBut)] W ∧ handlesMet Tryd.prog [("errors.errorType", Rows.laid_errors_errorType)] W := h
  obtain ⟨hl, hh⟩ := h'
  exact ⟨errAt_of hl Tryd.gMissing Tryd.tMissing, errAt_of hl.tail Tryd.gMany Tryd.tMany, errAt_of hl.tail.tail Tryd.gBounds Tryd.tBounds, errAt_of hl.tail.tail.tail Tryd.gBut Tryd.tBut, handle_of hh⟩

/-- A start that meets the list: the heap that the door's own run leaves. -/
theorem door_met (os : Os) (args : Array Value) : laidMetH Tryd.prog Rows.fnExactCalOkRow.laid ((World.doorLaid Tryd.prog 193 os).forCall (fun _ _ => 0) ⟨#[], args, []⟩).memory :=
  laidMetH_of_parts3 (fuel := 8) (laidMet_of_run' 8 (by kernel_rfl) (by kernel_rfl)) (by kernel_rfl) (by kernel_rfl)

theorem trodVars_len {H : Type} {enc : TypeId × Value → H} {P : Program} {w : World} {sp : Nat → Bool} : ∀ {ns : List String} {gs : List (DataW H)} {ps : List MemPlace}, DataW.TrodVars enc P w sp ns gs ps → gs.length = ns.length
  | [], [], _, _ => rfl
  | [], _ :: _, _, h => h.elim
  | _ :: _, [], _, h => h.elim
  | _ :: _, _ :: _, _, h => by
    obtain ⟨_, _, _, _, _, _, _, _, _, _, hs, _⟩ := h
    simp [trodVars_len hs]

end Go.Proofs.YtammejplaeaocaaDoor
