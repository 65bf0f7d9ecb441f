/-
  The specification's l1Of where the tick is in the rule's range with its remainder, walked. No condition.
-/
import Derived.Test.YtammejplaeaocaaDoorDue2
namespace Go.Proofs.YtammejplaeaocaaDoor
open Go.RowKit

set_option maxHeartbeats 2000000 in
theorem l1Of_yes (r : CR) (t : Int) (a : Option Addr) (cap : Nat) (w : World) (lo : Nat) (hv : IntsIn w lo a r.b) (ho : Okd r) (h : inB t r.f r.t = true) (h2 : (t % r.e == r.a) = true) :
    Calls Tryd.prog 63 #[r.val a cap, .int .i64 t] w fun e w' => e = .returned (.bool (!butHas r.b t)) ∧ Below w.heap.size w w' := by
  have hfin : Below w.heap.size w (w.alloc (.cells #[.int .i64 r.e, .int .i64 r.a, .int .i64 r.f, .int .i64 r.t, .slice a r.b.length cap] 66)) := (Below.refl _ _).alloc (Nat.le_refl _) _
  have hv1 := hv.below hfin (Nat.le_refl _)
  have HF : Hid _ := hfin
  clear hfin
  obtain ⟨o1, o2, o3, o4, o5, o6, o7, o8, o9⟩ := ho
  have hb := inB_iff.1 h
  go_enter Tryd.func63, Tryd.ntmps63
  go_wp2
  go_region_with (first | (go_at_call 52; refine (l1In_any _ _ _ _).mono ?_; rintro e w' ⟨rfl, rfl⟩) | (go_at_call 80; refine (l1But_any r t a cap _ lo (by exact hv1)).mono ?_; rintro e w1 ⟨rfl, hb1⟩))
  all_goals go_wp2
  all_goals go_ret
  all_goals exact ⟨rfl, HF.out.trans ((Below.drew (Below.refl _ _)).trans (hb1.mono (by simp)))⟩

end Go.Proofs.YtammejplaeaocaaDoor
