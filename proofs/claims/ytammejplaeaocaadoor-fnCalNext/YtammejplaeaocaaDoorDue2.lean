/-
  The specification's CalDue (l1Of, l1Due, CalDue), walked. No condition.
-/
import Derived.Test.YtammejplaeaocaaDoorDue
namespace Go.Proofs.YtammejplaeaocaaDoor
open Go.RowKit

theorem ofB_in {r : CR} {t : Int} (h : inB t r.f r.t = false) : ofB r t = false := by simp [ofB, h]
theorem ofB_mod {r : CR} {t : Int} (h : (t % r.e == r.a) = false) : ofB r t = false := by simp at h; simp [ofB, h]
theorem ofB_but {r : CR} {t : Int} (h1 : inB t r.f r.t = true) (h2 : (t % r.e == r.a) = true) : ofB r t = !butHas r.b t := by simp at h2; simp [ofB, h1, h2]

set_option maxHeartbeats 1000000 in
theorem l1Of_no (r : CR) (t : Int) (a : Option Addr) (cap : Nat) (w : World) (ho : Okd r) (h : inB t r.f r.t = false ∨ (inB t r.f r.t = true ∧ (t % r.e == r.a) = false)) :
    Calls Tryd.prog 63 #[r.val a cap, .int .i64 t] w fun e w' => e = .returned (.bool false) ∧ Below w.heap.size w w' := by
  have hfin : Below w.heap.size w (w.alloc (.cells #[.int .i64 r.e, .int .i64 r.a, .int .i64 r.f, .int .i64 r.t, .slice a r.b.length cap] 66)) := (Below.refl _ _).alloc (Nat.le_refl _) _
  have HF : Hid _ := hfin
  clear hfin
  obtain ⟨o1, o2, o3, o4, o5, o6, o7, o8, o9⟩ := ho
  rcases h with h | ⟨h, h2⟩
  · go_enter Tryd.func63, Tryd.ntmps63
    go_wp2
    go_quiet ((go_at_call 52; exact Calls.quiet_of_same (l1In_any _ _ _ _)))
    go_wp2
    go_ret
    exact ⟨rfl, below_drewN HF.out _⟩
  · obtain ⟨hb1, hb2⟩ := inB_iff.1 h
    have h0 : 0 ≤ t := by omega
    have h100 : t ≤ 100000 := by omega
    have hne : ¬ r.e = 0 := by omega
    have h2' : (t.tmod r.e == r.a) = false := by rw [Int.tmod_eq_emod_of_nonneg h0]; exact h2
    go_enter Tryd.func63, Tryd.ntmps63
    go_wp2
    go_quiet ((go_at_call 52; exact Calls.quiet_of_same (l1In_any _ _ _ _)))
    go_wp2
    go_ret
    exact ⟨rfl, below_drewN HF.out _⟩

end Go.Proofs.YtammejplaeaocaaDoor
