/-
  The program's merged and dueAbove: an iterator over the ticks of the rules, or over none if they are not ok. Condition: the package-level variables that CalOk comes to hold what the program's text lays.
-/
import Derived.Test.YtammejplaeaocaaDoorImpl3
import Derived.Test.YtammejplaeaocaaDoorImpl1
import Derived.RangeFuncNested
import Derived.RangeFuncBound
import Derived.RangeFuncCalls
import Derived.RangeFuncLeaves
import Derived.RangeFuncFrom
import Derived.Shelf.Abstract
import Derived.Shelf.RegionOpen
import Derived.OwnWalkIn
import Derived.TacticsInMore
import Derived.LoopNIn
import Derived.LoopIn
namespace Go.Proofs.YtammejplaeaocaaDoor
open Go.RowKit Go.Shelf

/-- The three boxes that the iterator has captured, and what lies in them: the rules, the low bound, the function tickAbove. -/
structure Boxes (W : World) (B : Nat) (a : Option Addr) (cap : Nat) (rs : List CR) (t : Int) : Prop where
  src : W.cell? ⟨B, 0, none⟩ = some (.slice a rs.length cap)
  low : W.cell? ⟨B + 1, 0, none⟩ = some (.int .i64 t)
  fn : W.cell? ⟨B + 1 + 1, 0, none⟩ = some (.func (.func 61) #[] #[])

set_option maxHeartbeats 400000 in
theorem merged_any (a : Option Addr) (cap : Nat) (rs : List CR) (t : Int) (w : World) :
    Calls Tryd.prog 60 #[.slice a rs.length cap, .int .i64 t, .func (.func 61) #[] #[]] w fun e w' =>
      e = .returned (.func (.func 77) #[] #[.pointer (some ⟨w.heap.size + 1, 0, none⟩), .pointer (some ⟨w.heap.size, 0, none⟩), .pointer (some ⟨w.heap.size + 1 + 1, 0, none⟩)]) ∧
      Boxes w' w.heap.size a cap rs t ∧ Below w.heap.size w w' := by
  go_enter Tryd.func60, Tryd.ntmps60
  go_wp2
  go_ret
  have hb := (((Below.refl w.heap.size w).alloc (Nat.le_refl _) (.cells #[.slice a rs.length cap] 23)).alloc (by simp) (.cells #[.int .i64 t] 3)).alloc (by simp; omega) (.cells #[.func (.func 61) #[] #[]] 83)
  refine ⟨rfl, ⟨?_, ?_, ?_⟩, hb⟩
  · rw [World.cell?_alloc_lt _ _ _ (by simp; omega), World.cell?_alloc_lt _ _ _ (by simp)]; simp
  · rw [World.cell?_alloc_lt _ _ _ (by simp)]; simp
  · rw [World.cell?_alloc_at _ _ _ _ (by simp)]; rfl

/-- What dueAbove goes over. -/
def srcOf (rs : List CR) : List CR := if rulesB rs = true then rs else []
theorem srcOf_nxt (rs : List CR) (t : Int) : nxtTo (srcOf rs) t = nxt rs t := by
  unfold srcOf nxt
  by_cases h : rulesB rs = true
  · rw [if_pos h, if_pos h]
  · rw [if_neg h, if_neg h]; rfl
theorem srcOf_ok (rs : List CR) : ∀ r, r ∈ srcOf rs → Okd r := by
  unfold srcOf
  by_cases h : rulesB rs = true
  · rw [if_pos h]; exact fun r hr => okd_mem h hr
  · rw [if_neg h]; intro r hr; simp at hr
theorem srcOf_len (rs : List CR) : (srcOf rs).length ≤ 4 := by
  unfold srcOf
  by_cases h : rulesB rs = true
  · rw [if_pos h]; exact len4 h
  · rw [if_neg h]; simp

set_option maxHeartbeats 400000 in
theorem dueAbove_any (a : Option Addr) (cap : Nat) (rs : List CR) (t : Int) (w : World) (lo lb : Nat) (hl : rs.length ≤ 9223372036854775807) (hc : RulesIn w lo lb a rs) (hg : Glob w) :
    Calls Tryd.prog 36 #[.slice a rs.length cap, .int .i64 t] w fun e w' => ∃ (B : Nat) (a' : Option Addr) (cap' : Nat), w.heap.size ≤ B ∧
      e = .returned (.func (.func 77) #[] #[.pointer (some ⟨B + 1, 0, none⟩), .pointer (some ⟨B, 0, none⟩), .pointer (some ⟨B + 1 + 1, 0, none⟩)]) ∧
      Boxes w' B a' cap' (srcOf rs) t ∧ (∀ W, RulesIn W lo lb a rs → RulesIn W lo lb a' (srcOf rs)) ∧ Below w.heap.size w w' := by
  cases hok : rulesB rs with
  | false =>
    have HS : Hid (srcOf rs = []) := by show srcOf rs = []; unfold srcOf; rw [if_neg (by simp [hok])]
    go_enter Tryd.func36, Tryd.ntmps36
    go_wp2_with fail
    refine (implCalOk_any a cap rs _ lo lb hl hc hg).mono ?_
    rintro e w1 ⟨rfl, hb1⟩
    go_wp2_with fail
    refine (merged_any none 0 [] t _).mono ?_
    rintro e w2 ⟨rfl, hbx, hb2⟩
    have HX : Hid (Boxes w2 w1.heap.size none 0 [] t) := hbx
    have HB : Hid (Below w.heap.size w w2) := hb1.trans (hb2.mono hb1.size)
    have hsz := hb1.size
    clear hbx hb1 hb2
    go_wp2
    go_ret
    exact ⟨w1.heap.size, none, 0, hsz, rfl, by rw [HS.out]; exact HX.out, fun W _ => by rw [HS.out]; intro i r hi; simp at hi, HB.out⟩
  | true =>
    have HS : Hid (srcOf rs = rs) := by show srcOf rs = rs; unfold srcOf; rw [if_pos hok]
    go_enter Tryd.func36, Tryd.ntmps36
    go_wp2_with fail
    refine (implCalOk_any a cap rs _ lo lb hl hc hg).mono ?_
    rintro e w1 ⟨rfl, hb1⟩
    go_wp2_with fail
    refine (merged_any a cap rs t _).mono ?_
    rintro e w2 ⟨rfl, hbx, hb2⟩
    have HX : Hid (Boxes w2 w1.heap.size a cap rs t) := hbx
    have HB : Hid (Below w.heap.size w w2) := hb1.trans (hb2.mono hb1.size)
    have hsz := hb1.size
    clear hbx hb1 hb2
    go_wp2
    go_ret
    exact ⟨w1.heap.size, a, cap, hsz, rfl, by rw [HS.out]; exact HX.out, fun W h => by rw [HS.out]; exact h, HB.out⟩

end Go.Proofs.YtammejplaeaocaaDoor
