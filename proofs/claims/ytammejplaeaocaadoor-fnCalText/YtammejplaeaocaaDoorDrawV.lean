/-
  The specification's l3Any, DrawCalNext and DrawCalCount draw rules and ticks, over a contract of l3Spoil. Condition: the code lies in memory.
-/
import Derived.Test.YtammejplaeaocaaDoorDrawU
namespace Go.Proofs.YtammejplaeaocaaDoor
open Go.RowKit

theorem IntsIn.grown {W W' : World} {lo : Nat} {a : Option Addr} {l : List Int} {row : Option Nat} (h : IntsIn W lo a l) (hg : W.grownBy W' row) (hr : ∀ k, row = some k → k < lo) : IntsIn W' lo a l := by
  refine ⟨h.1, h.2.1, fun i hi => ?_⟩
  obtain ⟨b, off, h1, h2, h3⟩ := h.2.2 i hi
  exact ⟨b, off, h1, h2, hg.cell h3 (fun e => by have := hr b e.symm; omega)⟩
theorem RulesIn.grown {W W' : World} {lo lb : Nat} {a : Option Addr} {rs : List CR} {row : Option Nat} (h : RulesIn W lo lb a rs) (hg : W.grownBy W' row) (hr : ∀ k, row = some k → k < lo ∧ k < lb) : RulesIn W' lo lb a rs := by
  intro i r hi
  obtain ⟨hr1, b, off, ba, bc, ha, hlo, h0, h1, h2, h3, h4, h5⟩ := h i r hi
  have hne : some b ≠ row := fun e => by have := hr b e.symm; omega
  exact ⟨hr1, b, off, ba, bc, ha, hlo, h0.grown hg (fun k e => (hr k e).2), hg.cell h1 hne, hg.cell h2 hne, hg.cell h3 hne, hg.cell h4 hne, hg.cell h5 hne⟩

/-- A rule's five cells in a row of rules. -/
theorem OwnRules.five {W : World} {lo : Nat} {a : Option Addr} {n cap : Nat} {es : List (CR × Value)} (h : OwnRules W lo (.slice a n cap) es) {i : Nat} {p : CR × Value} (hp : es[i]? = some p) : ∃ g, a = some ⟨g, 0, none⟩ ∧ lo ≤ g ∧ ∀ j, j < 5 → W.cell? ⟨g, i * 5 + j, none⟩ = (five p)[j]? := by
  have hlt := (List.getElem?_eq_some_iff.1 hp).1
  rcases h.row.2 with ⟨_, h0⟩ | ⟨g, cap', cur, hv, hg, hh, _⟩
  · omega
  · have hrow := h.row
    injection hv with ha hn hc
    subst ha hn hc
    exact ⟨g, rfl, hg, fun j hj => by rw [hrow.cellAt (i * 5 + j) (by omega)]; exact flat_at es i p j hp hj⟩

/-- Rules that were drawn, spoilt or not, by at most K questions. -/
def RulesA (K R P : Nat) (w : World) (e : Ending) (w' : World) : Prop := ∃ (rs : List CR) (a : Option Addr) (cap : Nat), e = .returned (.slice a rs.length cap) ∧ rs.length ≤ 5 ∧ RulesIn w' w.heap.size w.heap.size a rs ∧ Rd w' R (P + K) ∧ w.grownBy w' (some R)
/-- What l3Spoil does. -/
def Spoils : Prop := ∀ (R P : Nat) (w : World) (lo : Nat) (a : Option Addr) (cap : Nat) (es : List (CR × Value)), Rd w R P → P ≤ 80000 → 1 ≤ es.length → es.length ≤ 3 → (∀ p, p ∈ es → ruleB p.1 = true ∧ p.1.b.length ≤ 3) → OwnRules w lo (.slice a es.length cap) es →
  Calls Tryd.prog 59 #[.pointer (some ⟨R, 0, none⟩), .slice a es.length cap] w fun e w' => RulesA 20 R P w e w'

set_option maxRecDepth 100000 in
set_option maxHeartbeats 1000000 in
theorem l3Any_any (hSp : Spoils) (R P : Nat) (w : World) (h : Rd w R P) (hP : P ≤ 70000) :
    Calls Tryd.prog 34 #[.pointer (some ⟨R, 0, none⟩)] w fun e w' => RulesA 82 R P w e w' := by
  have hR := h.lt
  have HS : Hid Spoils := hSp
  clear hSp
  go_enter Tryd.func34, Tryd.ntmps34
  go_wp2_with fail
  refine (l3Rules_any R P w h (by omega)).mono ?_
  rintro e w1 ⟨es, v, rfl, e1, e2, hok, hown, hRd1, g1⟩
  obtain ⟨va, vc, hv, _⟩ := hown.shape
  subst hv
  have HO : Hid (OwnRules w1 w.heap.size (.slice va es.length vc) es) := hown
  have HK : Hid (∀ p, p ∈ es → ruleB p.1 = true ∧ p.1.b.length ≤ 3) := hok
  clear hok hown h
  go_wp2_with fail
  refine (pick_any R (P + 61) 20 w1 hRd1 (by omega) (by omega) (by omega)).mono ?_
  rintro e w2 ⟨v2, rfl, a2, b2, hRd2, g2, z2⟩
  have HO2 : Hid (OwnRules w2 w.heap.size (.slice va es.length vc) es) := HO.out.drawn g2 hR
  have HG2 : Hid (w.grownBy w2 (some R)) := grown_trans g1 g2
  have HR2 : Hid (Rd w2 R (P + 62)) := hRd2
  clear HO hRd1 g1 g2 hRd2 z2
  by_cases hv : v2 = 0
  · have hq : (v2 == 0) = true := by rw [hv]; rfl
    clear hv
    go_wp2_with fail
    refine (HS.out R (P + 62) w2 _ va vc es HR2.out (by omega) e1 e2 HK.out HO2.out).mono ?_
    rintro e w3 ⟨rs', a', c', rfl, l5, hin, hRd3, g3⟩
    have hsz := HG2.out.size
    have HX : Hid (RulesA 82 R P w (.returned (.slice a' rs'.length c')) w3) := ⟨rs', a', c', rfl, l5, hin.mono hsz hsz, hRd3, grown_trans HG2.out g3⟩
    clear hin hRd3 g3
    go_wp2
    go_ret
    exact HX.out
  · have hq : (v2 == 0) = false := by simp [hv]
    go_wp2
    go_ret
    exact ⟨es.map Prod.fst, va, vc, by rw [List.length_map]; rfl, by rw [List.length_map]; omega, HO2.out.rules, HR2.out.mono (by omega), HG2.out⟩

/-- What DrawCalNext draws. -/
def NextD (w : World) (e : Ending) (w' : World) : Prop := ∃ (rs : List CR) (a : Option Addr) (cap : Nat) (t : Int), e = .returned (.tuple #[.slice a rs.length cap, .int .i64 t]) ∧ rs.length ≤ 5 ∧ RulesIn w' 0 0 a rs ∧ -1099511627776 ≤ t ∧ t ≤ 1099511627776 ∧ Below w.heap.size w w'
/-- What DrawCalCount draws. -/
def CountD (w : World) (e : Ending) (w' : World) : Prop := ∃ (rs : List CR) (a : Option Addr) (cap : Nat) (t u : Int), e = .returned (.tuple #[.slice a rs.length cap, .int .i64 t, .int .i64 u]) ∧ rs.length ≤ 5 ∧ RulesIn w' 0 0 a rs ∧ -5 ≤ t ∧ t < 95 ∧ -5 ≤ u ∧ u < 195 ∧ Below w.heap.size w w'

set_option maxRecDepth 100000 in
set_option maxHeartbeats 1000000 in
theorem DrawCalNext_any (hSp : Spoils) (w : World) (a : Option Addr) (n cap : Nat) (h : BytesAt w a n) (hn : n ≤ 1048576) (hc : n ≤ cap) (hm : cap ≤ 9223372036854775807) :
    Calls Tryd.prog 11 #[.slice a n cap] w fun e w' => NextD w e w' := by
  have HS : Hid Spoils := hSp
  clear hSp
  go_enter Tryd.func11, Tryd.ntmps11
  go_wp2_with fail
  refine (l1Open_any w a n cap h hn hc hm).mono ?_
  rintro e w1 ⟨n', c', hn', rfl, hb, hw1⟩
  have hRd : Rd w1 w.heap.size 0 := by rw [hw1]; exact Rd.new w hb hn'
  have hB1 : Below w.heap.size w w1 := by rw [hw1]; exact (Below.refl _ _).alloc (Nat.le_refl _) _
  have hs1 : w1.heap.size = w.heap.size + 1 := by rw [hw1]; exact World.size_alloc _ _
  clear h hb hw1
  go_wp2_with fail
  refine (l3Any_any HS.out w.heap.size 0 w1 hRd (by omega)).mono ?_
  rintro e w2 ⟨rs, ra, rc, rfl, l5, hin, hRd2, g2⟩
  go_wp2_with fail
  refine (l3Tick_any w.heap.size _ w2 hRd2 (by omega)).mono ?_
  rintro e w3 ⟨t, rfl, t1, t2, hRd3, g3⟩
  have g13 := grown_trans g2 g3
  have HB : Hid (Below w.heap.size w w3) := Below.grown hB1 g13 (by omega) (fun k e => by cases e; exact Nat.le_refl _)
  have HI : Hid (RulesIn w3 0 0 ra rs) := (hin.grown g3 (fun k e => by cases e; omega)).mono (Nat.zero_le _) (Nat.zero_le _)
  clear hRd hB1 hin hRd2 g2 hRd3 g3 g13
  go_wp2
  go_ret2
  exact ⟨rs, ra, rc, t, rfl, l5, HI.out, t1, t2, HB.out⟩

set_option maxRecDepth 100000 in
set_option maxHeartbeats 1000000 in
theorem DrawCalCount_any (hSp : Spoils) (w : World) (a : Option Addr) (n cap : Nat) (h : BytesAt w a n) (hn : n ≤ 1048576) (hc : n ≤ cap) (hm : cap ≤ 9223372036854775807) :
    Calls Tryd.prog 16 #[.slice a n cap] w fun e w' => CountD w e w' := by
  have HS : Hid Spoils := hSp
  clear hSp
  go_enter Tryd.func16, Tryd.ntmps16
  go_wp2_with fail
  refine (l1Open_any w a n cap h hn hc hm).mono ?_
  rintro e w1 ⟨n', c', hn', rfl, hb, hw1⟩
  have hRd : Rd w1 w.heap.size 0 := by rw [hw1]; exact Rd.new w hb hn'
  have hB1 : Below w.heap.size w w1 := by rw [hw1]; exact (Below.refl _ _).alloc (Nat.le_refl _) _
  have hs1 : w1.heap.size = w.heap.size + 1 := by rw [hw1]; exact World.size_alloc _ _
  clear h hb hw1
  go_wp2_with fail
  refine (l3Any_any HS.out w.heap.size 0 w1 hRd (by omega)).mono ?_
  rintro e w2 ⟨rs, ra, rc, rfl, l5, hin, hRd2, g2⟩
  go_wp2_with fail
  refine (pick_any w.heap.size _ 100 w2 hRd2 (by omega) (by omega) (by omega)).mono ?_
  rintro e w3 ⟨t, rfl, t1, t2, hRd3, g3, z3⟩
  go_wp2_with fail
  refine (pick_any w.heap.size _ 200 w3 hRd3 (by omega) (by omega) (by omega)).mono ?_
  rintro e w4 ⟨u, rfl, u1, u2, hRd4, g4, z4⟩
  have g34 := grown_trans g3 g4
  have HB : Hid (Below w.heap.size w w4) := Below.grown hB1 (grown_trans g2 g34) (by omega) (fun k e => by cases e; exact Nat.le_refl _)
  have HI : Hid (RulesIn w4 0 0 ra rs) := (hin.grown g34 (fun k e => by cases e; omega)).mono (Nat.zero_le _) (Nat.zero_le _)
  clear hRd hB1 hin hRd2 g2 hRd3 g3 hRd4 g4 g34 z3 z4
  go_wp2
  refine bodyPost_ret (v := .tuple #[.slice ra rs.length rc, .int .i64 (t - 5), .int .i64 (u - 5)]) (by simp [results, Tryd.results16, go_sem]) rfl ?_
  exact ⟨rs, ra, rc, t - 5, u - 5, rfl, l5, HI.out, by omega, by omega, by omega, by omega, HB.out⟩

end Go.Proofs.YtammejplaeaocaaDoor
