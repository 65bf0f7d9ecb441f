/-
  The specification's l3Rules draws one to three rules that are ok. Condition: how often the reader was asked has a bound.
-/
import Derived.Test.YtammejplaeaocaaDoorDrawR
import Derived.Test.YtammejplaeaocaaDoorReadJ
namespace Go.Proofs.YtammejplaeaocaaDoor
open Go.RowKit

/-- Drawn rules. -/
def RulesD (R P : Nat) (w : World) (e : Ending) (w' : World) : Prop := ∃ (es : List (CR × Value)) (v : Value), e = .returned v ∧ 1 ≤ es.length ∧ es.length ≤ 3 ∧ (∀ p, p ∈ es → ruleB p.1 = true ∧ p.1.b.length ≤ 3) ∧ OwnRules w' w.heap.size v es ∧ Rd w' R (P + 61) ∧ w.grownBy w' (some R)

theorem OwnRules.drawn {W W' : World} {lo R : Nat} {v : Value} {es : List (CR × Value)} (h : OwnRules W lo v es) (hg : W.grownBy W' (some R)) (hR : R < lo) : OwnRules W' lo v es := by
  have far : ∀ {e : TypeId} {size n : Nat} {u : Value} {xs : List Value}, W.ownsRow lo e size u n xs → u.ownBlock = none ∨ u.ownBlock ≠ some R := by
    intro e size n u xs hu
    cases hb : u.ownBlock with
    | none => exact Or.inl rfl
    | some b => exact Or.inr (fun e => by injection e with e; have := (hu.lt b hb).1; omega)
  exact ⟨h.row.kept hg (far h.row), fun i p hp => (h.buf i p hp).kept hg (far (h.buf i p hp)), h.apart, h.rng⟩
theorem grown_behind {w W W' : World} {R : Nat} {row : Option Nat} (h : w.grownBy W (some R)) (hg : W.grownBy W' row) (hr : ∀ k, row = some k → w.heap.size ≤ k) : w.grownBy W' (some R) :=
  ⟨hg.os.trans h.os, hg.tape.trans h.tape, hg.output.trans h.output, Nat.le_trans h.size hg.size, fun k hk hR => (hg.block k (Nat.lt_of_lt_of_le hk h.size) (fun e => by have := hr k e.symm; omega)).trans (h.block k hk hR)⟩

theorem ruleB_in {r : CR} (h : ruleB r = true) : r.In ∧ ∀ x, x ∈ r.b → In64 x := by
  have h1 := ruleB_head h
  refine ⟨?_, fun x hx => ?_⟩
  · unfold CR.In In64; omega
  · have := ruleB_but h hx; unfold In64; omega
/-- One rule more, drawn in w2, laid by in w2', appended in w3. -/
theorem rules_more {w w2 w2' w3 : World} {R B P : Nat} {v v' b : Value} {es : List (CR × Value)} {r : CR} (hR : R < w.heap.size) (ho : OwnRules w2 w.heap.size v es) (hb : w2.ownsRow B 3 1 b r.b.length (ints r.b)) (ha : Below w2.heap.size w2 w2') (hga : w2.grownBy w2' none) (hB : w.heap.size ≤ B) (hn : ∀ (i : Nat) (p : CR × Value), es[i]? = some p → ∀ k, p.2.ownBlock = some k → k < B) (hr : ruleB r = true)
    (hown : w3.ownsRow w.heap.size 66 5 v' (es.length + 1) (flat es ++ five (r, b))) (hg : w2'.grownBy w3 v.ownBlock) (hG : w.grownBy w2 (some R)) (hRd : Rd w2 R P) : OwnRules w3 w.heap.size v' (es ++ [(r, b)]) ∧ w.grownBy w3 (some R) ∧ Rd w3 R P := by
  have hv : ∀ k, v.ownBlock = some k → w.heap.size ≤ k := fun k hk => (ho.row.lt k hk).1
  exact ⟨(ho.below ha).snoc (own_below hb ha) hB hn (ruleB_in hr) hown hg, grown_behind (grown_behind hG hga (fun k e => by cases e)) hg hv, (hRd.below ha).grown hg (fun k hk => by have := hv k hk; omega)⟩

set_option maxRecDepth 100000 in
set_option maxHeartbeats 1000000 in
theorem l3Rules_any (R P : Nat) (w : World) (h : Rd w R P) (hP : P ≤ 80000) :
    Calls Tryd.prog 41 #[.pointer (some ⟨R, 0, none⟩)] w fun e w' => RulesD R P w e w' := by
  obtain ⟨i0, hi, hz0, hz1, hz2⟩ := info_parts infoRule
  have hR := h.lt
  go_enter Tryd.func41, Tryd.ntmps41
  have hg0 : w.grownBy (w.alloc (.cells #[] 66)) (some R) := World.grownBy_alloc w _ _
  have hRd0 := h.below ((Below.refl w.heap.size w).alloc (Nat.le_refl _) (.cells #[] 66))
  have hO0 : OwnRules (w.alloc (.cells #[] 66)) w.heap.size (.slice (some ⟨w.heap.size, 0, none⟩) 0 0) [] :=
    ⟨⟨rfl, Or.inr ⟨w.heap.size, 0, #[], rfl, Nat.le_refl _, heap_alloc_new w _, Nat.le_refl _, by unfold maxLen; omega, rfl, rfl⟩⟩, fun i p h => by simp at h, fun i j p q h => by simp at h, fun i p h => by simp at h⟩
  go_wp2_with fail
  refine (pick_any R P 3 _ hRd0 (by omega) (by omega) (by omega)).mono ?_
  rintro e w1 ⟨v1, rfl, a1, b1, hRd1, g1, z1⟩
  have HO1 : Hid (OwnRules w1 w.heap.size (.slice (some ⟨w.heap.size, 0, none⟩) 0 0) []) := hO0.drawn g1 hR
  have HG1 : Hid (w.grownBy w1 (some R)) := grown_trans hg0 g1
  obtain ⟨n0, rfl⟩ : ∃ n0 : Nat, v1 = (n0 : Int) := ⟨v1.toNat, by omega⟩
  have HR1 : Hid (Rd w1 R (P + 61 - 20 * (1 + n0))) := hRd1.mono (by omega)
  have hn0 : n0 ≤ 2 := by omega
  clear hg0 hRd0 hO0 hRd1 g1 z1 a1 b1 h
  go_wp2_with fail
  go_loopw [3, 4] (fun v sn wr => ∃ (nn : Nat) (es : List (CR × Value)), sn = .int .i64 nn ∧ nn ≤ 3 ∧ es.length + nn ≤ 3 ∧ 1 ≤ es.length + nn ∧ Hid (OwnRules wr w.heap.size v es) ∧ Hid (∀ p, p ∈ es → ruleB p.1 = true ∧ p.1.b.length ≤ 3) ∧ Hid (Rd wr R (P + 61 - 20 * nn)) ∧ Hid (w.grownBy wr (some R))) (fun _ sn _ => (intOf sn).toNat)
  case atStart => exact ⟨1 + n0, [], by go_num, by omega, by simp only [List.length_nil]; omega, by simp only [List.length_nil]; omega, HO1, fun p hp => by simp at hp, HR1, HG1⟩
  case round =>
    obtain ⟨nn, es, rfl, hnn, hle, hge, HO, HK, HR, HG⟩ := hrel
    clear HO1 HG1 HR1 hn0
    obtain ⟨va, vc, hv, _⟩ := HO.out.shape
    subst hv
    cases nn with
    | zero =>
      have hgt : decide ((0 : Int) < ((0 : Nat) : Int)) = false := by simp
      go_wp2
      go_ret
      exact ⟨es, _, rfl, by omega, by omega, HK.out, HO.out, HR.out, HG.out⟩
    | succ k =>
      have hk1 : (0 : Int) < ((k + 1 : Nat) : Int) := by omega
      go_wp2_with fail
      refine (l3Rule_any R (P + 61 - 20 * (k + 1)) wr HR.out (by omega)).mono ?_
      rintro e w2 ⟨r, bv, rfl, hok, hlb, hown, hRd2, g2⟩
      obtain ⟨xa, xc, hbv⟩ : ∃ xa xc, bv = .slice xa r.b.length xc := by
        rcases hown.2 with ⟨hv, h0⟩ | ⟨g, cap, cur, hv, _⟩
        · exact ⟨none, 0, by rw [hv, h0]⟩
        · exact ⟨_, _, hv⟩
      subst hbv
      have hsz0 := HG.out.size
      have hsz2 := g2.size
      have HLT : Hid (∀ (i : Nat) (p : CR × Value), es[i]? = some p → ∀ k, p.2.ownBlock = some k → k < wr.heap.size) := HO.out.lt
      have HO2 : Hid (OwnRules w2 w.heap.size (.slice va es.length vc) es) := HO.out.drawn g2 hR
      have HG2 : Hid (w.grownBy w2 (some R)) := grown_trans HG.out g2
      have HR2 : Hid (Rd w2 R (P + 61 - 20 * k)) := hRd2.mono (by omega)
      have HW : Hid (w2.ownsRow wr.heap.size 3 1 (.slice xa r.b.length xc) r.b.length (ints r.b)) := hown
      have HOK : Hid (ruleB r = true ∧ r.b.length ≤ 3) := ⟨hok, hlb⟩
      clear hok hlb hown hRd2 g2 HO HR HG
      have HA : Hid (Below w2.heap.size w2 (w2.alloc (.cells #[.int .i64 r.e, .int .i64 r.a, .int .i64 r.f, .int .i64 r.t, .slice xa r.b.length xc] 66))) := (Below.refl _ _).alloc (Nat.le_refl _) _
      have HAZ : Hid ((w2.alloc (.cells #[.int .i64 r.e, .int .i64 r.a, .int .i64 r.f, .int .i64 r.t, .slice xa r.b.length xc] 66)).heap.size = w2.heap.size + 1) := World.size_alloc _ _
      have HNEW : Hid (∀ j u, [Value.int .i64 r.e, .int .i64 r.a, .int .i64 r.f, .int .i64 r.t, .slice xa r.b.length xc][j]? = some u → (w2.alloc (.cells #[.int .i64 r.e, .int .i64 r.a, .int .i64 r.f, .int .i64 r.t, .slice xa r.b.length xc] 66)).cell? ((⟨w2.heap.size, 0, none⟩ : Addr).add j) = some u) := cell_five_new w2 _ _ _ _ _ _
      go_wp2_with (at_builtin; refine wpList_append_own _ rfl _ _ 23 rfl w.heap.size 66 i0 (.agg #[.int .i64 0, .int .i64 0, .int .i64 0, .int .i64 0, .slice none 0 0]) 5 56 Tryd.underlying23 hi hz0 hz1 hz2 rfl (by decide) _ _ _ rfl (own_below HO2.out.row HA.out) ⟨w2.heap.size, 0, none⟩ 1 1 [.int .i64 r.e, .int .i64 r.a, .int .i64 r.f, .int .i64 r.t, .slice xa r.b.length xc] rfl rfl HNEW.out (fun x hx => by simp at hx; rcases hx with rfl | rfl | rfl | rfl | rfl <;> rfl) (by unfold maxLen; omega) (by omega) (by rw [HAZ.out]; omega) ?_; intro v' w3 hown' hgrow3 hnil3; have X3 : Hid (OwnRules w3 w.heap.size v' (es ++ [(r, .slice xa r.b.length xc)]) ∧ w.grownBy w3 (some R) ∧ Rd w3 R (P + 61 - 20 * k)) := rules_more hR HO2.out HW.out HA.out (World.grownBy_alloc _ _ _) hsz0 HLT.out HOK.out.1 hown' hgrow3 HG2.out HR2.out; clear hown' hgrow3 hnil3)
      go_roundw
      case rel =>
        refine ⟨k, es ++ [(r, Value.slice xa r.b.length xc)], by go_num, by omega, by simp; omega, by simp; omega, X3.out.1, fun p hp => ?_, X3.out.2.2, X3.out.2.1⟩
        rcases List.mem_append.1 hp with h1 | h1
        · exact HK.out p h1
        · obtain rfl : p = _ := by simpa using h1
          exact HOK.out
      case measure => simp [intOf]

end Go.Proofs.YtammejplaeaocaaDoor
