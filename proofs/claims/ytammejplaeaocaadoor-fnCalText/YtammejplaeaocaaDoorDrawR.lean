/-
  The specification's l3Rule draws a rule that is ok. Condition: how often the reader was asked has a bound.
-/
import Derived.Test.YtammejplaeaocaaDoorPick
import Derived.Deep.DeepCutAuto
import Derived.Deep.RegionLaw
import Derived.Deep.RegionHeld3
import Derived.Deep.AppendLies
namespace Go.Proofs.YtammejplaeaocaaDoor
open Go.RowKit

/-- A drawn rule. -/
def RuleD (R P : Nat) (w : World) (e : Ending) (w' : World) : Prop := ∃ (r : CR) (bv : Value), e = .returned (.agg #[.int .i64 r.e, .int .i64 r.a, .int .i64 r.f, .int .i64 r.t, bv]) ∧ ruleB r = true ∧ r.b.length ≤ 3 ∧ w'.ownsRow w.heap.size 3 1 bv r.b.length (ints r.b) ∧ Rd w' R (P + 20) ∧ w.grownBy w' (some R)

theorem shape_succ {W : World} {base : Nat} {e : TypeId} {size n : Nat} {v : Value} {xs : List Value} (h : W.ownsRow base e size v (n + 1) xs) : ∃ ga gc, v = .slice ga (n + 1) gc := by
  rcases h.2 with ⟨_, h0⟩ | ⟨g, cap, cur, hv, _⟩
  · omega
  · exact ⟨_, _, hv⟩
/-- Ticks that ascend and end at or below m. -/
def Asc (l : List Int) (m : Int) : Prop := butB l = true ∧ ∀ z, z ∈ l → z ≤ m
theorem Asc.snoc {l : List Int} {m q : Int} (h : Asc l m) (hq : m < q) (h0 : 0 ≤ q) (h1 : q ≤ 100000) : Asc (l ++ [q]) q := by
  refine ⟨butB_true fun j hj => ?_, fun z hz => ?_⟩
  · by_cases hl : j < l.length
    · have := butB_at h.1 hl
      unfold butAt at this ⊢
      rw [List.getElem?_append_left hl]
      by_cases h0 : j = 0
      · subst h0; simpa using this
      · rw [List.getElem?_append_left (by omega)]; exact this
    · have hj2 : j = l.length := by simp at hj; omega
      subst hj2
      unfold butAt
      rw [List.getElem?_append_right (Nat.le_refl _), Nat.sub_self]
      simp only [List.getElem?_cons_zero, Option.getD_some, Bool.and_eq_true, inB_iff, Bool.or_eq_true, beq_iff_eq, decide_eq_true_eq]
      refine ⟨⟨h0, h1⟩, ?_⟩
      by_cases hz : l.length = 0
      · exact Or.inl hz
      · right
        rw [List.getElem?_append_left (by omega), List.getElem?_eq_getElem (by omega)]
        have := h.2 _ (List.getElem_mem (show l.length - 1 < l.length by omega))
        simp only [Option.getD_some]
        omega
  · rcases List.mem_append.1 hz with h2 | h2
    · have := h.2 z h2; omega
    · simp at h2; omega

/-- How far the drawing of a rule has come: the answer's block, the rule's, the reader. -/
structure XS (W w : World) (R P : Nat) (e a f t : Int) (bv : Value) : Prop where
  ans : W.heap[w.heap.size]? = some (.cells #[.int .i64 0, .int .i64 0, .int .i64 0, .int .i64 0, .slice none 0 0] 66 (0, 0))
  rule : W.heap[w.heap.size + 1]? = some (.cells #[.int .i64 e, .int .i64 a, .int .i64 f, .int .i64 t, bv] 66 (0, 0))
  rd : Rd W R P
  fr : w.grownBy W (some R)
  lt : R < w.heap.size
theorem XS.size {W w : World} {R P : Nat} {e a f t : Int} {bv : Value} (h : XS W w R P e a f t bv) : w.heap.size + 2 ≤ W.heap.size := (Array.getElem?_eq_some_iff.1 h.rule).1
theorem XS.pick {W W' w : World} {R P P' : Nat} {e a f t : Int} {bv : Value} (h : XS W w R P e a f t bv) (hr : Rd W' R P') (hg : W.grownBy W' (some R)) : XS W' w R P' e a f t bv :=
  ⟨(hg.block _ (by have := h.size; omega) (fun e => by cases e; have := h.lt; omega)).trans h.ans, (hg.block _ (by have := h.size; omega) (fun e => by cases e; have := h.lt; omega)).trans h.rule, hr, grown_trans h.fr hg, h.lt⟩
/-- A later block is written, another than the two. -/
theorem XS.later {W W' w : World} {R P : Nat} {e a f t : Int} {bv : Value} {row : Option Nat} (h : XS W w R P e a f t bv) (hg : W.grownBy W' row) (hr : ∀ k, row = some k → w.heap.size + 1 < k) : XS W' w R P e a f t bv :=
  ⟨(hg.block _ (by have := h.size; omega) (fun e => by have := hr _ e.symm; omega)).trans h.ans, (hg.block _ (by have := h.size; omega) (fun e => by have := hr _ e.symm; omega)).trans h.rule, h.rd.grown hg (fun k e => by have := hr k e; have := h.lt; omega),
   ⟨hg.os.trans h.fr.os, hg.tape.trans h.fr.tape, hg.output.trans h.fr.output, Nat.le_trans h.fr.size hg.size, fun k hk hR => (hg.block k (Nat.lt_of_lt_of_le hk h.fr.size) (fun e => by have := hr k e.symm; omega)).trans (h.fr.block k hk hR)⟩, h.lt⟩
theorem set_block {W : World} {b : Nat} {cs : Array Value} {t : TypeId} (h : W.heap[b]? = some (.cells cs t (0, 0))) (j : Nat) (v : Value) : (W.setCell ⟨b, j, none⟩ v).heap[b]? = some (.cells (cs.setIfInBounds j v) t (0, 0)) := by
  simp [World.setCell, Array.getElem?_modify, h]
theorem XS.set {W w : World} {R P : Nat} {e a f t : Int} {bv : Value} (h : XS W w R P e a f t bv) (j : Nat) (v : Value) {e' a' f' t' : Int} {bv' : Value} (hj : (#[Value.int .i64 e, .int .i64 a, .int .i64 f, .int .i64 t, bv] : Array Value).setIfInBounds j v = #[.int .i64 e', .int .i64 a', .int .i64 f', .int .i64 t', bv']) : XS (W.setCell ⟨w.heap.size + 1, j, none⟩ v) w R P e' a' f' t' bv' := by
  have hg : W.grownBy (W.setCell ⟨w.heap.size + 1, j, none⟩ v) (some (w.heap.size + 1)) := ⟨rfl, rfl, rfl, by simp [World.setCell], fun k _ hk => Below.heap_setCell W ⟨w.heap.size + 1, j, none⟩ v k (fun e => hk (by rw [e]))⟩
  refine ⟨(hg.block _ (by have := h.size; omega) (fun e => by injection e with e; omega)).trans h.ans, by rw [set_block h.rule, hj], h.rd.grown hg (fun k e => by cases e; have := h.lt; omega), ?_, h.lt⟩
  exact ⟨h.fr.os, h.fr.tape, h.fr.output, Nat.le_trans h.fr.size hg.size, fun k hk hR => (hg.block k (Nat.lt_of_lt_of_le hk h.fr.size) (fun e => by injection e with e; omega)).trans (h.fr.block k hk hR)⟩

set_option maxRecDepth 100000 in
set_option maxHeartbeats 1000000 in
theorem l3Rule_any (R P : Nat) (w : World) (h : Rd w R P) (hP : P ≤ 90000) :
    Calls Tryd.prog 65 #[.pointer (some ⟨R, 0, none⟩)] w fun e w' => RuleD R P w e w' := by
  obtain ⟨i0, hi, hz0, hz1, hz2⟩ := info_parts infoInt'
  have hR := h.lt
  have hRd := h.below ((Below.refl w.heap.size w).alloc (Nat.le_refl _) (.cells #[.int .i64 0, .int .i64 0, .int .i64 0, .int .i64 0, .slice none 0 0] 66))
  obtain ⟨W0, hW0⟩ : ∃ W0, W0 = w.alloc (.cells #[.int .i64 0, .int .i64 0, .int .i64 0, .int .i64 0, .slice none 0 0] 66) := ⟨_, rfl⟩
  have k0 : W0.heap[w.heap.size]? = some (.cells #[.int .i64 0, .int .i64 0, .int .i64 0, .int .i64 0, .slice none 0 0] 66 (0, 0)) := by rw [hW0]; exact heap_alloc_new w _
  have g0 : w.grownBy W0 (some R) := by rw [hW0]; exact World.grownBy_alloc w _ _
  have s0 : W0.heap.size = w.heap.size + 1 := by rw [hW0]; simp
  rw [← hW0] at hRd
  clear h
  go_enter Tryd.func65, Tryd.ntmps65
  go_wp2_with fail
  rw [← hW0]
  clear hW0
  refine (pick_any R P 12 W0 hRd (by omega) (by omega) (by omega)).mono ?_
  rintro e w1 ⟨v1, rfl, a1, b1, hRd1, g1, z1⟩
  go_upto_if 12 with (go_at_call 39; refine (pick_any R (P + 1) 12 w1 hRd1 (by omega) (by omega) (by omega)).mono ?_; rintro e w2 ⟨v2, rfl, a2, b2, hRd2, g2, z2⟩)
  have g12 : W0.grownBy w2 (some R) := grown_trans g1 g2
  have k2 : w2.heap[w.heap.size]? = some (.cells #[.int .i64 0, .int .i64 0, .int .i64 0, .int .i64 0, .slice none 0 0] 66 (0, 0)) := (g12.block w.heap.size (by omega) (fun e => by cases e; omega)).trans k0
  have HG2 : Hid (w.grownBy w2 (some R)) := grown_trans g0 g12
  have HK2 : Hid (w2.heap[w.heap.size]? = some (.cells #[.int .i64 0, .int .i64 0, .int .i64 0, .int .i64 0, .slice none 0 0] 66 (0, 0))) := k2
  have hs2 : w2.heap.size = w.heap.size + 1 := by omega
  clear hRd k0 g0 g1 g2 g12 k2 hRd1
  go_cut [3] (fun ev wx => (∃ x : Int, ev = .int .i64 x ∧ 1 ≤ x ∧ x ≤ 1000) ∧ wx = w2)
  case first =>
    by_cases hv : v2 = 0
    · have hq : (v2 == 0) = true := by rw [hv]; rfl
      go_wp2
      go_meet
      exact ⟨⟨1000, rfl, by omega, by omega⟩, rfl⟩
    · have hq : (v2 == 0) = false := by simp [hv]
      go_wp2
      go_meet
      exact ⟨⟨1 + v1, rfl, by omega, by omega⟩, rfl⟩
  case rest =>
    obtain ⟨⟨x, rfl, x1, x2⟩, hwc⟩ := hcut
    rw [hwc]
    clear hwc
    clear a1 b1 a2 b2
    go_wp2_with fail
    refine (pick_any R (P + 1 + 1) x w2 hRd2 (by omega) (by omega) (by omega)).mono ?_
    rintro e w3 ⟨y, rfl, y1, y2, hRd3, g3, z3⟩
    go_wp2_with fail
    refine (pick_any R (P + 1 + 1 + 1) 40 w3 hRd3 (by omega) (by omega) (by omega)).mono ?_
    rintro e w4 ⟨f, rfl, f1, f2, hRd4, g4, z4⟩
    have hs4 : w4.heap.size = w.heap.size + 1 := by omega
    have hA : w4.grownBy (w4.alloc (.cells #[.int .i64 x, .int .i64 y, .int .i64 f, .int .i64 0, .slice none 0 0] 66)) none := World.grownBy_alloc _ _ _
    have HX : Hid (XS (w4.alloc (.cells #[.int .i64 x, .int .i64 y, .int .i64 f, .int .i64 0, .slice none 0 0] 66)) w R (P + 4) x y f 0 (.slice none 0 0)) := by
      have g34 := grown_trans g3 g4
      refine ⟨?_, ?_, hRd4.grown hA (fun k e => by cases e), grown_trans HG2.out (grown_trans g34 (World.grownBy_alloc _ _ _)), hR⟩
      · rw [hA.block _ (by omega) (by simp), g34.block _ (by omega) (fun e => by cases e; omega)]; exact HK2.out
      · have := heap_alloc_new w4 (.cells #[.int .i64 x, .int .i64 y, .int .i64 f, .int .i64 0, .slice none 0 0] 66 (0, 0)); rw [hs4] at this; exact this
    clear hA g3 g4 hRd2 hRd3 hRd4 HG2 HK2 z1 z2 z3 z4
    obtain ⟨W5, hW5⟩ : ∃ W5, W5 = w4.alloc (.cells #[.int .i64 x, .int .i64 y, .int .i64 f, .int .i64 0, .slice none 0 0] 66) := ⟨_, rfl⟩
    rw [← hW5] at HX
    have cf : W5.cell? ⟨w.heap.size + 1, 2, none⟩ = some (.int .i64 f) := blk_cell HX.out.rule 2
    go_wp2_with fail
    rw [← hW5]
    clear hW5 hs4 hs2 s0
    have hX6 : ∀ (w6 : World), Rd w6 R (P + 4 + 1) → W5.drew.grownBy w6 (some R) → XS w6 w R (P + 5) x y f 0 (.slice none 0 0) := fun w6 h1 h2 => HX.out.pick h1 (grown_trans (B := W5.drew) ⟨rfl, rfl, rfl, Nat.le_refl _, fun _ _ _ => rfl⟩ h2)
    have HX6 : Hid _ := hX6
    clear hX6
    go_region_held3 (fun w' => w'.cell? ⟨w.heap.size + 1, 2, none⟩ = some (.int .i64 f))
      (first
        | go_keep
        | exact c62
        | (rw [cell_setCell_off _ (by omega)]; exact c62))
      ((go_at_call 39; refine (pick_any R (P + 4) 120 _ (by exact HX.out.rd) (by omega) (by omega) (by omega)).mono ?_; rintro e w6 ⟨u, rfl, u1, u2, hRd6, g6, z6⟩; have HX7 : Hid (XS w6 w R (P + 5) x y f 0 (.slice none 0 0)) := HX6.out w6 hRd6 g6; have c62 : w6.cell? ⟨w.heap.size + 1, 2, none⟩ = some (.int .i64 f) := blk_cell HX7.out.rule 2; have c63 : w6.cell? ⟨w.heap.size + 1, 3, none⟩ = some (.int .i64 0) := blk_cell HX7.out.rule 3; have f63 : w6.frozen? ⟨w.heap.size + 1, 3, none⟩ = false := blk_frozen HX7.out.rule 3; clear hRd6 g6 z6))
    have HX8 : Hid (XS (w6.setCell ⟨w.heap.size + 1, 3, none⟩ (.int .i64 (f + u))) w R (P + 5) x y f (f + u) (.slice none 0 0)) := HX7.out.set 3 _ rfl
    have hwr : IntKind.i64.wrap (f + u) = f + u := by rw [IntKind.wrap_i64]; omega
    rw [hwr]
    clear HX HX6 HX7 cf c62 c63 f63 hwr
    obtain ⟨W8, hW8⟩ : ∃ W8, W8 = w6.setCell ⟨w.heap.size + 1, 3, none⟩ (.int .i64 (f + u)) := ⟨_, rfl⟩
    rw [← hW8] at HX8 ⊢
    clear hW8
    go_upto_if 28 with (go_at_call 39; refine (pick_any R (P + 5) 6 W8 HX8.out.rd (by omega) (by omega) (by omega)).mono ?_; rintro e w9 ⟨v9, rfl, a9, b9, hRd9, g9, z9⟩)
    have HX9 : Hid (XS w9 w R (P + 6) x y f (f + u) (.slice none 0 0)) := HX8.out.pick hRd9 g9
    have c93 : w9.cell? ⟨w.heap.size + 1, 3, none⟩ = some (.int .i64 (f + u)) := blk_cell HX9.out.rule 3
    have f93 : w9.frozen? ⟨w.heap.size + 1, 3, none⟩ = false := blk_frozen HX9.out.rule 3
    clear HX8 hRd9 g9 z9
    go_cut [4] (fun pv wx => pv = .pointer (some ⟨w.heap.size + 1, 0, none⟩) ∧ ∃ t : Int, f ≤ t ∧ t ≤ 100000 ∧ Hid (XS wx w R (P + 6) x y f t (.slice none 0 0)))
    case first =>
      by_cases hv : v9 = 0
      · have hq : (v9 == 0) = true := by rw [hv]; rfl
        go_wp2
        go_meet
        exact ⟨rfl, 100000, by omega, by omega, HX9.out.set 3 _ rfl⟩
      · have hq : (v9 == 0) = false := by simp [hv]
        go_wp2
        go_meet
        exact ⟨rfl, f + u, by omega, by omega, HX9⟩
    case rest =>
      obtain ⟨rfl, t, t1, t2, HXa⟩ := hcut
      clear c93 f93 HX9 a9 b9 u1 u2
      have cf := blk_cell HXa.out.rule 2
      go_wp2_with fail
      refine (pick_any R (P + 6) 4 wc HXa.out.rd (by omega) (by omega) (by omega)).mono ?_
      rintro e wb ⟨nb, rfl, n1, n2, hRdb, gb, zb⟩
      have HXb : Hid (XS wb w R (P + 7) x y f t (.slice none 0 0)) := HXa.out.pick hRdb gb
      clear cf HXa hRdb gb zb
      obtain ⟨k0, rfl⟩ : ∃ k0 : Nat, nb = (k0 : Int) := ⟨nb.toNat, by omega⟩
      have hk0 : k0 ≤ 3 := by omega
      have HXS : Hid (XS wb w R (P + (14 - 2 * k0)) x y f t (.slice none 0 0)) := ⟨HXb.out.ans, HXb.out.rule, HXb.out.rd.mono (by omega), HXb.out.fr, HXb.out.lt⟩
      clear HXb n1 n2
      go_wp2_with fail
      go_loopw [5, 6] (fun sa sn wr => ∃ (q0 : Int) (nn : Nat) (l : List Int) (bv : Value), sa = .int .i64 q0 ∧ sn = .int .i64 nn ∧ nn ≤ 3 ∧ 0 ≤ q0 ∧ q0 + 1020 * nn ≤ 3099 ∧ l.length + nn ≤ 3 ∧ Hid (XS wr w R (P + (14 - 2 * nn)) x y f t bv) ∧ Hid (wr.ownsRow (w.heap.size + 2) 3 1 bv l.length (ints l)) ∧ Hid (Asc l q0)) (fun _ sn _ => (intOf sn).toNat)
      case atStart => exact ⟨f, k0, [], .slice none 0 0, rfl, rfl, hk0, f1, by omega, by simp; omega, HXS, World.ownsRow_nil _ _ _ _, rfl, fun z hz => by simp at hz⟩
      case round =>
        obtain ⟨q0, nn, l, bv, rfl, rfl, hnn, hq0, hq1, hll, HXr, HOr, HAr⟩ := hrel
        clear HXS hk0
        cases nn with
        | zero =>
          obtain ⟨ba, bc, hbv⟩ : ∃ ba bc, bv = .slice ba l.length bc := by
            rcases HOr.out.2 with ⟨hv, h0⟩ | ⟨g, cap, cur, hv, _⟩
            · exact ⟨none, 0, by rw [hv, h0]⟩
            · exact ⟨_, _, hv⟩
          subst hbv
          have m0 := blk_cell HXr.out.rule 0
          have m1 := blk_cell HXr.out.rule 1
          have m2 := blk_cell HXr.out.rule 2
          have m3 := blk_cell HXr.out.rule 3
          have m4 := blk_cell HXr.out.rule 4
          have z0 := blk_cell HXr.out.ans 0
          have z1 := blk_cell HXr.out.ans 1
          have z2 := blk_cell HXr.out.ans 2
          have z3 := blk_cell HXr.out.ans 3
          have z4 := blk_cell HXr.out.ans 4
          have f0 := blk_frozen HXr.out.ans 0
          have fa := blk_frozen HXr.out.ans 1
          have fb := blk_frozen HXr.out.ans 2
          have fc := blk_frozen HXr.out.ans 3
          have fd := blk_frozen HXr.out.ans 4
          simp at m0 m1 m2 m3 m4 z0 z1 z2 z3 z4
          have hgt : decide ((0 : Int) < ((0 : Nat) : Int)) = false := by simp
          go_wp2
          try simp only [Exit.inBlock, Exit.then]
          refine bodyPost_ret (v := .agg #[.int .i64 x, .int .i64 y, .int .i64 f, .int .i64 t, .slice ba l.length bc]) (by simp [results, Tryd.results65, go_sem, z0, z1, z2, z3, z4]) rfl ?_
          have st : ∀ (W : World) (j : Nat) (v : Value), W.grownBy (W.setCell ⟨w.heap.size, j, none⟩ v) (some w.heap.size) := fun W j v => ⟨rfl, rfl, rfl, by simp [World.setCell], fun k _ hk => Below.heap_setCell W ⟨w.heap.size, j, none⟩ v k (fun e => hk (by rw [e]))⟩
          have hg5 := grown_trans (grown_trans (grown_trans (grown_trans (st wr 0 (.int .i64 x)) (st _ 1 (.int .i64 y))) (st _ 2 (.int .i64 f))) (st _ 3 (.int .i64 t))) (st _ 4 (.slice ba l.length bc))
          have hlt := HXr.out.lt
          have hq : w.heap.size < w.heap.size + 2 := by omega
          refine ⟨⟨x, y, f, t, l⟩, .slice ba l.length bc, rfl, ?_, by simpa using hll, row_mono (ownsRow_setCell_below (ownsRow_setCell_below (ownsRow_setCell_below (ownsRow_setCell_below (ownsRow_setCell_below HOr.out hq _) hq _) hq _) hq _) hq _) (by omega), (HXr.out.rd.grown hg5 (fun k e => by cases e; exact hlt)).mono (by omega), ?_⟩
          · unfold ruleB headB
            simp only [Bool.and_eq_true, decide_eq_true_eq]
            refine ⟨⟨⟨⟨⟨inB_true x1 x2, inB_true y1 (by omega)⟩, inB_true f1 (by omega)⟩, inB_true t1 t2⟩, by omega⟩, HAr.out.1⟩
          · have hf := HXr.out.fr
            exact ⟨hf.os, hf.tape, hf.output, Nat.le_trans hf.size hg5.size, fun k hk hR => (hg5.block k (Nat.lt_of_lt_of_le hk hf.size) (fun e => by injection e with e; omega)).trans (hf.block k hk hR)⟩
        | succ k =>
          have hk1 : (0 : Int) < ((k + 1 : Nat) : Int) := by omega
          have ck := blk_cell HXr.out.rule 1
          simp at ck
          go_wp2_with fail
          refine (pick_any R (P + (14 - 2 * (k + 1))) 20 wr HXr.out.rd (by omega) (by omega) (by omega)).mono ?_
          rintro e wd ⟨v, rfl, d1, d2, hRdd, gd, zd⟩
          have HXd : Hid (XS wd w R (P + (14 - 2 * (k + 1)) + 1) x y f t bv) := HXr.out.pick hRdd gd
          have HOd : Hid (wd.ownsRow (w.heap.size + 2) 3 1 bv l.length (ints l)) := HOr.out.kept gd (by
            cases hb : bv.ownBlock with
            | none => exact Or.inl rfl
            | some b => exact Or.inr (fun e => by injection e with e; have := (HOr.out.lt b hb).1; have := HXr.out.lt; omega))
          clear HXr HOr hRdd gd zd ck
          go_upto_if 45 with (go_at_call 39; refine (pick_any R (P + (14 - 2 * (k + 1)) + 1) 2 wd HXd.out.rd (by omega) (by omega) (by omega)).mono ?_; rintro e we ⟨ve, rfl, ea, eb, hRde, ge, ze⟩)
          have HXe : Hid (XS we w R (P + (14 - 2 * k)) x y f t bv) := by
            have := HXd.out.pick hRde ge
            exact ⟨this.ans, this.rule, this.rd.mono (by omega), this.fr, this.lt⟩
          have HOe : Hid (we.ownsRow (w.heap.size + 2) 3 1 bv l.length (ints l)) := HOd.out.kept ge (by
            cases hb : bv.ownBlock with
            | none => exact Or.inl rfl
            | some b => exact Or.inr (fun e => by injection e with e; have := (HOd.out.lt b hb).1; have := HXd.out.lt; omega))
          clear HXd HOd hRde ge ze
          have ck := blk_cell HXe.out.rule 1
          simp at ck
          go_cut [5] (fun av wx => (∃ q : Int, av = .int .i64 q ∧ q0 < q ∧ q ≤ q0 + 1020) ∧ Hid (XS wx w R (P + (14 - 2 * k)) x y f t bv) ∧ Hid (wx.ownsRow (w.heap.size + 2) 3 1 bv l.length (ints l)))
          case first =>
            by_cases hv : ve = 0
            · have hq : (ve == 0) = true := by rw [hv]; rfl
              have m1 : 0 ≤ (y - (q0 + 1 + v) % x + x) % x := Int.emod_nonneg _ (by omega)
              have m2 : (y - (q0 + 1 + v) % x + x) % x < x := Int.emod_lt_of_pos _ (by omega)
              have m3 : 0 ≤ (q0 + 1 + v) % x := Int.emod_nonneg _ (by omega)
              have m4 : (q0 + 1 + v) % x < x := Int.emod_lt_of_pos _ (by omega)
              have hxz : ¬ x = 0 := by omega
              clear hv
              go_wp2
              go_quiet (fail)
              go_wp2
              go_meet
              have n1 : 0 ≤ (y - (q0 + 1 + v)) % x := Int.emod_nonneg _ hxz
              have n2 : (y - (q0 + 1 + v)) % x < x := Int.emod_lt_of_pos _ (by omega)
              have hdr : we.grownBy (we.drewN nq) none := ⟨rfl, rfl, rfl, Nat.le_refl _, fun _ _ _ => rfl⟩
              clear m1 m2 m3 m4
              generalize (y - (q0 + 1 + v)) % x = M at n1 n2 ⊢
              refine ⟨⟨q0 + 1 + v + M, ?_, by omega, by omega⟩, HXe.out.later hdr (fun k e => by cases e), HOe.out⟩
              exact congrArg (Value.int .i64) (by unfold wrap64; omega)
            · have hq : (ve == 0) = false := by simp [hv]
              go_wp2
              go_meet
              exact ⟨⟨q0 + 1 + v, rfl, by omega, by omega⟩, HXe, HOe⟩
          case rest =>
            obtain ⟨⟨q, rfl, q1, q2⟩, HXf, HOf⟩ := hcut
            clear HXe HOe ck ea eb d1 d2
            have hq9 : q ≤ 100000 := by omega
            obtain ⟨ba, bc, hbv⟩ : ∃ ba bc, bv = .slice ba l.length bc := by
              rcases HOf.out.2 with ⟨hv, h0⟩ | ⟨g, cap, cur, hv, _⟩
              · exact ⟨none, 0, by rw [hv, h0]⟩
              · exact ⟨_, _, hv⟩
            subst hbv
            have c4 := blk_cell HXf.out.rule 4
            simp at c4
            have hszc := HXf.out.size
            have hlt := HXf.out.lt
            go_wp2_with (at_builtin; refine wpList_append_own _ rfl _ _ 64 rfl (w.heap.size + 2) 3 i0 (.int .i64 0) 1 8 Tryd.underlying64 hi hz0 hz1 hz2 rfl (by decide) _ _ _ rfl (HOf.out.alloc _) ⟨wc.heap.size, 0, none⟩ 1 1 [.int .i64 q] rfl rfl (cell_one_new _ _ _) (fun x hx => by simp at hx; subst hx; rfl) (by unfold maxLen; omega) (by omega) (by simp; omega) ?_; intro v' w3 hown' hgrow3 hnil3; have HX3 : Hid (XS w3 w R (P + (14 - 2 * k)) x y f t (.slice ba l.length bc)) := (HXf.out.later (World.grownBy_alloc wc _ none) (fun k e => by cases e)).later hgrow3 (fun k e => by have := (HOf.out.lt k e).1; omega); have HO3 : Hid (w3.ownsRow (w.heap.size + 2) 3 1 v' (l.length + 1) (ints l ++ [.int .i64 q])) := hown'; clear hown' hgrow3 hnil3; have c43 : w3.cell? ⟨w.heap.size + 1, 4, none⟩ = some (.slice ba l.length bc) := blk_cell HX3.out.rule 4; have f43 : w3.frozen? ⟨w.heap.size + 1, 4, none⟩ = false := blk_frozen HX3.out.rule 4; obtain ⟨ga, gc, hga⟩ : ∃ ga gc, v' = .slice ga (l.length + 1) gc := shape_succ HO3.out; subst hga)
            go_roundw
            case rel =>
              refine ⟨q, k, l ++ [q], .slice ga (l.length + 1) gc, rfl, by go_num, by omega, by omega, by omega, by simp; omega, HX3.out.set 4 _ rfl, ?_, HAr.out.snoc q1 (by omega) hq9⟩
              rw [ints_snoc, List.length_append, List.length_singleton]
              exact ownsRow_setCell_below HO3.out (by simp) _
            case measure => simp [intOf]

end Go.Proofs.YtammejplaeaocaaDoor
