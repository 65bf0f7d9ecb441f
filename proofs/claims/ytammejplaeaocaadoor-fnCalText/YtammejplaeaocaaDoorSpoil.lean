/-
  The specification's l3Spoil. Condition: how often the reader was asked has a bound.
-/
import Derived.Test.YtammejplaeaocaaDoorSpoilA
import Derived.Laws.AppendOwnNone
import Derived.Deep.CutBlock
import Derived.Deep.DeepCutAuto
import Derived.Deep.RegionLaw
import Derived.Deep.RegionHeld3
import Derived.Deep.AppendLies
namespace Go.Proofs.YtammejplaeaocaaDoor
open Go.RowKit

set_option maxRecDepth 100000 in
set_option maxHeartbeats 2000000 in
theorem l3Spoil_any : Spoils := by
  intro R P w lo a cap e0 hRd hP n1 n3 hok hc
  obtain ⟨i0, hi, hz0, hz1, hz2⟩ := info_parts infoRule
  obtain ⟨j0, hj, jz0, jz1, jz2⟩ := info_parts infoInt'
  have hR := hRd.lt
  have HRD : Hid (Rd w R P) := hRd
  have HOK : Hid (∀ p, p ∈ e0 → ruleB p.1 = true ∧ p.1.b.length ≤ 3) := hok
  have HC : Hid (OwnRules w lo (.slice a e0.length cap) e0) := hc
  clear hRd hok hc
  have HO0 : Hid (OwnRules (w.alloc (.cells #[] 66)) w.heap.size (.slice (some ⟨w.heap.size, 0, none⟩) 0 0) []) :=
    ⟨⟨rfl, Or.inr ⟨w.heap.size, 0, #[], rfl, Nat.le_refl _, heap_alloc_new w _, Nat.le_refl _, by unfold maxLen; omega, rfl, rfl⟩⟩, fun i p h => by simp at h, fun i j p q h => by simp at h, fun i p h => by simp at h⟩
  go_enter Tryd.func59, Tryd.ntmps59
  go_upto_block 0 with fail
  go_cut [5, 6] (fun v _ wx => ∃ (es : List (CR × Value)) (va : Option Addr) (vc : Nat), v = .slice va es.length vc ∧ 1 ≤ es.length ∧ es.length ≤ 3 ∧ Hid (SP wx w R P (.slice va es.length vc) es) ∧ Hid (∀ p, p ∈ es → ruleB p.1 = true ∧ p.1.b.length ≤ 3))
  case first =>
    go_wp2_with fail
    go_loopw [5, 6, 7] (fun v i _ wr => ∃ (k : Nat) (es : List (CR × Value)), k ≤ e0.length ∧ i = .int .i64 k ∧ Hid (OwnRules wr w.heap.size v es) ∧ es.map Prod.fst = (e0.map Prod.fst).take k ∧ Hid (Below w.heap.size w wr)) (fun _ i _ _ => e0.length - (intOf i).toNat)
    case atStart => exact ⟨0, [], Nat.zero_le _, rfl, HO0, rfl, (Below.refl _ _).alloc (Nat.le_refl _) _⟩
    case round =>
      obtain ⟨k, es, hk, rfl, HO, hes, HB⟩ := hrel
      obtain ⟨va, vc, hv, _⟩ := HO.out.shape
      subst hv
      by_cases hlt : k < e0.length
      · obtain ⟨p, hp⟩ : ∃ p, e0[k]? = some p := ⟨_, List.getElem?_eq_getElem hlt⟩
        obtain ⟨r, bv⟩ := p
        have HCr : Hid (OwnRules wr lo (.slice a e0.length cap) e0) := HC.out.below HB.out
        obtain ⟨g, rfl, hg, c5⟩ := HCr.out.five hp
        have HBV : Hid (wr.ownsRow lo 3 1 bv r.b.length (ints r.b)) := HCr.out.buf k _ hp
        have HRB : Hid (ruleB r = true ∧ r.b.length ≤ 3) := HOK.out _ (List.mem_of_getElem? hp)
        have HTK : Hid ((e0.map Prod.fst).take (k + 1) = (e0.map Prod.fst).take k ++ [r]) := by
          show _ = _
          rw [List.take_add_one, List.getElem?_map, hp]; rfl
        have HEL : Hid (es.length = k) := by
          show es.length = k
          have := congrArg List.length hes
          rw [List.length_map, List.length_take, List.length_map] at this
          omega
        have hsz := HB.out.size
        have c0 := c5 0 (by omega)
        have c1 := c5 1 (by omega)
        have c2 := c5 2 (by omega)
        have c3 := c5 3 (by omega)
        have c4 := c5 4 (by omega)
        simp only [Go.Proofs.YtammejplaeaocaaDoor.five, List.getElem?_cons_zero, List.getElem?_cons_succ, Nat.add_zero] at c0 c1 c2 c3 c4
        clear hp c5 HCr
        obtain ⟨xa, xc, hbv⟩ : ∃ xa xc, bv = .slice xa r.b.length xc := by
          rcases HBV.out.2 with ⟨hv, h0⟩ | ⟨g, cap, cur, hv, _⟩
          · exact ⟨none, 0, by rw [hv, h0]⟩
          · exact ⟨_, _, hv⟩
        subst hbv
        go_upto_region 5 with fail
        go_cut [7] (fun p wx => p = .pointer (some ⟨wr.heap.size, 0, none⟩) ∧ wx.heap.size = wr.heap.size + 1 ∧ Hid (wx.heap[wr.heap.size]? = some (.cells #[.int .i64 r.e, .int .i64 r.a, .int .i64 r.f, .int .i64 r.t, .slice xa r.b.length xc] 66 (0, 0))) ∧ Hid (Below wr.heap.size wr wx))
        case first =>
          go_wp2
          go_meet
          exact ⟨rfl, World.size_alloc _ _, heap_alloc_new wr _, (Below.refl _ _).alloc (Nat.le_refl _) _⟩
        case rest =>
          obtain ⟨rfl, s6, k6, B6⟩ := hcut
          clear c0 c1 c2 c3 c4
          go_upto_region 6 with fail
          go_cut [24] (fun _ wx => ∃ ya yc, Hid (wx.heap[wr.heap.size]? = some (.cells #[.int .i64 r.e, .int .i64 r.a, .int .i64 r.f, .int .i64 r.t, .slice ya r.b.length yc] 66 (0, 0)) ∧ wx.ownsRow (wr.heap.size + 1) 3 1 (.slice ya r.b.length yc) r.b.length (ints r.b) ∧ Below wr.heap.size wr wx))
          case first =>
            have hrow0 : (wc.alloc (.cells #[] 3)).ownsRow (wr.heap.size + 1) 3 1 (.slice (some ⟨wc.heap.size, 0, none⟩) 0 0) 0 [] := ⟨rfl, Or.inr ⟨wc.heap.size, 0, #[], rfl, by omega, heap_alloc_new wc _, Nat.le_refl _, by unfold maxLen; omega, rfl, rfl⟩⟩
            have hBA : Below wc.heap.size wc (wc.alloc (.cells #[] 3)) := (Below.refl _ _).alloc (Nat.le_refl _) _
            have hAz : (wc.alloc (.cells #[] 3)).heap.size = wc.heap.size + 1 := World.size_alloc _ _
            have kA := (hBA.block wr.heap.size (by omega)).trans k6.out
            have HBA : Hid (Below wr.heap.size wr (wc.alloc (.cells #[] 3))) := B6.out.trans (hBA.mono (by omega))
            have HBVA : Hid ((wc.alloc (.cells #[] 3)).ownsRow lo 3 1 (.slice xa r.b.length xc) r.b.length (ints r.b)) := own_below HBV.out HBA.out
            have c4 := blk_cell kA 4
            simp at c4
            have f4 := blk_frozen kA 4
            rw [s6] at hrow0
            have S6 : Hid (wc.heap.size = wr.heap.size + 1) := s6
            have HRS : Hid (r.b.length ≤ 3) := HRB.out.2
            have HROW0 : Hid ((wc.alloc (.cells #[] 3)).ownsRow (wr.heap.size + 1) 3 1 (.slice (some ⟨wr.heap.size + 1, 0, none⟩) 0 0) 0 []) := hrow0
            have HAZ6 : Hid ((wc.alloc (.cells #[] 3)).heap.size = wc.heap.size + 1) := hAz
            have HKA : Hid ((wc.alloc (.cells #[] 3)).heap[wr.heap.size]? = some (.cells #[.int .i64 r.e, .int .i64 r.a, .int .i64 r.f, .int .i64 r.t, .slice xa r.b.length xc] 66 (0, 0))) := kA
            clear hBA hrow0 hAz kA
            rcases HBVA.out.2 with ⟨hv, h0⟩ | ⟨g', cap', cur, hv, _⟩
            · have hz : r.b.length = 0 := h0
              have hb0 : r.b = [] := List.length_eq_zero_iff.1 hz
              injection hv with hv1 hv2 hv3
              subst hv1 hv3
              rw [hz] at c4
              have HZ : Hid (r.b.length = 0) := hz
              have HB0 : Hid (r.b = []) := hb0
              clear hv2 h0 hz hb0
              go_wp2_with (at_builtin; go_loud (refine wpList_append_own_none rfl _ _ 64 rfl (wr.heap.size + 1) 3 j0 1 Tryd.underlying64 hj (.slice (some ⟨wr.heap.size + 1, 0, none⟩) 0 0) 0 [] rfl HROW0.out rfl ?_))
              go_meet
              have hsc : (wc.setCell ⟨wr.heap.size, 4, none⟩ (.slice (some ⟨wr.heap.size + 1, 0, none⟩) 0 0)).heap.size = wr.heap.size + 1 := by rw [← S6.out]; simp [World.setCell]
              have hB7 : Below wr.heap.size wr (wc.setCell ⟨wr.heap.size, 4, none⟩ (.slice (some ⟨wr.heap.size + 1, 0, none⟩) 0 0)) := B6.out.setCell (Nat.le_refl _) _
              refine ⟨some ⟨wr.heap.size + 1, 0, none⟩, 0, ?_, ?_, hB7.alloc (by rw [hsc]; omega) _⟩
              · rw [((Below.refl _ _).alloc (Nat.le_refl _) _).block wr.heap.size (by rw [hsc]; omega), set_block k6.out 4, HZ.out]; rfl
              · rw [HZ.out, HB0.out]
                exact ⟨rfl, Or.inr ⟨wr.heap.size + 1, 0, #[], rfl, Nat.le_refl _, by have := heap_alloc_new (wc.setCell ⟨wr.heap.size, 4, none⟩ (.slice (some ⟨wr.heap.size + 1, 0, none⟩) 0 0)) (.cells #[] 3); rwa [hsc] at this, Nat.le_refl _, by unfold maxLen; omega, rfl, rfl⟩⟩
            · injection hv with hv1 hv2 hv3
              subst hv1 hv3
              clear hv2
              have hl3 := HRB.out.2
              have HNW : Hid (∀ j u, (ints r.b)[j]? = some u → (wc.alloc (.cells #[] 3)).cell? ((⟨g', 0, none⟩ : Addr).add j) = some u) := fun j u hj => by
                have hlt2 : j < r.b.length := by have := (List.getElem?_eq_some_iff.1 hj).1; simpa [ints] using this
                have := HBVA.out.cellAt j (by omega)
                have had : (⟨g', 0, none⟩ : Addr).add j = ⟨g', j, none⟩ := by
                  by_cases h0 : j = 0
                  · subst h0; simp [Addr.add]
                  · simp [Addr.add, h0]
                rw [had, this]; exact hj
              have HN1 : Hid (∀ u, u ∈ ints r.b → u.oneCell' = true) := fun u hu => by unfold ints at hu; obtain ⟨z, _, rfl⟩ := List.mem_map.1 hu; rfl
              have HNL : Hid ((ints r.b).length = r.b.length * 1) := by show _ = _; simp [ints]
              go_wp2_with (at_builtin; go_loud (refine wpList_append_own _ rfl _ _ 64 rfl (wr.heap.size + 1) 3 j0 (.int .i64 0) 1 8 Tryd.underlying64 hj jz0 jz1 jz2 rfl (by decide) _ _ _ rfl HROW0.out ⟨g', 0, none⟩ r.b.length xc (ints r.b) rfl HNL.out HNW.out HN1.out (by have := HRS.out; unfold maxLen; omega) (by have := HRS.out; omega) (by rw [HAZ6.out]; have := S6.out; omega) ?_; intro v' w3 hown' hgrow3 hnil3; have X3 : Hid (w3.ownsRow (wr.heap.size + 1) 3 1 v' r.b.length (ints r.b)) := (by have := hown'; rw [Nat.zero_add, List.nil_append] at this; exact this); have k3 := (hgrow3.block wr.heap.size (by rw [HAZ6.out]; have := S6.out; omega) (fun e => absurd (Option.some.inj e : wr.heap.size = wr.heap.size + 1) (Nat.ne_of_lt (Nat.lt_succ_self _)))).trans HKA.out; have c43 : w3.cell? ⟨wr.heap.size, 4, none⟩ = some (.slice (some ⟨g', 0, none⟩) r.b.length xc) := blk_cell k3 4; have f43 : w3.frozen? ⟨wr.heap.size, 4, none⟩ = false := blk_frozen k3 4; have HK3 : Hid (w3.heap[wr.heap.size]? = some (.cells #[.int .i64 r.e, .int .i64 r.a, .int .i64 r.f, .int .i64 r.t, .slice (some ⟨g', 0, none⟩) r.b.length xc] 66 (0, 0))) := k3; have HB3 : Hid (Below wr.heap.size wr w3) := Below.grown HBA.out hgrow3 (by rw [HAZ6.out]; have := S6.out; omega) (fun j hj => by cases hj; exact Nat.le_succ _); obtain ⟨ya, yc, hya⟩ : ∃ ya yc, v' = .slice ya r.b.length yc := own_shape X3.out; subst hya; clear hown' hgrow3 hnil3 k3))
              go_meet
              exact ⟨ya, yc, by rw [set_block HK3.out 4]; rfl, ownsRow_setCell_below X3.out (by simp) _, HB3.out.setCell (Nat.le_refl _) _⟩
          case rest =>
            obtain ⟨ya, yc, H7⟩ := hcut
            clear s6 k6 B6
            have m0 := blk_cell H7.out.1 0
            have m1 := blk_cell H7.out.1 1
            have m2 := blk_cell H7.out.1 2
            have m3 := blk_cell H7.out.1 3
            have m4 := blk_cell H7.out.1 4
            simp at m0 m1 m2 m3 m4
            have hs7 := H7.out.2.2.size
            have HA : Hid (Below wc.heap.size wc (wc.alloc (.cells #[.int .i64 r.e, .int .i64 r.a, .int .i64 r.f, .int .i64 r.t, .slice ya r.b.length yc] 66))) := (Below.refl _ _).alloc (Nat.le_refl _) _
            have HAZ : Hid ((wc.alloc (.cells #[.int .i64 r.e, .int .i64 r.a, .int .i64 r.f, .int .i64 r.t, .slice ya r.b.length yc] 66)).heap.size = wc.heap.size + 1) := World.size_alloc _ _
            have HNEW : Hid (∀ j u, [Value.int .i64 r.e, .int .i64 r.a, .int .i64 r.f, .int .i64 r.t, .slice ya r.b.length yc][j]? = some u → (wc.alloc (.cells #[.int .i64 r.e, .int .i64 r.a, .int .i64 r.f, .int .i64 r.t, .slice ya r.b.length yc] 66)).cell? ((⟨wc.heap.size, 0, none⟩ : Addr).add j) = some u) := cell_five_new wc _ _ _ _ _ _
            have HO7 : Hid (OwnRules wc w.heap.size (.slice va es.length vc) es) := HO.out.below H7.out.2.2
            go_wp2_with (at_builtin; refine wpList_append_own _ rfl _ _ 23 rfl w.heap.size 66 i0 (.agg #[.int .i64 0, .int .i64 0, .int .i64 0, .int .i64 0, .slice none 0 0]) 5 56 Tryd.underlying23 hi hz0 hz1 hz2 rfl (by decide) _ _ _ rfl (own_below HO7.out.row HA.out) ⟨wc.heap.size, 0, none⟩ 1 1 [.int .i64 r.e, .int .i64 r.a, .int .i64 r.f, .int .i64 r.t, .slice ya r.b.length yc] rfl rfl HNEW.out (fun x hx => by simp at hx; rcases hx with rfl | rfl | rfl | rfl | rfl <;> rfl) (by have := HEL.out; unfold maxLen; omega) (by have := HEL.out; omega) (by rw [HAZ.out]; omega) ?_; intro v' w3 hown' hgrow3 hnil3; have X3 : Hid (OwnRules w3 w.heap.size v' (es ++ [(r, .slice ya r.b.length yc)]) ∧ Below w.heap.size w w3) := ⟨(HO7.out.below HA.out).snoc (own_below H7.out.2.1 HA.out) (by omega) (fun i p hp k hk => by have := HO.out.lt i p hp k hk; omega) (ruleB_in HRB.out.1) hown' hgrow3, Below.grown (HB.out.trans ((H7.out.2.2.mono hsz).trans (HA.out.mono (by omega)))) hgrow3 (by rw [HAZ.out]; omega) (fun j hj => (HO7.out.row.lt _ hj).1)⟩; clear hown' hgrow3 hnil3)
            go_roundw
            case rel => exact ⟨k + 1, es ++ [(r, Value.slice ya r.b.length yc)], by omega, by go_num, X3.out.1, by rw [List.map_append, hes, HTK.out]; rfl, X3.out.2⟩
            case measure => simp [intOf]; omega
      · have hke : k = e0.length := by omega
        have hes2 : es.map Prod.fst = e0.map Prod.fst := by rw [hes]; exact List.take_of_length_le (by rw [List.length_map]; omega)
        have hel : es.length = e0.length := by have := congrArg List.length hes2; rw [List.length_map, List.length_map] at this; exact this
        have HSP : Hid (SP wr w R P (.slice va es.length vc) es) := ⟨HO.out, HRD.out.below HB.out, ⟨HB.out.os, HB.out.tape, HB.out.output, HB.out.size, fun k hk _ => HB.out.block k hk⟩, hR⟩
        have HOK2 : Hid (∀ p, p ∈ es → ruleB p.1 = true ∧ p.1.b.length ≤ 3) := fun p hp => by
          have hm : p.1 ∈ e0.map Prod.fst := by rw [← hes2]; exact List.mem_map_of_mem hp
          obtain ⟨q, hq, he⟩ := List.mem_map.1 hm
          rw [← he]; exact HOK.out q hq
        have hm1 : 1 ≤ es.length := by omega
        have hm3 : es.length ≤ 3 := by omega
        clear hes hes2 hel
        go_wp2
        go_meet
        exact ⟨es, va, vc, rfl, hm1, hm3, HSP, HOK2⟩
  case rest =>
    obtain ⟨es, va, vc, rfl, m1, m3, HS, HK⟩ := hcut
    clear HO0 HC HRD HOK n1 n3
    go_wp2_with fail
    refine (pick_any R P es.length _ HS.out.rd (by omega) (by omega) (by omega)).mono ?_
    rintro e w1 ⟨v1, rfl, a1, b1, hRd1, g1, z1⟩
    have HS1 : Hid (SP w1 w R (P + 1) (.slice va es.length vc) es) := HS.out.pick hRd1 g1
    obtain ⟨k, rfl⟩ : ∃ k : Nat, v1 = (k : Int) := ⟨v1.toNat, by omega⟩
    have hk : k < es.length := by omega
    clear HS hRd1 g1 z1 a1 b1
    go_wp2_with fail
    refine (pick_any R (P + 1) 8 _ HS1.out.rd (by omega) (by omega) (by omega)).mono ?_
    rintro e w2 ⟨v2, rfl, a2, b2, hRd2, g2, z2⟩
    have HS2 : Hid (SP w2 w R (P + 2) (.slice va es.length vc) es) := HS1.out.pick hRd2 g2
    clear HS1 hRd2 g2 z2
    obtain ⟨⟨r, bv⟩, hp⟩ : ∃ p, es[k]? = some p := ⟨_, List.getElem?_eq_getElem hk⟩
    have HP : Hid (es[k]? = some (r, bv)) := hp
    have HRB : Hid (ruleB r = true ∧ r.b.length ≤ 3) := HK.out _ (List.mem_of_getElem? hp)
    obtain ⟨g, rfl, hg, hg2, c5, f5⟩ := HS2.out.sq.five hp
    clear hp c5 f5 hg2
    go_upto_block 2 with fail
    go_cut [5] (fun v wx => Done w R P v wx)
    case rest =>
      go_wp2
      go_ret
      exact hcut.answer
    case first =>
      clear HK
      rcases (show v2 = 0 ∨ v2 = 1 ∨ v2 = 2 ∨ v2 = 3 ∨ v2 = 4 ∨ v2 = 5 ∨ v2 = 6 ∨ v2 = 7 by omega) with rfl | rfl | rfl | rfl | rfl | rfl | rfl | rfl
      · obtain ⟨L, hL⟩ : ∃ L, L = w2.alloc (.cells #[.int .i64 0, .int .i64 (-1), .int .i64 1000, .int .i64 1001] 3) := ⟨_, rfl⟩
        have HSL : Hid (SP L w R (P + 2) (.slice (some ⟨g, 0, none⟩) es.length vc) es) := by rw [hL]; exact HS2.out.alloc _
        have kL : L.heap[w2.heap.size]? = some (.cells #[.int .i64 0, .int .i64 (-1), .int .i64 1000, .int .i64 1001] 3 (0, 0)) := by rw [hL]; exact heap_alloc_new _ _
        have hRw := HS2.out.fr.size
        clear HS2
        go_wp2_with fail
        rw [← hL]
        clear hL
        refine (pick_any R (P + 2) 4 L HSL.out.rd (by omega) (by omega) (by omega)).mono ?_
        rintro e w3 ⟨v3, rfl, a3, b3, hRd3, g3, z3⟩
        have HS3 : Hid (SP w3 w R (P + 3) (.slice (some ⟨g, 0, none⟩) es.length vc) es) := HSL.out.pick hRd3 g3
        have k3 := (g3.block w2.heap.size (Array.getElem?_eq_some_iff.1 kL).1 (fun e => by injection e with e; omega)).trans kL
        clear HSL kL hRd3 g3 z3 hRw
        obtain ⟨j, rfl⟩ : ∃ j : Nat, v3 = (j : Int) := ⟨v3.toNat, by omega⟩
        have hj4 : j < 4 := by omega
        obtain ⟨z, hz, y1, y2⟩ : ∃ z : Int, w3.cell? ⟨w2.heap.size, j, none⟩ = some (.int .i64 z) ∧ -1 ≤ z ∧ z ≤ 1001 := by
          have hc : ∀ i, w3.cell? ⟨w2.heap.size, i, none⟩ = (#[Value.int .i64 0, .int .i64 (-1), .int .i64 1000, .int .i64 1001] : Array Value)[i]? := fun i => blk_cell k3 i
          rw [hc]
          match j, hj4 with
          | 0, _ => exact ⟨_, rfl, by omega, by omega⟩
          | 1, _ => exact ⟨_, rfl, by omega, by omega⟩
          | 2, _ => exact ⟨_, rfl, by omega, by omega⟩
          | 3, _ => exact ⟨_, rfl, by omega, by omega⟩
          | n + 4, h => omega
        clear k3
        obtain ⟨g', hge, _, _, c5, f5⟩ := HS3.out.sq.five HP.out
        injection hge with hge
        injection hge with hge _ _
        subst hge
        have c0 := c5 0 (by omega)
        have f0 := f5 (k * 5 + 0)
        simp only [Go.Proofs.YtammejplaeaocaaDoor.five, List.getElem?_cons_zero, Nat.add_zero] at c0 f0
        clear c5 f5
        go_wp2
        go_meet
        exact HS3.out.number (f := 0) HP.out m3 (by omega) hg (by omega) rfl ⟨by omega, by omega⟩
      · have hL : ∀ x, x ∈ ([-1, r.e] : List Int) → In64 x := fun x hx => by
          have h1 := (HS2.out.own.rng k _ HP.out).1.1
          simp only [List.mem_cons, List.not_mem_nil, or_false] at hx
          rcases hx with rfl | rfl
          · exact ⟨by omega, by omega⟩
          · exact h1
        have HL : Hid (∀ x, x ∈ ([-1, r.e] : List Int) → In64 x) := hL
        obtain ⟨g', hge, _, _, c5, f5⟩ := HS2.out.sq.five HP.out
        injection hge with hge
        injection hge with hge _ _
        subst hge
        have c0 := c5 0 (by omega)
        simp only [Go.Proofs.YtammejplaeaocaaDoor.five, List.getElem?_cons_zero, Nat.add_zero] at c0
        have hRw : R < w2.heap.size := by have := HS2.out.fr.size; omega
        have HX : Hid (∀ (W : World), Rd W R (P + 2) → Calls Tryd.prog 39 #[.pointer (some ⟨R, 0, none⟩), .int .i64 2] W fun e w' => PickV R 2 (P + 2) W e w') := fun W h => pick_any R (P + 2) 2 W h (by omega) (by omega) (by omega)
        clear c5 f5 hL
        go_wp2_with fail
        go_region_law
          (first
            | (go_simp; refine (HX.out _ ?rd).mono ?_; (case rd => first | exact HS2.out.rd | exact (HS2.out.alloc _).rd); rintro e w3 ⟨v3, rfl, a3, b3, hRd3, g3, z3⟩; obtain ⟨j, rfl⟩ : ∃ j : Nat, v3 = (j : Int) := ⟨v3.toNat, by omega⟩; have hj2 : j < 2 := (by omega); (first | (have HS3 : Hid (SP w3 w R (P + 3) (.slice (some ⟨g, 0, none⟩) es.length vc) es) := HS2.out.pick hRd3 (grown_like g3 rfl rfl rfl rfl); have kx : ∀ h, ([Value.int .i64 (-1), Value.int .i64 r.e] : List Value)[j]'h = .int .i64 (nth [-1, r.e] j) := fun h => nth_get [-1, r.e] h) | (have gx := grown_like (A := w2.alloc (.cells ([-1, r.e].map (Value.int .i64)).toArray 3)) g3 rfl rfl rfl rfl; have HS3 : Hid (SP w3 w R (P + 3) (.slice (some ⟨g, 0, none⟩) es.length vc) es) := (HS2.out.alloc _).pick hRd3 gx; have kx := nth_kept [-1, r.e] gx hRw hj2; clear gx)); obtain ⟨_, hgf, _, hgl, c5, f5⟩ := HS3.out.sq.five HP.out; injection hgf with hgf; injection hgf with hgf _ _; subst hgf; have c30 : w3.cell? ⟨g, k * 5, none⟩ = some (.int .i64 r.e) := c5 0 (by omega); have c31 : w3.cell? ⟨g, k * 5 + 1, none⟩ = some (.int .i64 r.a) := c5 1 (by omega); have f31 := f5 (k * 5 + 1); have c32 : ∀ o, (w3.alloc o).cell? ⟨g, k * 5 + 1, none⟩ = some (.int .i64 r.a) := (fun o => (World.cell?_alloc_lt w3 o ⟨g, k * 5 + 1, none⟩ hgl).trans c31); have f32 : ∀ o, (w3.alloc o).frozen? ⟨g, k * 5 + 1, none⟩ = false := (fun o => (((Below.refl w3.heap.size w3).alloc (Nat.le_refl _) o).frozen (p := ⟨g, k * 5 + 1, none⟩) hgl).trans f31); clear c5 f5 g3 hRd3; simp only []))
        all_goals go_wp2
        all_goals go_meet
        all_goals first
          | exact HS3.out.number (f := 1) HP.out m3 (by omega) hg (by omega) rfl (nth_in hj2 HL.out)
          | exact (HS3.out.number (f := 1) HP.out m3 (by omega) hg (by omega) rfl (nth_in hj2 HL.out)).alloc _
      · have hrt := (ruleB_head HRB.out.1).2.2.2
        have hL : ∀ x, x ∈ ([-1, r.t, r.t + 1] : List Int) → In64 x := fun x hx => by
          simp only [List.mem_cons, List.not_mem_nil, or_false] at hx
          unfold In64
          omega
        have hwr : IntKind.i64.wrap (r.t + 1) = r.t + 1 := by rw [IntKind.wrap_i64]; omega
        have HL : Hid (∀ x, x ∈ ([-1, r.t, r.t + 1] : List Int) → In64 x) := hL
        obtain ⟨g', hge, _, _, c5, f5⟩ := HS2.out.sq.five HP.out
        injection hge with hge
        injection hge with hge _ _
        subst hge
        have c0 : w2.cell? ⟨g, k * 5 + 3, none⟩ = some (.int .i64 r.t) := c5 3 (by omega)
        have hRw : R < w2.heap.size := by have := HS2.out.fr.size; omega
        have HX : Hid (∀ (W : World), Rd W R (P + 2) → Calls Tryd.prog 39 #[.pointer (some ⟨R, 0, none⟩), .int .i64 3] W fun e w' => PickV R 3 (P + 2) W e w') := fun W h => pick_any R (P + 2) 3 W h (by omega) (by omega) (by omega)
        clear c5 f5 hL
        go_wp2_with fail
        go_region_law
          (first
            | (go_simp; refine (HX.out _ ?rd).mono ?_; (case rd => first | exact HS2.out.rd | exact (HS2.out.alloc _).rd); rintro e w3 ⟨v3, rfl, a3, b3, hRd3, g3, z3⟩; obtain ⟨j, rfl⟩ : ∃ j : Nat, v3 = (j : Int) := ⟨v3.toNat, by omega⟩; have hj2 : j < 3 := (by omega); (first | (have HS3 : Hid (SP w3 w R (P + 3) (.slice (some ⟨g, 0, none⟩) es.length vc) es) := HS2.out.pick hRd3 (grown_like g3 rfl rfl rfl rfl); have kx : ∀ h, ([Value.int .i64 (-1), Value.int .i64 r.t, Value.int .i64 (r.t + 1)] : List Value)[j]'h = .int .i64 (nth [-1, r.t, r.t + 1] j) := fun h => nth_get [-1, r.t, r.t + 1] h) | (have gx := grown_like (A := w2.alloc (.cells ([-1, r.t, r.t + 1].map (Value.int .i64)).toArray 3)) g3 rfl rfl rfl rfl; have HS3 : Hid (SP w3 w R (P + 3) (.slice (some ⟨g, 0, none⟩) es.length vc) es) := (HS2.out.alloc _).pick hRd3 gx; have kx := nth_kept [-1, r.t, r.t + 1] gx hRw hj2; clear gx)); obtain ⟨_, hgf, _, hgl, c5, f5⟩ := HS3.out.sq.five HP.out; injection hgf with hgf; injection hgf with hgf _ _; subst hgf; have c30 : w3.cell? ⟨g, k * 5 + 3, none⟩ = some (.int .i64 r.t) := c5 3 (by omega); have c31 : w3.cell? ⟨g, k * 5 + 2, none⟩ = some (.int .i64 r.f) := c5 2 (by omega); have f31 := f5 (k * 5 + 2); have c32 : ∀ o, (w3.alloc o).cell? ⟨g, k * 5 + 2, none⟩ = some (.int .i64 r.f) := (fun o => (World.cell?_alloc_lt w3 o ⟨g, k * 5 + 2, none⟩ hgl).trans c31); have f32 : ∀ o, (w3.alloc o).frozen? ⟨g, k * 5 + 2, none⟩ = false := (fun o => (((Below.refl w3.heap.size w3).alloc (Nat.le_refl _) o).frozen (p := ⟨g, k * 5 + 2, none⟩) hgl).trans f31); clear c5 f5 g3 hRd3; simp only []))
        all_goals go_wp2
        all_goals go_meet
        all_goals first
          | exact HS3.out.number (f := 2) HP.out m3 (by omega) hg (by omega) rfl (nth_in hj2 HL.out)
          | exact (HS3.out.number (f := 2) HP.out m3 (by omega) hg (by omega) rfl (nth_in hj2 HL.out)).alloc _
      · obtain ⟨L, hL⟩ : ∃ L, L = w2.alloc (.cells #[.int .i64 100000, .int .i64 100001] 3) := ⟨_, rfl⟩
        have HSL : Hid (SP L w R (P + 2) (.slice (some ⟨g, 0, none⟩) es.length vc) es) := by rw [hL]; exact HS2.out.alloc _
        have kL : L.heap[w2.heap.size]? = some (.cells #[.int .i64 100000, .int .i64 100001] 3 (0, 0)) := by rw [hL]; exact heap_alloc_new _ _
        have hRw := HS2.out.fr.size
        clear HS2
        go_wp2_with fail
        rw [← hL]
        clear hL
        refine (pick_any R (P + 2) 2 L HSL.out.rd (by omega) (by omega) (by omega)).mono ?_
        rintro e w3 ⟨v3, rfl, a3, b3, hRd3, g3, z3⟩
        have HS3 : Hid (SP w3 w R (P + 3) (.slice (some ⟨g, 0, none⟩) es.length vc) es) := HSL.out.pick hRd3 g3
        have k3 := (g3.block w2.heap.size (Array.getElem?_eq_some_iff.1 kL).1 (fun e => by injection e with e; omega)).trans kL
        clear HSL kL hRd3 g3 z3 hRw
        obtain ⟨j, rfl⟩ : ∃ j : Nat, v3 = (j : Int) := ⟨v3.toNat, by omega⟩
        have hj4 : j < 2 := by omega
        obtain ⟨z, hz, y1, y2⟩ : ∃ z : Int, w3.cell? ⟨w2.heap.size, j, none⟩ = some (.int .i64 z) ∧ 0 ≤ z ∧ z ≤ 100001 := by
          have hc : ∀ i, w3.cell? ⟨w2.heap.size, i, none⟩ = (#[Value.int .i64 100000, .int .i64 100001] : Array Value)[i]? := fun i => blk_cell k3 i
          rw [hc]
          match j, hj4 with
          | 0, _ => exact ⟨_, rfl, by omega, by omega⟩
          | 1, _ => exact ⟨_, rfl, by omega, by omega⟩
          | n + 2, h => omega
        clear k3
        obtain ⟨g', hge, _, _, c5, f5⟩ := HS3.out.sq.five HP.out
        injection hge with hge
        injection hge with hge _ _
        subst hge
        have c0 := c5 3 (by omega)
        have f0 := f5 (k * 5 + 3)
        simp only [Go.Proofs.YtammejplaeaocaaDoor.five, List.getElem?_cons_zero, List.getElem?_cons_succ] at c0 f0
        clear c5 f5
        go_wp2
        go_meet
        exact HS3.out.number (f := 3) HP.out m3 (by omega) hg (by omega) rfl ⟨by omega, by omega⟩
      · have HL : Hid (∀ x, x ∈ ([0, -1, 100000, 100001] : List Int) → In64 x) := fun x hx => by
          simp only [List.mem_cons, List.not_mem_nil, or_false] at hx
          unfold In64
          omega
        have HB3 : Hid (r.b.length ≤ 3) := HRB.out.2
        obtain ⟨g', hge, _, _, c5, f5⟩ := HS2.out.sq.five HP.out
        injection hge with hge
        injection hge with hge _ _
        subst hge
        have c0 : w2.cell? ⟨g, k * 5 + 4, none⟩ = some bv := c5 4 (by omega)
        have hRw : R < w2.heap.size := by have := HS2.out.fr.size; omega
        have HX : Hid (∀ (W : World), Rd W R (P + 2) → Calls Tryd.prog 39 #[.pointer (some ⟨R, 0, none⟩), .int .i64 4] W fun e w' => PickV R 4 (P + 2) W e w') := fun W h => pick_any R (P + 2) 4 W h (by omega) (by omega) (by omega)
        clear c5 f5
        go_wp2_with fail
        go_region_law
          (first
            | (refine step_append_lies _ (by rfl) _ _ _ (by rfl) w.heap.size 3 j0 _ 1 8 Tryd.underlying64 hj jz0 jz1 jz2 rfl (by omega) bv r.b.length _ (by rfl) ((HS3.out.alloc _).own.buf k _ HP.out)
                ⟨w3.heap.size, 0, none⟩ 1 1 [.int .i64 (nth [0, -1, 100000, 100001] j)] (by rfl) (by rfl) (World.news_of_block (cs := #[.int .i64 (nth [0, -1, 100000, 100001] j)]) (t := 3) (fr := (0, 0)) (heap_alloc_new w3 _)) (by simp [Value.oneCell'])
                (by omega) (by have := HB3.out; unfold maxLen; omega) (by have := HB3.out; omega) (by simp; omega) (w3.heap.size + 1) (by simp) ?_; intro gg cap' wn hown1 hgrow hat hlt1; have HSX : Hid (SP (w3.alloc (.cells #[.int .i64 (nth [0, -1, 100000, 100001] j)] 3)) w R (P + 3) (.slice (some ⟨g, 0, none⟩) es.length vc) es) := HS3.out.alloc _; have HGX : Hid ((w3.alloc (.cells #[.int .i64 (nth [0, -1, 100000, 100001] j)] 3)).grownBy wn bv.ownBlock) := grown_like hgrow rfl rfl rfl rfl; have HSZ : Hid ((w3.alloc (.cells #[.int .i64 (nth [0, -1, 100000, 100001] j)] 3)).heap.size = w3.heap.size + 1) := World.size_alloc _ _; have HOW : Hid (wn.ownsRow w.heap.size 3 1 (.slice (some ⟨gg, 0, none⟩) (r.b.length + 1) cap') (r.b.length + 1) (ints r.b ++ [Value.int .i64 (nth [0, -1, 100000, 100001] j)])) := hown1; have hcn := (HSX.out.row_far HP.out HGX.out).1; have hfn := (HSX.out.row_far HP.out HGX.out).2; clear hgrow hown1)
            | (refine step_append_lies _ (by rfl) _ _ _ (by rfl) w.heap.size 3 j0 _ 1 8 Tryd.underlying64 hj jz0 jz1 jz2 rfl (by omega) bv r.b.length _ (by rfl) (((HS3.out.alloc _).alloc _).own.buf k _ HP.out)
                ⟨w3.heap.size + 1, 0, none⟩ 1 1 [.int .i64 (nth [0, -1, 100000, 100001] j)] (by rfl) (by rfl) (World.news_of_block (cs := #[.int .i64 (nth [0, -1, 100000, 100001] j)]) (t := 3) (fr := (0, 0)) (new_second w3 _ _)) (by simp [Value.oneCell'])
                (by omega) (by have := HB3.out; unfold maxLen; omega) (by have := HB3.out; omega) (by simp; omega) (w3.heap.size + 2) (by simp) ?_; intro gg cap' wn hown1 hgrow hat hlt1; have HSX : Hid (SP ((w3.alloc (.cells #[.int .i64 0, .int .i64 (-1), .int .i64 100000, .int .i64 100001] 3)).alloc (.cells #[.int .i64 (nth [0, -1, 100000, 100001] j)] 3)) w R (P + 3) (.slice (some ⟨g, 0, none⟩) es.length vc) es) := (HS3.out.alloc _).alloc _; have HGX : Hid (((w3.alloc (.cells #[.int .i64 0, .int .i64 (-1), .int .i64 100000, .int .i64 100001] 3)).alloc (.cells #[.int .i64 (nth [0, -1, 100000, 100001] j)] 3)).grownBy wn bv.ownBlock) := grown_like hgrow rfl rfl rfl rfl; have HSZ : Hid (((w3.alloc (.cells #[.int .i64 0, .int .i64 (-1), .int .i64 100000, .int .i64 100001] 3)).alloc (.cells #[.int .i64 (nth [0, -1, 100000, 100001] j)] 3)).heap.size = w3.heap.size + 2) := (by show _ = _; rw [World.size_alloc, World.size_alloc]); have HOW : Hid (wn.ownsRow w.heap.size 3 1 (.slice (some ⟨gg, 0, none⟩) (r.b.length + 1) cap') (r.b.length + 1) (ints r.b ++ [Value.int .i64 (nth [0, -1, 100000, 100001] j)])) := hown1; have hcn := (HSX.out.row_far HP.out HGX.out).1; have hfn := (HSX.out.row_far HP.out HGX.out).2; clear hgrow hown1)
            | (go_simp; refine (HX.out _ ?rd).mono ?_; (case rd => first | exact HS2.out.rd | exact (HS2.out.alloc _).rd); rintro e w3 ⟨v3, rfl, a3, b3, hRd3, g3, z3⟩; obtain ⟨j, rfl⟩ : ∃ j : Nat, v3 = (j : Int) := ⟨v3.toNat, by omega⟩; have hj2 : j < 4 := (by omega); (first | (have HS3 : Hid (SP w3 w R (P + 3) (.slice (some ⟨g, 0, none⟩) es.length vc) es) := HS2.out.pick hRd3 (grown_like g3 rfl rfl rfl rfl); have kx : ∀ h, ([Value.int .i64 0, Value.int .i64 (-1), Value.int .i64 100000, Value.int .i64 100001] : List Value)[j]'h = .int .i64 (nth [0, -1, 100000, 100001] j) := fun h => nth_get [0, -1, 100000, 100001] h) | (have gx := grown_like (A := w2.alloc (.cells ([0, -1, 100000, 100001].map (Value.int .i64)).toArray 3)) g3 rfl rfl rfl rfl; have HS3 : Hid (SP w3 w R (P + 3) (.slice (some ⟨g, 0, none⟩) es.length vc) es) := (HS2.out.alloc _).pick hRd3 gx; have kx := nth_kept [0, -1, 100000, 100001] gx hRw hj2; clear gx)); obtain ⟨_, hgf, _, hgl, c5, f5⟩ := HS3.out.sq.five HP.out; injection hgf with hgf; injection hgf with hgf _ _; subst hgf; have c30 : w3.cell? ⟨g, k * 5 + 4, none⟩ = some bv := c5 4 (by omega); clear c5 f5 g3 hRd3 z3; simp only []))
        all_goals go_wp2
        all_goals go_meet
        all_goals exact ((HSX.out.more HP.out hg HOW.out HGX.out (hat.imp id (fun e => e.trans HSZ.out.symm)) (nth_in hj2 HL.out)).sq).done (by rw [List.length_set]; omega) (by omega)
      · obtain ⟨xa, xc, hbv⟩ := own_shape (HS2.out.own.buf k _ HP.out)
        have hbv2 : bv = .slice xa r.b.length xc := hbv
        subst hbv2
        have HX : Hid (∀ (W : World) (n : Nat), n ≤ 9 → Rd W R (P + 2 + n) → Calls Tryd.prog 39 #[.pointer (some ⟨R, 0, none⟩), .int .i64 2] W fun e w' => PickV R 2 (P + 2 + n) W e w') := fun W n hn h => pick_any R (P + 2 + n) 2 W h (by omega) (by omega) (by omega)
        have HB3 : Hid (r.b.length ≤ 3) := HRB.out.2
        go_wp2_with fail
        go_loopw [9] (fun iv wr => ∃ (n : Nat) (r' : CR) (ya : Option Addr) (yc : Nat) (es' : List (CR × Value)), iv = .int .i64 n ∧ n ≤ 9 ∧ Hid (r'.b.length ≤ 9 ∧ n ≤ r'.b.length) ∧ Hid (es'.length = es.length) ∧ Hid (es'[k]? = some (r', .slice ya r'.b.length yc)) ∧ Hid (SP wr w R (P + 2 + n) (.slice (some ⟨g, 0, none⟩) es.length vc) es')) (fun iv _ => 10 - (intOf iv).toNat)
        case atStart => exact ⟨0, r, xa, xc, es, rfl, by omega, ⟨by have := HB3.out; omega, Nat.zero_le _⟩, rfl, HP.out, HS2.out⟩
        case round =>
          obtain ⟨n, r', ya, yc, es', rfl, hn, HN, HE, HP', HSr⟩ := hrel
          clear HS2 HP HRB HB3
          obtain ⟨g', hge, _, hgw, c5, f5⟩ := HSr.out.sq.five HP'.out
          injection hge with hge
          injection hge with hge _ _
          subst hge
          have c0 : wr.cell? ⟨g, k * 5 + 4, none⟩ = some (.slice ya r'.b.length yc) := c5 4 (by omega)
          clear c5 f5
          go_upto_region 23 with fail
          go_cut [126] (fun v wx => ∃ b : Bool, v = .bool b ∧ Hid (b = true → r'.b.length < 9) ∧ Hid (SP wx w R (P + 3 + n) (.slice (some ⟨g, 0, none⟩) es.length vc) es'))
          case first =>
            go_region_law
              (first
                | (go_simp; refine (HX.out _ n hn ?rd).mono ?_; (case rd => exact HSr.out.rd); rintro e w3 ⟨v3, rfl, a3, b3, hRd3, g3, z3⟩; have HS3 : Hid (SP w3 w R (P + 3 + n) (.slice (some ⟨g, 0, none⟩) es.length vc) es') := (HSr.out.pick hRd3 (grown_like g3 rfl rfl rfl rfl)).mono (by omega); obtain ⟨_, hgf, _, hgl, c5, f5⟩ := HS3.out.sq.five HP'.out; injection hgf with hgf; injection hgf with hgf _ _; subst hgf; have c30 : w3.cell? ⟨g, k * 5 + 4, none⟩ = some (.slice ya r'.b.length yc) := c5 4 (by omega); clear c5 f5 g3 hRd3 z3; simp only []))
            all_goals go_wp2
            all_goals go_meet
            all_goals exact ⟨_, rfl, fun h => by simp only [decide_eq_true_eq, IntKind.wrap_i64] at h; omega, HS3⟩
          case rest =>
            obtain ⟨b, rfl, HB, HSc⟩ := hcut
            clear HSr c0
            cases b with
            | false =>
              go_wp2
              go_meet
              exact HSc.out.sq.done (by have := HE.out; omega) (by omega)
            | true =>
              have hlt9 : r'.b.length < 9 := HB.out rfl
              have hn8 := HN.out.2
              have HL9 : Hid (r'.b.length < 9) := hlt9
              have HN8 : Hid (n ≤ r'.b.length) := hn8
              have HSX : Hid (SP (wc.alloc (.cells #[.int .i64 (500 + n)] 3)) w R (P + 3 + n) (.slice (some ⟨g, 0, none⟩) es.length vc) es') := HSc.out.alloc _
              have HBF : Hid ((wc.alloc (.cells #[.int .i64 (500 + n)] 3)).ownsRow w.heap.size 3 1 (.slice ya r'.b.length yc) r'.b.length (ints r'.b)) := HSX.out.own.buf k _ HP'.out
              have HSZ : Hid ((wc.alloc (.cells #[.int .i64 (500 + n)] 3)).heap.size = wc.heap.size + 1) := World.size_alloc _ _
              have HNEW : Hid (∀ j u, [Value.int .i64 (500 + n)][j]? = some u → (wc.alloc (.cells #[.int .i64 (500 + n)] 3)).cell? ((⟨wc.heap.size, 0, none⟩ : Addr).add j) = some u) := World.news_of_block (cs := #[.int .i64 (500 + n)]) (t := 3) (fr := (0, 0)) (heap_alloc_new wc _)
              obtain ⟨g'', hge, _, hgc, c5, f5⟩ := HSc.out.sq.five HP'.out
              injection hge with hge
              injection hge with hge _ _
              subst hge
              have c0 : wc.cell? ⟨g, k * 5 + 4, none⟩ = some (.slice ya r'.b.length yc) := c5 4 (by omega)
              have HWB : Hid (w.heap.size ≤ wc.heap.size) := HSc.out.fr.size
              clear c5 f5 hlt9 hn8 HB
              go_wp2_with (at_builtin; go_loud (refine wpList_append_lies _ rfl _ _ 64 rfl w.heap.size 3 j0 (.int .i64 0) 1 8 Tryd.underlying64 hj jz0 jz1 jz2 rfl (by decide) (.slice ya r'.b.length yc) r'.b.length (ints r'.b) rfl HBF.out ⟨wc.heap.size, 0, none⟩ 1 1 [.int .i64 (500 + n)] rfl rfl HNEW.out (by simp [Value.oneCell']) (by omega) (by have := HL9.out; unfold maxLen; omega) (by have := HL9.out; omega) (by rw [HSZ.out]; have := HWB.out; omega) (wc.heap.size + 1) HSZ.out ?_; intro gg cap' wn hown1 hgrow hat hlt1; have HGX : Hid ((wc.alloc (.cells #[.int .i64 (500 + n)] 3)).grownBy wn (Value.slice ya r'.b.length yc).ownBlock) := hgrow; have HOW : Hid (wn.ownsRow w.heap.size 3 1 (.slice (some ⟨gg, 0, none⟩) (r'.b.length + 1) cap') (r'.b.length + 1) (ints r'.b ++ [Value.int .i64 (500 + n)])) := hown1; have HAT : Hid ((Value.slice ya r'.b.length yc).ownBlock = some gg ∨ gg = wc.heap.size + 1) := hat; have HSE : Hid (SP (wc.alloc (.cells #[.int .i64 (500 + n)] 3)) w R (P + 3 + n) (.slice (some ⟨g, 0, none⟩) es'.length vc) es') := (by have := HSX.out; rw [← HE.out] at this; exact this); have hcn := (HSE.out.row_far HP'.out HGX.out).1; have hfn := (HSE.out.row_far HP'.out HGX.out).2; clear hgrow hown1 hat))
              go_roundw
              case rel =>
                refine ⟨n + 1, ⟨r'.e, r'.a, r'.f, r'.t, r'.b ++ [500 + (n : Int)]⟩, some ⟨gg, 0, none⟩, cap', es'.set k (⟨r'.e, r'.a, r'.f, r'.t, r'.b ++ [500 + (n : Int)]⟩, .slice (some ⟨gg, 0, none⟩) (r'.b.length + 1) cap'), by go_num, by have := HL9.out; have := HN8.out; omega, ⟨?_, ?_⟩, ?_, ?_, ?_⟩
                · have := HL9.out; simp; omega
                · have := HN8.out; simp; omega
                · show _ = _; rw [List.length_set]; exact HE.out
                · show _ = _
                  rw [List.getElem?_set_self (List.getElem?_eq_some_iff.1 HP'.out).1]
                  simp
                · have := HSE.out.more HP'.out hg HOW.out HGX.out (HAT.out.imp id (fun e => e.trans HSZ.out.symm)) ⟨by omega, by omega⟩
                  rw [HE.out] at this
                  exact this.mono (by omega)
              case measure => simp [intOf]; have := HL9.out; have := HN8.out; omega
      · have HX : Hid (∀ (W : World) (n : Nat), n ≤ 9 → Rd W R (P + 2 + n) → Calls Tryd.prog 39 #[.pointer (some ⟨R, 0, none⟩), .int .i64 2] W fun e w' => PickV R 2 (P + 2 + n) W e w') := fun W n hn h => pick_any R (P + 2 + n) 2 W h (by omega) (by omega) (by omega)
        have HQ0 : Hid (SQ w2 w R (P + 2) (.slice (some ⟨g, 0, none⟩) es.length vc) es) := HS2.out.sq
        clear HP HRB HS2
        go_wp2_with fail
        go_loopw [5] (fun v wr => ∃ (n : Nat) (g' vc' : Nat) (es' : List (CR × Value)), v = .slice (some ⟨g', 0, none⟩) es'.length vc' ∧ n ≤ es'.length ∧ es'.length ≤ 5 ∧ 1 ≤ es'.length ∧ Hid (SQ wr w R (P + 2 + n) (.slice (some ⟨g', 0, none⟩) es'.length vc') es')) (fun v _ => 10 - slen v)
        case atStart => exact ⟨0, g, vc, es, rfl, Nat.zero_le _, by omega, by omega, HQ0.out⟩
        case round =>
          obtain ⟨n, g', vc', es', rfl, hn, h5, h1, HQ⟩ := hrel
          clear HQ0
          go_wp2_with fail
          refine (HX.out _ n (by omega) HQ.out.rd).mono ?_
          rintro e w3 ⟨v3, rfl, a3, b3, hRd3, g3, z3⟩
          have HQ3 : Hid (SQ w3 w R (P + 3 + n) (.slice (some ⟨g', 0, none⟩) es'.length vc') es') := (HQ.out.pick hRd3 g3).mono (by omega)
          clear HQ hRd3 g3 z3
          obtain ⟨⟨r, bv⟩, hp⟩ : ∃ p, es'[0]? = some p := ⟨_, List.getElem?_eq_getElem (by omega)⟩
          have HP : Hid (es'[0]? = some (r, bv)) := hp
          obtain ⟨g'', hge, hgw, hgl, c5, f5⟩ := HQ3.out.five hp
          injection hge with hge
          injection hge with hge _ _
          subst hge
          clear hp
          obtain ⟨xa, xc, hbv⟩ := own_shape (HQ3.out.buf 0 _ HP.out)
          have hbv2 : bv = .slice xa r.b.length xc := hbv
          subst hbv2
          have c0 : w3.cell? ⟨g', 0, none⟩ = some (.int .i64 r.e) := c5 0 (by omega)
          have c1 : w3.cell? ⟨g', 1, none⟩ = some (.int .i64 r.a) := c5 1 (by omega)
          have c2 : w3.cell? ⟨g', 2, none⟩ = some (.int .i64 r.f) := c5 2 (by omega)
          have c3 : w3.cell? ⟨g', 3, none⟩ = some (.int .i64 r.t) := c5 3 (by omega)
          have c4 : w3.cell? ⟨g', 4, none⟩ = some (.slice xa r.b.length xc) := c5 4 (by omega)
          clear c5 f5 hbv
          have hwr : IntKind.i64.wrap (4 + v3) = 4 + v3 := by rw [IntKind.wrap_i64]; omega
          by_cases hlt : (es'.length : Int) < 4 + v3
          · have hl4 : es'.length ≤ 4 := by omega
            have HL4 : Hid (es'.length ≤ 4) := hl4
            have HSX : Hid (SQ (w3.alloc (.cells #[.int .i64 r.e, .int .i64 r.a, .int .i64 r.f, .int .i64 r.t, .slice xa r.b.length xc] 66)) w R (P + 3 + n) (.slice (some ⟨g', 0, none⟩) es'.length vc') es') := HQ3.out.alloc _
            have HSZ : Hid ((w3.alloc (.cells #[.int .i64 r.e, .int .i64 r.a, .int .i64 r.f, .int .i64 r.t, .slice xa r.b.length xc] 66)).heap.size = w3.heap.size + 1) := World.size_alloc _ _
            have HNEW : Hid (∀ j u, [Value.int .i64 r.e, .int .i64 r.a, .int .i64 r.f, .int .i64 r.t, .slice xa r.b.length xc][j]? = some u → (w3.alloc (.cells #[.int .i64 r.e, .int .i64 r.a, .int .i64 r.f, .int .i64 r.t, .slice xa r.b.length xc] 66)).cell? ((⟨w3.heap.size, 0, none⟩ : Addr).add j) = some u) := cell_five_new w3 _ _ _ _ _ _
            have HWB : Hid (w.heap.size ≤ w3.heap.size) := HQ3.out.fr.size
            clear hl4
            go_wp2_with (at_builtin; go_loud (refine wpList_append_lies _ rfl _ _ 23 rfl w.heap.size 66 i0 (.agg #[.int .i64 0, .int .i64 0, .int .i64 0, .int .i64 0, .slice none 0 0]) 5 56 Tryd.underlying23 hi hz0 hz1 hz2 rfl (by decide) (.slice (some ⟨g', 0, none⟩) es'.length vc') es'.length (flat es') rfl HSX.out.row ⟨w3.heap.size, 0, none⟩ 1 1 [.int .i64 r.e, .int .i64 r.a, .int .i64 r.f, .int .i64 r.t, .slice xa r.b.length xc] rfl rfl HNEW.out (fun x hx => by simp at hx; rcases hx with rfl | rfl | rfl | rfl | rfl <;> rfl) (by omega) (by have := HL4.out; unfold maxLen; omega) (by have := HL4.out; omega) (by rw [HSZ.out]; have := HWB.out; omega) (w3.heap.size + 1) HSZ.out ?_; intro gg cap' wn hown1 hgrow hat hlt1; have HQN : Hid (SQ wn w R (P + 3 + n) (.slice (some ⟨gg, 0, none⟩) (es'.length + 1) cap') (es' ++ [(r, .slice xa r.b.length xc)])) := HSX.out.snoc HP.out hown1 hgrow; clear hgrow hown1 hat))
            go_roundw
            case rel =>
              refine ⟨n + 1, gg, cap', es' ++ [(r, .slice xa r.b.length xc)], by rw [List.length_append]; rfl, by simp; omega, by simp; have := HL4.out; omega, by simp, ?_⟩
              have := HQN.out.mono (P' := P + 2 + (n + 1)) (by omega)
              rw [List.length_append]
              exact this
            case measure => simp [slen]; have := HL4.out; omega
          · go_wp2
            go_meet
            exact HQ3.out.done h5 (by omega)
      · go_wp2
        go_ret
        exact (SQ.done (v := .slice (some ⟨w2.heap.size, 0, none⟩) 0 0) (es := []) ⟨⟨rfl, Or.inr ⟨w2.heap.size, 0, #[], rfl, HS2.out.fr.size, heap_alloc_new w2 _, Nat.le_refl _, by unfold maxLen; omega, rfl, rfl⟩⟩, fun i p h => by simp at h, fun i p h => by simp at h, (HS2.out.alloc _).rd, (HS2.out.alloc _).fr, hR⟩ (by simp) (by omega)).answer

end Go.Proofs.YtammejplaeaocaaDoor
