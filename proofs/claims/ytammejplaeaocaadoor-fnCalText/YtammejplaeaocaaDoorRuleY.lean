/-
  The specification's l1Rule reads the rule of words that have the form of one. Condition: the line has at most 1048576 bytes.
-/
import Derived.Test.YtammejplaeaocaaDoorRuleS
import Derived.Deep.DeepCutAuto
import Derived.Deep.RegionLaw
namespace Go.Proofs.YtammejplaeaocaaDoor
open Go.RowKit

theorem formS_parts {ws : List (List UInt8)} (h : formS ws = true) : 8 ≤ ws.length ∧ ws[0]?.getD [] = wEvery ∧ ws[2]?.getD [] = wAt ∧ ws[4]?.getD [] = wFrom ∧ ws[6]?.getD [] = wTo ∧ (ws.length = 8 ∨ ws[8]?.getD [] = wBut ∧ 9 < ws.length) := by
  unfold formS at h
  simp only [Bool.and_eq_true, decide_eq_true_eq] at h
  obtain ⟨⟨⟨⟨⟨h8, e0⟩, e2⟩, e4⟩, e6⟩, hr⟩ := h
  refine ⟨h8, e0, e2, e4, e6, ?_⟩
  by_cases h9 : ws.length = 8
  · exact Or.inl h9
  · right
    simp [show 8 < ws.length by omega] at hr
    refine ⟨?_, by have := hr.2; omega⟩
    rw [List.getElem?_eq_getElem (by omega)]
    exact hr.1

theorem numS_64 (l : List UInt8) : In64 (numS l) := by have := numS_in l; exact ⟨by omega, by omega⟩
theorem ruleN_in (ws : List (List UInt8)) : (ruleN ws).In ∧ ∀ x, x ∈ (ruleN ws).b → In64 x := by
  refine ⟨⟨numS_64 _, numS_64 _, numS_64 _, numS_64 _⟩, fun x hx => ?_⟩
  unfold ruleN at hx
  obtain ⟨y, _, rfl⟩ := List.mem_map.1 hx
  exact numS_64 _
/-- A row of ints that was made is a slice of ints. -/
theorem row_ints {W : World} {base : Nat} {v : Value} {l : List Int} (h : W.ownsRow base 3 1 v l.length (l.map (Value.int .i64))) (hr : ∀ x, x ∈ l → In64 x) (lo : Nat) (hlo : lo ≤ base) : ∃ a c, v = .slice a l.length c ∧ IntsIn W lo a l := by
  rcases h.2 with ⟨hv, h0⟩ | ⟨g, cap, cur, hv, hg, hh, hn, hm, hs, ht⟩
  · obtain rfl : l = [] := List.length_eq_zero_iff.1 h0
    exact ⟨none, 0, hv, by simp, hr, fun i hi => by simp at hi⟩
  · refine ⟨some ⟨g, 0, none⟩, cap, hv, by unfold maxLen at hm; omega, hr, fun i hi => ⟨g, 0, rfl, by omega, ?_⟩⟩
    rw [hv] at h
    rw [Nat.zero_add, h.cellAt i (by omega), List.getElem?_map, List.getElem?_eq_getElem hi]
    rfl

set_option maxRecDepth 100000 in
set_option maxHeartbeats 4000000 in
theorem l1Rule_yes (s : ByteArray) (w : World) (hs : s.size ≤ 1048576) (hf : formS (cutL 32 s.data.toList) = true) :
    Calls Tryd.prog 47 #[.string s] w fun e w' => ∃ a cap, e = .returned (.tuple #[(ruleN (cutL 32 s.data.toList)).val a cap, .bool (ruleB (ruleN (cutL 32 s.data.toList)))]) ∧ w'.ownsRow w.heap.size 3 1 (.slice a (ruleN (cutL 32 s.data.toList)).b.length cap) (ruleN (cutL 32 s.data.toList)).b.length (ints (ruleN (cutL 32 s.data.toList)).b) ∧ Below w.heap.size w w' := by
  obtain ⟨i0, hi, hz0, hz1, hz2⟩ := info_parts infoInt
  obtain ⟨ws, hws⟩ : ∃ ws, ws = cutL 32 s.data.toList := ⟨_, rfl⟩
  have HWS : Hid (ws = cutL 32 s.data.toList) := hws
  rw [← hws] at hf ⊢
  obtain ⟨r, hr⟩ : ∃ r, r = ruleN ws := ⟨_, rfl⟩
  have HRN : Hid (r = ruleN ws) := hr
  have HBL : Hid (r.b.length = ws.length - 9) := by show r.b.length = _; rw [hr]; simp [ruleN]
  have HIN : Hid (r.In ∧ ∀ x, x ∈ r.b → In64 x) := by rw [hr]; exact ruleN_in ws
  rw [← hr]
  clear hr
  have hl2 : ws.length ≤ 1048577 := by rw [hws]; have := cutL_len 32 s.data.toList; rw [data_len] at this; omega
  have HSZ : Hid (∀ j : Nat, (bs (ws[j]?.getD [])).size ≤ 1048576) := fun j => by rw [hws, bs_size]; have := piece_le 32 s.data.toList j; rw [data_len] at this; omega
  clear hws
  obtain ⟨h8, e0, e2, e4, e6, h9⟩ := formS_parts hf
  clear hf
  have hb0 : Below w.heap.size w (w.alloc (.cells #[.int .i64 0, .int .i64 0, .int .i64 0, .int .i64 0, .slice none 0 0] 66)) := (Below.refl _ _).alloc (Nat.le_refl _) _
  go_enter Tryd.func47, Tryd.ntmps47
  go_wp2_with fail
  refine (l1Cut_any s 32 _ hs).mono ?_
  rw [← HWS.out]
  rintro e w2 ⟨v, rfl, hrow, hB⟩
  obtain ⟨g, cap, hv, hg⟩ : ∃ g cap, v = .slice (some ⟨g, 0, none⟩) ws.length cap ∧ w.heap.size < g := by
    rcases hrow.2 with ⟨_, h0⟩ | ⟨g, cap, cur, hv, hg, _⟩
    · omega
    · exact ⟨g, cap, hv, by simp at hg; omega⟩
  subst hv
  have hcell := fun j hj => row_cell hrow (j := j) hj
  have HB : Hid (Below w.heap.size w w2) := hb0.trans (hB.mono (by simp))
  have hsz2 : w.heap.size + 1 ≤ w2.heap.size := by have := hB.size; simpa using this
  have HZ : Hid (w2.cell? ⟨w.heap.size, 0, none⟩ = some (.int .i64 0) ∧ w2.cell? ⟨w.heap.size, 1, none⟩ = some (.int .i64 0) ∧ w2.cell? ⟨w.heap.size, 2, none⟩ = some (.int .i64 0) ∧ w2.cell? ⟨w.heap.size, 3, none⟩ = some (.int .i64 0) ∧ w2.cell? ⟨w.heap.size, 4, none⟩ = some (.slice none 0 0) ∧ ∀ j, w2.frozen? ⟨w.heap.size, j, none⟩ = false) :=
    ⟨(hB.cell (p := ⟨w.heap.size, 0, none⟩) (by simp)).trans (by simp), (hB.cell (p := ⟨w.heap.size, 1, none⟩) (by simp)).trans (by simp), (hB.cell (p := ⟨w.heap.size, 2, none⟩) (by simp)).trans (by simp), (hB.cell (p := ⟨w.heap.size, 3, none⟩) (by simp)).trans (by simp), (hB.cell (p := ⟨w.heap.size, 4, none⟩) (by simp)).trans (by simp), fun j => (hB.frozen (p := ⟨w.heap.size, j, none⟩) (by simp)).trans (by simp)⟩
  clear hB hrow hb0
  have HCELL : Hid (∀ j, j < ws.length → w2.cell? ⟨g, j, none⟩ = some (.string (bs (ws[j]?.getD [])))) := hcell
  clear hcell
  have c0 := HCELL.out 0 (by omega)
  have c2 := HCELL.out 2 (by omega)
  have c4 := HCELL.out 4 (by omega)
  have c6 := HCELL.out 6 (by omega)
  rw [e0] at c0
  rw [e2] at c2
  rw [e4] at c4
  rw [e6] at c6
  clear e0 e2 e4 e6
  change w2.cell? ⟨g, 0, none⟩ = some (.string (bs [101, 118, 101, 114, 121])) at c0
  change w2.cell? ⟨g, 2, none⟩ = some (.string (bs [97, 116])) at c2
  change w2.cell? ⟨g, 4, none⟩ = some (.string (bs [102, 114, 111, 109])) at c4
  change w2.cell? ⟨g, 6, none⟩ = some (.string (bs [116, 111])) at c6
  have p0 := bs_same [101, 118, 101, 114, 121]
  have p2 := bs_same [97, 116]
  have p4 := bs_same [102, 114, 111, 109]
  have p6 := bs_same [116, 111]
  have c1 := HCELL.out 1 (by omega)
  have c3 := HCELL.out 3 (by omega)
  have c5 := HCELL.out 5 (by omega)
  have c7 := HCELL.out 7 (by omega)
  obtain ⟨x1, hx1⟩ : ∃ x, x = bs (ws[1]?.getD []) := ⟨_, rfl⟩
  obtain ⟨x3, hx3⟩ : ∃ x, x = bs (ws[3]?.getD []) := ⟨_, rfl⟩
  obtain ⟨x5, hx5⟩ : ∃ x, x = bs (ws[5]?.getD []) := ⟨_, rfl⟩
  obtain ⟨x7, hx7⟩ : ∃ x, x = bs (ws[7]?.getD []) := ⟨_, rfl⟩
  rw [← hx1] at c1
  rw [← hx3] at c3
  rw [← hx5] at c5
  rw [← hx7] at c7
  have s1 : x1.size ≤ 1048576 := hx1 ▸ HSZ.out 1
  have s3 : x3.size ≤ 1048576 := hx3 ▸ HSZ.out 3
  have s5 : x5.size ≤ 1048576 := hx5 ▸ HSZ.out 5
  have s7 : x7.size ≤ 1048576 := hx7 ▸ HSZ.out 7
  have hg2 : g < w2.heap.size := cell_lt c0
  have HX : Hid (numS x1.data.toList = r.e ∧ numS x3.data.toList = r.a ∧ numS x5.data.toList = r.f ∧ numS x7.data.toList = r.t) := by
    rw [hx1, hx3, hx5, hx7, HRN.out]; exact ⟨rfl, rfl, rfl, rfl⟩
  clear hx1 hx3 hx5 hx7
  have b1 : (1 : Int) < (ws.length : Int) := by omega
  have b3 : (3 : Int) < (ws.length : Int) := by omega
  have b5 : (5 : Int) < (ws.length : Int) := by omega
  have b7 : (7 : Int) < (ws.length : Int) := by omega
  rcases h9 with h9 | ⟨e8, h9⟩
  · have h9' : ¬ 8 < ws.length := by omega
    clear h9
    go_wp2_with fail
    go_cut [5] (fun r wx => r = .pointer (some ⟨w2.heap.size, 0, none⟩) ∧ wx = (w2.alloc (.cells #[.int .i64 (numS x1.data.toList), .int .i64 (numS x3.data.toList), .int .i64 (numS x5.data.toList), .int .i64 (numS x7.data.toList), .slice none 0 0] 66)).drew)
    case first =>
      go_region_held3 (fun w' => w'.cell? ⟨g, 1, none⟩ = some (.string x1) ∧ w'.cell? ⟨g, 3, none⟩ = some (.string x3) ∧ w'.cell? ⟨g, 5, none⟩ = some (.string x5) ∧ w'.cell? ⟨g, 7, none⟩ = some (.string x7)) (go_keep)
        ((go_at_call 69; refine (l1Num_any _ _ ?hs).mono ?_; (case hs => assumption); rintro e w' ⟨rfl, rfl⟩))
      all_goals (go_wp2_with fail; go_meet; exact ⟨rfl, rfl⟩)
    case rest =>
      obtain ⟨rfl, rfl⟩ := hcut
      go_wp2_with fail
      go_loopw [6] (fun i wr => ∃ (k m : Nat) (v : Value), i = .int .i64 (k : Int) ∧ Hid (k = 9 + m) ∧ m ≤ ws.length - 9 ∧ wr.ownsRow (w2.heap.size + 1) 3 1 v m ((r.b.take m).map (Value.int .i64)) ∧ wr.cell? ⟨w2.heap.size, 4, none⟩ = some v ∧ Hid (wr.cell? ⟨w2.heap.size, 0, none⟩ = some (.int .i64 r.e) ∧ wr.cell? ⟨w2.heap.size, 1, none⟩ = some (.int .i64 r.a) ∧ wr.cell? ⟨w2.heap.size, 2, none⟩ = some (.int .i64 r.f) ∧ wr.cell? ⟨w2.heap.size, 3, none⟩ = some (.int .i64 r.t) ∧ ∀ j, wr.frozen? ⟨w2.heap.size, j, none⟩ = false) ∧ Hid (Below w2.heap.size w2 wr) ∧ w2.heap.size + 1 ≤ wr.heap.size) (fun i _ => ws.length - (intOf i).toNat)
      case atStart => exact ⟨9, 0, .slice none 0 0, rfl, rfl, Nat.zero_le _, ⟨rfl, .inl ⟨rfl, rfl⟩⟩, by simp, ⟨by simp [HX.out.1], by simp [HX.out.2.1], by simp [HX.out.2.2.1], by simp [HX.out.2.2.2], by simp⟩, ((Below.refl _ _).alloc (Nat.le_refl _) _).drew, by simp⟩
      case round =>
        obtain ⟨k, m, v, rfl, HK, hm, hown, hc4, HR, HBr, hszr⟩ := hrel
        by_cases hlt : k < ws.length
        · exact absurd hlt (by have := HK.out; omega)
        · obtain rfl : m = r.b.length := by have := HBL.out; have := HK.out; omega
          rw [List.take_length] at hown
          obtain ⟨a, c, hv, hints⟩ := row_ints hown HIN.out.2 w2.heap.size (Nat.le_succ _)
          subst hv
          obtain ⟨c0, c1, c2, c3, hfz⟩ := HR.out
          have HOWN : Hid (wr.ownsRow (w2.heap.size + 1) 3 1 (.slice a r.b.length c) r.b.length (ints r.b)) := hown
          clear hown
          have HI : Hid (IntsIn wr w2.heap.size a r.b) := hints
          clear hints
          have zz : Hid (∀ wx, Below w2.heap.size w2 wx → wx.cell? ⟨w.heap.size, 0, none⟩ = some (.int .i64 0) ∧ wx.cell? ⟨w.heap.size, 1, none⟩ = some (.int .i64 0) ∧ wx.cell? ⟨w.heap.size, 2, none⟩ = some (.int .i64 0) ∧ wx.cell? ⟨w.heap.size, 3, none⟩ = some (.int .i64 0) ∧ wx.cell? ⟨w.heap.size, 4, none⟩ = some (.slice none 0 0) ∧ ∀ j, wx.frozen? ⟨w.heap.size, j, none⟩ = false) := fun wx hx =>
            ⟨(hx.cell (p := ⟨w.heap.size, 0, none⟩) hsz2).trans HZ.out.1, (hx.cell (p := ⟨w.heap.size, 1, none⟩) hsz2).trans HZ.out.2.1, (hx.cell (p := ⟨w.heap.size, 2, none⟩) hsz2).trans HZ.out.2.2.1, (hx.cell (p := ⟨w.heap.size, 3, none⟩) hsz2).trans HZ.out.2.2.2.1, (hx.cell (p := ⟨w.heap.size, 4, none⟩) hsz2).trans HZ.out.2.2.2.2.1, fun j => (hx.frozen (p := ⟨w.heap.size, j, none⟩) hsz2).trans (HZ.out.2.2.2.2.2 j)⟩
          go_wp2_with fail
          go_region_held3 (fun w' => w'.cell? ⟨w2.heap.size, 0, none⟩ = some (.int .i64 r.e) ∧ w'.cell? ⟨w2.heap.size, 1, none⟩ = some (.int .i64 r.a) ∧ w'.cell? ⟨w2.heap.size, 2, none⟩ = some (.int .i64 r.f) ∧ w'.cell? ⟨w2.heap.size, 3, none⟩ = some (.int .i64 r.t) ∧ w'.cell? ⟨w2.heap.size, 4, none⟩ = some (.slice a r.b.length c))
            (first
              | go_keep
              | ((try dsimp only); (repeat' apply And.intro); all_goals (first | go_keep | (rw [hb5.cell (by simp; omega)]; assumption) | (rw [cell_setCell_other _ (by simp; omega), cell_setCell_other _ (by simp; omega), cell_setCell_other _ (by simp; omega), cell_setCell_other _ (by simp; omega), cell_setCell_other _ (by simp; omega), hb5.cell (by simp; omega)]; assumption))))
            ((go_at_call 51; refine (l1RuleOk_any r a c _ w2.heap.size (by exact HI.out)).mono ?_; rintro e w5 ⟨rfl, hb5⟩; obtain ⟨z0, z1, z2, z3, z4, zf⟩ := zz.out w5 (HBr.out.trans ((((Below.refl wr.heap.size wr).drew).trans hb5).mono HBr.out.size))))
          go_wp2
          try simp only [Exit.inBlock, Exit.then]
          have hb6 : Below wr.heap.size wr w5 := ((Below.refl wr.heap.size wr).drew).trans hb5
          refine bodyPost_ret (v := .tuple #[r.val a c, .bool (ruleB r)]) (by simp [results, Tryd.results47, go_sem, z0, z1, z2, z3, z4]) rfl ⟨a, c, rfl, ?_, ?_⟩
          · have hq : w.heap.size < w2.heap.size + 1 := by omega
            exact row_mono (ownsRow_setCell_below (ownsRow_setCell_below (ownsRow_setCell_below (ownsRow_setCell_below (ownsRow_setCell_below (own_below HOWN.out hb6) hq _) hq _) hq _) hq _) hq _) (by omega)
          · exact (((((HB.out.trans ((HBr.out.trans (hb6.mono HBr.out.size)).mono (by omega))).setCell (p := ⟨w.heap.size, 0, none⟩) (Nat.le_refl _) _).setCell (p := ⟨w.heap.size, 1, none⟩) (Nat.le_refl _) _).setCell (p := ⟨w.heap.size, 2, none⟩) (Nat.le_refl _) _).setCell (p := ⟨w.heap.size, 3, none⟩) (Nat.le_refl _) _).setCell (p := ⟨w.heap.size, 4, none⟩) (Nat.le_refl _) _
  · have c8 := HCELL.out 8 (by omega)
    rw [e8] at c8
    clear e8
    change w2.cell? ⟨g, 8, none⟩ = some (.string (bs [98, 117, 116])) at c8
    have p8 := bs_same [98, 117, 116]
    have h9' : 8 < ws.length := by omega
    have h9e : ((ws.length : Int) == 9) = false := by simp; omega
    go_wp2_with fail
    go_cut [5] (fun r wx => r = .pointer (some ⟨w2.heap.size, 0, none⟩) ∧ wx = (w2.alloc (.cells #[.int .i64 (numS x1.data.toList), .int .i64 (numS x3.data.toList), .int .i64 (numS x5.data.toList), .int .i64 (numS x7.data.toList), .slice none 0 0] 66)).drew)
    case first =>
      go_region_held3 (fun w' => w'.cell? ⟨g, 1, none⟩ = some (.string x1) ∧ w'.cell? ⟨g, 3, none⟩ = some (.string x3) ∧ w'.cell? ⟨g, 5, none⟩ = some (.string x5) ∧ w'.cell? ⟨g, 7, none⟩ = some (.string x7)) (go_keep)
        ((go_at_call 69; refine (l1Num_any _ _ ?hs).mono ?_; (case hs => assumption); rintro e w' ⟨rfl, rfl⟩))
      all_goals (go_wp2_with fail; go_meet; exact ⟨rfl, rfl⟩)
    case rest =>
      obtain ⟨rfl, rfl⟩ := hcut
      go_wp2_with fail
      go_loopw [6] (fun i wr => ∃ (k m : Nat) (v : Value), i = .int .i64 (k : Int) ∧ Hid (k = 9 + m) ∧ m ≤ ws.length - 9 ∧ wr.ownsRow (w2.heap.size + 1) 3 1 v m ((r.b.take m).map (Value.int .i64)) ∧ wr.cell? ⟨w2.heap.size, 4, none⟩ = some v ∧ Hid (wr.cell? ⟨w2.heap.size, 0, none⟩ = some (.int .i64 r.e) ∧ wr.cell? ⟨w2.heap.size, 1, none⟩ = some (.int .i64 r.a) ∧ wr.cell? ⟨w2.heap.size, 2, none⟩ = some (.int .i64 r.f) ∧ wr.cell? ⟨w2.heap.size, 3, none⟩ = some (.int .i64 r.t) ∧ ∀ j, wr.frozen? ⟨w2.heap.size, j, none⟩ = false) ∧ Hid (Below w2.heap.size w2 wr) ∧ w2.heap.size + 1 ≤ wr.heap.size) (fun i _ => ws.length - (intOf i).toNat)
      case atStart => exact ⟨9, 0, .slice none 0 0, rfl, rfl, Nat.zero_le _, ⟨rfl, .inl ⟨rfl, rfl⟩⟩, by simp, ⟨by simp [HX.out.1], by simp [HX.out.2.1], by simp [HX.out.2.2.1], by simp [HX.out.2.2.2], by simp⟩, ((Below.refl _ _).alloc (Nat.le_refl _) _).drew, by simp⟩
      case round =>
        obtain ⟨k, m, v, rfl, HK, hm, hown, hc4, HR, HBr, hszr⟩ := hrel
        by_cases hlt : k < ws.length
        · have hck : wr.cell? ⟨g, k, none⟩ = some (.string (bs (ws[k]?.getD []))) := (HBr.out.cell (p := ⟨g, k, none⟩) (hg2)).trans (HCELL.out _ hlt)
          obtain ⟨x, hx⟩ : ∃ x, x = bs (ws[k]?.getD []) := ⟨_, rfl⟩
          rw [← hx] at hck
          have sx : x.size ≤ 1048576 := hx ▸ HSZ.out (k)
          have HXX : Hid (x = bs (ws[k]?.getD [])) := hx
          clear hx
          have hne : v.ownBlock ≠ some w2.heap.size := fun h => by have := (hown.lt _ h).1; omega
          have hneg : v.ownBlock ≠ some g := fun h => by have := (hown.lt _ h).1; omega
          have hf4 := HR.out.2.2.2.2 4
          have hng : w2.heap.size ≠ g := by omega
          go_wp2_with fail
          have hlt4 : w2.heap.size < wr.heap.size := by omega
          have hc4a : ∀ o, (wr.alloc o).cell? ⟨w2.heap.size, 4, none⟩ = some v := fun o => (World.cell?_alloc_lt wr o ⟨w2.heap.size, 4, none⟩ hlt4).trans hc4
          have hc4b : ∀ o, (wr.alloc o).drew.cell? ⟨w2.heap.size, 4, none⟩ = some v := hc4a
          have hix0 : (0 : Int) ≤ (k : Int) := by omega
          have hix1 : (k : Int) < (ws.length : Int) := by omega
          go_region_law
            (first
              | (refine step_append_lies _ (by rfl) _ _ _ (by rfl) (w2.heap.size + 1) 3 i0 _ 1 8 Tryd.underlying64 hi hz0 hz1 hz2 rfl (by omega) v m _ (by rfl) ((hown.alloc _).drew)
                  ⟨wr.heap.size, 0, none⟩ 1 1 [.int .i64 (numS x.data.toList)] (by rfl) (by rfl) (World.news_of_block (cs := #[.int .i64 (numS x.data.toList)]) (t := 3) (fr := (0, 0)) (heap_alloc_new wr _)) (by simp [Value.oneCell'])
                  (by omega) (by unfold maxLen; omega) (by omega) (by simp; omega) (wr.heap.size + 1) (by simp) ?_; intro gg cap' wn hown1 hgrow hat hlt1; have hf1 : wn.frozen? ⟨w2.heap.size, 4, none⟩ = false := (hgrow.frozen_far ⟨w2.heap.size, 4, none⟩ (by simp; omega) (Ne.symm hne)).trans (((((Below.refl wr.heap.size wr).alloc (Nat.le_refl _) _).drew).frozen (p := ⟨w2.heap.size, 4, none⟩) (by simp; omega)).trans hf4); have hc1 : wn.cell? ⟨w2.heap.size, 4, none⟩ = some v := (hgrow.cell_far ⟨w2.heap.size, 4, none⟩ (by simp; omega) (Ne.symm hne)).trans (((((Below.refl wr.heap.size wr).alloc (Nat.le_refl _) _).drew).cell (p := ⟨w2.heap.size, 4, none⟩) (by simp; omega)).trans hc4))
              | (go_simp; refine (l1Num_any _ _ ?hs).mono ?_; (case hs => assumption); rintro e w' ⟨rfl, rfl⟩; simp only []))
          all_goals (
            go_wp2
            have HG : Hid (Below w2.heap.size w2 wn) := (((HBr.out.alloc HBr.out.size _).drew)).grown hgrow (by simp; omega) (fun j hj => by have := (hown.lt _ hj).1; omega)
            have hfar : ∀ j, wn.cell? ⟨w2.heap.size, j, none⟩ = wr.cell? ⟨w2.heap.size, j, none⟩ := fun j => (hgrow.cell_far ⟨w2.heap.size, j, none⟩ (by simp; omega) (Ne.symm hne)).trans (World.cell?_alloc_lt wr _ ⟨w2.heap.size, j, none⟩ (by simp; omega))
            have hffar : ∀ j, wn.frozen? ⟨w2.heap.size, j, none⟩ = false := fun j => (hgrow.frozen_far ⟨w2.heap.size, j, none⟩ (by simp; omega) (Ne.symm hne)).trans (((((Below.refl wr.heap.size wr).alloc (Nat.le_refl _) _).drew).frozen (p := ⟨w2.heap.size, j, none⟩) (by simp; omega)).trans (HR.out.2.2.2.2 j))
            go_roundw
            case rel =>
              refine ⟨k + 1, m + 1, .slice (some ⟨gg, 0, none⟩) (m + 1) cap', by go_num, (by show k + 1 = 9 + (m + 1); have := HK.out; omega), (by have := HK.out; omega), ?_, ?_, ⟨?_, ?_, ?_, ?_, ?_⟩, HG.out.setCell (p := ⟨w2.heap.size, 4, none⟩) (Nat.le_refl _) _, ?_⟩
              · have e : (r.b.take (m + 1)).map (Value.int .i64) = (r.b.take m).map (Value.int .i64) ++ [.int .i64 (numS x.data.toList)] := by
                  rw [HRN.out, HXX.out]
                  have hmm : m < (ruleN ws).b.length := by have := HBL.out; rw [HRN.out] at this; have := HK.out; omega
                  rw [List.take_succ_eq_append_getElem hmm, List.map_append]
                  congr 1
                  simp only [List.map_cons, List.map_nil, ruleN, List.getElem_map, List.getElem_drop]
                  rw [List.getElem?_eq_getElem hlt]
                  simp only [HK.out]
                  rfl
                rw [e]
                exact ownsRow_setCell_below hown1 (by simp) _
              · exact cell_setCell_same _ ⟨_, (hfar 4).trans hc4⟩
              · rw [cell_setCell_off _ (by omega), hfar]; exact HR.out.1
              · rw [cell_setCell_off _ (by omega), hfar]; exact HR.out.2.1
              · rw [cell_setCell_off _ (by omega), hfar]; exact HR.out.2.2.1
              · rw [cell_setCell_off _ (by omega), hfar]; exact HR.out.2.2.2.1
              · intro j; rw [World.frozen?_setCell]; exact hffar j
              · have := hgrow.size; simp [World.setCell] at this ⊢; omega
            case measure => simp [intOf]; omega)
        · obtain rfl : m = r.b.length := by have := HBL.out; have := HK.out; omega
          rw [List.take_length] at hown
          obtain ⟨a, c, hv, hints⟩ := row_ints hown HIN.out.2 w2.heap.size (Nat.le_succ _)
          subst hv
          obtain ⟨c0, c1, c2, c3, hfz⟩ := HR.out
          have HOWN : Hid (wr.ownsRow (w2.heap.size + 1) 3 1 (.slice a r.b.length c) r.b.length (ints r.b)) := hown
          clear hown
          have HI : Hid (IntsIn wr w2.heap.size a r.b) := hints
          clear hints
          have zz : Hid (∀ wx, Below w2.heap.size w2 wx → wx.cell? ⟨w.heap.size, 0, none⟩ = some (.int .i64 0) ∧ wx.cell? ⟨w.heap.size, 1, none⟩ = some (.int .i64 0) ∧ wx.cell? ⟨w.heap.size, 2, none⟩ = some (.int .i64 0) ∧ wx.cell? ⟨w.heap.size, 3, none⟩ = some (.int .i64 0) ∧ wx.cell? ⟨w.heap.size, 4, none⟩ = some (.slice none 0 0) ∧ ∀ j, wx.frozen? ⟨w.heap.size, j, none⟩ = false) := fun wx hx =>
            ⟨(hx.cell (p := ⟨w.heap.size, 0, none⟩) hsz2).trans HZ.out.1, (hx.cell (p := ⟨w.heap.size, 1, none⟩) hsz2).trans HZ.out.2.1, (hx.cell (p := ⟨w.heap.size, 2, none⟩) hsz2).trans HZ.out.2.2.1, (hx.cell (p := ⟨w.heap.size, 3, none⟩) hsz2).trans HZ.out.2.2.2.1, (hx.cell (p := ⟨w.heap.size, 4, none⟩) hsz2).trans HZ.out.2.2.2.2.1, fun j => (hx.frozen (p := ⟨w.heap.size, j, none⟩) hsz2).trans (HZ.out.2.2.2.2.2 j)⟩
          go_wp2_with fail
          go_region_held3 (fun w' => w'.cell? ⟨w2.heap.size, 0, none⟩ = some (.int .i64 r.e) ∧ w'.cell? ⟨w2.heap.size, 1, none⟩ = some (.int .i64 r.a) ∧ w'.cell? ⟨w2.heap.size, 2, none⟩ = some (.int .i64 r.f) ∧ w'.cell? ⟨w2.heap.size, 3, none⟩ = some (.int .i64 r.t) ∧ w'.cell? ⟨w2.heap.size, 4, none⟩ = some (.slice a r.b.length c))
            (first
              | go_keep
              | ((try dsimp only); (repeat' apply And.intro); all_goals (first | go_keep | (rw [hb5.cell (by simp; omega)]; assumption) | (rw [cell_setCell_other _ (by simp; omega), cell_setCell_other _ (by simp; omega), cell_setCell_other _ (by simp; omega), cell_setCell_other _ (by simp; omega), cell_setCell_other _ (by simp; omega), hb5.cell (by simp; omega)]; assumption))))
            ((go_at_call 51; refine (l1RuleOk_any r a c _ w2.heap.size (by exact HI.out)).mono ?_; rintro e w5 ⟨rfl, hb5⟩; obtain ⟨z0, z1, z2, z3, z4, zf⟩ := zz.out w5 (HBr.out.trans ((((Below.refl wr.heap.size wr).drew).trans hb5).mono HBr.out.size))))
          go_wp2
          try simp only [Exit.inBlock, Exit.then]
          have hb6 : Below wr.heap.size wr w5 := ((Below.refl wr.heap.size wr).drew).trans hb5
          refine bodyPost_ret (v := .tuple #[r.val a c, .bool (ruleB r)]) (by simp [results, Tryd.results47, go_sem, z0, z1, z2, z3, z4]) rfl ⟨a, c, rfl, ?_, ?_⟩
          · have hq : w.heap.size < w2.heap.size + 1 := by omega
            exact row_mono (ownsRow_setCell_below (ownsRow_setCell_below (ownsRow_setCell_below (ownsRow_setCell_below (ownsRow_setCell_below (own_below HOWN.out hb6) hq _) hq _) hq _) hq _) hq _) (by omega)
          · exact (((((HB.out.trans ((HBr.out.trans (hb6.mono HBr.out.size)).mono (by omega))).setCell (p := ⟨w.heap.size, 0, none⟩) (Nat.le_refl _) _).setCell (p := ⟨w.heap.size, 1, none⟩) (Nat.le_refl _) _).setCell (p := ⟨w.heap.size, 2, none⟩) (Nat.le_refl _) _).setCell (p := ⟨w.heap.size, 3, none⟩) (Nat.le_refl _) _).setCell (p := ⟨w.heap.size, 4, none⟩) (Nat.le_refl _) _

theorem ruleS_form {ws : List (List UInt8)} (h : formS ws = false) : ruleS ws = none := by unfold ruleS; simp [h]
theorem ruleS_yes {ws : List (List UInt8)} (h : formS ws = true) : (ruleS ws).isSome = ruleB (ruleN ws) ∧ ∀ r, ruleS ws = some r → r = ruleN ws := by
  unfold ruleS
  cases hb : ruleB (ruleN ws)
  · simp [h]
  · simp [h]

theorem l1Rule_any (s : ByteArray) (w : World) (hs : s.size ≤ 1048576) :
    Calls Tryd.prog 47 #[.string s] w fun e w' => ∃ (r : CR) (a : Option Addr) (cap : Nat), e = .returned (.tuple #[r.val a cap, .bool (ruleS (cutL 32 s.data.toList)).isSome]) ∧ (∀ r', ruleS (cutL 32 s.data.toList) = some r' → r' = r ∧ w'.ownsRow w.heap.size 3 1 (.slice a r.b.length cap) r.b.length (ints r.b) ∧ r.In ∧ ∀ x, x ∈ r.b → In64 x) ∧ Below w.heap.size w w' := by
  cases hf : formS (cutL 32 s.data.toList) with
  | false =>
    refine (l1Rule_no s w hs hf).mono ?_
    rintro e w' ⟨rfl, hb⟩
    rw [ruleS_form hf]
    exact ⟨⟨0, 0, 0, 0, []⟩, none, 0, rfl, fun r hr => (by cases hr), hb⟩
  | true =>
    refine (l1Rule_yes s w hs hf).mono ?_
    rintro e w' ⟨a, cap, rfl, hi, hb⟩
    obtain ⟨h1, h2⟩ := ruleS_yes hf
    rw [h1]
    exact ⟨_, a, cap, rfl, fun r hr => ⟨h2 r hr, hi, (ruleN_in _).1, (ruleN_in _).2⟩, hb⟩

end Go.Proofs.YtammejplaeaocaaDoor
