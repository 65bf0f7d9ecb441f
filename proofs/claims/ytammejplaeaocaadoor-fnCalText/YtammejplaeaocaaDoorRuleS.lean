/-
  The specification's l1Rule reads a rule. Condition: the line has at most 1048576 bytes.
-/
import Derived.Test.YtammejplaeaocaaDoorNumS
import Derived.Deep.RegionHeld3
import Derived.Deep.AppendLies
namespace Go.Proofs.YtammejplaeaocaaDoor
open Go.RowKit

theorem infoInt : (Tryd.prog.info? 3).map (fun i => (i.zero, i.size, i.bytes)) = some (some (.int .i64 0), 1, 8) := by kernel_rfl

theorem row_cell {W : World} {base g n cap : Nat} {ps : List (List UInt8)} (h : W.ownsRow base 9 1 (.slice (some ⟨g, 0, none⟩) n cap) n (strs ps)) {j : Nat} (hj : j < ps.length) : W.cell? ⟨g, j, none⟩ = some (.string (bs (ps[j]?.getD []))) := by
  have hl := h.1
  rw [strs_len] at hl
  rw [h.cellAt j (by omega)]
  unfold strs
  rw [List.getElem?_map, List.getElem?_eq_getElem hj]
  rfl

theorem cutL_size (c : UInt8) (l : List UInt8) : 1 ≤ (cutL c l).length := by
  obtain ⟨p, ps, e⟩ := cutL_some c l
  rw [e]; simp

theorem formS_len {ws : List (List UInt8)} (h : ws.length < 8) : formS ws = false := by unfold formS; simp [show ¬ 8 ≤ ws.length by omega]

set_option maxRecDepth 100000 in
set_option maxHeartbeats 4000000 in
theorem l1Rule_no (s : ByteArray) (w : World) (hs : s.size ≤ 1048576) (hf : formS (cutL 32 s.data.toList) = false) :
    Calls Tryd.prog 47 #[.string s] w fun e w' => e = .returned (.tuple #[.agg #[.int .i64 0, .int .i64 0, .int .i64 0, .int .i64 0, .slice none 0 0], .bool false]) ∧ Below w.heap.size w w' := by
  obtain ⟨ws, hws⟩ : ∃ ws, ws = cutL 32 s.data.toList := ⟨_, rfl⟩
  have HWS : Hid (ws = cutL 32 s.data.toList) := hws
  rw [← hws] at hf
  have hl1 : 1 ≤ ws.length := by rw [hws]; exact cutL_size _ _
  have hl2 : ws.length ≤ 1048577 := by rw [hws]; have := cutL_len 32 s.data.toList; rw [data_len] at this; omega
  clear hws
  have hb0 : Below w.heap.size w (w.alloc (.cells #[.int .i64 0, .int .i64 0, .int .i64 0, .int .i64 0, .slice none 0 0] 66)) := (Below.refl _ _).alloc (Nat.le_refl _) _
  go_enter Tryd.func47, Tryd.ntmps47
  go_wp2_with fail
  refine (l1Cut_any s 32 _ hs).mono ?_
  rw [← HWS.out]
  rintro e w2 ⟨v, rfl, hrow, hB⟩
  obtain ⟨g, cap, hv⟩ : ∃ g cap, v = .slice (some ⟨g, 0, none⟩) ws.length cap := by
    rcases hrow.2 with ⟨_, h0⟩ | ⟨g, cap, cur, hv, _⟩
    · omega
    · exact ⟨g, cap, hv⟩
  subst hv
  have hcell := fun j hj => row_cell hrow (j := j) hj
  have HB : Hid (Below w.heap.size w w2) := hb0.trans (hB.mono (by simp))
  have z0 : w2.cell? ⟨w.heap.size, 0, none⟩ = some (.int .i64 0) := (hB.cell (p := ⟨w.heap.size, 0, none⟩) (by simp)).trans (by simp)
  have z1 : w2.cell? ⟨w.heap.size, 1, none⟩ = some (.int .i64 0) := (hB.cell (p := ⟨w.heap.size, 1, none⟩) (by simp)).trans (by simp)
  have z2 : w2.cell? ⟨w.heap.size, 2, none⟩ = some (.int .i64 0) := (hB.cell (p := ⟨w.heap.size, 2, none⟩) (by simp)).trans (by simp)
  have z3 : w2.cell? ⟨w.heap.size, 3, none⟩ = some (.int .i64 0) := (hB.cell (p := ⟨w.heap.size, 3, none⟩) (by simp)).trans (by simp)
  have z4 : w2.cell? ⟨w.heap.size, 4, none⟩ = some (.slice none 0 0) := (hB.cell (p := ⟨w.heap.size, 4, none⟩) (by simp)).trans (by simp)
  have hfz : ∀ j, w2.frozen? ⟨w.heap.size, j, none⟩ = false := fun j => (hB.frozen (p := ⟨w.heap.size, j, none⟩) (by simp)).trans (by simp)
  have f0 := hfz 0
  have f1 := hfz 1
  have f2 := hfz 2
  have f3 := hfz 3
  have f4 := hfz 4
  clear hB hrow hfz hb0
  have HF : Hid (formS ws = false) := hf
  clear hf
  have HCELL : Hid (∀ j, j < ws.length → w2.cell? ⟨g, j, none⟩ = some (.string (bs (ws[j]?.getD [])))) := hcell
  clear hcell
  by_cases h8 : ws.length < 8
  · go_wp2
    try simp only [Exit.inBlock, Exit.then]
    refine bodyPost_ret (v := .tuple #[.agg #[.int .i64 0, .int .i64 0, .int .i64 0, .int .i64 0, .slice none 0 0], .bool false]) (by simp [results, Tryd.results47, go_sem, *]) rfl ?_
    exact ⟨rfl, (((((HB.out.setCell (p := ⟨w.heap.size, 0, none⟩) (Nat.le_refl _) _).setCell (p := ⟨w.heap.size, 1, none⟩) (Nat.le_refl _) _).setCell (p := ⟨w.heap.size, 2, none⟩) (Nat.le_refl _) _).setCell (p := ⟨w.heap.size, 3, none⟩) (Nat.le_refl _) _).setCell (p := ⟨w.heap.size, 4, none⟩) (Nat.le_refl _) _)⟩
  · obtain ⟨w0, hw0⟩ : ∃ x, x = ws[0]?.getD [] := ⟨_, rfl⟩
    obtain ⟨w1, hw1⟩ : ∃ x, x = ws[2]?.getD [] := ⟨_, rfl⟩
    obtain ⟨w3, hw3⟩ : ∃ x, x = ws[4]?.getD [] := ⟨_, rfl⟩
    obtain ⟨w4, hw4⟩ : ∃ x, x = ws[6]?.getD [] := ⟨_, rfl⟩
    have c0 := HCELL.out 0 (by omega)
    have c2 := HCELL.out 2 (by omega)
    have c4 := HCELL.out 4 (by omega)
    have c6 := HCELL.out 6 (by omega)
    rw [← hw0] at c0
    rw [← hw1] at c2
    rw [← hw3] at c4
    rw [← hw4] at c6
    have HW0 : Hid (w0 = ws[0]?.getD []) := hw0
    have HW1 : Hid (w1 = ws[2]?.getD []) := hw1
    have HW3 : Hid (w3 = ws[4]?.getD []) := hw3
    have HW4 : Hid (w4 = ws[6]?.getD []) := hw4
    clear hw0 hw1 hw3 hw4
    by_cases e0 : w0 = [101, 118, 101, 114, 121]
    · by_cases e2 : w1 = [97, 116]
      · by_cases e4 : w3 = [102, 114, 111, 109]
        · by_cases e6 : w4 = [116, 111]
          · obtain ⟨h9, h10⟩ : 8 < ws.length ∧ (ws[8]?.getD [] ≠ wBut ∨ ws.length = 9) := by
              have := HF.out
              unfold formS at this
              rw [← HW0.out, ← HW1.out, ← HW3.out, ← HW4.out, e0, e2, e4, e6] at this
              simp [show 8 ≤ ws.length by omega] at this
              refine ⟨this.1, ?_⟩
              by_cases hx : ws[8]?.getD [] = wBut
              · exact Or.inr (this.2 hx)
              · exact Or.inl hx
            obtain ⟨w5, hw5⟩ : ∃ x, x = ws[8]?.getD [] := ⟨_, rfl⟩
            have c8 := HCELL.out 8 (by omega)
            rw [← hw5] at c8 h10
            clear hw5
            rw [e0] at c0; have p0 := bs_same [101, 118, 101, 114, 121]
            rw [e2] at c2; have p2 := bs_same [97, 116]
            rw [e4] at c4; have p4 := bs_same [102, 114, 111, 109]
            rw [e6] at c6; have p6 := bs_same [116, 111]
            by_cases e8 : w5 = [98, 117, 116]
            · have h9' : ws.length = 9 := by
                rcases h10 with h | h
                · exact absurd e8 h
                · exact h
              rw [e8] at c8; have p8 := bs_same [98, 117, 116]
              have h9e : ((ws.length : Int) == 9) = true := by rw [h9']; rfl
              clear h10
              go_wp2
              try simp only [Exit.inBlock, Exit.then]
              refine bodyPost_ret (v := .tuple #[.agg #[.int .i64 0, .int .i64 0, .int .i64 0, .int .i64 0, .slice none 0 0], .bool false]) (by simp [results, Tryd.results47, go_sem, *]) rfl ?_
              exact ⟨rfl, (((((HB.out.setCell (p := ⟨w.heap.size, 0, none⟩) (Nat.le_refl _) _).setCell (p := ⟨w.heap.size, 1, none⟩) (Nat.le_refl _) _).setCell (p := ⟨w.heap.size, 2, none⟩) (Nat.le_refl _) _).setCell (p := ⟨w.heap.size, 3, none⟩) (Nat.le_refl _) _).setCell (p := ⟨w.heap.size, 4, none⟩) (Nat.le_refl _) _)⟩
            · clear h10
              have q8 := bs_other e8
              clear e8
              go_wp2
              try simp only [Exit.inBlock, Exit.then]
              refine bodyPost_ret (v := .tuple #[.agg #[.int .i64 0, .int .i64 0, .int .i64 0, .int .i64 0, .slice none 0 0], .bool false]) (by simp [results, Tryd.results47, go_sem, *]) rfl ?_
              exact ⟨rfl, (((((HB.out.setCell (p := ⟨w.heap.size, 0, none⟩) (Nat.le_refl _) _).setCell (p := ⟨w.heap.size, 1, none⟩) (Nat.le_refl _) _).setCell (p := ⟨w.heap.size, 2, none⟩) (Nat.le_refl _) _).setCell (p := ⟨w.heap.size, 3, none⟩) (Nat.le_refl _) _).setCell (p := ⟨w.heap.size, 4, none⟩) (Nat.le_refl _) _)⟩
          · rw [e0] at c0; have p0 := bs_same [101, 118, 101, 114, 121]
            rw [e2] at c2; have p2 := bs_same [97, 116]
            rw [e4] at c4; have p4 := bs_same [102, 114, 111, 109]
            have q6 := bs_other e6
            clear e6
            go_wp2
            try simp only [Exit.inBlock, Exit.then]
            refine bodyPost_ret (v := .tuple #[.agg #[.int .i64 0, .int .i64 0, .int .i64 0, .int .i64 0, .slice none 0 0], .bool false]) (by simp [results, Tryd.results47, go_sem, *]) rfl ?_
            exact ⟨rfl, (((((HB.out.setCell (p := ⟨w.heap.size, 0, none⟩) (Nat.le_refl _) _).setCell (p := ⟨w.heap.size, 1, none⟩) (Nat.le_refl _) _).setCell (p := ⟨w.heap.size, 2, none⟩) (Nat.le_refl _) _).setCell (p := ⟨w.heap.size, 3, none⟩) (Nat.le_refl _) _).setCell (p := ⟨w.heap.size, 4, none⟩) (Nat.le_refl _) _)⟩
        · rw [e0] at c0; have p0 := bs_same [101, 118, 101, 114, 121]
          rw [e2] at c2; have p2 := bs_same [97, 116]
          have q4 := bs_other e4
          clear e4
          go_wp2
          try simp only [Exit.inBlock, Exit.then]
          refine bodyPost_ret (v := .tuple #[.agg #[.int .i64 0, .int .i64 0, .int .i64 0, .int .i64 0, .slice none 0 0], .bool false]) (by simp [results, Tryd.results47, go_sem, *]) rfl ?_
          exact ⟨rfl, (((((HB.out.setCell (p := ⟨w.heap.size, 0, none⟩) (Nat.le_refl _) _).setCell (p := ⟨w.heap.size, 1, none⟩) (Nat.le_refl _) _).setCell (p := ⟨w.heap.size, 2, none⟩) (Nat.le_refl _) _).setCell (p := ⟨w.heap.size, 3, none⟩) (Nat.le_refl _) _).setCell (p := ⟨w.heap.size, 4, none⟩) (Nat.le_refl _) _)⟩
      · rw [e0] at c0; have p0 := bs_same [101, 118, 101, 114, 121]
        have q2 := bs_other e2
        clear e2
        go_wp2
        try simp only [Exit.inBlock, Exit.then]
        refine bodyPost_ret (v := .tuple #[.agg #[.int .i64 0, .int .i64 0, .int .i64 0, .int .i64 0, .slice none 0 0], .bool false]) (by simp [results, Tryd.results47, go_sem, *]) rfl ?_
        exact ⟨rfl, (((((HB.out.setCell (p := ⟨w.heap.size, 0, none⟩) (Nat.le_refl _) _).setCell (p := ⟨w.heap.size, 1, none⟩) (Nat.le_refl _) _).setCell (p := ⟨w.heap.size, 2, none⟩) (Nat.le_refl _) _).setCell (p := ⟨w.heap.size, 3, none⟩) (Nat.le_refl _) _).setCell (p := ⟨w.heap.size, 4, none⟩) (Nat.le_refl _) _)⟩
    · have q0 := bs_other e0
      clear e0
      go_wp2
      try simp only [Exit.inBlock, Exit.then]
      refine bodyPost_ret (v := .tuple #[.agg #[.int .i64 0, .int .i64 0, .int .i64 0, .int .i64 0, .slice none 0 0], .bool false]) (by simp [results, Tryd.results47, go_sem, *]) rfl ?_
      exact ⟨rfl, (((((HB.out.setCell (p := ⟨w.heap.size, 0, none⟩) (Nat.le_refl _) _).setCell (p := ⟨w.heap.size, 1, none⟩) (Nat.le_refl _) _).setCell (p := ⟨w.heap.size, 2, none⟩) (Nat.le_refl _) _).setCell (p := ⟨w.heap.size, 3, none⟩) (Nat.le_refl _) _).setCell (p := ⟨w.heap.size, 4, none⟩) (Nat.le_refl _) _)⟩

end Go.Proofs.YtammejplaeaocaaDoor
