/-
  The program's readRule reads a rule's line. Condition: the errors that it names hold what the program's text lays; strings.Split cuts as its contract says; the line has at most 1048576 bytes.
-/
import Derived.Test.YtammejplaeaocaaDoorButI
namespace Go.Proofs.YtammejplaeaocaaDoor
open Go.RowKit

/-- The library's bound on a search holds some int. -/
def MaxAt (w : World) : Prop := ∃ m : Int, w.cell? ⟨7, 0, none⟩ = some (.int .i64 m)
theorem MaxAt.below {w w' : World} {B : Nat} (h : MaxAt w) (hb : Below B w w') (hB : w.heap.size ≤ B) : MaxAt w' := by
  obtain ⟨m, hm⟩ := h
  have := cell_lt hm
  exact ⟨m, (hb.cell (p := ⟨7, 0, none⟩) (by simp at this ⊢; omega)).trans hm⟩
/-- A function of the program that cuts a text at each space. -/
def Cuts (P : Program) (f : FuncId) : Prop := ∀ (s : ByteArray) (w : World), s.size ≤ 1048576 → MaxAt w →
  Calls P f #[.string s, .string ⟨#[32]⟩] w fun e w' => e = .returned (.slice (some ⟨w.heap.size, 0, none⟩) (cutL 32 s.data.toList).length (cutL 32 s.data.toList).length) ∧ w' = w.alloc (.cells (strs (cutL 32 s.data.toList)).toArray 9)

/-- A rule, or an error made by errors.New. -/
def RuleV (W : World) (lo : Nat) (o : Option CR) (x v : Value) : Prop :=
  (∃ (r : CR) (bv : Value), o = some r ∧ v = .nilIface ∧ x = .agg #[.int .i64 r.e, .int .i64 r.a, .int .i64 r.f, .int .i64 r.t, bv] ∧ W.ownsRow lo 3 1 bv r.b.length (ints r.b)) ∨ (o = none ∧ x = .agg #[.int .i64 0, .int .i64 0, .int .i64 0, .int .i64 0, .slice none 0 0] ∧ ∃ p : Addr, v = .iface 166 (.pointer (some p)))

theorem ruleI_short {ws : List (List UInt8)} (h : ws.length < 8) : ruleI ws = none := by unfold ruleI; rw [if_pos h]
theorem ruleI_head {ws : List (List UInt8)} (h8 : ¬ ws.length < 8) {k : Nat} (hk : k ≤ 4) (h : headI ws k = none) : ruleI ws = none := by
  unfold ruleI; rw [if_neg h8, headI_up h 4 hk]
theorem ruleI_but {ws : List (List UInt8)} (h8 : ¬ ws.length < 8) (h : butI (ws.drop 8) = none) : ruleI ws = none := by
  unfold ruleI; rw [if_neg h8, h]; cases headI ws 4 <;> rfl
theorem ruleI_ok {ws : List (List UInt8)} (h8 : ¬ ws.length < 8) {ns : List Int} (h : headI ws 4 = some ns) {b : List Int} (hb : butI (ws.drop 8) = some b) : ruleI ws = some ⟨ns[0]?.getD 0, ns[1]?.getD 0, ns[2]?.getD 0, ns[3]?.getD 0, b⟩ := by
  unfold ruleI; rw [if_neg h8, h, hb]
theorem headI_name {ws : List (List UInt8)} {k : Nat} (h : ws[2 * k]?.getD [] ≠ nameAt k) : headI ws (k + 1) = none := by
  unfold headI
  cases headI ws k with
  | none => rfl
  | some ns => simp [h]
theorem headI_num {ws : List (List UInt8)} {k : Nat} (h : numI (ws[2 * k + 1]?.getD []) = none) : headI ws (k + 1) = none := by
  unfold headI
  cases headI ws k with
  | none => rfl
  | some ns => simp [h]
theorem headI_ok {ws : List (List UInt8)} {k : Nat} {ns : List Int} {n : Int} (h0 : headI ws k = some ns) (h1 : ws[2 * k]?.getD [] = nameAt k) (h : numI (ws[2 * k + 1]?.getD []) = some n) : headI ws (k + 1) = some (ns ++ [n]) := by
  conv => lhs; unfold headI
  rw [h0]
  simp [h1, h]

theorem blk_cell {W : World} {b : Nat} {cs : Array Value} {t : TypeId} {fr : Nat × Nat} (h : W.heap[b]? = some (.cells cs t fr)) (j : Nat) : W.cell? ⟨b, j, none⟩ = cs[j]? := by
  unfold World.cell?
  simp only [h]
  rfl
theorem blk_frozen {W : World} {b : Nat} {cs : Array Value} {t : TypeId} (h : W.heap[b]? = some (.cells cs t (0, 0))) (j : Nat) : W.frozen? ⟨b, j, none⟩ = false := by
  simp [World.frozen?, h]

theorem idx0 (a b c d : ByteArray) (W : World) : (Instr.index 104 (.agg #[.string a, .string b, .string c, .string d]) (.int .i64 0)).run Tryd.prog W = .ok (.string a) W := by
  simp [Instr.index, run_underlying Tryd.underlying104, asIntOf, part, go_sem]
theorem idx1 (a b c d : ByteArray) (W : World) : (Instr.index 104 (.agg #[.string a, .string b, .string c, .string d]) (.int .i64 1)).run Tryd.prog W = .ok (.string b) W := by
  simp [Instr.index, run_underlying Tryd.underlying104, asIntOf, part, go_sem]
theorem idx2 (a b c d : ByteArray) (W : World) : (Instr.index 104 (.agg #[.string a, .string b, .string c, .string d]) (.int .i64 2)).run Tryd.prog W = .ok (.string c) W := by
  simp [Instr.index, run_underlying Tryd.underlying104, asIntOf, part, go_sem]
theorem idx3 (a b c d : ByteArray) (W : World) : (Instr.index 104 (.agg #[.string a, .string b, .string c, .string d]) (.int .i64 3)).run Tryd.prog W = .ok (.string d) W := by
  simp [Instr.index, run_underlying Tryd.underlying104, asIntOf, part, go_sem]
theorem step_nums {W : World} {R k j : Nat} {ns : List Int} {n : Int} (hnl : ns.length = k) (hk : k < 4) (hj : j < 4) (h : ∀ i, i < 4 → W.cell? ⟨R, i, none⟩ = some (.int .i64 (ns[i]?.getD 0))) :
    (W.setCell ⟨R, k, none⟩ (.int .i64 n)).cell? ⟨R, j, none⟩ = some (.int .i64 ((ns ++ [n])[j]?.getD 0)) := by
  by_cases e : j = k
  · subst e
    rw [cell_setCell_same _ ⟨_, h j hj⟩, List.getElem?_append_right (by omega), hnl, Nat.sub_self]
    rfl
  · rw [cell_setCell_off _ e, h j hj]
    congr 2
    by_cases hl : j < k
    · rw [List.getElem?_append_left (by omega)]
    · rw [List.getElem?_eq_none (by omega), List.getElem?_eq_none (by simp; omega)]

set_option maxRecDepth 100000 in
set_option maxHeartbeats 4000000 in
theorem readRule_any (s : ByteArray) (w : World) (hs : s.size ≤ 1048576) (hg : Glob2 w) (hM : MaxAt w) (hS : Cuts Tryd.prog 84) :
    Calls Tryd.prog 67 #[.string s] w fun e w' => ∃ x v, e = .returned (.tuple #[x, v]) ∧ RuleV w' w.heap.size (ruleI (cutL 32 s.data.toList)) x v ∧ Below w.heap.size w w' := by
  obtain ⟨ws, hws⟩ : ∃ ws, ws = cutL 32 s.data.toList := ⟨_, rfl⟩
  have HWS : Hid (ws = cutL 32 s.data.toList) := hws
  rw [← hws]
  have hl2 : ws.length ≤ 1048577 := by rw [hws]; have := cutL_len 32 s.data.toList; rw [data_len] at this; omega
  have HSZ : Hid (∀ j : Nat, (bs (ws[j]?.getD [])).size ≤ 1048576) := fun j => by rw [hws, bs_size]; have := piece_le 32 s.data.toList j; rw [data_len] at this; omega
  clear hws
  obtain ⟨Z, hZ⟩ : ∃ Z : Obj, Z = .cells #[.int .i64 0, .int .i64 0, .int .i64 0, .int .i64 0, .slice none 0 0] 66 := ⟨_, rfl⟩
  obtain ⟨W3, hW3⟩ : ∃ W3, W3 = ((w.alloc (.cells #[.int .i64 0, .int .i64 0, .int .i64 0, .int .i64 0, .slice none 0 0] 66)).alloc (.cells #[.string ⟨#[101, 118, 101, 114, 121]⟩, .string ⟨#[97, 116]⟩, .string ⟨#[102, 114, 111, 109]⟩, .string ⟨#[116, 111]⟩] 104)).alloc (.cells #[.int .i64 0, .int .i64 0, .int .i64 0, .int .i64 0] 105) := ⟨_, rfl⟩
  clear hZ Z
  have hB3 : Below w.heap.size w W3 := by rw [hW3]; exact (((Below.refl _ _).alloc (Nat.le_refl _) _).alloc (by simp) _).alloc (by simp; omega) _
  have hz3 : W3.heap.size = w.heap.size + 3 := by rw [hW3]; simp
  have HM : Hid (MaxAt W3) := hM.below hB3 (Nat.le_refl _)
  have HG : Hid (Glob2 W3) := hg.below hB3 (Nat.le_refl _)
  have hgl : 4 < w.heap.size := by obtain ⟨p, h⟩ := hg.form; exact cell_lt h
  have hne1 : 4 ≠ w.heap.size := by omega
  have hne2 : w.heap.size ≠ 4 := by omega
  have HG0 : Hid (Glob2 w) := hg
  clear hM hg
  have k0 : W3.heap[w.heap.size]? = some (.cells #[.int .i64 0, .int .i64 0, .int .i64 0, .int .i64 0, .slice none 0 0] 66 (0, 0)) := by
    rw [hW3, Below.heap_alloc _ _ _ (by simp; omega), Below.heap_alloc _ _ _ (by simp)]; exact heap_alloc_new w _
  have k1 : W3.heap[w.heap.size + 1]? = some (.cells #[.string ⟨#[101, 118, 101, 114, 121]⟩, .string ⟨#[97, 116]⟩, .string ⟨#[102, 114, 111, 109]⟩, .string ⟨#[116, 111]⟩] 104 (0, 0)) := by
    rw [hW3, Below.heap_alloc _ _ _ (by simp)]
    have := heap_alloc_new (w.alloc (.cells #[.int .i64 0, .int .i64 0, .int .i64 0, .int .i64 0, .slice none 0 0] 66)) (.cells #[.string ⟨#[101, 118, 101, 114, 121]⟩, .string ⟨#[97, 116]⟩, .string ⟨#[102, 114, 111, 109]⟩, .string ⟨#[116, 111]⟩] 104 (0, 0))
    rwa [World.size_alloc] at this
  have k2 : W3.heap[w.heap.size + 2]? = some (.cells #[.int .i64 0, .int .i64 0, .int .i64 0, .int .i64 0] 105 (0, 0)) := by
    rw [hW3]
    have := heap_alloc_new ((w.alloc (.cells #[.int .i64 0, .int .i64 0, .int .i64 0, .int .i64 0, .slice none 0 0] 66)).alloc (.cells #[.string ⟨#[101, 118, 101, 114, 121]⟩, .string ⟨#[97, 116]⟩, .string ⟨#[102, 114, 111, 109]⟩, .string ⟨#[116, 111]⟩] 104)) (.cells #[.int .i64 0, .int .i64 0, .int .i64 0, .int .i64 0] 105 (0, 0))
    rwa [World.size_alloc, World.size_alloc] at this
  have HRES : Hid (∀ W, Below (w.heap.size + 1) W3 W → W.cell? ⟨w.heap.size, 0, none⟩ = some (.int .i64 0) ∧ W.cell? ⟨w.heap.size, 1, none⟩ = some (.int .i64 0) ∧ W.cell? ⟨w.heap.size, 2, none⟩ = some (.int .i64 0) ∧ W.cell? ⟨w.heap.size, 3, none⟩ = some (.int .i64 0) ∧ W.cell? ⟨w.heap.size, 4, none⟩ = some (.slice none 0 0) ∧ ∀ j, W.frozen? ⟨w.heap.size, j, none⟩ = false) := fun W hb => by
    have e := (hb.block w.heap.size (Nat.lt_succ_self _)).trans k0
    exact ⟨blk_cell e 0, blk_cell e 1, blk_cell e 2, blk_cell e 3, blk_cell e 4, blk_frozen e⟩
  have HNAM : Hid (∀ W, Below (w.heap.size + 2) W3 W → W.cell? ⟨w.heap.size + 1, 0, none⟩ = some (.string ⟨#[101, 118, 101, 114, 121]⟩) ∧ W.cell? ⟨w.heap.size + 1, 1, none⟩ = some (.string ⟨#[97, 116]⟩) ∧ W.cell? ⟨w.heap.size + 1, 2, none⟩ = some (.string ⟨#[102, 114, 111, 109]⟩) ∧ W.cell? ⟨w.heap.size + 1, 3, none⟩ = some (.string ⟨#[116, 111]⟩)) := fun W hb => by
    have e := (hb.block (w.heap.size + 1) (Nat.lt_succ_self _)).trans k1
    exact ⟨blk_cell e 0, blk_cell e 1, blk_cell e 2, blk_cell e 3⟩
  have HNUM : Hid (∀ W, Below (w.heap.size + 3) W3 W → W.cell? ⟨w.heap.size + 2, 0, none⟩ = some (.int .i64 0) ∧ W.cell? ⟨w.heap.size + 2, 1, none⟩ = some (.int .i64 0) ∧ W.cell? ⟨w.heap.size + 2, 2, none⟩ = some (.int .i64 0) ∧ W.cell? ⟨w.heap.size + 2, 3, none⟩ = some (.int .i64 0) ∧ ∀ j, W.frozen? ⟨w.heap.size + 2, j, none⟩ = false) := fun W hb => by
    have e := (hb.block (w.heap.size + 2) (Nat.lt_succ_self _)).trans k2
    exact ⟨blk_cell e 0, blk_cell e 1, blk_cell e 2, blk_cell e 3, blk_frozen e⟩
  clear k0 k1 k2
  go_enter Tryd.func67, Tryd.ntmps67
  go_wp2_with fail
  rw [← hW3]
  clear hW3
  refine (hS s W3 hs HM.out).mono ?_
  rw [← HWS.out]
  rintro e W4 ⟨rfl, hW4⟩
  have HB3 : Hid (Below w.heap.size w W3) := hB3
  clear hB3
  have hb4 : Below W3.heap.size W3 W4 := by rw [hW4]; exact (Below.refl _ _).alloc (Nat.le_refl _) _
  have HB4 : Hid (Below W3.heap.size W3 W4) := hb4
  have HWD : Hid (∀ j, j < ws.length → W4.cell? ⟨w.heap.size + 3, j, none⟩ = some (.string (bs (ws[j]?.getD [])))) := fun j hj => by
    rw [hW4, ← hz3, (cells_new W3 _ _ j), List.getElem?_toArray]
    unfold strs
    rw [List.getElem?_map, List.getElem?_eq_getElem hj]
    rfl
  have hz4 : W4.heap.size = w.heap.size + 4 := by rw [hW4]; simp; omega
  clear hW4 hb4
  rw [hz3]
  have HZ3 : Hid (W3.heap.size = w.heap.size + 3) := hz3
  clear hz3
  have hg4 := HG.out.below HB4.out (Nat.le_refl _)
  obtain ⟨pf, hpf⟩ := hg4.form
  have HE : Hid (∀ (W : World) (p : Addr), ruleI ws = none → RuleV W w.heap.size (ruleI ws) (.agg #[.int .i64 0, .int .i64 0, .int .i64 0, .int .i64 0, .slice none 0 0]) (.iface 166 (.pointer (some p)))) := fun W p h => Or.inr ⟨h, rfl, p, rfl⟩
  have HFIN : Hid (∀ W (v0 v1 v2 v3 v4 : Value), Below w.heap.size w W → Below w.heap.size w (((((W.setCell ⟨w.heap.size, 0, none⟩ v0).setCell ⟨w.heap.size, 1, none⟩ v1).setCell ⟨w.heap.size, 2, none⟩ v2).setCell ⟨w.heap.size, 3, none⟩ v3).setCell ⟨w.heap.size, 4, none⟩ v4)) := fun W v0 v1 v2 v3 v4 h =>
    ((((h.setCell (p := ⟨w.heap.size, 0, none⟩) (Nat.le_refl _) _).setCell (p := ⟨w.heap.size, 1, none⟩) (Nat.le_refl _) _).setCell (p := ⟨w.heap.size, 2, none⟩) (Nat.le_refl _) _).setCell (p := ⟨w.heap.size, 3, none⟩) (Nat.le_refl _) _).setCell (p := ⟨w.heap.size, 4, none⟩) (Nat.le_refl _) _
  by_cases h8 : ws.length < 8
  · obtain ⟨z0, z1, z2, z3, z4, zf⟩ := HRES.out W4 (HB4.out.mono (by have := HZ3.out; omega))
    have f0 := zf 0
    have f1 := zf 1
    have f2 := zf 2
    have f3 := zf 3
    have f4 := zf 4
    go_wp2
    go_region
    all_goals (
      go_wp2
      try simp only [Exit.inBlock, Exit.then]
      refine bodyPost_ret (v := .tuple #[.agg #[.int .i64 0, .int .i64 0, .int .i64 0, .int .i64 0, .slice none 0 0], .iface 166 (.pointer (some pf))]) (by simp [results, Tryd.results67, go_sem, *]) rfl ?_
      exact ⟨_, _, rfl, HE.out _ _ (ruleI_short h8), (HFIN.out _ _ _ _ _ _ (HB3.out.trans (HB4.out.mono HB3.out.size))).drew⟩)
  · obtain ⟨n0, n1, n2, n3⟩ := HNAM.out W4 (HB4.out.mono (by have := HZ3.out; omega))
    go_wp2_with fail
    go_loopw [7, 8, 9, 10, 22] (fun _ _ _ _ ix wr => ∃ (k : Nat) (ns : List Int), ix = .int .i64 k ∧ k ≤ 4 ∧ ns.length = k ∧ Hid (headI ws k = some ns) ∧ Hid (∀ j, j < 4 → wr.cell? ⟨w.heap.size + 2, j, none⟩ = some (.int .i64 (ns[j]?.getD 0))) ∧ Hid (∀ j, wr.frozen? ⟨w.heap.size + 2, j, none⟩ = false) ∧ Hid (Below (w.heap.size + 2) W4 wr) ∧ Hid (∀ j, j < ws.length → wr.cell? ⟨w.heap.size + 3, j, none⟩ = some (.string (bs (ws[j]?.getD [])))) ∧ w.heap.size + 4 ≤ wr.heap.size) (fun _ _ _ _ ix _ => 4 - (intOf ix).toNat)
    case atStart =>
      obtain ⟨m0, m1, m2, m3, mf⟩ := HNUM.out W4 (HB4.out.mono (by have := HZ3.out; omega))
      refine ⟨0, [], rfl, by omega, rfl, rfl, fun j hj => ?_, mf, Below.refl _ _, HWD.out, by omega⟩
      match j, hj with
      | 0, _ => exact m0
      | 1, _ => exact m1
      | 2, _ => exact m2
      | 3, _ => exact m3
    case round =>
      obtain ⟨k, ns, rfl, hk, hnl, HH, HQ, HF, HBr, HWr, hszr⟩ := hrel
      have HBW : Hid (Below w.heap.size w wr) := HB3.out.trans ((HB4.out.mono (by have := HZ3.out; omega)).trans (HBr.out.mono (by omega)))
      have hgr := HG0.out.below HBW.out (Nat.le_refl _)
      have hpfr := (HBr.out.cell (p := ⟨4, 0, none⟩) (by simp; omega)).trans hpf
      by_cases h4 : k = 4
      · subst h4
        obtain ⟨z0, z1, z2, z3, z4, zf⟩ := HRES.out wr ((HB4.out.mono (by have := HZ3.out; omega)).trans (HBr.out.mono (by omega)))
        have q0 := HQ.out 0 (by omega)
        have q1 := HQ.out 1 (by omega)
        have q2 := HQ.out 2 (by omega)
        have q3 := HQ.out 3 (by omega)
        have HZW : Hid (∀ w1, Below wr.heap.size wr w1 → (w1.cell? ⟨w.heap.size, 0, none⟩ = some (.int .i64 0) ∧ w1.cell? ⟨w.heap.size, 1, none⟩ = some (.int .i64 0) ∧ w1.cell? ⟨w.heap.size, 2, none⟩ = some (.int .i64 0) ∧ w1.cell? ⟨w.heap.size, 3, none⟩ = some (.int .i64 0) ∧ w1.cell? ⟨w.heap.size, 4, none⟩ = some (.slice none 0 0) ∧ ∀ j, w1.frozen? ⟨w.heap.size, j, none⟩ = false) ∧ (w1.cell? ⟨w.heap.size + 2, 0, none⟩ = some (.int .i64 (ns[0]?.getD 0)) ∧ w1.cell? ⟨w.heap.size + 2, 1, none⟩ = some (.int .i64 (ns[1]?.getD 0)) ∧ w1.cell? ⟨w.heap.size + 2, 2, none⟩ = some (.int .i64 (ns[2]?.getD 0)) ∧ w1.cell? ⟨w.heap.size + 2, 3, none⟩ = some (.int .i64 (ns[3]?.getD 0)))) := fun w1 hb1 =>
          ⟨⟨(hb1.cell (p := ⟨w.heap.size, 0, none⟩) (by simp; omega)).trans z0, (hb1.cell (p := ⟨w.heap.size, 1, none⟩) (by simp; omega)).trans z1, (hb1.cell (p := ⟨w.heap.size, 2, none⟩) (by simp; omega)).trans z2, (hb1.cell (p := ⟨w.heap.size, 3, none⟩) (by simp; omega)).trans z3, (hb1.cell (p := ⟨w.heap.size, 4, none⟩) (by simp; omega)).trans z4, fun j => (hb1.frozen (p := ⟨w.heap.size, j, none⟩) (by simp; omega)).trans (zf j)⟩,
           ⟨(hb1.cell (p := ⟨w.heap.size + 2, 0, none⟩) (by simp; omega)).trans q0, (hb1.cell (p := ⟨w.heap.size + 2, 1, none⟩) (by simp; omega)).trans q1, (hb1.cell (p := ⟨w.heap.size + 2, 2, none⟩) (by simp; omega)).trans q2, (hb1.cell (p := ⟨w.heap.size + 2, 3, none⟩) (by simp; omega)).trans q3⟩⟩
        clear z0 z1 z2 z3 z4 zf q0 q1 q2 q3
        obtain ⟨m0, hm0⟩ : ∃ x, x = ns[0]?.getD 0 := ⟨_, rfl⟩
        obtain ⟨m1, hm1⟩ : ∃ x, x = ns[1]?.getD 0 := ⟨_, rfl⟩
        obtain ⟨m2, hm2⟩ : ∃ x, x = ns[2]?.getD 0 := ⟨_, rfl⟩
        obtain ⟨m3, hm3⟩ : ∃ x, x = ns[3]?.getD 0 := ⟨_, rfl⟩
        rw [← hm0, ← hm1, ← hm2, ← hm3] at HZW
        have HMM : Hid (m0 = ns[0]?.getD 0 ∧ m1 = ns[1]?.getD 0 ∧ m2 = ns[2]?.getD 0 ∧ m3 = ns[3]?.getD 0) := ⟨hm0, hm1, hm2, hm3⟩
        clear hm0 hm1 hm2 hm3
        have hdl : (ws.drop 8).length = ws.length - 8 := by simp
        have HPZ : Hid (∀ j : Nat, (bs ((ws.drop 8)[j]?.getD [])).size ≤ 1048576) := fun j => by have := HSZ.out (8 + j); rw [← List.getElem?_drop] at this; exact this
        have hc8 : 8 ≤ ws.length := by omega
        by_cases h88 : ws.length = 8
        · have hd8 : ws.drop 8 = [] := List.drop_eq_nil_of_le (by omega)
          have hcall := readBut_any [] (some ⟨w.heap.size + 3, 0, none⟩) 0 wr hgr (by simp) (by simp) (by simp) (fun j => by simp [bs_size]) (fun h => by simp at h)
          rw [← hd8] at hcall
          rw [show (ws.drop 8).length = 0 by rw [hd8]; rfl] at hcall
          clear hdl hd8 HPZ
          go_wp2_with fail
          refine hcall.mono ?_
          rintro e w1 ⟨x, v1, rfl, hbv, hb1⟩
          have HBX : Hid (Below w.heap.size w w1) := HBW.out.trans (hb1.mono (by omega))
          obtain ⟨⟨z0, z1, z2, z3, z4, zf⟩, q0, q1, q2, q3⟩ := HZW.out w1 hb1
          have f0 := zf 0
          have f1 := zf 1
          have f2 := zf 2
          have f3 := zf 3
          have f4 := zf 4
          have hszw := hb1.size
          clear hb1 hcall
          rcases hbv with ⟨bl, hbu, rfl, hown⟩ | ⟨hbu, p, rfl⟩
          · have HR : Hid (ruleI ws = some ⟨m0, m1, m2, m3, bl⟩) := by
              show _ = _
              rw [HMM.out.1, HMM.out.2.1, HMM.out.2.2.1, HMM.out.2.2.2]
              exact ruleI_ok h8 HH.out hbu
            obtain ⟨xa, xc, rfl⟩ : ∃ xa xc, x = .slice xa bl.length xc := by
              rcases hown.2 with ⟨hv, h0⟩ | ⟨g, cap, cur, hv, _⟩
              · exact ⟨none, 0, by rw [hv, h0]⟩
              · exact ⟨_, _, hv⟩
            have HO : Hid (w1.ownsRow wr.heap.size 3 1 (.slice xa bl.length xc) bl.length (ints bl)) := hown
            clear hown hbu
            go_wp2
            try simp only [Exit.inBlock, Exit.then]
            refine bodyPost_ret (v := .tuple #[.agg #[.int .i64 m0, .int .i64 m1, .int .i64 m2, .int .i64 m3, .slice xa bl.length xc], .nilIface]) (by simp [results, Tryd.results67, go_sem, *]) rfl ?_
            refine ⟨_, _, rfl, Or.inl ⟨_, _, HR.out, rfl, rfl, ?_⟩, HFIN.out _ _ _ _ _ _ HBX.out⟩
            have hq : w.heap.size < wr.heap.size := by omega
            refine row_mono (base := wr.heap.size) ?_ (by omega)
            exact ownsRow_setCell_below (ownsRow_setCell_below (ownsRow_setCell_below (ownsRow_setCell_below (ownsRow_setCell_below HO.out hq _) hq _) hq _) hq _) hq _
          · have HN1 : Hid (ruleI ws = none) := ruleI_but h8 hbu
            clear hbu
            go_wp2
            try simp only [Exit.inBlock, Exit.then]
            refine bodyPost_ret (v := .tuple #[.agg #[.int .i64 0, .int .i64 0, .int .i64 0, .int .i64 0, .slice none 0 0], .iface 166 (.pointer (some p))]) (by simp [results, Tryd.results67, go_sem, *]) rfl ?_
            exact ⟨_, _, rfl, HE.out _ _ HN1.out, HFIN.out _ _ _ _ _ _ HBX.out⟩
        · have hcall := readBut_any (ws.drop 8) (some ⟨w.heap.size + 3, 8, none⟩) (ws.length - 8) wr hgr (by omega) (by omega) (by omega) HPZ.out (fun h => ⟨w.heap.size + 3, 8, rfl, fun j hj => by rw [HWr.out (8 + j) (by omega), List.getElem?_drop]⟩)
          rw [hdl] at hcall
          go_wp2_with fail
          refine hcall.mono ?_
          rintro e w1 ⟨x, v1, rfl, hbv, hb1⟩
          have HBX : Hid (Below w.heap.size w w1) := HBW.out.trans (hb1.mono (by omega))
          obtain ⟨⟨z0, z1, z2, z3, z4, zf⟩, q0, q1, q2, q3⟩ := HZW.out w1 hb1
          have f0 := zf 0
          have f1 := zf 1
          have f2 := zf 2
          have f3 := zf 3
          have f4 := zf 4
          have hszw := hb1.size
          clear hb1 hcall
          rcases hbv with ⟨bl, hbu, rfl, hown⟩ | ⟨hbu, p, rfl⟩
          · have HR : Hid (ruleI ws = some ⟨m0, m1, m2, m3, bl⟩) := by
              show _ = _
              rw [HMM.out.1, HMM.out.2.1, HMM.out.2.2.1, HMM.out.2.2.2]
              exact ruleI_ok h8 HH.out hbu
            obtain ⟨xa, xc, rfl⟩ : ∃ xa xc, x = .slice xa bl.length xc := by
              rcases hown.2 with ⟨hv, h0⟩ | ⟨g, cap, cur, hv, _⟩
              · exact ⟨none, 0, by rw [hv, h0]⟩
              · exact ⟨_, _, hv⟩
            have HO : Hid (w1.ownsRow wr.heap.size 3 1 (.slice xa bl.length xc) bl.length (ints bl)) := hown
            clear hown hbu
            go_wp2
            try simp only [Exit.inBlock, Exit.then]
            refine bodyPost_ret (v := .tuple #[.agg #[.int .i64 m0, .int .i64 m1, .int .i64 m2, .int .i64 m3, .slice xa bl.length xc], .nilIface]) (by simp [results, Tryd.results67, go_sem, *]) rfl ?_
            refine ⟨_, _, rfl, Or.inl ⟨_, _, HR.out, rfl, rfl, ?_⟩, HFIN.out _ _ _ _ _ _ HBX.out⟩
            have hq : w.heap.size < wr.heap.size := by omega
            refine row_mono (base := wr.heap.size) ?_ (by omega)
            exact ownsRow_setCell_below (ownsRow_setCell_below (ownsRow_setCell_below (ownsRow_setCell_below (ownsRow_setCell_below HO.out hq _) hq _) hq _) hq _) hq _
          · have HN1 : Hid (ruleI ws = none) := ruleI_but h8 hbu
            clear hbu
            go_wp2
            try simp only [Exit.inBlock, Exit.then]
            refine bodyPost_ret (v := .tuple #[.agg #[.int .i64 0, .int .i64 0, .int .i64 0, .int .i64 0, .slice none 0 0], .iface 166 (.pointer (some p))]) (by simp [results, Tryd.results67, go_sem, *]) rfl ?_
            exact ⟨_, _, rfl, HE.out _ _ HN1.out, HFIN.out _ _ _ _ _ _ HBX.out⟩
      · have hk3 : k = 0 ∨ k = 1 ∨ k = 2 ∨ k = 3 := by omega
        rcases hk3 with rfl | rfl | rfl | rfl
        · have hidx := idx0 ⟨#[101, 118, 101, 114, 121]⟩ ⟨#[97, 116]⟩ ⟨#[102, 114, 111, 109]⟩ ⟨#[116, 111]⟩
          have ca := HWr.out 0 (by omega)
          have cb := HWr.out 1 (by omega)
          have qk := HQ.out 0 (by omega)
          have fk := HF.out 0
          obtain ⟨x, hx⟩ : ∃ x, x = ws[0]?.getD [] := ⟨_, rfl⟩
          obtain ⟨y, hy⟩ : ∃ y, y = bs (ws[1]?.getD []) := ⟨_, rfl⟩
          rw [← hx] at ca
          rw [← hy] at cb
          have sy : y.size ≤ 1048576 := hy ▸ HSZ.out 1
          have HX : Hid (x = ws[0]?.getD []) := hx
          have HY : Hid (y.data.toList = ws[1]?.getD []) := by show _ = _; rw [hy]; rfl
          clear hx hy
          by_cases e0 : x = [101, 118, 101, 114, 121]
          · have HNK : Hid (ws[2 * 0]?.getD [] = nameAt 0) := by show _ = _; rw [← HX.out, e0]; rfl
            rw [e0] at ca
            have p0 := bs_same [101, 118, 101, 114, 121]
            clear e0
            go_wp2_with fail
            refine (readNumber_any y _ sy hgr).mono ?_
            rintro e w1 ⟨n, v1, rfl, (⟨hn, rfl⟩ | ⟨hn, p, rfl⟩), hb1⟩
            · have HN1 : Hid (numI (ws[2 * 0 + 1]?.getD []) = some n) := by show _ = _; rw [← hn, ← HY.out]
              have qk1 := (hb1.cell (p := ⟨w.heap.size + 2, 0, none⟩) (cell_lt qk)).trans qk
              have fk1 := (hb1.frozen (p := ⟨w.heap.size + 2, 0, none⟩) (cell_lt qk)).trans fk
              have HB1 : Hid (Below wr.heap.size wr w1) := hb1
              clear hn hb1
              go_wp2
              go_roundw
              case rel => exact ⟨1, ns ++ [n], rfl, by omega, by simp [hnl], headI_ok HH.out HNK.out HN1.out, fun j hj => step_nums hnl (by omega) hj (fun i hi => (HB1.out.cell (p := ⟨w.heap.size + 2, i, none⟩) (by simp; omega)).trans (HQ.out i hi)) , fun j => by rw [World.frozen?_setCell, HB1.out.frozen (p := ⟨w.heap.size + 2, j, none⟩) (by simp; omega)]; exact HF.out j, (HBr.out.trans (HB1.out.mono (by have := HBr.out.size; omega))).setCell (p := ⟨w.heap.size + 2, 0, none⟩) (Nat.le_refl _) _, fun j hj => by rw [cell_setCell_other _ (by simp), HB1.out.cell (p := ⟨w.heap.size + 3, j, none⟩) (by simp; omega)]; exact HWr.out j hj, by have := HB1.out.size; simp [World.setCell]; omega⟩
              case measure => simp [intOf]
            · have HN1 : Hid (ruleI ws = none) := ruleI_head h8 (k := 0 + 1) (by omega) (headI_num (by rw [← HY.out]; exact hn))
              have HBX : Hid (Below w.heap.size w w1) := HB3.out.trans ((HB4.out.mono (by have := HZ3.out; omega)).trans ((HBr.out.mono (by omega)).trans (hb1.mono (by omega))))
              obtain ⟨z0, z1, z2, z3, z4, zf⟩ := HRES.out w1 ((HB4.out.mono (by have := HZ3.out; omega)).trans ((HBr.out.mono (by omega)).trans (hb1.mono (by omega))))
              have f0 := zf 0
              have f1 := zf 1
              have f2 := zf 2
              have f3 := zf 3
              have f4 := zf 4
              clear hn hb1
              go_wp2
              try simp only [Exit.inBlock, Exit.then]
              refine bodyPost_ret (v := .tuple #[.agg #[.int .i64 0, .int .i64 0, .int .i64 0, .int .i64 0, .slice none 0 0], .iface 166 (.pointer (some p))]) (by simp [results, Tryd.results67, go_sem, *]) rfl ?_
              exact ⟨_, _, rfl, HE.out _ _ HN1.out, HFIN.out _ _ _ _ _ _ HBX.out⟩
          · have HN1 : Hid (ruleI ws = none) := ruleI_head h8 (k := 0 + 1) (by omega) (headI_name (fun h => e0 (HX.out.trans h)))
            have q0 := bs_other e0
            clear e0
            have HBX : Hid (Below w.heap.size w wr) := HB3.out.trans ((HB4.out.mono (by have := HZ3.out; omega)).trans (HBr.out.mono (by omega)))
            obtain ⟨z0, z1, z2, z3, z4, zf⟩ := HRES.out wr ((HB4.out.mono (by have := HZ3.out; omega)).trans (HBr.out.mono (by omega)))
            have f0 := zf 0
            have f1 := zf 1
            have f2 := zf 2
            have f3 := zf 3
            have f4 := zf 4
            go_wp2
            go_region
            all_goals (
              go_wp2
              try simp only [Exit.inBlock, Exit.then]
              refine bodyPost_ret (v := .tuple #[.agg #[.int .i64 0, .int .i64 0, .int .i64 0, .int .i64 0, .slice none 0 0], .iface 166 (.pointer (some pf))]) (by simp [results, Tryd.results67, go_sem, *]) rfl ?_
              exact ⟨_, _, rfl, HE.out _ _ HN1.out, (HFIN.out _ _ _ _ _ _ HBX.out).drew⟩)
        · have hidx := idx1 ⟨#[101, 118, 101, 114, 121]⟩ ⟨#[97, 116]⟩ ⟨#[102, 114, 111, 109]⟩ ⟨#[116, 111]⟩
          have ca := HWr.out 2 (by omega)
          have cb := HWr.out 3 (by omega)
          have qk := HQ.out 1 (by omega)
          have fk := HF.out 1
          obtain ⟨x, hx⟩ : ∃ x, x = ws[2]?.getD [] := ⟨_, rfl⟩
          obtain ⟨y, hy⟩ : ∃ y, y = bs (ws[3]?.getD []) := ⟨_, rfl⟩
          rw [← hx] at ca
          rw [← hy] at cb
          have sy : y.size ≤ 1048576 := hy ▸ HSZ.out 3
          have HX : Hid (x = ws[2]?.getD []) := hx
          have HY : Hid (y.data.toList = ws[3]?.getD []) := by show _ = _; rw [hy]; rfl
          clear hx hy
          by_cases e0 : x = [97, 116]
          · have HNK : Hid (ws[2 * 1]?.getD [] = nameAt 1) := by show _ = _; rw [← HX.out, e0]; rfl
            rw [e0] at ca
            have p0 := bs_same [97, 116]
            clear e0
            go_wp2_with fail
            refine (readNumber_any y _ sy hgr).mono ?_
            rintro e w1 ⟨n, v1, rfl, (⟨hn, rfl⟩ | ⟨hn, p, rfl⟩), hb1⟩
            · have HN1 : Hid (numI (ws[2 * 1 + 1]?.getD []) = some n) := by show _ = _; rw [← hn, ← HY.out]
              have qk1 := (hb1.cell (p := ⟨w.heap.size + 2, 1, none⟩) (cell_lt qk)).trans qk
              have fk1 := (hb1.frozen (p := ⟨w.heap.size + 2, 1, none⟩) (cell_lt qk)).trans fk
              have HB1 : Hid (Below wr.heap.size wr w1) := hb1
              clear hn hb1
              go_wp2
              go_roundw
              case rel => exact ⟨2, ns ++ [n], rfl, by omega, by simp [hnl], headI_ok HH.out HNK.out HN1.out, fun j hj => step_nums hnl (by omega) hj (fun i hi => (HB1.out.cell (p := ⟨w.heap.size + 2, i, none⟩) (by simp; omega)).trans (HQ.out i hi)) , fun j => by rw [World.frozen?_setCell, HB1.out.frozen (p := ⟨w.heap.size + 2, j, none⟩) (by simp; omega)]; exact HF.out j, (HBr.out.trans (HB1.out.mono (by have := HBr.out.size; omega))).setCell (p := ⟨w.heap.size + 2, 1, none⟩) (Nat.le_refl _) _, fun j hj => by rw [cell_setCell_other _ (by simp), HB1.out.cell (p := ⟨w.heap.size + 3, j, none⟩) (by simp; omega)]; exact HWr.out j hj, by have := HB1.out.size; simp [World.setCell]; omega⟩
              case measure => simp [intOf]
            · have HN1 : Hid (ruleI ws = none) := ruleI_head h8 (k := 1 + 1) (by omega) (headI_num (by rw [← HY.out]; exact hn))
              have HBX : Hid (Below w.heap.size w w1) := HB3.out.trans ((HB4.out.mono (by have := HZ3.out; omega)).trans ((HBr.out.mono (by omega)).trans (hb1.mono (by omega))))
              obtain ⟨z0, z1, z2, z3, z4, zf⟩ := HRES.out w1 ((HB4.out.mono (by have := HZ3.out; omega)).trans ((HBr.out.mono (by omega)).trans (hb1.mono (by omega))))
              have f0 := zf 0
              have f1 := zf 1
              have f2 := zf 2
              have f3 := zf 3
              have f4 := zf 4
              clear hn hb1
              go_wp2
              try simp only [Exit.inBlock, Exit.then]
              refine bodyPost_ret (v := .tuple #[.agg #[.int .i64 0, .int .i64 0, .int .i64 0, .int .i64 0, .slice none 0 0], .iface 166 (.pointer (some p))]) (by simp [results, Tryd.results67, go_sem, *]) rfl ?_
              exact ⟨_, _, rfl, HE.out _ _ HN1.out, HFIN.out _ _ _ _ _ _ HBX.out⟩
          · have HN1 : Hid (ruleI ws = none) := ruleI_head h8 (k := 1 + 1) (by omega) (headI_name (fun h => e0 (HX.out.trans h)))
            have q0 := bs_other e0
            clear e0
            have HBX : Hid (Below w.heap.size w wr) := HB3.out.trans ((HB4.out.mono (by have := HZ3.out; omega)).trans (HBr.out.mono (by omega)))
            obtain ⟨z0, z1, z2, z3, z4, zf⟩ := HRES.out wr ((HB4.out.mono (by have := HZ3.out; omega)).trans (HBr.out.mono (by omega)))
            have f0 := zf 0
            have f1 := zf 1
            have f2 := zf 2
            have f3 := zf 3
            have f4 := zf 4
            go_wp2
            go_region
            all_goals (
              go_wp2
              try simp only [Exit.inBlock, Exit.then]
              refine bodyPost_ret (v := .tuple #[.agg #[.int .i64 0, .int .i64 0, .int .i64 0, .int .i64 0, .slice none 0 0], .iface 166 (.pointer (some pf))]) (by simp [results, Tryd.results67, go_sem, *]) rfl ?_
              exact ⟨_, _, rfl, HE.out _ _ HN1.out, (HFIN.out _ _ _ _ _ _ HBX.out).drew⟩)
        · have hidx := idx2 ⟨#[101, 118, 101, 114, 121]⟩ ⟨#[97, 116]⟩ ⟨#[102, 114, 111, 109]⟩ ⟨#[116, 111]⟩
          have ca := HWr.out 4 (by omega)
          have cb := HWr.out 5 (by omega)
          have qk := HQ.out 2 (by omega)
          have fk := HF.out 2
          obtain ⟨x, hx⟩ : ∃ x, x = ws[4]?.getD [] := ⟨_, rfl⟩
          obtain ⟨y, hy⟩ : ∃ y, y = bs (ws[5]?.getD []) := ⟨_, rfl⟩
          rw [← hx] at ca
          rw [← hy] at cb
          have sy : y.size ≤ 1048576 := hy ▸ HSZ.out 5
          have HX : Hid (x = ws[4]?.getD []) := hx
          have HY : Hid (y.data.toList = ws[5]?.getD []) := by show _ = _; rw [hy]; rfl
          clear hx hy
          by_cases e0 : x = [102, 114, 111, 109]
          · have HNK : Hid (ws[2 * 2]?.getD [] = nameAt 2) := by show _ = _; rw [← HX.out, e0]; rfl
            rw [e0] at ca
            have p0 := bs_same [102, 114, 111, 109]
            clear e0
            go_wp2_with fail
            refine (readNumber_any y _ sy hgr).mono ?_
            rintro e w1 ⟨n, v1, rfl, (⟨hn, rfl⟩ | ⟨hn, p, rfl⟩), hb1⟩
            · have HN1 : Hid (numI (ws[2 * 2 + 1]?.getD []) = some n) := by show _ = _; rw [← hn, ← HY.out]
              have qk1 := (hb1.cell (p := ⟨w.heap.size + 2, 2, none⟩) (cell_lt qk)).trans qk
              have fk1 := (hb1.frozen (p := ⟨w.heap.size + 2, 2, none⟩) (cell_lt qk)).trans fk
              have HB1 : Hid (Below wr.heap.size wr w1) := hb1
              clear hn hb1
              go_wp2
              go_roundw
              case rel => exact ⟨3, ns ++ [n], rfl, by omega, by simp [hnl], headI_ok HH.out HNK.out HN1.out, fun j hj => step_nums hnl (by omega) hj (fun i hi => (HB1.out.cell (p := ⟨w.heap.size + 2, i, none⟩) (by simp; omega)).trans (HQ.out i hi)) , fun j => by rw [World.frozen?_setCell, HB1.out.frozen (p := ⟨w.heap.size + 2, j, none⟩) (by simp; omega)]; exact HF.out j, (HBr.out.trans (HB1.out.mono (by have := HBr.out.size; omega))).setCell (p := ⟨w.heap.size + 2, 2, none⟩) (Nat.le_refl _) _, fun j hj => by rw [cell_setCell_other _ (by simp), HB1.out.cell (p := ⟨w.heap.size + 3, j, none⟩) (by simp; omega)]; exact HWr.out j hj, by have := HB1.out.size; simp [World.setCell]; omega⟩
              case measure => simp [intOf]
            · have HN1 : Hid (ruleI ws = none) := ruleI_head h8 (k := 2 + 1) (by omega) (headI_num (by rw [← HY.out]; exact hn))
              have HBX : Hid (Below w.heap.size w w1) := HB3.out.trans ((HB4.out.mono (by have := HZ3.out; omega)).trans ((HBr.out.mono (by omega)).trans (hb1.mono (by omega))))
              obtain ⟨z0, z1, z2, z3, z4, zf⟩ := HRES.out w1 ((HB4.out.mono (by have := HZ3.out; omega)).trans ((HBr.out.mono (by omega)).trans (hb1.mono (by omega))))
              have f0 := zf 0
              have f1 := zf 1
              have f2 := zf 2
              have f3 := zf 3
              have f4 := zf 4
              clear hn hb1
              go_wp2
              try simp only [Exit.inBlock, Exit.then]
              refine bodyPost_ret (v := .tuple #[.agg #[.int .i64 0, .int .i64 0, .int .i64 0, .int .i64 0, .slice none 0 0], .iface 166 (.pointer (some p))]) (by simp [results, Tryd.results67, go_sem, *]) rfl ?_
              exact ⟨_, _, rfl, HE.out _ _ HN1.out, HFIN.out _ _ _ _ _ _ HBX.out⟩
          · have HN1 : Hid (ruleI ws = none) := ruleI_head h8 (k := 2 + 1) (by omega) (headI_name (fun h => e0 (HX.out.trans h)))
            have q0 := bs_other e0
            clear e0
            have HBX : Hid (Below w.heap.size w wr) := HB3.out.trans ((HB4.out.mono (by have := HZ3.out; omega)).trans (HBr.out.mono (by omega)))
            obtain ⟨z0, z1, z2, z3, z4, zf⟩ := HRES.out wr ((HB4.out.mono (by have := HZ3.out; omega)).trans (HBr.out.mono (by omega)))
            have f0 := zf 0
            have f1 := zf 1
            have f2 := zf 2
            have f3 := zf 3
            have f4 := zf 4
            go_wp2
            go_region
            all_goals (
              go_wp2
              try simp only [Exit.inBlock, Exit.then]
              refine bodyPost_ret (v := .tuple #[.agg #[.int .i64 0, .int .i64 0, .int .i64 0, .int .i64 0, .slice none 0 0], .iface 166 (.pointer (some pf))]) (by simp [results, Tryd.results67, go_sem, *]) rfl ?_
              exact ⟨_, _, rfl, HE.out _ _ HN1.out, (HFIN.out _ _ _ _ _ _ HBX.out).drew⟩)
        · have hidx := idx3 ⟨#[101, 118, 101, 114, 121]⟩ ⟨#[97, 116]⟩ ⟨#[102, 114, 111, 109]⟩ ⟨#[116, 111]⟩
          have ca := HWr.out 6 (by omega)
          have cb := HWr.out 7 (by omega)
          have qk := HQ.out 3 (by omega)
          have fk := HF.out 3
          obtain ⟨x, hx⟩ : ∃ x, x = ws[6]?.getD [] := ⟨_, rfl⟩
          obtain ⟨y, hy⟩ : ∃ y, y = bs (ws[7]?.getD []) := ⟨_, rfl⟩
          rw [← hx] at ca
          rw [← hy] at cb
          have sy : y.size ≤ 1048576 := hy ▸ HSZ.out 7
          have HX : Hid (x = ws[6]?.getD []) := hx
          have HY : Hid (y.data.toList = ws[7]?.getD []) := by show _ = _; rw [hy]; rfl
          clear hx hy
          by_cases e0 : x = [116, 111]
          · have HNK : Hid (ws[2 * 3]?.getD [] = nameAt 3) := by show _ = _; rw [← HX.out, e0]; rfl
            rw [e0] at ca
            have p0 := bs_same [116, 111]
            clear e0
            go_wp2_with fail
            refine (readNumber_any y _ sy hgr).mono ?_
            rintro e w1 ⟨n, v1, rfl, (⟨hn, rfl⟩ | ⟨hn, p, rfl⟩), hb1⟩
            · have HN1 : Hid (numI (ws[2 * 3 + 1]?.getD []) = some n) := by show _ = _; rw [← hn, ← HY.out]
              have qk1 := (hb1.cell (p := ⟨w.heap.size + 2, 3, none⟩) (cell_lt qk)).trans qk
              have fk1 := (hb1.frozen (p := ⟨w.heap.size + 2, 3, none⟩) (cell_lt qk)).trans fk
              have HB1 : Hid (Below wr.heap.size wr w1) := hb1
              clear hn hb1
              go_wp2
              go_roundw
              case rel => exact ⟨4, ns ++ [n], rfl, by omega, by simp [hnl], headI_ok HH.out HNK.out HN1.out, fun j hj => step_nums hnl (by omega) hj (fun i hi => (HB1.out.cell (p := ⟨w.heap.size + 2, i, none⟩) (by simp; omega)).trans (HQ.out i hi)) , fun j => by rw [World.frozen?_setCell, HB1.out.frozen (p := ⟨w.heap.size + 2, j, none⟩) (by simp; omega)]; exact HF.out j, (HBr.out.trans (HB1.out.mono (by have := HBr.out.size; omega))).setCell (p := ⟨w.heap.size + 2, 3, none⟩) (Nat.le_refl _) _, fun j hj => by rw [cell_setCell_other _ (by simp), HB1.out.cell (p := ⟨w.heap.size + 3, j, none⟩) (by simp; omega)]; exact HWr.out j hj, by have := HB1.out.size; simp [World.setCell]; omega⟩
              case measure => simp [intOf]
            · have HN1 : Hid (ruleI ws = none) := ruleI_head h8 (k := 3 + 1) (by omega) (headI_num (by rw [← HY.out]; exact hn))
              have HBX : Hid (Below w.heap.size w w1) := HB3.out.trans ((HB4.out.mono (by have := HZ3.out; omega)).trans ((HBr.out.mono (by omega)).trans (hb1.mono (by omega))))
              obtain ⟨z0, z1, z2, z3, z4, zf⟩ := HRES.out w1 ((HB4.out.mono (by have := HZ3.out; omega)).trans ((HBr.out.mono (by omega)).trans (hb1.mono (by omega))))
              have f0 := zf 0
              have f1 := zf 1
              have f2 := zf 2
              have f3 := zf 3
              have f4 := zf 4
              clear hn hb1
              go_wp2
              try simp only [Exit.inBlock, Exit.then]
              refine bodyPost_ret (v := .tuple #[.agg #[.int .i64 0, .int .i64 0, .int .i64 0, .int .i64 0, .slice none 0 0], .iface 166 (.pointer (some p))]) (by simp [results, Tryd.results67, go_sem, *]) rfl ?_
              exact ⟨_, _, rfl, HE.out _ _ HN1.out, HFIN.out _ _ _ _ _ _ HBX.out⟩
          · have HN1 : Hid (ruleI ws = none) := ruleI_head h8 (k := 3 + 1) (by omega) (headI_name (fun h => e0 (HX.out.trans h)))
            have q0 := bs_other e0
            clear e0
            have HBX : Hid (Below w.heap.size w wr) := HB3.out.trans ((HB4.out.mono (by have := HZ3.out; omega)).trans (HBr.out.mono (by omega)))
            obtain ⟨z0, z1, z2, z3, z4, zf⟩ := HRES.out wr ((HB4.out.mono (by have := HZ3.out; omega)).trans (HBr.out.mono (by omega)))
            have f0 := zf 0
            have f1 := zf 1
            have f2 := zf 2
            have f3 := zf 3
            have f4 := zf 4
            go_wp2
            go_region
            all_goals (
              go_wp2
              try simp only [Exit.inBlock, Exit.then]
              refine bodyPost_ret (v := .tuple #[.agg #[.int .i64 0, .int .i64 0, .int .i64 0, .int .i64 0, .slice none 0 0], .iface 166 (.pointer (some pf))]) (by simp [results, Tryd.results67, go_sem, *]) rfl ?_
              exact ⟨_, _, rfl, HE.out _ _ HN1.out, (HFIN.out _ _ _ _ _ _ HBX.out).drew⟩)

end Go.Proofs.YtammejplaeaocaaDoor
