/-
  The program's readBut reads what is left out. Condition: the errors that it names hold what the program's text lays; bounds on the words.
-/
import Derived.Test.YtammejplaeaocaaDoorNumI
namespace Go.Proofs.YtammejplaeaocaaDoor
open Go.RowKit

theorem infoInt' : (Tryd.prog.info? 3).map (fun i => (i.zero, i.size, i.bytes)) = some (some (.int .i64 0), 1, 8) := by kernel_rfl

/-- Ticks, or an error made by errors.New. -/
def ButV (W : World) (lo : Nat) (o : Option (List Int)) (x v : Value) : Prop := (∃ l, o = some l ∧ v = .nilIface ∧ W.ownsRow lo 3 1 x l.length (ints l)) ∨ (o = none ∧ ∃ p : Addr, v = .iface 166 (.pointer (some p)))

theorem numsI_step {ws : List (List UInt8)} {k : Nat} {w : List UInt8} {ks : List Int} {n : Int} (hw : ws[k]? = some w) (h : numsI (ws.take k) = some ks) (hn : numI w = some n) : numsI (ws.take (k + 1)) = some (ks ++ [n]) := by
  obtain ⟨hk, he⟩ := List.getElem?_eq_some_iff.1 hw
  rw [List.take_succ_eq_append_getElem hk, he]
  exact numsI_snoc _ _ _ _ h hn

set_option maxRecDepth 100000 in
set_option maxHeartbeats 2000000 in
theorem readBut_any (ps : List (List UInt8)) (a : Option Addr) (cap : Nat) (w : World) (hg : Glob2 w) (hl : ps.length ≤ 1048577) (hcap : ps.length ≤ cap) (hcm : cap ≤ 1048577)
    (hz : ∀ j : Nat, (bs (ps[j]?.getD [])).size ≤ 1048576) (hc : 0 < ps.length → ∃ b off, a = some ⟨b, off, none⟩ ∧ ∀ j, j < ps.length → w.cell? ⟨b, off + j, none⟩ = some (.string (bs (ps[j]?.getD [])))) :
    Calls Tryd.prog 86 #[.slice a ps.length cap] w fun e w' => ∃ x v, e = .returned (.tuple #[x, v]) ∧ ButV w' w.heap.size (butI ps) x v ∧ Below w.heap.size w w' := by
  obtain ⟨i0, hi, hz0, hz1, hz2⟩ := info_parts infoInt'
  obtain ⟨pf, hpf⟩ := hg.form
  have HE : Hid (∀ (W : World) (x : Value) (p : Addr), butI ps = none → ButV W w.heap.size (butI ps) x (.iface 166 (.pointer (some p)))) := fun W x p h => Or.inr ⟨h, p, rfl⟩
  by_cases h0 : ps.length = 0
  · have HF : Hid (ButV w w.heap.size (butI ps) (.slice none 0 0) .nilIface) := Or.inl ⟨[], by rw [List.length_eq_zero_iff.1 h0]; rfl, rfl, World.ownsRow_nil _ _ _ _⟩
    have hz : ((ps.length : Int) == 0) = true := by rw [h0]; rfl
    clear h0
    go_enter Tryd.func86, Tryd.ntmps86
    go_wp2
    go_ret2
    exact ⟨_, _, rfl, HF.out, Below.refl _ _⟩
  · obtain ⟨b, off, rfl, hcell⟩ := hc (by omega)
    clear hc
    have hz0' : ((ps.length : Int) == 0) = false := by simp; intro h; rw [h] at h0; exact h0 rfl
    have c0 := hcell 0 (by omega)
    rw [Nat.add_zero] at c0
    have hp0 : 0 < ps.length := by omega
    obtain ⟨w0, ws, hps⟩ : ∃ w0 ws, ps = w0 :: ws := by
      cases ps with
      | nil => simp at h0
      | cons x y => exact ⟨x, y, rfl⟩
    have hw0 : ps[0]?.getD [] = w0 := by rw [hps]; rfl
    rw [hw0] at c0
    clear hw0
    have HPS : Hid (ps = w0 :: ws) := hps
    have hlen : ps.length = ws.length + 1 := by rw [hps]; rfl
    clear hps h0
    have HLN : Hid (ps.length = ws.length + 1) := hlen
    clear hlen
    by_cases e0 : w0 = [98, 117, 116]
    · rw [e0] at c0
      have p0 := bs_same [98, 117, 116]
      by_cases h1 : ps.length = 1
      · have hq : ((ps.length : Int) == 1) = true := by rw [h1]; rfl
        have HN : Hid (butI ps = none) := by
          show _ = _
          rw [HPS.out]
          have hw : ws = [] := List.length_eq_zero_iff.1 (by have := HLN.out; omega)
          show (if w0 ≠ wBut ∨ ws = [] then none else numsI ws) = none
          rw [if_pos (Or.inr hw)]
        clear h1
        go_enter Tryd.func86, Tryd.ntmps86
        go_wp2
        go_quiet (fail)
        go_wp2
        go_ret2
        exact ⟨.slice none 0 0, .iface 166 (.pointer (some pf)), rfl, HE.out _ _ _ HN.out, below_drewN (Below.refl _ _) _⟩
      · have hq : ((ps.length : Int) == 1) = false := by simp; omega
        have HN : Hid (butI ps = numsI ws) := by
          show _ = _
          rw [HPS.out]
          show (if w0 ≠ wBut ∨ ws = [] then none else numsI ws) = _
          rw [if_neg]
          rintro (h | h)
          · exact h e0
          · have := HLN.out; rw [h] at this; simp at this; exact h1 this
        have h2 : 2 ≤ ps.length := by have := HLN.out; omega
        have hcp : ¬ cap = 1 := by omega
        have hcp1 : 1 ≤ cap := by omega
        clear h1 e0
        have HC : Hid (∀ j, j < ws.length → w.cell? ⟨b, off + 1 + j, none⟩ = some (.string (bs (ws[j]?.getD [])))) := fun j hj => by
          have := hcell (j + 1) (by have := HLN.out; omega)
          rw [show off + 1 + j = off + (j + 1) by omega, this, HPS.out]
          rfl
        clear hcell
        have HZ : Hid (∀ j : Nat, (bs (ws[j]?.getD [])).size ≤ 1048576) := fun j => by have := hz (j + 1); rw [HPS.out] at this; simpa using this
        clear hz
        go_enter Tryd.func86, Tryd.ntmps86
        go_wp2
        have hwl : ws.length ≤ 1048576 := by have := HLN.out; omega
        have e1 : ps.length - 1 = ws.length := by have := HLN.out; omega
        rw [e1]
        clear e1
        go_loopw [4, 6, 7, 8, 25] (fun v _ _ _ i wr => ∃ (k : Nat) (ks : List Int), i = .int .i64 k ∧ k ≤ ws.length ∧ ks.length = k ∧ Hid (numsI (ws.take k) = some ks) ∧ wr.ownsRow w.heap.size 3 1 v k (ints ks) ∧ Below w.heap.size w wr) (fun _ _ _ _ i _ => ws.length - (intOf i).toNat)
        case atStart => exact ⟨0, [], rfl, Nat.zero_le _, rfl, rfl, World.ownsRow_nil _ _ _ _, Below.refl _ _⟩
        case round =>
          obtain ⟨k, ks, rfl, hk, hkl, HKS, hown, hB⟩ := hrel
          have hszr := hB.size
          have HBr : Hid (Below w.heap.size w wr) := hB
          by_cases hlt : k < ws.length
          · have hck := (hB.cell (p := ⟨b, off + 1 + k, none⟩) (cell_lt (HC.out k hlt))).trans (HC.out k hlt)
            obtain ⟨x, hx⟩ : ∃ x, x = bs (ws[k]?.getD []) := ⟨_, rfl⟩
            rw [← hx] at hck
            have sx : x.size ≤ 1048576 := hx ▸ HZ.out k
            have HX : Hid (x.data.toList = ws[k]?.getD []) := by show _ = _; rw [hx]; rfl
            clear hx
            have hgr := hg.below hB (Nat.le_refl _)
            clear hB
            go_wp2_with fail
            refine (readNumber_any x _ sx hgr).mono ?_
            rintro e w1 ⟨n, v1, rfl, (⟨hn, rfl⟩ | ⟨hn, p, rfl⟩), hb1⟩
            · have HN1 : Hid (numI x.data.toList = some n) := hn
              have HB1 : Hid (Below w.heap.size w w1) := HBr.out.trans (hb1.mono hszr)
              have hs1 := HB1.out.size
              have hown1 := own_below hown hb1
              clear hn hb1 hown
              go_wp2_with (at_builtin; refine wpList_append_own _ rfl _ _ 64 rfl w.heap.size 3 i0 (.int .i64 0) 1 8 Tryd.underlying64 hi hz0 hz1 hz2 rfl (by decide) _ _ _ rfl (hown1.alloc _) ⟨w1.heap.size, 0, none⟩ 1 1 [.int .i64 n] rfl rfl (cell_one_new _ _ _) (fun x hx => by simp at hx; subst hx; rfl) (by unfold maxLen; omega) (by omega) (by simp; omega) ?_; intro v' w3 hown' hgrow3 hnil3; have X : Hid (w3.ownsRow w.heap.size 3 1 v' (k + 1) (ints ks ++ [.int .i64 n]) ∧ Below w.heap.size w w3) := ⟨hown', Below.grown (HB1.out.alloc hs1 _) hgrow3 (by simp; omega) (fun j hj => (hown1.lt _ hj).1)⟩; clear hown' hgrow3 hnil3)
              go_roundw
              case rel =>
                refine ⟨k + 1, ks ++ [n], by go_num, by omega, by simp [hkl], ?_, by rw [ints_snoc]; exact X.out.1, X.out.2⟩
                refine numsI_step (w := ws[k]?.getD []) ?_ HKS.out (by rw [← HX.out]; exact HN1.out)
                rw [List.getElem?_eq_getElem hlt]; rfl
              case measure => simp [intOf]; omega
            · have HN1 : Hid (butI ps = none) := by
                show _ = _
                rw [HN.out]
                exact numsI_none ws k (ws[k]?.getD []) (by rw [List.getElem?_eq_getElem hlt]; rfl) (by rw [← HX.out]; exact hn)
              have HB1 : Hid (Below w.heap.size w w1) := HBr.out.trans (hb1.mono hszr)
              clear hn hb1
              go_wp2
              go_ret2
              exact ⟨_, _, rfl, HE.out _ _ _ HN1.out, HB1.out⟩
          · obtain rfl : k = ws.length := by omega
            have HF : Hid (butI ps = some ks) := by
              show _ = _
              rw [HN.out]
              have := HKS.out
              rwa [List.take_length] at this
            have hown2 := hown
            rw [← hkl] at hown2
            go_wp2
            go_ret2
            exact ⟨_, _, rfl, Or.inl ⟨ks, HF.out, rfl, hown2⟩, HBr.out⟩
    · have q0 := bs_other e0
      have HN : Hid (butI ps = none) := by
        show _ = _
        rw [HPS.out]
        show (if w0 ≠ wBut ∨ ws = [] then none else numsI ws) = none
        rw [if_pos (Or.inl e0)]
      clear e0
      go_enter Tryd.func86, Tryd.ntmps86
      go_wp2
      go_quiet (fail)
      go_wp2
      go_ret2
      exact ⟨.slice none 0 0, .iface 166 (.pointer (some pf)), rfl, HE.out _ _ _ HN.out, below_drewN (Below.refl _ _) _⟩

end Go.Proofs.YtammejplaeaocaaDoor
