/-
  The specification's reader of a code: pick answers a number from 0 to n - 1. Condition: how often it was asked has a bound.
-/
import Derived.Test.YtammejplaeaocaaDoorOwn
import Derived.Test.YtammejplaeaocaaDoorMark
namespace Go.Proofs.YtammejplaeaocaaDoor
open Go.RowKit

/-- At block R lies a reader of a code, asked at most P times. -/
def Rd (W : World) (R P : Nat) : Prop := ∃ (a : Option Addr) (n cap p : Nat), W.cell? ⟨R, 0, none⟩ = some (.slice a n cap) ∧ W.cell? ⟨R, 1, none⟩ = some (.int .i64 p) ∧ (∀ j, W.frozen? ⟨R, j, none⟩ = false) ∧ n ≤ 2000 ∧ p ≤ P ∧
  ∀ i, i < n → ∃ (b off : Nat) (x : Int), a = some ⟨b, off, none⟩ ∧ b < R ∧ 0 ≤ x ∧ x ≤ 255 ∧ W.cell? ⟨b, off + i, none⟩ = some (.int .u8 x)
theorem Rd.mono {W : World} {R P P' : Nat} (h : Rd W R P) (hP : P ≤ P') : Rd W R P' := by
  obtain ⟨a, n, cap, p, h1, h2, h3, h4, h5, h6⟩ := h
  exact ⟨a, n, cap, p, h1, h2, h3, h4, by omega, h6⟩
theorem Rd.lt {W : World} {R P : Nat} (h : Rd W R P) : R < W.heap.size := by
  obtain ⟨a, n, cap, p, h1, _⟩ := h
  exact cell_lt h1
theorem Rd.below {W W' : World} {R P : Nat} (h : Rd W R P) (hb : Below W.heap.size W W') : Rd W' R P := by
  obtain ⟨a, n, cap, p, h1, h2, h3, h4, h5, h6⟩ := h
  have hR := cell_lt h1
  refine ⟨a, n, cap, p, (hb.cell (p := ⟨R, 0, none⟩) hR).trans h1, (hb.cell (p := ⟨R, 1, none⟩) hR).trans h2, fun j => (hb.frozen (p := ⟨R, j, none⟩) hR).trans (h3 j), h4, h5, fun i hi => ?_⟩
  obtain ⟨b, off, x, e1, e2, e3, e4, e5⟩ := h6 i hi
  exact ⟨b, off, x, e1, e2, e3, e4, (hb.cell (p := ⟨b, off + i, none⟩) (cell_lt e5)).trans e5⟩
/-- Where a later block was written. -/
theorem Rd.grown {W W' : World} {R P : Nat} {row : Option Nat} (h : Rd W R P) (hg : W.grownBy W' row) (hr : ∀ k, row = some k → R < k) : Rd W' R P := by
  obtain ⟨a, n, cap, p, h1, h2, h3, h4, h5, h6⟩ := h
  have hne : some R ≠ row := fun e => by have := hr R e.symm; omega
  refine ⟨a, n, cap, p, hg.cell h1 hne, hg.cell h2 hne, fun j => (World.frozen?_of_block (hg.block R (cell_lt h1) hne)).trans (h3 j), h4, h5, fun i hi => ?_⟩
  obtain ⟨b, off, x, e1, e2, e3, e4, e5⟩ := h6 i hi
  exact ⟨b, off, x, e1, e2, e3, e4, hg.cell e5 (fun e => by have := hr b e.symm; omega)⟩

theorem xor_i64 (a b : Nat) (ha : a < 4294967296) (hb : b < 4294967296) : bits .xor .i64 (a : Int) (b : Int) = ((a ^^^ b : Nat) : Int) := by
  have hx : a ^^^ b < 2 ^ 32 := Nat.xor_lt_two_pow (by omega) (by omega)
  have h1 : (BitVec.ofInt 64 (a : Int)).toNat = a := by
    rw [BitVec.ofInt_natCast, BitVec.toNat_ofNat]; exact Nat.mod_eq_of_lt (by omega)
  have h2 : (BitVec.ofInt 64 (b : Int)).toNat = b := by
    rw [BitVec.ofInt_natCast, BitVec.toNat_ofNat]; exact Nat.mod_eq_of_lt (by omega)
  show IntKind.i64.wrap ((BitVec.ofInt 64 (a : Int) ^^^ BitVec.ofInt 64 (b : Int)).toNat : Int) = _
  rw [BitVec.toNat_xor, h1, h2, IntKind.wrap_i64]
  omega
theorem mix_nonneg {X : Int} (h0 : 0 ≤ X) (h1 : X < 4294967296) : 0 ≤ bits .xor .i64 X (X / 64) := by
  obtain ⟨a, rfl⟩ : ∃ a : Nat, X = a := ⟨X.toNat, by omega⟩
  have e : ((a : Int) / 64) = ((a / 64 : Nat) : Int) := by omega
  rw [e, xor_i64 a (a / 64) (by omega) (by omega)]
  omega

/-- What pick answers. -/
def PickV (R : Nat) (n : Int) (P : Nat) (w : World) (e : Ending) (w' : World) : Prop := ∃ v : Int, e = .returned (.int .i64 v) ∧ 0 ≤ v ∧ v < n ∧ Rd w' R (P + 1) ∧ w.grownBy w' (some R) ∧ w'.heap.size = w.heap.size

set_option maxRecDepth 100000 in
set_option maxHeartbeats 2000000 in
theorem pick_any (R P : Nat) (n : Int) (w : World) (h : Rd w R P) (hP : P ≤ 100000) (h1 : 1 ≤ n) (hn : n ≤ 1000000) :
    Calls Tryd.prog 39 #[.pointer (some ⟨R, 0, none⟩), .int .i64 n] w fun e w' => PickV R n P w e w' := by
  obtain ⟨a, len, cap, p, c0, c1, hf, hl, hp, hb⟩ := h
  have f1 := hf 1
  have HW : Hid (Rd (w.setCell ⟨R, 1, none⟩ (.int .i64 ((p : Int) + 1))) R (P + 1) ∧ w.grownBy (w.setCell ⟨R, 1, none⟩ (.int .i64 ((p : Int) + 1))) (some R)) := by
    refine ⟨⟨a, len, cap, p + 1, ?_, ?_, fun j => ?_, hl, by omega, fun i hi => ?_⟩, ⟨rfl, rfl, rfl, by simp [World.setCell], fun k _ hk => Below.heap_setCell w ⟨R, 1, none⟩ _ k (fun e => hk (by rw [e]))⟩⟩
    · rw [cell_setCell_off _ (by omega)]; exact c0
    · rw [cell_setCell_same _ ⟨_, c1⟩]; simp
    · rw [World.frozen?_setCell]; exact hf j
    · obtain ⟨b, off, x, e1, e2, e3, e4, e5⟩ := hb i hi
      exact ⟨b, off, x, e1, e2, e3, e4, by rw [cell_setCell_other _ (by simp; omega)]; exact e5⟩
  have hn0 : ¬ n < 1 := by omega
  have hnz : ¬ n = 0 := by omega
  by_cases h0 : len = 0
  · have hz : ((len : Int) == 0) = true := by rw [h0]; rfl
    clear h0 hb hf
    go_enter Tryd.func39, Tryd.ntmps39
    go_wp2
    go_ret
    exact ⟨0, rfl, by omega, by omega, HW.out.1, HW.out.2, by simp [World.setCell]⟩
  · have hz : ((len : Int) == 0) = false := by simp; omega
    by_cases hk : p < len
    · obtain ⟨b, off, x, rfl, e2, e3, e4, e5⟩ := hb p hk
      have e6 : (w.setCell ⟨R, 1, none⟩ (.int .i64 ((p : Int) + 1))).cell? ⟨b, off + p, none⟩ = some (.int .u8 x) := by rw [cell_setCell_other _ (by simp; omega)]; exact e5
      have e7 : (w.setCell ⟨R, 1, none⟩ (.int .i64 ((p : Int) + 1))).cell? ⟨R, 0, none⟩ = some (.slice (some ⟨b, off, none⟩) len cap) := by rw [cell_setCell_off _ (by omega)]; exact c0
      have hmod : 0 ≤ x.tmod n ∧ x.tmod n < n := ⟨Int.tmod_nonneg _ e3, Int.tmod_lt_of_pos _ (by omega)⟩
      clear h0 hb hf
      go_enter Tryd.func39, Tryd.ntmps39
      go_wp2
      go_ret
      exact ⟨x % n, rfl, Int.emod_nonneg _ hnz, Int.emod_lt_of_pos _ (by omega), HW.out.1, HW.out.2, by simp [World.setCell]⟩
    · have hlen : 0 < len := by omega
      obtain ⟨i1, hi1⟩ : ∃ i1 : Nat, i1 = p % len := ⟨_, rfl⟩
      obtain ⟨i2, hi2⟩ : ∃ i2 : Nat, i2 = (p * 7 + 3) % len := ⟨_, rfl⟩
      obtain ⟨q, hq⟩ : ∃ q : Nat, q = p / len := ⟨_, rfl⟩
      have l1 : i1 < len := by rw [hi1]; exact Nat.mod_lt _ hlen
      have l2 : i2 < len := by rw [hi2]; exact Nat.mod_lt _ hlen
      have r1 : (p : Int) % (len : Int) = (i1 : Int) := by rw [hi1]; push_cast; rfl
      have r2 : ((p : Int) * 7 + 3) % (len : Int) = (i2 : Int) := by rw [hi2]; push_cast; rfl
      have r3 : (p : Int) / (len : Int) = (q : Int) := by rw [hq]; push_cast; rfl
      have hq1 : q ≤ 100000 := by rw [hq]; exact Nat.le_trans (Nat.div_le_self _ _) (by omega)
      clear hi1 hi2 hq
      obtain ⟨b, off, x, rfl, e2, e3, e4, e5⟩ := hb i1 l1
      obtain ⟨b', off', y, eq, g2, g3, g4, g5⟩ := hb i2 l2
      injection eq with eq
      injection eq with eq1 eq2
      subst eq1 eq2
      have e6 : (w.setCell ⟨R, 1, none⟩ (.int .i64 ((p : Int) + 1))).cell? ⟨b, off + i1, none⟩ = some (.int .u8 x) := by rw [cell_setCell_other _ (by simp; omega)]; exact e5
      have g6 : (w.setCell ⟨R, 1, none⟩ (.int .i64 ((p : Int) + 1))).cell? ⟨b, off + i2, none⟩ = some (.int .u8 y) := by rw [cell_setCell_other _ (by simp; omega)]; exact g5
      have e7 : (w.setCell ⟨R, 1, none⟩ (.int .i64 ((p : Int) + 1))).cell? ⟨R, 0, none⟩ = some (.slice (some ⟨b, off, none⟩) len cap) := by rw [cell_setCell_off _ (by omega)]; exact c0
      have hlz : ¬ (len : Int) = 0 := by omega
      clear h0 hb hf e5 g5
      go_enter Tryd.func39, Tryd.ntmps39
      go_wp2
      go_quiet (fail)
      go_wp2
      go_ret
      have hX : 0 ≤ bits .xor .i64 (x * 131 + y * 1117 + p * 29 + q * 53) ((x * 131 + y * 1117 + p * 29 + q * 53) / 64) := mix_nonneg (by omega) (by omega)
      exact ⟨_, rfl, Int.tmod_nonneg _ hX, Int.tmod_lt_of_pos _ (by omega), HW.out.1, grown_trans HW.out.2 ⟨rfl, rfl, rfl, Nat.le_refl _, fun _ _ _ => rfl⟩, by show (w.setCell _ _).heap.size = _; simp [World.setCell]⟩

end Go.Proofs.YtammejplaeaocaaDoor
