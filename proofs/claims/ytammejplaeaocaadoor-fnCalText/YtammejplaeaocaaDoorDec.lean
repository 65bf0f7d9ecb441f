/-
  The specification's l1Dec writes a number that is not below 0 in decimals. Condition: at most 100000.
-/
import Derived.Test.YtammejplaeaocaaDoorSpec1
import Derived.Lib.ItoaNum
import Derived.Laws.BytesString
import Derived.Sort.Grow
import Derived.Deep.Draws
namespace Go.Proofs.YtammejplaeaocaaDoor
open Go.RowKit
open Go.Sort (grow heap_grow_old alloc_eq_grow grow_grow grow_empty)

theorem conv_cell (W : World) (b : Nat) (x : Int) (h : W.cell? ⟨b, 0, none⟩ = some (.int .u8 x)) :
    (convert 22 9 (.slice (some ⟨b, 0, none⟩) 1 1)).run Tryd.prog W = .ok (.string ⟨#[UInt8.ofNat x.toNat]⟩) W := by
  rw [run_convert_bytes_string W 22 9 5 _ _ _ Tryd.underlying22 Tryd.underlying5 Tryd.underlying9]
  have hl := run_loadCells_list (P := Tryd.prog) W ⟨b, 0, none⟩ [.int .u8 x] (fun j v hj => by
    match j with
    | 0 => simp at hj; subst hj; simpa [Addr.add] using h
    | j + 1 => simp at hj)
  rw [run_bytesToString W ⟨b, 0, none⟩ 1 1 [x] hl]
  rfl

theorem conv_one (w : World) (x : Int) : (convert 22 9 (.slice (some ⟨w.heap.size, 0, none⟩) 1 1)).run Tryd.prog (w.alloc (.cells #[.int .u8 x] 5)) = .ok (.string ⟨#[UInt8.ofNat x.toNat]⟩) (w.alloc (.cells #[.int .u8 x] 5)) :=
  conv_cell _ _ _ (by simp)
theorem conv_drew (w : World) (x : Int) : (convert 22 9 (.slice (some ⟨w.heap.size, 0, none⟩) 1 1)).run Tryd.prog (w.alloc (.cells #[.int .u8 x] 5)).drew = .ok (.string ⟨#[UInt8.ofNat x.toNat]⟩) (w.alloc (.cells #[.int .u8 x] 5)).drew :=
  conv_cell _ _ _ (by simp)

theorem late_cell {W w1 : World} {b : Nat} {v : Value} (hb1 : Below W.heap.size W w1) (h : W.cell? ⟨b, 0, none⟩ = some v) : w1.cell? ⟨b, 0, none⟩ = some v :=
  (hb1.cell (p := ⟨b, 0, none⟩) (cell_lt h)).trans h
theorem new_drew (w : World) (x : Int) : (w.alloc (.cells #[.int .u8 x] 5)).drew.cell? ⟨w.heap.size, 0, none⟩ = some (.int .u8 x) := by simp

theorem ret_str {a b : ByteArray} (h : a = b) : Ending.returned (.string a) = .returned (.string b) := by rw [h]

theorem digits_len {u : Nat} (h : u ≤ 100000) : (Lib.decDigits u).length ≤ 6 := by
  have step : ∀ (k v : Nat), v < 10 ^ (k + 1) → (Lib.decDigits v).length ≤ k + 1 := by
    intro k
    induction k with
    | zero => intro v hv; rw [Lib.decDigits_one (by simpa using hv)]; simp
    | succ k ih =>
      intro v hv
      by_cases h10 : v < 10
      · rw [Lib.decDigits_one h10]; simp
      · rw [Lib.decDigits, dif_neg h10]
        have := ih (v / 10) (by rw [Nat.pow_succ] at hv; omega)
        simp; omega
  exact step 5 u (by omega)
theorem digits_big {u : Nat} (h : ¬ u < 10) : Lib.decDigits u = Lib.decDigits (u / 10) ++ [UInt8.ofNat (48 + u % 10)] := by rw [Lib.decDigits, dif_neg h]

theorem below_grow (w : World) (q : Nat) (os : Array Obj) : Below w.heap.size w (grow (w.drewN q) os) :=
  ⟨rfl, rfl, rfl, by simp, fun j hj => heap_grow_old (w.drewN q) os hj⟩
theorem grow_alloc (w : World) (o : Obj) : ∃ q os, w.alloc o = grow (w.drewN q) os := ⟨0, #[o], by rw [alloc_eq_grow]; rfl⟩
theorem grow_behind (w : World) (q : Nat) (os : Array Obj) (o : Obj) : ∃ q' os', (grow (w.drew.drewN q) os).alloc o = grow (w.drewN q') os' :=
  ⟨1 + q, os ++ #[o], by rw [alloc_eq_grow, grow_grow]; show grow ((w.drewN 1).drewN q) _ = _; rw [World.drewN_drewN]⟩
theorem grow_ahead (w : World) (q : Nat) (os : Array Obj) (o : Obj) : ∃ q' os', grow ((w.alloc o).drew.drewN q) os = grow (w.drewN q') os' :=
  ⟨1 + q, #[o] ++ os, by rw [alloc_eq_grow, ← grow_grow]; show grow (grow ((w.drewN 1).drewN q) _) _ = _; rw [World.drewN_drewN]⟩

/-- The text's bytes are these, and not too many. -/
def StrIs (s : ByteArray) (l : List UInt8) : Prop := s = ⟨l.toArray⟩

set_option maxRecDepth 100000 in
set_option maxHeartbeats 400000 in
theorem l1Dec_small (n : Int) (w : World) (h0 : 0 ≤ n) (h1 : n < 10) :
    Calls Tryd.prog 72 #[.int .i64 n] w fun e w' => ∃ s, e = .returned (.string s) ∧ StrIs s (Lib.decDigits n.toNat) ∧ ∃ q os, w' = grow (w.drewN q) os := by
  have hcv := conv_one
  go_enter Tryd.func72, Tryd.ntmps72
  go_wp2
  go_ret
  refine ⟨_, rfl, ?_, grow_alloc _ _⟩
  unfold StrIs
  rw [Lib.decDigits_one (by omega), show (48 + n).toNat = 48 + n.toNat by omega]

set_option maxRecDepth 100000 in
set_option maxHeartbeats 2000000 in
theorem l1Dec_step (n : Int) (w : World) (h1 : 10 ≤ n) (h2 : n ≤ 100000) (ih : ∀ w, Calls Tryd.prog 72 #[.int .i64 (n / 10)] w fun e w' => ∃ s, e = .returned (.string s) ∧ StrIs s (Lib.decDigits (n / 10).toNat) ∧ ∃ q os, w' = grow (w.drewN q) os) :
    Calls Tryd.prog 72 #[.int .i64 n] w fun e w' => ∃ s, e = .returned (.string s) ∧ StrIs s (Lib.decDigits n.toNat) ∧ ∃ q os, w' = grow (w.drewN q) os := by
  have hcv := conv_one
  have hcd := conv_drew
  have IH : Hid (∀ w, Calls Tryd.prog 72 #[.int .i64 (n / 10)] w fun e w' => ∃ s, e = .returned (.string s) ∧ StrIs s (Lib.decDigits (n / 10).toNat) ∧ ∃ q os, w' = grow (w.drewN q) os) := ih
  clear ih
  have HQ : Hid (IntKind.i64.wrap (n.tdiv 10) = n / 10) := by show _ = _; rw [Int.tdiv_eq_ediv_of_nonneg (by omega), IntKind.wrap_i64]; omega
  have HL : Hid ((Lib.decDigits (n / 10).toNat).length ≤ 6) := digits_len (by omega)
  go_enter Tryd.func72, Tryd.ntmps72
  go_wp2
  go_region_with (go_at_call 72; rw [HQ.out]; refine (IH.out _).mono ?_; rintro e w1 ⟨s, rfl, hs, q, os, hq⟩; have hb1 := hq ▸ below_grow _ q os; have HG : Hid (w1 = grow _ os) := hq; clear hq; have hsz : s.size ≤ 6 := (by rw [hs]; exact HL.out); have HS : Hid (StrIs s (Lib.decDigits (n / 10).toNat)) := hs; clear hs; first | (have hcx := conv_cell w1 w.heap.size _ (late_cell hb1 (new_drew w _))) | skip)
  all_goals go_wp2
  all_goals go_ret
  all_goals refine ⟨_, rfl, ?_, ?_⟩
  all_goals first
    | (rw [HG.out]; exact grow_behind _ _ _ _)
    | (rw [HG.out]; exact grow_ahead _ _ _ _)
    | skip
  all_goals
    unfold StrIs
    rw [digits_big (by omega), HS.out, show (48 + n % 10).toNat = 48 + n.toNat % 10 by omega, show n.toNat / 10 = (n / 10).toNat by omega]
    exact ByteArray.mk_append_mk _ _

theorem l1Dec_any (n : Int) (w : World) (h0 : 0 ≤ n) (h1 : n ≤ 100000) :
    Calls Tryd.prog 72 #[.int .i64 n] w fun e w' => ∃ s, e = .returned (.string s) ∧ StrIs s (Lib.decDigits n.toNat) ∧ ∃ q os, w' = grow (w.drewN q) os := by
  have : ∀ (k : Nat) (n : Int), n.toNat ≤ k → 0 ≤ n → n ≤ 100000 → ∀ w, Calls Tryd.prog 72 #[.int .i64 n] w fun e w' => ∃ s, e = .returned (.string s) ∧ StrIs s (Lib.decDigits n.toNat) ∧ ∃ q os, w' = grow (w.drewN q) os := by
    intro k
    induction k with
    | zero => intro n hk h0 h1 w; exact l1Dec_small n w h0 (by omega)
    | succ k ih =>
      intro n hk h0 h1 w
      by_cases h10 : n < 10
      · exact l1Dec_small n w h0 h10
      · exact l1Dec_step n w (by omega) h1 (fun w => ih (n / 10) (by omega) (by omega) (by omega) w)
  exact this n.toNat n (Nat.le_refl _) h0 h1 w

end Go.Proofs.YtammejplaeaocaaDoor
