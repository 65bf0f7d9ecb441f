/-
  CalCount: how many ticks there are above one and not above another, as plain data; the specification's and the program's answer it. Condition: the package-level variables that CalOk comes to hold what the program's text lays.
-/
import Derived.Test.YtammejplaeaocaaDoorNext
namespace Go.Proofs.YtammejplaeaocaaDoor
open Go.RowKit Go.Shelf

attribute [local go_sem] Oper.semAt_some

/-- How many of a list are not above a tick, up to the first that is. -/
def upTo (xs : List Int) (to : Int) : Nat := (xs.takeWhile (fun x => decide (x ≤ to))).length
theorem upTo_nil (to : Int) : upTo [] to = 0 := rfl
theorem upTo_le {x : Int} {xs : List Int} {to : Int} (h : x ≤ to) : upTo (x :: xs) to = upTo xs to + 1 := by simp [upTo, List.takeWhile, h]
theorem upTo_gt {x : Int} {xs : List Int} {to : Int} (h : ¬ x ≤ to) : upTo (x :: xs) to = 0 := by simp [upTo, List.takeWhile, h]

theorem ticks_len {rs : List CR} (ho : ∀ r, r ∈ rs → Okd r) : ∀ (xs : List Int) (t : Int), Ticks rs t xs → (xs.length : Int) ≤ 100001 ∧ (0 ≤ t → (xs.length : Int) + t ≤ 100000 ∨ xs = []) := by
  intro xs
  induction xs with
  | nil => intro t _; exact ⟨by simp, fun _ => Or.inr rfl⟩
  | cons x xs ih =>
    intro t h
    obtain ⟨h1, h2, h3⟩ := h
    have hb : t < x ∧ x ≤ 100000 := by
      rcases nxtTo_bounds ho t with h | h
      · omega
      · omega
    obtain ⟨_, h5⟩ := ih x h3
    have h6 := h5 h2
    simp only [List.length_cons]
    rcases h6 with h6 | rfl
    · constructor
      · omega
      · intro _; left; omega
    · constructor
      · simp
      · intro _; left; simp; omega

/-- x is the next tick; the list is x and those behind it. -/
def Cur (rs : List CR) (x : Int) : List Int → Prop
  | [] => x = -1
  | y :: ys => y = x ∧ 0 ≤ x ∧ x ≤ 100000 ∧ Ticks rs x ys
theorem cur_of {rs : List CR} {t : Int} {xs : List Int} (h : Ticks (srcOf rs) t xs) : Cur (srcOf rs) (nxt rs t) xs := by
  cases xs with
  | nil => show nxt rs t = -1; rw [← srcOf_nxt]; exact h
  | cons x xs =>
    obtain ⟨h1, h2, h3⟩ := h
    have e : nxt rs t = x := by rw [← srcOf_nxt]; exact h1
    rw [e]
    refine ⟨rfl, h2, ?_, h3⟩
    rcases nxtTo_bounds (srcOf_ok rs) t with h | h
    · omega
    · omega
/-- How far the look may still go. -/
def farI (x : Int) : Nat := if x < 0 then 0 else (100001 - x).toNat + 1
def far (v : Value) : Nat := farI (intOf v)
theorem far_lt {k : IntKind} {x y : Int} (hx : 0 ≤ x) (h100 : x ≤ 100000) (h : y = -1 ∨ x < y) : far (.int k y) < far (.int k x) := by
  show farI y < farI x
  unfold farI
  rcases h with rfl | h
  · rw [if_pos (by omega), if_neg (by omega)]; omega
  · rw [if_neg (by omega), if_neg (by omega)]; omega

set_option maxHeartbeats 1000000 in
theorem specCalCount_any (a : Option Addr) (cap : Nat) (rs : List CR) (low to : Int) (w : World) (lo lb : Nat) (hl : rs.length ≤ 9223372036854775807) (hc : RulesIn w lo lb a rs) (xs : List Int) (hxs : Ticks (srcOf rs) low xs) :
    Calls Tryd.prog 18 #[.slice a rs.length cap, .int .i64 low, .int .i64 to] w fun e w' => e = .returned (.int .i64 (upTo xs to)) ∧ Below w.heap.size w w' := by
  have HLEN : Hid ((xs.length : Int) ≤ 100001) := (ticks_len (srcOf_ok rs) xs low hxs).1
  have HCUR : Hid (Cur (srcOf rs) (nxt rs low) xs) := cur_of hxs
  clear hxs
  go_enter Tryd.func18, Tryd.ntmps18
  go_wp2_with fail
  refine (specCalNext_any a cap rs low _ lo lb hl hc).mono ?_
  rintro e w1 ⟨rfl, hb1⟩
  go_wp2
  go_loopw [7, 8] (fun n t wr => ∃ (k : Nat) (x : Int) (rest : List Int), n = .int .i64 k ∧ t = .int .i64 x ∧ (k : Int) + rest.length ≤ 100001 ∧ upTo xs to = k + upTo rest to ∧ Cur (srcOf rs) x rest ∧ Below w.heap.size w wr) (fun _ t _ => far t)
  case atStart => exact ⟨0, nxt rs low, xs, rfl, rfl, by have := HLEN.out; simp; omega, by simp, HCUR.out, hb1⟩
  case round =>
    obtain ⟨k, x, rest, rfl, rfl, hk, hu, hr, hB⟩ := hrel
    have HU : Hid (upTo xs to = k + upTo rest to) := hu
    have HR : Hid (Cur (srcOf rs) x rest) := hr
    clear hu hr
    cases rest with
    | nil =>
      have hx : Hid (x = -1) := HR.out
      have hd : decide (0 ≤ x) = false := by rw [hx.out]; rfl
      go_wp2
      go_ret
      exact ⟨ret_int (by rw [HU.out, upTo_nil]; omega), hB⟩
    | cons y ys =>
      obtain ⟨h1, h2, h3, h4⟩ := HR.out
      subst h1
      have HT : Hid (Ticks (srcOf rs) y ys) := h4
      clear h4 HR
      have hlen : (k : Int) + 1 + ys.length ≤ 100001 := by simp at hk; omega
      by_cases hto : y ≤ to
      · have hc1 := hc.below hB (Nat.le_refl _)
        have HCN : Hid (Cur (srcOf rs) (nxt rs y) ys) := cur_of HT.out
        have HU2 : Hid (upTo xs to = k + 1 + upTo ys to) := by show _ = _; rw [HU.out, upTo_le hto]; omega
        have HFAR : Hid (nxt rs y = -1 ∨ y < nxt rs y) := by
          show _ ∨ _
          rw [← srcOf_nxt]
          rcases nxtTo_bounds (srcOf_ok rs) y with h | h
          · exact Or.inl h
          · exact Or.inr h.1
        clear HU
        go_wp2_with (go_at_call 13; refine (specCalNext_any a cap rs y _ lo lb hl hc1).mono ?_; rintro e w2 ⟨rfl, hb2⟩)
        go_roundw
        case rel => exact ⟨k + 1, nxt rs y, ys, by go_num, rfl, by omega, HU2.out, HCN.out, hB.trans (hb2.mono hB.size)⟩
        case measure => exact far_lt h2 h3 HFAR.out
      · go_wp2
        go_ret
        exact ⟨ret_int (by rw [HU.out, upTo_gt (by omega)]; omega), hB⟩

end Go.Proofs.YtammejplaeaocaaDoor
