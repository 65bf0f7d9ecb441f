/-
  The law FnCalNext, walked over a contract of l3Spoil: it answers true at every two codes that lie in memory. Condition: the package-level variables that CalOk comes to hold what the program's text lays.
-/
import Derived.Test.YtammejplaeaocaaDoorDrawV
import Derived.Test.YtammejplaeaocaaDoorLeast
import Derived.Deep.CutBlock
namespace Go.Proofs.YtammejplaeaocaaDoor
open Go.RowKit

theorem nxt_bounds (rs : List CR) (t : Int) : nxt rs t = -1 ∨ (t < nxt rs t ∧ 0 ≤ nxt rs t ∧ nxt rs t ≤ 100000) := by
  rw [← srcOf_nxt]
  exact nxtTo_bounds (srcOf_ok rs) t
theorem BytesAt.below {W W' : World} {a : Option Addr} {n : Nat} (h : BytesAt W a n) (hb : Below W.heap.size W W') : BytesAt W' a n := fun i hi => by
  obtain ⟨b, off, x, e1, e2, e3, e4⟩ := h i hi
  exact ⟨b, off, x, e1, e2, e3, (hb.cell (p := ⟨b, off + i, none⟩) (cell_lt e4)).trans e4⟩

set_option maxRecDepth 100000 in
set_option maxHeartbeats 2000000 in
theorem lawCalNext (hSp : Spoils) (a c : Option Addr) (n m ca cc : Nat) (w : World) (ha : BytesAt w a n) (hc : BytesAt w c m) (hna : n ≤ ca) (hma : ca ≤ 9223372036854775807) (hnc : m ≤ cc) (hmc : cc ≤ 9223372036854775807) (hg : Glob w) :
    Calls Tryd.prog 3 #[.slice a n ca, .slice c m cc] w fun e w' => e = .returned (.bool true) ∧ Below w.heap.size w w' := by
  have HS : Hid Spoils := hSp
  clear hSp
  by_cases h1 : (1048576 : Int) < (n : Int)
  · go_enter Tryd.func3, Tryd.ntmps3
    go_wp2
    go_ret
    exact ⟨rfl, Below.refl _ _⟩
  by_cases h2 : (1048576 : Int) < (m : Int)
  · go_enter Tryd.func3, Tryd.ntmps3
    go_wp2
    go_ret
    exact ⟨rfl, Below.refl _ _⟩
  go_enter Tryd.func3, Tryd.ntmps3
  go_wp2_with fail
  refine (DrawCalNext_any HS.out w a n ca ha (by omega) hna hma).mono ?_
  rintro e w1 ⟨rs, ra, rc, t, rfl, l5, r1, t1, t2, B1⟩
  have g1 := hg.below B1 (Nat.le_refl _)
  have h64 : In64 t := ⟨by omega, by omega⟩
  have hl : rs.length ≤ 9223372036854775807 := by omega
  go_wp2_with fail
  refine (implCalNext_any ra rc rs t w1 _ _ hl r1 g1 h64).mono ?_
  rintro e w2 ⟨rfl, B2⟩
  have r2 := r1.below B2 (Nat.le_refl _)
  have g2 := g1.below B2 (Nat.le_refl _)
  have hnb := nxt_bounds rs t
  have HN1 : Hid (∀ s, t < s → s < nxt rs t → dueB rs s = false) := fun s h1 h2 => nxt_between h1 h2
  have HN2 : Hid (0 ≤ nxt rs t → t < nxt rs t ∧ dueB rs (nxt rs t) = true) := fun h => nxt_is h
  have HX : Hid (∀ (W : World), RulesIn W 0 0 ra rs → Calls Tryd.prog 13 #[.slice ra rs.length rc, .int .i64 t] W fun e w' => e = .returned (.int .i64 (nxt rs t)) ∧ Below W.heap.size W w') := fun W h => specCalNext_any ra rc rs t W _ _ hl h
  generalize hxe : nxt rs t = x at hnb HN1 HN2 HX ⊢
  clear hxe
  go_wp2_with fail
  refine (HX.out w2 r2).mono ?_
  rintro e w3 ⟨rfl, B3⟩
  have r3 := r2.below B3 (Nat.le_refl _)
  have g3 := g2.below B3 (Nat.le_refl _)
  have hxx : (x != x) = false := by simp
  have hdd : ∀ b : Bool, (b != b) = false := fun b => by simp
  go_wp2_with fail
  refine (implCalDue_any ra rc rs t w3 _ _ hl r3 g3 h64).mono ?_
  rintro e w4 ⟨rfl, B4⟩
  have r4 := r3.below B4 (Nat.le_refl _)
  have g4 := g3.below B4 (Nat.le_refl _)
  go_wp2_with fail
  refine (specCalDue_any ra rc rs t w4 _ _ hl r4).mono ?_
  rintro e w5 ⟨rfl, B5⟩
  have r5 := r4.below B5 (Nat.le_refl _)
  have g5 := g4.below B5 (Nat.le_refl _)
  have hB5 : Below w.heap.size w w5 := by
    have e1 := B1.size
    have e2 := B2.size
    have e3 := B3.size
    have e4 := B4.size
    exact (((B1.trans (B2.mono e1)).trans (B3.mono (by omega))).trans (B4.mono (by omega))).trans (B5.mono (by omega))
  clear r1 r2 r3 r4 g1 g2 g3 g4 B1 B2 B3 B4 B5 HX
  have hdb := hdd (dueB rs t)
  go_upto_region 7 with fail
  go_cut [56] (fun v wx => v = .bool false ∧ Hid (Below w5.heap.size w5 wx))
  case first =>
    by_cases hx0 : 0 ≤ x
    · have hq0 : decide (0 ≤ x) = true := by simp [hx0]
      obtain ⟨hx1, hx2⟩ := HN2.out hx0
      have hle : decide (x ≤ t) = false := by simp; omega
      go_wp2_with fail
      refine (implCalDue_any ra rc rs x w5 _ _ hl r5 g5 ⟨by omega, by omega⟩).mono ?_
      rintro e w6 ⟨rfl, B6⟩
      rw [hx2]
      go_wp2
      go_meet
      exact ⟨rfl, B6⟩
    · have hq0 : decide (0 ≤ x) = false := by simp; omega
      go_wp2
      go_meet
      exact ⟨rfl, Below.refl _ _⟩
  case rest =>
    obtain ⟨rfl, HB6⟩ := hcut
    have r6 := r5.below HB6.out (Nat.le_refl _)
    have g6 := g5.below HB6.out (Nat.le_refl _)
    have hB6 : Hid (Below w.heap.size w wc) := hB5.trans (HB6.out.mono hB5.size)
    clear r5 g5 hB5 HB6 HN2
    go_upto_block 0 with fail
    go_cut [8] (fun _ wx => Hid (Below wc.heap.size wc wx))
    case first =>
      go_wp2_with fail
      go_loopw [8] (fun s wr => ∃ q : Int, s = .int .i64 q ∧ t < q ∧ (q = t + 1 ∨ q ≤ x) ∧ Hid (Below wc.heap.size wc wr)) (fun s _ => (x - intOf s).toNat)
      case atStart => exact ⟨t + 1, rfl, by omega, Or.inl rfl, Below.refl _ _⟩
      case round =>
        obtain ⟨q, rfl, q1, q2, HBr⟩ := hrel
        by_cases c1 : q < x
        · have d1 : decide (q < x) = true := by simp [c1]
          by_cases c2 : q < t + 200
          · have d2 : decide (q < t + 200) = true := by simp [c2]
            by_cases c3 : -1 ≤ t
            · have d3 : decide (-1 ≤ t) = true := by simp [c3]
              have hno := HN1.out q q1 c1
              go_wp2_with fail
              refine (implCalDue_any ra rc rs q wr _ _ hl (r6.below HBr.out (Nat.le_refl _)) (g6.below HBr.out (Nat.le_refl _)) ⟨by omega, by omega⟩).mono ?_
              rintro e w7 ⟨rfl, B7⟩
              rw [hno]
              have HB7 : Hid (Below wc.heap.size wc w7) := HBr.out.trans (B7.mono HBr.out.size)
              clear B7
              go_wp2
              go_roundw
              case rel => exact ⟨q + 1, by go_num, by omega, Or.inr (by omega), HB7⟩
              case measure => simp [intOf]; omega
            · have d3 : decide (-1 ≤ t) = false := by simp; omega
              go_wp2
              go_meet
              exact HBr
          · have d2 : decide (q < t + 200) = false := by simp; omega
            go_wp2
            go_meet
            exact HBr
        · have d1 : decide (q < x) = false := by simp; omega
          go_wp2
          go_meet
          exact HBr
    case rest =>
      have hB7 : Below w.heap.size w wc := hB6.out.trans (hcut.out.mono hB6.out.size)
      have g7 := g6.below hcut.out (Nat.le_refl _)
      have hc7 := hc.below hB7
      clear r6 g6 hB6 hcut HN1 ha hc hg
      go_wp2_with fail
      refine (DrawCalCount_any HS.out wc c m cc hc7 (by omega) hnc hmc).mono ?_
      rintro e w8 ⟨ss, sa, sc, lf, lt, rfl, k5, r8, f1, f2, u1, u2, B8⟩
      have g8 := g7.below B8 (Nat.le_refl _)
      have hB8 := hB7.trans (B8.mono hB7.size)
      obtain ⟨xs, hxs⟩ := count_both ss lf
      have HXS : Hid (Ticks (srcOf ss) lf xs) := hxs
      have HXL : Hid ((upTo xs lt : Int) ≤ 100001) := by
        have h1 : upTo xs lt ≤ xs.length := by unfold upTo; exact (List.takeWhile_prefix _).length_le
        have h2 := (ticks_len (srcOf_ok ss) xs lf hxs).1
        show (upTo xs lt : Int) ≤ 100001
        omega
      clear hxs
      have hk : ss.length ≤ 9223372036854775807 := by omega
      go_wp2_with fail
      refine (implCalCount_any sa sc ss lf lt w8 _ _ hk r8 g8 ⟨by omega, by omega⟩ xs HXS.out).mono ?_
      rintro e w9 ⟨rfl, B9⟩
      have r9 := r8.below B9 (Nat.le_refl _)
      go_wp2_with fail
      refine (specCalCount_any sa sc ss lf lt w9 _ _ hk r9 xs HXS.out).mono ?_
      rintro e w10 ⟨rfl, B10⟩
      have r10 := r9.below B10 (Nat.le_refl _)
      have HB10 : Hid (Below w.heap.size w w10) := by
        have e8 := hB8.size
        have e9 := B9.size
        exact (hB8.trans (B9.mono e8)).trans (B10.mono (by omega))
      clear r8 r9 g8 g7 hB7 hB8 B8 B9 B10 hc7
      have HSTART : Hid (∃ ys, Ticks (srcOf ss) (lf + 1 - 1) ys ∧ upTo xs lt = upTo ys lt) := ⟨xs, by rw [show lf + 1 - 1 = lf by omega]; exact HXS.out, rfl⟩
      have hUL := HXL.out
      clear HXL HXS
      obtain ⟨U, hU⟩ : ∃ U, U = upTo xs lt := ⟨_, rfl⟩
      rw [← hU] at HSTART hUL ⊢
      clear hU
      have huu : ((U : Int) != (U : Int)) = false := by simp
      go_wp2_with fail
      go_loopw [12, 13] (fun kv s wr => ∃ (k : Nat) (q : Int), kv = .int .i64 k ∧ s = .int .i64 q ∧ lf < q ∧ (q = lf + 1 ∨ q ≤ lt + 1) ∧ (k : Int) ≤ 100001 ∧ Hid (∃ ys, Ticks (srcOf ss) (q - 1) ys ∧ k = upTo ys lt) ∧ Hid (Below w10.heap.size w10 wr)) (fun _ s _ => (lt + 1 - intOf s).toNat)
      case atStart => exact ⟨U, lf + 1, rfl, rfl, by omega, Or.inl rfl, hUL, HSTART, Below.refl _ _⟩
      case round =>
        obtain ⟨k, q, rfl, rfl, q1, q2, hk1, HT, HBr⟩ := hrel
        clear HSTART huu
        by_cases c1 : q ≤ lt
        · have d1 : decide (q ≤ lt) = true := by simp [c1]
          go_wp2_with fail
          refine (specCalDue_any sa sc ss q wr _ _ hk (r10.below HBr.out (Nat.le_refl _))).mono ?_
          rintro e wd ⟨rfl, Bd⟩
          have HBd : Hid (Below w10.heap.size w10 wd) := HBr.out.trans (Bd.mono HBr.out.size)
          clear Bd
          cases hd : dueB ss q with
          | true =>
            have HT2 : Hid (1 ≤ k ∧ ∃ ys, Ticks (srcOf ss) (q + 1 - 1) ys ∧ k - 1 = upTo ys lt) := by
              obtain ⟨ys, h1, h2⟩ := HT.out
              obtain ⟨zs, rfl, h3⟩ := ticks_due h1 hd
              rw [upTo_le c1] at h2
              exact ⟨by omega, zs, by rw [show q + 1 - 1 = q by omega]; exact h3, by omega⟩
            have hk2 := HT2.out.1
            clear hd
            go_wp2
            go_roundw
            case rel => exact ⟨k - 1, q + 1, by go_num, by go_num, by omega, Or.inr (by omega), by omega, HT2.out.2, HBd⟩
            case measure => simp [intOf]; omega
          | false =>
            have HT2 : Hid (∃ ys, Ticks (srcOf ss) (q + 1 - 1) ys ∧ k = upTo ys lt) := by
              obtain ⟨ys, h1, h2⟩ := HT.out
              exact ⟨ys, by rw [show q + 1 - 1 = q by omega]; exact ticks_pass h1 hd, h2⟩
            clear hd
            go_wp2
            go_roundw
            case rel => exact ⟨k, q + 1, rfl, by go_num, by omega, Or.inr (by omega), hk1, HT2, HBd⟩
            case measure => simp [intOf]; omega
        · have d1 : decide (q ≤ lt) = false := by simp; omega
          have hk0 : k = 0 := by
            obtain ⟨ys, h1, h2⟩ := HT.out
            rw [h2]
            exact ticks_over h1 (by omega)
          subst hk0
          go_wp2
          go_ret
          exact ⟨rfl, HB10.out.trans (HBr.out.mono HB10.out.size)⟩

end Go.Proofs.YtammejplaeaocaaDoor
