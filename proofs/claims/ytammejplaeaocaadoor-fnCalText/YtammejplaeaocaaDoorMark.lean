/-
  The laws' marking of ints and rules that a call has made, and their asking whether the marks are still there. Condition: bounds on how many there are.
-/
import Derived.Test.YtammejplaeaocaaDoorOwn
import Derived.Laws.OwnMore
namespace Go.Proofs.YtammejplaeaocaaDoor
open Go.RowKit

/-- So many ints, one behind the other. -/
def seqI (k : Int) : Nat → List Int
  | 0 => []
  | n + 1 => k :: seqI (k + 1) n
theorem seqI_len (k : Int) (n : Nat) : (seqI k n).length = n := by
  induction n generalizing k with
  | zero => rfl
  | succ n ih => simp [seqI, ih]
theorem seqI_snoc (k : Int) (n : Nat) : seqI k (n + 1) = seqI k n ++ [k + n] := by
  induction n generalizing k with
  | zero => simp [seqI]
  | succ n ih =>
    rw [seqI, ih (k + 1), seqI]
    simp
    omega
theorem seqI_at {k : Int} {n i : Nat} (h : i < n) : (seqI k n)[i]? = some (k + i) := by
  induction n generalizing k i with
  | zero => omega
  | succ n ih =>
    cases i with
    | zero => simp [seqI]
    | succ i => rw [seqI, List.getElem?_cons_succ, ih (by omega)]; congr 1; omega
theorem seqI_in {k : Int} {n : Nat} (h0 : 0 ≤ k) (h1 : k + n ≤ 1000000) : ∀ x, x ∈ seqI k n → In64 x := by
  intro x hx
  obtain ⟨i, hi, rfl⟩ := List.getElem_of_mem hx
  have hi2 : i < n := by rw [seqI_len] at hi; exact hi
  have := seqI_at (k := k) hi2
  rw [List.getElem?_eq_getElem hi] at this
  injection this with this
  rw [this]
  exact ⟨by omega, by omega⟩

theorem set_mid {α : Type} (A : List α) (x y : α) (B : List α) : (A ++ x :: B).set A.length y = A ++ y :: B := by
  rw [List.set_append_right _ _ (Nat.le_refl _), Nat.sub_self]; rfl

theorem grown_trans {A B C : World} {row : Option Nat} (h : A.grownBy B row) (k : B.grownBy C row) : A.grownBy C row :=
  ⟨k.os.trans h.os, k.tape.trans h.tape, k.output.trans h.output, Nat.le_trans h.size k.size, fun i hi hr => (k.block i (Nat.lt_of_lt_of_le hi h.size) hr).trans (h.block i hi hr)⟩
theorem grown_refl (A : World) (row : Option Nat) : A.grownBy A row := ⟨rfl, rfl, rfl, Nat.le_refl _, fun _ _ _ => rfl⟩

set_option maxHeartbeats 1000000 in
theorem markInts_any (v : Value) (l : List Int) (k : Int) (w : World) (lo : Nat) (hv : w.ownsRow lo 3 1 v l.length (ints l)) (h0 : 0 ≤ k) (h1 : k + l.length ≤ 1000000) :
    Calls Tryd.prog 57 #[v, .int .i64 k] w fun e w' => e = .returned (.int .i64 (k + l.length)) ∧ w'.ownsRow lo 3 1 v l.length (ints (seqI k l.length)) ∧ w.grownBy w' v.ownBlock ∧ w'.heap.size = w.heap.size := by
  obtain ⟨a, cap, hvs⟩ : ∃ a cap, v = .slice a l.length cap := by
    rcases hv.2 with ⟨hv, h0⟩ | ⟨g, cap, cur, hv, _⟩
    · exact ⟨none, 0, by rw [hv, h0]⟩
    · exact ⟨_, _, hv⟩
  subst hvs
  go_enter Tryd.func57, Tryd.ntmps57
  go_wp2
  go_loopw [1, 5] (fun kk i wr => ∃ j : Nat, j ≤ l.length ∧ i = .int .i64 j ∧ kk = .int .i64 (k + j) ∧ wr.ownsRow lo 3 1 (.slice a l.length cap) l.length (ints (seqI k j ++ l.drop j)) ∧ Hid (w.grownBy wr (Value.slice a l.length cap).ownBlock) ∧ Hid (wr.heap.size = w.heap.size)) (fun _ i _ => l.length - (intOf i).toNat)
  case atStart => exact ⟨0, Nat.zero_le _, rfl, by simp, by simpa [seqI] using hv, grown_refl _ _, rfl⟩
  case round =>
    obtain ⟨j, hj, rfl, rfl, hown, HG, HS⟩ := hrel
    by_cases hlt : j < l.length
    · rcases hown.2 with ⟨_, h00⟩ | ⟨g, cap', cur, hv', hg, hh, _⟩
      · omega
      · injection hv' with ha _ hc
        subst ha hc
        have hcell := hown.cellAt j (by omega)
        have hfz := hown.frozenAt j
        obtain ⟨u, hu⟩ : ∃ u, (ints (seqI k j ++ l.drop j))[j]? = some u := by
          have : j < (ints (seqI k j ++ l.drop j)).length := by simp [ints, seqI_len]; omega
          exact ⟨_, List.getElem?_eq_getElem this⟩
        rw [hu] at hcell
        have HST : Hid ((wr.setCell ⟨g, j, none⟩ (.int .i64 (k + j))).ownsRow lo 3 1 (.slice (some ⟨g, 0, none⟩) l.length cap) l.length (ints (seqI k (j + 1) ++ l.drop (j + 1)))) := by
          have h2 := hown.stored j (.int .i64 (k + j))
          have e : (ints (seqI k j ++ l.drop j)).set j (.int .i64 (k + j)) = ints (seqI k (j + 1) ++ l.drop (j + 1)) := by
            rw [List.drop_eq_getElem_cons hlt]
            unfold ints
            rw [List.map_append, List.map_cons]
            have := set_mid (List.map (Value.int .i64) (seqI k j)) (Value.int .i64 l[j]) (Value.int .i64 (k + j)) (List.map (Value.int .i64) (l.drop (j + 1)))
            rw [List.length_map, seqI_len] at this
            rw [this, seqI_snoc]
            simp
          rw [e] at h2
          exact h2.1
        have HGR : Hid (wr.grownBy (wr.setCell ⟨g, j, none⟩ (.int .i64 (k + j))) (some g)) := (hown.stored j _).2
        clear hown hu hh
        go_wp2
        go_roundw
        case rel => exact ⟨j + 1, by omega, by go_num, by go_num, HST.out, grown_trans HG.out HGR.out, by show (wr.setCell _ _).heap.size = _; rw [← HS.out]; simp [World.setCell]⟩
        case measure => simp [intOf]; omega
    · obtain rfl : j = l.length := by omega
      rw [List.drop_length, List.append_nil] at hown
      go_wp2
      go_ret
      exact ⟨rfl, hown, HG.out, HS.out⟩

set_option maxHeartbeats 1000000 in
theorem heldInts_any (a : Option Addr) (cap n : Nat) (k : Int) (w : World) (lo : Nat) (hv : IntsIn w lo a (seqI k n)) (h0 : 0 ≤ k) (h1 : k + n ≤ 1000000) :
    Calls Tryd.prog 58 #[.slice a n cap, .int .i64 k] w fun e w' => e = .returned (.int .i64 (k + n)) ∧ Below w.heap.size w w' := by
  go_enter Tryd.func58, Tryd.ntmps58
  go_wp2
  go_loopw [1, 5] (fun kk i wr => ∃ j : Nat, j ≤ n ∧ i = .int .i64 j ∧ kk = .int .i64 (k + j) ∧ Below w.heap.size w wr) (fun _ i _ => n - (intOf i).toNat)
  case atStart => exact ⟨0, Nat.zero_le _, rfl, by simp, Below.refl _ _⟩
  case round =>
    obtain ⟨j, hj, rfl, rfl, hB⟩ := hrel
    have HB : Hid (Below w.heap.size w wr) := hB
    by_cases hlt : j < n
    · obtain ⟨b, off, rfl, _, c0⟩ := (hv.below hB (Nat.le_refl _)).2.2 j (by rw [seqI_len]; exact hlt)
      rw [seqI_at hlt] at c0
      change wr.cell? ⟨b, off + j, none⟩ = some (.int .i64 (k + j)) at c0
      have hq : ((k + (j : Int)) == (k + (j : Int))) = true := by simp
      clear hB
      go_wp2
      go_roundw
      case rel => exact ⟨j + 1, by omega, by go_num, by go_num, HB.out⟩
      case measure => simp [intOf]; omega
    · obtain rfl : j = n := by omega
      go_wp2
      go_ret
      exact ⟨rfl, HB.out⟩

/-- Rules, marked from a number on. -/
def mk : List CR → Int → List CR
  | [], _ => []
  | r :: rs, k => ⟨k, k + 1, k + 2, k + 3, seqI (k + 4) r.b.length⟩ :: mk rs (k + 4 + r.b.length)
/-- The number behind the marks. -/
def endK : List CR → Int → Int
  | [], k => k
  | r :: rs, k => endK rs (k + 4 + r.b.length)
theorem endK_snoc : ∀ (rs : List CR) (r : CR) (k : Int), endK (rs ++ [r]) k = endK rs k + 4 + r.b.length
  | [], r, k => rfl
  | q :: rs, r, k => by simp only [List.cons_append, endK]; exact endK_snoc rs r _
theorem mk_snoc : ∀ (rs : List CR) (r : CR) (k : Int), mk (rs ++ [r]) k = mk rs k ++ [⟨endK rs k, endK rs k + 1, endK rs k + 2, endK rs k + 3, seqI (endK rs k + 4) r.b.length⟩]
  | [], r, k => rfl
  | q :: rs, r, k => by simp only [List.cons_append, mk, endK]; rw [mk_snoc rs r _]
theorem mk_len : ∀ (rs : List CR) (k : Int), (mk rs k).length = rs.length
  | [], _ => rfl
  | r :: rs, k => by simp [mk, mk_len rs]
theorem mk_at : ∀ (rs : List CR) (k : Int) (i : Nat) (r : CR), rs[i]? = some r → (mk rs k)[i]? = some ⟨endK (rs.take i) k, endK (rs.take i) k + 1, endK (rs.take i) k + 2, endK (rs.take i) k + 3, seqI (endK (rs.take i) k + 4) r.b.length⟩
  | [], k, i, r, h => by simp at h
  | q :: rs, k, 0, r, h => by simp only [List.getElem?_cons_zero, Option.some.injEq] at h; subst h; rfl
  | q :: rs, k, i + 1, r, h => by
    rw [mk, List.getElem?_cons_succ, List.take_succ_cons]
    exact mk_at rs _ i r (by simpa using h)
theorem endK_take {rs : List CR} {i : Nat} {r : CR} (h : rs[i]? = some r) (k : Int) : endK (rs.take (i + 1)) k = endK (rs.take i) k + 4 + r.b.length := by
  obtain ⟨hi, he⟩ := List.getElem?_eq_some_iff.1 h
  rw [List.take_succ_eq_append_getElem hi, endK_snoc, he]
theorem endK_bulk : ∀ (rs : List CR) (k : Int), endK rs k = k + 4 * rs.length + bulk rs
  | [], k => by simp [endK, bulk]
  | r :: rs, k => by simp only [endK, bulk, List.length_cons]; rw [endK_bulk rs]; push_cast; omega

set_option maxHeartbeats 2000000 in
theorem heldRules_any (a : Option Addr) (cap : Nat) (rs : List CR) (k : Int) (w : World) (lo lb : Nat) (hc : RulesIn w lo lb a (mk rs k)) (h0 : 0 ≤ k) (h1 : k + 4 * rs.length + bulk rs ≤ 1000000) :
    Calls Tryd.prog 32 #[.slice a rs.length cap, .int .i64 k] w fun e w' => e = .returned (.int .i64 (endK rs k)) ∧ Below w.heap.size w w' := by
  have HB1 : Hid (∀ j, j ≤ rs.length → k + 4 * j + bulk (rs.take j) ≤ 1000000 ∧ endK (rs.take j) k = k + 4 * j + bulk (rs.take j)) := fun j hj => by
    have h2 := bulk_take_le rs j
    have h3 := endK_bulk (rs.take j) k
    rw [List.length_take, Nat.min_eq_left hj] at h3
    exact ⟨by omega, h3⟩
  go_enter Tryd.func32, Tryd.ntmps32
  go_wp2
  go_loopw [1, 5] (fun kk i wr => ∃ j : Nat, j ≤ rs.length ∧ i = .int .i64 j ∧ kk = .int .i64 (endK (rs.take j) k) ∧ Below w.heap.size w wr) (fun _ i _ => rs.length - (intOf i).toNat)
  case atStart => exact ⟨0, Nat.zero_le _, rfl, by simp [endK], Below.refl _ _⟩
  case round =>
    obtain ⟨j, hj, rfl, rfl, hB⟩ := hrel
    have HB : Hid (Below w.heap.size w wr) := hB
    obtain ⟨hb1, hb2⟩ := HB1.out j hj
    obtain ⟨m, hm⟩ : ∃ m, m = endK (rs.take j) k := ⟨_, rfl⟩
    have HM : Hid (m = endK (rs.take j) k) := hm
    rw [← hm] at hb2 ⊢
    have hm0 : 0 ≤ m := by omega
    have hm1 : m ≤ 1000000 := by omega
    clear hm
    by_cases hlt : j < rs.length
    · obtain ⟨r, hr⟩ : ∃ r, rs[j]? = some r := ⟨_, List.getElem?_eq_getElem hlt⟩
      obtain ⟨_, b, off, ba, bc, rfl, _, hi, c0, c1, c2, c3, c4⟩ := (hc.below hB (Nat.le_refl _)) j _ (mk_at rs k j r hr)
      rw [← HM.out] at c0 c1 c2 c3 hi
      simp only [seqI_len] at c4
      have hnext := endK_take hr k
      have hn1 := (HB1.out (j + 1) (by omega))
      rw [hnext, ← HM.out] at hn1
      have hbnd : m + 4 + r.b.length ≤ 1000000 := by omega
      have HNX : Hid (endK (rs.take (j + 1)) k = m + 4 + r.b.length) := by show _ = _; rw [hnext, ← HM.out]
      clear hB hnext hn1 hb1 hb2 hr
      have q0 : (m == m) = true := by simp
      have q1 : ((m + 1) == (m + 1)) = true := by simp
      have q2 : ((m + 2) == (m + 2)) = true := by simp
      have q3 : ((m + 3) == (m + 3)) = true := by simp
      have hcall := heldInts_any ba bc r.b.length (m + 4) wr lb hi (by omega) (by omega)
      have e1 : m + 1 + 1 = m + 2 := by omega
      have e2 : m + 2 + 1 = m + 3 := by omega
      have e3 : m + 3 + 1 = m + 4 := by omega
      have hge : ¬ m + 4 + (r.b.length : Int) < 0 := by omega
      go_wp2_with (go_at_call 58; refine hcall.mono ?_; rintro e w1 ⟨rfl, hb3⟩; have HB3 : Hid (Below wr.heap.size wr w1) := hb3; clear hb3)
      go_roundw
      case rel => exact ⟨j + 1, by omega, by go_num, by rw [HNX.out], HB.out.trans (HB3.out.mono HB.out.size)⟩
      case measure => simp [intOf]; omega
    · obtain rfl : j = rs.length := by omega
      have HE : Hid (m = endK rs k) := by show _ = _; rw [HM.out, List.take_length]
      go_wp2
      go_ret
      exact ⟨ret_int HE.out, HB.out⟩

end Go.Proofs.YtammejplaeaocaaDoor
