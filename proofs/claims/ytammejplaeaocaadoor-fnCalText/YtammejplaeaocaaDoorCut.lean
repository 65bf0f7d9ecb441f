/-
  The specification's l1Cut cuts a text at each byte of one kind. Condition: the text has at most 1048576 bytes.
-/
import Derived.Test.YtammejplaeaocaaDoorReadR
import Derived.WalkSmall
import Derived.Maps.AppendAt
import Derived.Lib.OthersKept
import Derived.WalkSpells
namespace Go.Proofs.YtammejplaeaocaaDoor
open Go.RowKit

theorem infoStr : (Tryd.prog.info? 9).map (fun i => (i.zero, i.size, i.bytes)) = some (some (.string ByteArray.empty), 1, 16) := by kernel_rfl

/-- These texts as cells. -/
def strs (ps : List (List UInt8)) : List Value := ps.map (fun p => .string (bs p))
theorem strs_len (ps : List (List UInt8)) : (strs ps).length = ps.length := by simp [strs]
theorem strs_snoc (ps : List (List UInt8)) (p : List UInt8) : strs (ps ++ [p]) = strs ps ++ [.string (bs p)] := by simp [strs]

theorem data_get {s : ByteArray} {k : Nat} (h : k < s.size) : s.data.toList[k]? = some s[k] := by
  have h2 : k < s.data.toList.length := by simpa using h
  rw [List.getElem?_eq_getElem h2]
  rfl
theorem data_len (s : ByteArray) : s.data.toList.length = s.size := Array.length_toList
theorem ext_bs (s : ByteArray) (a b : Nat) : s.extract a b = bs ((s.data.toList.drop a).take (b - a)) := by
  conv => lhs; rw [← bs_data s]
  exact bs_extract _ _ _
theorem ext_end (s : ByteArray) (a : Nat) : s.extract a s.size = bs (s.data.toList.drop a) := by
  rw [ext_bs, List.take_of_length_le (by rw [List.length_drop, data_len]; exact Nat.le_refl _)]

set_option maxRecDepth 100000 in
set_option maxHeartbeats 2000000 in
theorem l1Cut_any (s : ByteArray) (c : UInt8) (w : World) (hs : s.size ≤ 1048576) :
    Calls Tryd.prog 46 #[.string s, .int .u8 c.toNat] w fun e w' => ∃ v, e = .returned v ∧ w'.ownsRow w.heap.size 9 1 v (cutL c s.data.toList).length (strs (cutL c s.data.toList)) ∧ Below w.heap.size w w' := by
  obtain ⟨i0, hi, hz0, hz1, hz2⟩ := info_parts infoStr
  obtain ⟨l, hl⟩ : ∃ l, l = s.data.toList := ⟨_, rfl⟩
  have HL : Hid (l = s.data.toList) := hl
  rw [← hl]
  clear hl
  go_enter Tryd.func46, Tryd.ntmps46
  go_wp2
  go_loopw [5, 6, 7] (fun v f i wr => ∃ (k a : Nat) (done : List (List UInt8)), f = .int .i64 a ∧ i = .int .i64 k ∧ a ≤ k ∧ k ≤ s.size ∧ wr.ownsRow w.heap.size 9 1 v done.length (strs done) ∧ Below w.heap.size w wr ∧ done.length ≤ a ∧ Hid (cutL c l = done ++ cutL c (l.drop a)) ∧ Hid (∀ j, a ≤ j → j < k → l[j]? ≠ some c)) (fun _ _ i _ => s.size - (intOf i).toNat)
  case atStart => exact ⟨0, 0, [], rfl, rfl, Nat.le_refl _, Nat.zero_le _, ⟨by simp [strs], .inr ⟨w.heap.size, 0, #[], rfl, Nat.le_refl _, heap_alloc_new w _, Nat.le_refl _, Nat.zero_le _, rfl, rfl⟩⟩, (Below.refl _ _).alloc (Nat.le_refl _) _, Nat.le_refl _, rfl, fun j hj hk => by omega⟩
  case round =>
    obtain ⟨k, a, done, rfl, rfl, hak, hk, hown, hB, hda, HC, HN⟩ := hrel
    have hsz := hB.size
    by_cases hlt : k < s.size
    · have hgk : Hid (l[k]? = some s[k]) := by show _ = _; rw [HL.out]; exact data_get hlt
      by_cases hc : s[k] = c
      · have hcc : ((s[k].toNat : Int) == (c.toNat : Int)) = true := by rw [hc]; simp
        have HCC : Hid (s[k] = c) := hc
        clear hc
        go_wp2_with (at_builtin; refine wpList_append_own _ rfl _ _ 56 rfl w.heap.size 9 i0 (.string ByteArray.empty) 1 16 Tryd.underlying56 hi hz0 hz1 hz2 rfl (by decide) _ _ _ rfl (hown.alloc _) ⟨wr.heap.size, 0, none⟩ 1 1 [.string (s.extract a k)] rfl rfl (cell_one_new _ _ _) (fun x hx => by simp at hx; subst hx; rfl) (by unfold maxLen; omega) (by omega) (by simp; omega) ?_; intro v' w3 hown' hgrow3 hnil3; have X : Hid (w3.ownsRow w.heap.size 9 1 v' (done.length + 1) (strs done ++ [.string (s.extract a k)]) ∧ Below w.heap.size w w3) := ⟨hown', Below.grown (hB.alloc hsz _) hgrow3 (by simp; omega) (fun j hj => (hown.lt _ hj).1)⟩; clear hown' hgrow3 hnil3)
        go_roundw
        case rel =>
          refine ⟨k + 1, k + 1, done ++ [(l.drop a).take (k - a)], by go_num, by go_num, Nat.le_refl _, by omega, ?_, X.out.2, by simp; omega, ?_, fun j h1 h2 => by omega⟩
          · rw [strs_snoc, List.length_append, List.length_singleton]
            have := X.out.1
            rw [ext_bs, ← HL.out] at this
            exact this
          · show _ = _
            rw [HC.out, cut_at hak (by rw [hgk.out, HCC.out]) (fun j h1 h2 => HN.out j h1 h2), List.append_assoc]
            rfl
        case measure => simp [intOf]; omega
      · have hcc : ((s[k].toNat : Int) == (c.toNat : Int)) = false := by
          simp only [beq_eq_false_iff_ne, ne_eq]
          intro e
          exact hc (UInt8.toNat_inj.1 (by omega))
        have HCC : Hid (¬ s[k] = c) := hc
        clear hc
        go_wp2
        go_roundw
        case rel =>
          refine ⟨k + 1, a, done, rfl, by go_num, by omega, by omega, hown, hB, hda, HC, fun j h1 h2 => ?_⟩
          by_cases hjk : j = k
          · subst hjk; rw [hgk.out]; intro e; injection e with e; exact HCC.out e
          · exact HN.out j h1 (by omega)
        case measure => simp [intOf]; omega
    · obtain rfl : k = s.size := by omega
      go_wp2_with (at_builtin; refine wpList_append_own _ rfl _ _ 56 rfl w.heap.size 9 i0 (.string ByteArray.empty) 1 16 Tryd.underlying56 hi hz0 hz1 hz2 rfl (by decide) _ _ _ rfl (hown.alloc _) ⟨wr.heap.size, 0, none⟩ 1 1 [.string (s.extract a s.size)] rfl rfl (cell_one_new _ _ _) (fun x hx => by simp at hx; subst hx; rfl) (by unfold maxLen; omega) (by omega) (by simp; omega) ?_; intro v' w3 hown' hgrow3 hnil3; have X : Hid (w3.ownsRow w.heap.size 9 1 v' (done.length + 1) (strs done ++ [.string (s.extract a s.size)]) ∧ Below w.heap.size w w3) := ⟨hown', Below.grown (hB.alloc hsz _) hgrow3 (by simp; omega) (fun j hj => (hown.lt _ hj).1)⟩; clear hown' hgrow3 hnil3)
      go_ret
      refine ⟨_, rfl, ?_, X.out.2⟩
      have e : cutL c l = done ++ [l.drop a] := by
        rw [HC.out, cut_rest (fun j h1 h2 => HN.out j h1 (by rw [HL.out, data_len] at h2; exact h2))]
      rw [e, strs_snoc, List.length_append, List.length_singleton]
      have := X.out.1
      rw [ext_end, ← HL.out] at this
      exact this

theorem piece_mem (c : UInt8) : ∀ (l p : List UInt8), p ∈ cutL c l → p.length ≤ l.length
  | [], p, h => by simp [cutL] at h; subst h; simp
  | b :: l, p, h => by
    by_cases hb : b = c
    · subst hb
      rw [cutL_same] at h
      rcases List.mem_cons.1 h with h | h
      · subst h; simp
      · have := piece_mem b l p h; simp; omega
    · obtain ⟨q, qs, e⟩ := cutL_some c l
      rw [cutL_other hb e] at h
      rcases List.mem_cons.1 h with h | h
      · subst h; have := piece_mem c l q (by rw [e]; simp); simp; omega
      · have := piece_mem c l p (by rw [e]; simp [h]); simp; omega
theorem piece_le (c : UInt8) (l : List UInt8) (j : Nat) : ((cutL c l)[j]?.getD []).length ≤ l.length := by
  by_cases h : j < (cutL c l).length
  · rw [List.getElem?_eq_getElem h]; exact piece_mem c l _ (List.getElem_mem h)
  · rw [List.getElem?_eq_none (by omega)]; simp

/-- A cell of a new block. -/
theorem cells_new (w : World) (cs : Array Value) (t : TypeId) (j : Nat) : (w.alloc (.cells cs t)).cell? ⟨w.heap.size, j, none⟩ = cs[j]? := by
  have h : (w.alloc (.cells cs t)).heap[w.heap.size]? = some (.cells cs t) := heap_alloc_new w _
  unfold World.cell?
  simp only [h]
  rfl

/-- These ints as cells. -/
def ints (l : List Int) : List Value := l.map (Value.int .i64)
theorem ints_snoc (l : List Int) (x : Int) : ints (l ++ [x]) = ints l ++ [.int .i64 x] := by simp [ints]

theorem own_below {W W' : World} {base : Nat} {e : TypeId} {size n : Nat} {v : Value} {xs : List Value} (h : W.ownsRow base e size v n xs) (hb : Below W.heap.size W W') : W'.ownsRow base e size v n xs :=
  h.kept (row := none) ⟨hb.os, hb.tape, hb.output, hb.size, fun k hk _ => hb.block k hk⟩ (by cases hv : v.ownBlock <;> simp)

theorem row_mono {W : World} {base base' : Nat} {e : TypeId} {size n : Nat} {v : Value} {xs : List Value} (h : W.ownsRow base e size v n xs) (hb : base' ≤ base) : W.ownsRow base' e size v n xs := by
  refine ⟨h.1, ?_⟩
  rcases h.2 with h2 | ⟨g, cap, cur, h3, h4, h5⟩
  · exact .inl h2
  · exact .inr ⟨g, cap, cur, h3, Nat.le_trans hb h4, h5⟩

end Go.Proofs.YtammejplaeaocaaDoor
