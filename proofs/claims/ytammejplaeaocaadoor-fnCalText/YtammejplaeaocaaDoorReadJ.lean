/-
  The program's readRules reads the rules of a text of at most 800 bytes; CalRead reads rules. Condition: as ReadI's.
-/
import Derived.Test.YtammejplaeaocaaDoorReadI
namespace Go.Proofs.YtammejplaeaocaaDoor
open Go.RowKit

theorem ownsRow_iter {w : World} {base : Nat} {e : TypeId} {size : Nat} {v : Value} {n : Nat} {xs : List Value} (h : w.ownsRow base e size v n xs) {k : Nat} (hk : k < base) (s : ByteArray) (p : Nat) : (w.iterAt k s p).ownsRow base e size v n xs := ownsRow_iterAt h hk s p
theorem OwnRules.iterAt {W : World} {lo : Nat} {v : Value} {es : List (CR × Value)} (h : OwnRules W lo v es) {k : Nat} (hk : k < lo) (s : ByteArray) (p : Nat) : OwnRules (W.iterAt k s p) lo v es :=
  ⟨ownsRow_iterAt h.row hk s p, fun i q hq => ownsRow_iterAt (h.buf i q hq) hk s p, h.apart, h.rng⟩
theorem OwnRules.mono {W : World} {lo lo' : Nat} {v : Value} {es : List (CR × Value)} (h : OwnRules W lo v es) (hl : lo' ≤ lo) : OwnRules W lo' v es :=
  ⟨row_mono h.row hl, fun i p hp => row_mono (h.buf i p hp) hl, h.apart, h.rng⟩
theorem cell_five_new (w : World) (x0 x1 x2 x3 x4 : Value) (t : TypeId) : ∀ j u, [x0, x1, x2, x3, x4][j]? = some u → (w.alloc (.cells #[x0, x1, x2, x3, x4] t)).cell? ((⟨w.heap.size, 0, none⟩ : Addr).add j) = some u := by
  intro j u hj
  match j, hj with
  | 0, hj => simp at hj; subst hj; simp [Addr.add]
  | 1, hj => simp at hj; subst hj; simp [Addr.add]
  | 2, hj => simp at hj; subst hj; simp [Addr.add]
  | 3, hj => simp at hj; subst hj; simp [Addr.add]
  | 4, hj => simp at hj; subst hj; simp [Addr.add]
  | j + 5, hj => simp at hj

set_option maxRecDepth 100000 in
set_option maxHeartbeats 3000000 in
theorem readRules_short (s : ByteArray) (w : World) (hg : Glob2 w) (hM : MaxAt w) (hS : Cuts Tryd.prog 84) (h8 : s.size ≤ 800) :
    Calls Tryd.prog 44 #[.string s] w fun e w' => ∃ x v, e = .returned (.tuple #[x, v]) ∧ RulesV w' w.heap.size (readI s.data.toList) x v ∧ Below w.heap.size w w' := by
  obtain ⟨i0, hi, hz0, hz1, hz2⟩ := info_parts infoRule
  obtain ⟨l, hl⟩ : ∃ l, l = s.data.toList := ⟨_, rfl⟩
  have HL : Hid (l = s.data.toList) := hl
  have HLEN : Hid (l.length = s.size) := by show _ = _; rw [hl]; exact data_len s
  rw [← hl]
  clear hl
  have HE : Hid (∀ (W : World) (x : Value) (n : Int) (p : Addr), readI l = none → 1 ≤ n → n ≤ 1000 → RulesV W w.heap.size (readI l) x (.iface 90 (.agg #[.int .i64 n, .iface 166 (.pointer (some p))]))) := fun W x n p h h1 h2 => Or.inr ⟨h, n, p, h1, h2, rfl⟩
  have HG : Hid (Glob2 w) := hg
  have HM : Hid (MaxAt w) := hM
  clear hg hM
  go_enter Tryd.func44, Tryd.ntmps44
  go_wp2
  go_loopw [4, 5, 6, 7, 8, 9] (fun v st _ _ _ _ wr => ∃ (pos a : Nat) (es : List (CR × Value)), st = .int .i64 a ∧ wr.heap[w.heap.size]? = some (.stringIter s pos) ∧ a ≤ pos ∧ pos ≤ s.size ∧ es.length ≤ a ∧ Hid (OwnRules wr (w.heap.size + 1) v es) ∧ Below w.heap.size w wr ∧ Hid (∃ done, cutL 10 l = done ++ cutL 10 (l.drop a) ∧ allI done = some (es.map Prod.fst)) ∧ Hid (∀ j, a ≤ j → j < pos → l[j]? ≠ some 10)) (fun _ _ _ _ _ _ wr => s.size - wr.iterPos w.heap.size)
  case atStart => exact ⟨0, 0, [], rfl, World.iter_heap w s 0, Nat.le_refl _, Nat.zero_le _, Nat.le_refl _, OwnRules.nil _ _, (Below.refl _ _).alloc (Nat.le_refl _) _, ⟨[], by simp, rfl⟩, fun j h1 h2 => by omega⟩
  case round =>
    obtain ⟨pos, a, es, rfl, hit, hap, hps, hel, HO, hB, HC, HN⟩ := hrel
    have hpos0 := iterPos_of hit
    obtain ⟨va, vc, hv, _⟩ := HO.out.shape
    subst hv
    by_cases hp : pos < s.size
    · have hnx : ∀ ty, (Instr.next (.pointer (some ⟨w.heap.size, 0, none⟩)) true ty).run Tryd.prog wr = _ := fun ty => Lib.run_next_any_at wr w.heap.size s pos ty hit hp
      have hit2 := Lib.iterAt_heap wr w.heap.size s pos (pos + (Utf8.decode s pos).2) hit
      have hB2 := Lib.below_iterAt hB (k := w.heap.size) (Nat.le_refl _) s (pos + (Utf8.decode s pos).2)
      have HO2 : Hid (OwnRules (wr.iterAt w.heap.size s (pos + (Utf8.decode s pos).2)) (w.heap.size + 1) (.slice va es.length vc) es) := HO.out.iterAt (Nat.lt_succ_self _) _ _
      obtain ⟨W1, hW1⟩ : ∃ W1, W1 = wr.iterAt w.heap.size s (pos + (Utf8.decode s pos).2) := ⟨_, rfl⟩
      rw [← hW1] at hnx hit2 hB2 HO2
      clear hW1 hit hB HO
      obtain ⟨d1, d2, _⟩ := decode_more s pos hp
      by_cases hc : (Utf8.decode s pos).1 = 10
      · obtain ⟨h10, hw1⟩ := rune_ten hp hc
        have H10 : Hid (l[pos]? = some 10) := by show _ = _; rw [HL.out, data_get hp, h10]
        rw [hw1] at hit2
        rw [hc] at hnx
        clear hc h10 hw1 d1 d2
        have hne : ((10 : Int) == 10) = true := rfl
        obtain ⟨X, hX⟩ : ∃ X, X = s.extract a pos := ⟨_, rfl⟩
        have sX : X.size ≤ 1048576 := by rw [hX, ByteArray.size_extract]; omega
        have HX : Hid (X.data.toList = (l.drop a).take (pos - a)) := by show _ = _; rw [hX, ext_bs, ← HL.out]; rfl
        have hsz1 := hB2.size
        have hg1 := HG.out.below hB2 (Nat.le_refl _)
        have hM1 := HM.out.below hB2 (Nat.le_refl _)
        go_wp2_with fail
        rw [← hX]
        refine (readRule_any X _ sX hg1 hM1 hS).mono ?_
        rw [HX.out]
        rintro e w2 ⟨x, v2, rfl, hrv, hb2⟩
        have HB2 : Hid (Below w.heap.size w w2) := hB2.trans (hb2.mono hsz1)
        have hB2s := hb2.size
        have hwlt : w.heap.size < W1.heap.size := (Array.getElem?_eq_some_iff.1 hit2).1
        have hit3 : w2.heap[w.heap.size]? = some (.stringIter s (pos + 1)) := (hb2.block _ hwlt).trans hit2
        have HO3 : Hid (OwnRules w2 (w.heap.size + 1) (.slice va es.length vc) es) := HO2.out.below hb2
        have HLT : Hid (∀ (i : Nat) (p : CR × Value), es[i]? = some p → ∀ k, p.2.ownBlock = some k → k < W1.heap.size) := HO2.out.lt
        clear HO2 hb2 hg1 hM1 hB2 hit2 hX
        rcases hrv with ⟨r, bv, hr, rfl, rfl, hown⟩ | ⟨hr, rfl, p, rfl⟩
        · obtain ⟨xa, xc, rfl⟩ : ∃ xa xc, bv = .slice xa r.b.length xc := by
            rcases hown.2 with ⟨hv, h0⟩ | ⟨g, cap, cur, hv, _⟩
            · exact ⟨none, 0, by rw [hv, h0]⟩
            · exact ⟨_, _, hv⟩
          have HOW : Hid (w2.ownsRow W1.heap.size 3 1 (.slice xa r.b.length xc) r.b.length (ints r.b)) := hown
          have HR : Hid (ruleI (cutL 32 ((l.drop a).take (pos - a))) = some r) := hr
          clear hown hr
          have hs2 := HB2.out.size
          have hA : Below w2.heap.size w2 ((w2.alloc (.cells #[.int .i64 r.e, .int .i64 r.a, .int .i64 r.f, .int .i64 r.t, .slice xa r.b.length xc] 66)).alloc (.cells #[.int .i64 r.e, .int .i64 r.a, .int .i64 r.f, .int .i64 r.t, .slice xa r.b.length xc] 66)) := ((Below.refl _ _).alloc (Nat.le_refl _) _).alloc (by rw [World.size_alloc]; omega) _
          have hAz : ((w2.alloc (.cells #[.int .i64 r.e, .int .i64 r.a, .int .i64 r.f, .int .i64 r.t, .slice xa r.b.length xc] 66)).alloc (.cells #[.int .i64 r.e, .int .i64 r.a, .int .i64 r.f, .int .i64 r.t, .slice xa r.b.length xc] 66)).heap.size = w2.heap.size + 2 := by rw [World.size_alloc, World.size_alloc]
          have HA : Hid _ := hA
          have HNEW : Hid (∀ j u, [Value.int .i64 r.e, .int .i64 r.a, .int .i64 r.f, .int .i64 r.t, .slice xa r.b.length xc][j]? = some u → ((w2.alloc (.cells #[.int .i64 r.e, .int .i64 r.a, .int .i64 r.f, .int .i64 r.t, .slice xa r.b.length xc] 66)).alloc (.cells #[.int .i64 r.e, .int .i64 r.a, .int .i64 r.f, .int .i64 r.t, .slice xa r.b.length xc] 66)).cell? ((⟨w2.heap.size + 1, 0, none⟩ : Addr).add j) = some u) := fun j u hj => by
            have := cell_five_new (w2.alloc (.cells #[.int .i64 r.e, .int .i64 r.a, .int .i64 r.f, .int .i64 r.t, .slice xa r.b.length xc] 66)) (.int .i64 r.e) (.int .i64 r.a) (.int .i64 r.f) (.int .i64 r.t) (.slice xa r.b.length xc) 66 j u hj
            rwa [World.size_alloc] at this
          have HAZ : Hid _ := hAz
          clear hA hAz
          go_wp2_with (at_builtin; refine wpList_append_own _ rfl _ _ 23 rfl (w.heap.size + 1) 66 i0 (.agg #[.int .i64 0, .int .i64 0, .int .i64 0, .int .i64 0, .slice none 0 0]) 5 56 Tryd.underlying23 hi hz0 hz1 hz2 rfl (by decide) _ _ _ rfl (own_below HO3.out.row HA.out) ⟨w2.heap.size + 1, 0, none⟩ 1 1 [.int .i64 r.e, .int .i64 r.a, .int .i64 r.f, .int .i64 r.t, .slice xa r.b.length xc] rfl rfl HNEW.out (fun x hx => by simp at hx; rcases hx with rfl | rfl | rfl | rfl | rfl <;> rfl) (by unfold maxLen; omega) (by omega) (by rw [HAZ.out]; omega) ?_; intro v' w3 hown' hgrow3 hnil3; have X3 : Hid (OwnRules w3 (w.heap.size + 1) v' (es ++ [(r, .slice xa r.b.length xc)]) ∧ Below w.heap.size w w3 ∧ w3.heap[w.heap.size]? = some (.stringIter s (pos + 1))) := ⟨(HO3.out.below HA.out).snoc (own_below HOW.out HA.out) (by omega) HLT.out (ruleI_in HR.out) hown' hgrow3, Below.grown (HB2.out.trans (HA.out.mono hs2)) hgrow3 (by rw [HAZ.out]; omega) (fun j hj => by have := (HO3.out.row.lt _ hj).1; omega), by rw [hgrow3.block w.heap.size (by rw [HAZ.out]; omega) (fun h => by have := (HO3.out.row.lt _ h.symm).1; omega), HA.out.block _ (by omega)]; exact hit3⟩; clear hown' hgrow3 hnil3)
          go_roundw
          case rel =>
            refine ⟨pos + 1, pos + 1, es ++ [(r, Value.slice xa r.b.length xc)], by go_num, X3.out.2.2, Nat.le_refl _, by omega, by simp; omega, X3.out.1, X3.out.2.1, ?_, fun j h1 h2 => by omega⟩
            obtain ⟨done, hd, ha⟩ := HC.out
            refine ⟨done ++ [(l.drop a).take (pos - a)], ?_, ?_⟩
            · rw [hd, cut_at hap H10.out (fun j h1 h2 => HN.out j h1 h2), List.append_assoc]; rfl
            · rw [List.map_append]; exact allI_snoc ha HR.out
          case measure => rw [iterPos_of X3.out.2.2, hpos0]; omega
        · have HN1 : Hid (readI l = none) := by
            obtain ⟨done, hd, ha⟩ := HC.out
            exact read_bad (p := (l.drop a).take (pos - a)) (rest := l.drop (pos + 1)) (by rw [hd, cut_at hap H10.out (fun j h1 h2 => HN.out j h1 h2)]) hr
          clear hr
          go_wp2
          go_ret2
          exact ⟨_, _, rfl, HE.out _ _ _ _ HN1.out (by omega) (by omega), HB2.out.alloc HB2.out.size _⟩
      · have hcn : (((Utf8.decode s pos).1 : Int) == 10) = false := by simp; omega
        have HSK : Hid (∀ j, pos ≤ j → j < pos + (Utf8.decode s pos).2 → l[j]? ≠ some 10) := by rw [HL.out]; exact rune_skip hp hc
        clear hc
        obtain ⟨c, hcc⟩ : ∃ c, c = (Utf8.decode s pos).1 := ⟨_, rfl⟩
        rw [← hcc] at hnx hcn
        clear hcc
        go_wp2
        go_roundw
        case rel =>
          refine ⟨_, a, es, rfl, hit2, by omega, by omega, hel, HO2, hB2, HC, fun j h1 h2 => ?_⟩
          by_cases hjp : j < pos
          · exact HN.out j h1 hjp
          · exact HSK.out j (by omega) h2
        case measure => rw [iterPos_of hit2, hpos0]; omega
    · obtain rfl : pos = s.size := by omega
      have hnx : ∀ ty, (Instr.next (.pointer (some ⟨w.heap.size, 0, none⟩)) true ty).run Tryd.prog wr = _ := fun ty => Lib.run_next_end_at wr w.heap.size s s.size ty hit hp
      have HEND : Hid (readI l = if l.drop a = [] ∧ rulesB (es.map Prod.fst) = true then some (es.map Prod.fst) else none) := by
        obtain ⟨done, hd, ha⟩ := HC.out
        exact read_end (by rw [HLEN.out]; omega) (by rw [hd, cut_rest (fun j h1 h2 => HN.out j h1 (by rw [HLEN.out] at h2; exact h2))]) ha
      have HBr : Hid (Below w.heap.size w wr) := hB
      obtain ⟨pn, hpn⟩ := (HG.out.below hB (Nat.le_refl _)).newline
      have hgr := (HG.out.below hB (Nat.le_refl _)).glob
      have hrl := HO.out.rules
      clear hB hit
      by_cases hlt : a < s.size
      · have HN1 : Hid (readI l = none) := by
          show _ = _
          rw [HEND.out, if_neg]
          rintro ⟨h1, _⟩
          have := congrArg List.length h1
          rw [List.length_drop, HLEN.out] at this
          simp at this
          omega
        go_wp2
        go_quiet (fail)
        go_wp2
        go_ret2
        exact ⟨_, _, rfl, HE.out _ _ _ pn HN1.out (by omega) (by omega), below_drewN HBr.out _⟩
      · have hd0 : l.drop a = [] := List.drop_of_length_le (by rw [HLEN.out]; omega)
        have hck := checkRules_any va vc (es.map Prod.fst) wr (w.heap.size + 1) (w.heap.size + 1) (by rw [List.length_map]; omega) hrl hgr
        rw [List.length_map] at hck
        have HD0 : Hid (l.drop a = []) := hd0
        clear hd0 hrl
        go_wp2_with fail
        refine hck.mono ?_
        rintro e w2 ⟨v2, rfl, hlv, hb2⟩
        have HB2 : Hid (Below w.heap.size w w2) := HBr.out.trans (hb2.mono HBr.out.size)
        have HO2 : Hid (OwnRules w2 w.heap.size (.slice va es.length vc) es) := (HO.out.below hb2).mono (by omega)
        clear hb2 hck
        rcases hlv with ⟨hrb, rfl⟩ | ⟨hrb, n, p, h1, h2, rfl⟩
        · have HF : Hid (readI l = some (es.map Prod.fst)) := by show _ = _; rw [HEND.out, if_pos ⟨HD0.out, hrb⟩]
          clear hrb
          go_wp2
          go_ret2
          exact ⟨_, _, rfl, Or.inl ⟨es, HF.out, rfl, HO2.out⟩, HB2.out⟩
        · have HF : Hid (readI l = none) := by show _ = _; rw [HEND.out, if_neg (by rw [hrb]; simp)]
          clear hrb
          go_wp2
          go_ret2
          exact ⟨_, _, rfl, HE.out _ _ n p HF.out h1 h2, HB2.out⟩

/-- The program's CalRead. -/
theorem implCalRead_any (s : ByteArray) (w : World) (hs : s.size ≤ 1048576) (hg : Glob2 w) (hM : MaxAt w) (hS : Cuts Tryd.prog 84) (hC : Counts Tryd.prog 66) :
    Calls Tryd.prog 20 #[.string s] w fun e w' => ∃ (x : Value) (es : List (CR × Value)), e = .returned (.tuple #[x, .bool (readI s.data.toList).isSome]) ∧ es.map Prod.fst = (readI s.data.toList).getD [] ∧ OwnRules w' w.heap.size x es ∧ Below w.heap.size w w' := by
  have hrr : Calls Tryd.prog 44 #[.string s] w fun e w' => ∃ x v, e = .returned (.tuple #[x, v]) ∧ RulesV w' w.heap.size (readI s.data.toList) x v ∧ Below w.heap.size w w' := by
    by_cases h8 : 800 < s.size
    · exact readRules_long s w hs hg hC h8
    · exact readRules_short s w hg hM hS (by omega)
  go_enter Tryd.func20, Tryd.ntmps20
  go_wp2_with fail
  refine hrr.mono ?_
  rintro e w1 ⟨x, v, rfl, (⟨es, hr, rfl, hown⟩ | ⟨hr, n, p, h1, h2, rfl⟩), hb1⟩
  · have HR : Hid (readI s.data.toList = some (es.map Prod.fst)) := hr
    have HO : Hid (OwnRules w1 w.heap.size x es) := hown
    have HB : Hid (Below w.heap.size w w1) := hb1
    clear hr hown hb1 hrr
    obtain ⟨a, cap, rfl, _⟩ := HO.out.shape
    go_wp2_with (go_at_call 45; refine (wrongLine_nil _).mono ?_; rintro e w2 ⟨rfl, hb2⟩; have HB2 : Hid (Below w1.heap.size w1 w2) := hb2; clear hb2)
    go_ret2
    exact ⟨_, es, by rw [HR.out]; rfl, by rw [HR.out]; rfl, HO.out.below HB2.out, HB.out.trans (HB2.out.mono HB.out.size)⟩
  · have HR : Hid (readI s.data.toList = none) := hr
    have HB : Hid (Below w.heap.size w w1) := hb1
    have hg1 := (hg.below hb1 (Nat.le_refl _)).glob
    clear hr hb1 hrr
    have hn0 : (n == 0) = false := by simp; omega
    go_wp2_with (go_at_call 45; refine (wrongLine_line n p _ hg1).mono ?_; rintro e w2 ⟨rfl, hb2⟩; have HB2 : Hid (Below w1.heap.size w1 w2) := hb2; clear hb2)
    go_ret2
    exact ⟨_, [], by rw [HR.out]; rfl, by rw [HR.out]; rfl, OwnRules.nil _ _, HB.out.trans (HB2.out.mono HB.out.size)⟩

end Go.Proofs.YtammejplaeaocaaDoor
