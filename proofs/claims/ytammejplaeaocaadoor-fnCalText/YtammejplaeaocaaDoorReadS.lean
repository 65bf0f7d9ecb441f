/-
  The specification's CalRead reads rules. Condition: the text has at most 1048576 bytes.
-/
import Derived.Test.YtammejplaeaocaaDoorRuleY
import Derived.Test.YtammejplaeaocaaDoorReadJ
namespace Go.Proofs.YtammejplaeaocaaDoor
open Go.RowKit

theorem allS_step {ls : List (List UInt8)} {k : Nat} {p : List UInt8} {rs : List CR} {r : CR} (hp : ls[k]? = some p) (h : allS (ls.take k) = some rs) (hr : ruleS (cutL 32 p) = some r) : allS (ls.take (k + 1)) = some (rs ++ [r]) := by
  obtain ⟨hk, he⟩ := List.getElem?_eq_some_iff.1 hp
  rw [List.take_succ_eq_append_getElem hk, he]
  exact allS_snoc h hr
theorem allS_bad {ls : List (List UInt8)} {k : Nat} {p : List UInt8} (hp : ls[k]? = some p) (hr : ruleS (cutL 32 p) = none) : allS ls = none := by
  obtain ⟨hk, he⟩ := List.getElem?_eq_some_iff.1 hp
  have : ls = ls.take k ++ p :: ls.drop (k + 1) := by
    conv => lhs; rw [← List.take_append_drop k ls]
    rw [List.drop_eq_getElem_cons hk, he]
  rw [this]
  exact allS_none hr
theorem last_get {ps : List (List UInt8)} {n : Nat} (h : ps.length = n + 1) : ps.getLast?.getD [] = ps[n]?.getD [] ∧ ps.dropLast = ps.take n := by
  constructor
  · rw [List.getLast?_eq_getElem?, h]; rfl
  · rw [List.dropLast_eq_take, h]; rfl

/-- The rules that were read, if they are ok. -/
def readT (o : Option (List CR)) : Option (List CR) := match o with
  | none => none
  | some rs => if rulesB rs = true then some rs else none
/-- What the specification's CalRead answers. -/
def SpecRead (w : World) (R : Option (List CR)) (e : Ending) (w' : World) : Prop := ∃ (a : Option Addr) (cap : Nat), e = .returned (.tuple #[.slice a (R.getD []).length cap, .bool R.isSome]) ∧ RulesIn w' w.heap.size w.heap.size a (R.getD []) ∧ Below w.heap.size w w'

set_option maxRecDepth 100000 in
set_option maxHeartbeats 800000 in
theorem specCalRead_any (s : ByteArray) (w : World) (hs : s.size ≤ 1048576) :
    Calls Tryd.prog 21 #[.string s] w fun e w' => SpecRead w (readS s.data.toList) e w' := by
  obtain ⟨i0, hi, hz0, hz1, hz2⟩ := info_parts infoRule
  obtain ⟨l, hl⟩ : ∃ l, l = s.data.toList := ⟨_, rfl⟩
  have HL : Hid (l = s.data.toList) := hl
  have HLEN : Hid (l.length = s.size) := by show _ = _; rw [hl]; exact data_len s
  rw [← hl]
  clear hl
  obtain ⟨R, hR⟩ : ∃ R, R = readS l := ⟨_, rfl⟩
  have HRR : Hid (R = readS l) := hR
  rw [← hR]
  clear hR
  obtain ⟨ps, hps⟩ : ∃ ps, ps = cutL 10 l := ⟨_, rfl⟩
  have HPS : Hid (ps = cutL 10 l) := hps
  have hl1 : 1 ≤ ps.length := by rw [hps]; exact cutL_size _ _
  have hl2 : ps.length ≤ 1048577 := by rw [hps]; have := cutL_len 10 l; have := HLEN.out; omega
  have HSZ : Hid (∀ j : Nat, (bs (ps[j]?.getD [])).size ≤ 1048576) := fun j => by rw [hps, bs_size]; have := piece_le 10 l j; have := HLEN.out; omega
  clear hps
  obtain ⟨n, hn⟩ : ∃ n, ps.length = n + 1 := ⟨ps.length - 1, by omega⟩
  have HN : Hid (ps.length = n + 1) := hn
  have HNO : Hid (∀ (W' : World) (a : Option Addr), readS l = none → Below w.heap.size w W' → SpecRead w R (.returned (.tuple #[.slice a 0 0, .bool false])) W') := fun W' a h hb => by
    have e : R = none := HRR.out.trans h
    rw [e]
    exact ⟨a, 0, rfl, fun i r hi => by simp at hi, hb⟩
  have hcut := fun W => l1Cut_any s 10 W hs
  rw [← HL.out, ← HPS.out] at hcut
  go_enter Tryd.func21, Tryd.ntmps21
  go_wp2_with fail
  refine (hcut _).mono ?_
  rintro e w2 ⟨v, rfl, hrow, hB⟩
  obtain ⟨g, cap, hv⟩ : ∃ g cap, v = .slice (some ⟨g, 0, none⟩) ps.length cap := by
    rcases hrow.2 with ⟨_, h0⟩ | ⟨g, cap, cur, hv, _⟩
    · omega
    · exact ⟨g, cap, hv⟩
  subst hv
  have HCELL : Hid (∀ j, j < ps.length → w2.cell? ⟨g, j, none⟩ = some (.string (bs (ps[j]?.getD [])))) := fun j hj => row_cell hrow hj
  have HB : Hid (Below w.heap.size w w2) := hB
  have hsz2 := hB.size
  clear hrow hB hcut
  have hpn : ((ps.length : Int) - 1) = (n : Int) := by omega
  have hnl : (n : Int) < (ps.length : Int) := by omega
  have hn0 : (0 : Int) ≤ (n : Int) := by omega
  have hnb : n ≤ 1048576 := by omega
  clear hn
  by_cases h8 : 800 < s.size
  · have HR : Hid (readS l = none) := by show _ = _; unfold readS; rw [if_pos (Or.inl (by rw [HLEN.out]; exact h8))]
    go_wp2
    go_ret2
    exact HNO.out _ _ HR.out (HB.out.alloc hsz2 _)
  · have cn := HCELL.out n (by have := HN.out; omega)
    obtain ⟨x, hx⟩ : ∃ x, x = ps[n]?.getD [] := ⟨_, rfl⟩
    rw [← hx] at cn
    have HX : Hid (x = ps[n]?.getD []) := hx
    clear hx
    by_cases e0 : x = []
    · rw [e0] at cn
      have p0 := bs_same []
      have HR : Hid (readS l = readT (allS (ps.take n))) := by
        show _ = _
        unfold readS
        rw [← HPS.out, (last_get HN.out).1, (last_get HN.out).2, ← HX.out, e0, if_neg (by rw [HLEN.out]; simp only [ne_eq, not_true, or_false]; omega)]
        rfl
      clear e0
      go_wp2_with fail
      go_loopw [6, 7, 8, 9] (fun v i _ _ wr => ∃ (k : Nat) (es : List (CR × Value)), i = .int .i64 k ∧ k ≤ n ∧ es.length = k ∧ Hid (allS (ps.take k) = some (es.map Prod.fst)) ∧ Hid (OwnRules wr w2.heap.size v es) ∧ Below w2.heap.size w2 wr) (fun _ i _ _ _ => n - (intOf i).toNat)
      case atStart => exact ⟨0, [], rfl, Nat.zero_le _, rfl, rfl, ⟨⟨rfl, .inr ⟨w2.heap.size, 0, #[], rfl, Nat.le_refl _, heap_alloc_new w2 _, Nat.le_refl _, Nat.zero_le _, rfl, rfl⟩⟩, fun i p h => by simp at h, fun i j p q h => by simp at h, fun i p h => by simp at h⟩, (Below.refl _ _).alloc (Nat.le_refl _) _⟩
      case round =>
        obtain ⟨k, es, rfl, hk, hkl, HA, HO, hBr⟩ := hrel
        have hszr := hBr.size
        have HBr : Hid (Below w2.heap.size w2 wr) := hBr
        obtain ⟨va, vc, hv, _⟩ := HO.out.shape
        subst hv
        by_cases hlt : k < n
        · have hpk : k < ps.length := by have := HN.out; omega
          have hkI : (k : Int) < (ps.length : Int) := by omega
          have ck := (hBr.cell (p := ⟨g, k, none⟩) (cell_lt (HCELL.out k hpk))).trans (HCELL.out k hpk)
          obtain ⟨y, hy⟩ : ∃ y, y = bs (ps[k]?.getD []) := ⟨_, rfl⟩
          rw [← hy] at ck
          have sy : y.size ≤ 1048576 := hy ▸ HSZ.out k
          have HY : Hid (y.data.toList = ps[k]?.getD []) := by show _ = _; rw [hy]; rfl
          clear hy hBr
          have HPK : Hid (ps[k]? = some (ps[k]?.getD [])) := by show _ = _; rw [List.getElem?_eq_getElem hpk]; rfl
          have hcall := l1Rule_any y wr sy
          rw [HY.out] at hcall
          go_wp2_with fail
          refine hcall.mono ?_
          rintro e w3 ⟨r, ba, bc, rfl, hrs, hb3⟩
          have HB3 : Hid (Below w2.heap.size w2 w3) := HBr.out.trans (hb3.mono hszr)
          have HO3 : Hid (OwnRules w3 w2.heap.size (.slice va es.length vc) es) := HO.out.below hb3
          have HLT : Hid (∀ (i : Nat) (p : CR × Value), es[i]? = some p → ∀ k, p.2.ownBlock = some k → k < wr.heap.size) := HO.out.lt
          have hs3 := hb3.size
          clear hb3 hcall HO
          cases hr : ruleS (cutL 32 (ps[k]?.getD [])) with
          | none =>
            have HR1 : Hid (readS l = none) := by
              show _ = _
              rw [HR.out, allS_bad (ls := ps.take n) (k := k) (p := ps[k]?.getD []) (by rw [List.getElem?_take, if_pos hlt]; exact HPK.out) hr]
              rfl
            simp only [Option.isSome_none]
            clear hr hrs
            go_wp2
            go_ret2
            exact HNO.out _ _ HR1.out (((HB.out.trans (HB3.out.mono hsz2)).alloc (Nat.le_trans hsz2 HB3.out.size) _).alloc (by rw [World.size_alloc]; have := HB3.out.size; omega) _)
          | some r' =>
            obtain ⟨hrr, hown, hin, hbin⟩ := hrs r' hr
            subst hrr
            have HRS : Hid (ruleS (cutL 32 (ps[k]?.getD [])) = some r') := hr
            have HOW : Hid (w3.ownsRow wr.heap.size 3 1 (.slice ba r'.b.length bc) r'.b.length (ints r'.b)) := hown
            have HIN : Hid (r'.In ∧ ∀ x, x ∈ r'.b → In64 x) := ⟨hin, hbin⟩
            simp only [Option.isSome_some]
            clear hr hrs hown hin hbin
            have hA : Below w3.heap.size w3 ((w3.alloc (.cells #[.int .i64 r'.e, .int .i64 r'.a, .int .i64 r'.f, .int .i64 r'.t, .slice ba r'.b.length bc] 66)).alloc (.cells #[.int .i64 r'.e, .int .i64 r'.a, .int .i64 r'.f, .int .i64 r'.t, .slice ba r'.b.length bc] 66)) := ((Below.refl _ _).alloc (Nat.le_refl _) _).alloc (by rw [World.size_alloc]; omega) _
            have hAz : ((w3.alloc (.cells #[.int .i64 r'.e, .int .i64 r'.a, .int .i64 r'.f, .int .i64 r'.t, .slice ba r'.b.length bc] 66)).alloc (.cells #[.int .i64 r'.e, .int .i64 r'.a, .int .i64 r'.f, .int .i64 r'.t, .slice ba r'.b.length bc] 66)).heap.size = w3.heap.size + 2 := by rw [World.size_alloc, World.size_alloc]
            have HA2 : Hid _ := hA
            have HNEW : Hid (∀ j u, [Value.int .i64 r'.e, .int .i64 r'.a, .int .i64 r'.f, .int .i64 r'.t, .slice ba r'.b.length bc][j]? = some u → ((w3.alloc (.cells #[.int .i64 r'.e, .int .i64 r'.a, .int .i64 r'.f, .int .i64 r'.t, .slice ba r'.b.length bc] 66)).alloc (.cells #[.int .i64 r'.e, .int .i64 r'.a, .int .i64 r'.f, .int .i64 r'.t, .slice ba r'.b.length bc] 66)).cell? ((⟨w3.heap.size + 1, 0, none⟩ : Addr).add j) = some u) := fun j u hj => by
              have := cell_five_new (w3.alloc (.cells #[.int .i64 r'.e, .int .i64 r'.a, .int .i64 r'.f, .int .i64 r'.t, .slice ba r'.b.length bc] 66)) (.int .i64 r'.e) (.int .i64 r'.a) (.int .i64 r'.f) (.int .i64 r'.t) (.slice ba r'.b.length bc) 66 j u hj
              rwa [World.size_alloc] at this
            have HAZ : Hid _ := hAz
            clear hA hAz
            have hsx := HB3.out.size
            go_wp2_with (at_builtin; refine wpList_append_own _ rfl _ _ 23 rfl w2.heap.size 66 i0 (.agg #[.int .i64 0, .int .i64 0, .int .i64 0, .int .i64 0, .slice none 0 0]) 5 56 Tryd.underlying23 hi hz0 hz1 hz2 rfl (by decide) _ _ _ rfl (own_below HO3.out.row HA2.out) ⟨w3.heap.size + 1, 0, none⟩ 1 1 [.int .i64 r'.e, .int .i64 r'.a, .int .i64 r'.f, .int .i64 r'.t, .slice ba r'.b.length bc] rfl rfl HNEW.out (fun x hx => by simp at hx; rcases hx with rfl | rfl | rfl | rfl | rfl <;> rfl) (by unfold maxLen; omega) (by omega) (by rw [HAZ.out]; omega) ?_; intro v' w4 hown' hgrow3 hnil3; have X3 : Hid (OwnRules w4 w2.heap.size v' (es ++ [(r', .slice ba r'.b.length bc)]) ∧ Below w2.heap.size w2 w4) := ⟨(HO3.out.below HA2.out).snoc (own_below HOW.out HA2.out) (by omega) HLT.out HIN.out hown' hgrow3, Below.grown (HB3.out.trans (HA2.out.mono hsx)) hgrow3 (by rw [HAZ.out]; omega) (fun j hj => (HO3.out.row.lt _ hj).1)⟩; clear hown' hgrow3 hnil3)
            go_roundw
            case rel =>
              refine ⟨k + 1, es ++ [(r', Value.slice ba r'.b.length bc)], by go_num, by omega, by simp [hkl], ?_, X3.out.1, X3.out.2⟩
              rw [List.map_append]
              exact allS_step HPK.out HA.out HRS.out
            case measure => simp [intOf]; omega
        · obtain rfl : k = n := by omega
          have hrl := HO.out.rules
          have hok := specCalOk_any va vc (es.map Prod.fst) wr w2.heap.size w2.heap.size (by rw [List.length_map]; omega) hrl
          rw [List.length_map, hkl] at hok
          have HB4 : Hid (Below w.heap.size w wr) := HB.out.trans (hBr.mono hsz2)
          have HRL : Hid (RulesIn wr w.heap.size w.heap.size va (es.map Prod.fst)) := hrl.mono hsz2 hsz2
          clear hBr hrl
          cases hb : rulesB (es.map Prod.fst) with
          | false =>
            have HR1 : Hid (readS l = none) := by show _ = _; rw [HR.out, HA.out]; simp [readT, hb]
            go_wp2_with (go_at_call 26; refine hok.mono ?_; rintro e w3 ⟨rfl, hb3⟩; rw [hb]; have HB3 : Hid (Below wr.heap.size wr w3) := hb3; clear hb3)
            go_ret2
            exact HNO.out _ _ HR1.out ((HB4.out.trans (HB3.out.mono HB4.out.size)).alloc (Nat.le_trans HB4.out.size HB3.out.size) _)
          | true =>
            have HR1 : Hid (readS l = some (es.map Prod.fst)) := by show _ = _; rw [HR.out, HA.out]; simp [readT, hb]
            go_wp2_with (go_at_call 26; refine hok.mono ?_; rintro e w3 ⟨rfl, hb3⟩; rw [hb]; have HB3 : Hid (Below wr.heap.size wr w3) := hb3; clear hb3)
            go_ret2
            have e5 : R = some (es.map Prod.fst) := HRR.out.trans HR1.out
            rw [e5]
            exact ⟨va, vc, by simp [hkl], HRL.out.below HB3.out (Nat.le_refl _), HB4.out.trans (HB3.out.mono HB4.out.size)⟩
    · have q0 := bs_other e0
      have HR : Hid (readS l = none) := by
        show _ = _
        unfold readS
        rw [if_pos (Or.inr (by rw [← HPS.out, (last_get HN.out).1, ← HX.out]; exact e0))]
      clear e0
      go_wp2
      go_ret2
      exact HNO.out _ _ HR.out (HB.out.alloc hsz2 _)

end Go.Proofs.YtammejplaeaocaaDoor
