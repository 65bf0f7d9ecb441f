/-
  The specification's DrawCalRead draws a text. Condition: the code lies in memory.
-/
import Derived.Test.YtammejplaeaocaaDoorDrawW1
import Derived.Test.YtammejplaeaocaaDoorText2
import Derived.Deep.RegionWith
namespace Go.Proofs.YtammejplaeaocaaDoor
open Go.RowKit

theorem writeS_small (rs : List CR) : (writeS decS rs).size ≤ 420 := by
  cases hok : rulesB rs with
  | false => rw [writeS_no hok]; simp [ByteArray.size]
  | true =>
    rw [writeS_ok hok]
    have h4 := rules_four hok
    have key : ∀ k, k ≤ rs.length → (linesS decS (rs.take k)).size ≤ 105 * k := by
      intro k
      induction k with
      | zero => intro _; simp [linesS, ByteArray.size]
      | succ k ih =>
        intro hk
        obtain ⟨r, hr⟩ : ∃ r, rs[k]? = some r := ⟨_, List.getElem?_eq_getElem (by omega)⟩
        have h1 := ih (by omega)
        have h2 := lineS_size (rule_at hok hr) (fun n h0 h1 => (l1Dec_writes n h0 h1).1)
        rw [linesS_step decS rs k r hr, ByteArray.size_append, ByteArray.size_append]
        simp only [ByteArray.size, List.size_toArray, List.length_cons, List.length_nil] at h1 h2 ⊢
        omega
    have := key rs.length (Nat.le_refl _)
    rw [List.take_length] at this
    omega

/-- New texts. -/
theorem texts_new (W : World) (l : List ByteArray) (h : ∀ s, s ∈ l → s.size ≤ 100) : TextsAt (W.alloc (.cells (l.map Value.string).toArray 9)) W.heap.size l.length := fun i hi => by
  have hc := blk_cell (heap_alloc_new W (.cells (l.map Value.string).toArray 9 (0, 0))) i
  refine ⟨l[i], ?_, h _ (List.getElem_mem hi)⟩
  exact hc.trans (by simp [List.getElem?_eq_getElem hi])

/-- What DrawCalRead draws. -/
def ReadD (w : World) (e : Ending) (w' : World) : Prop := ∃ s : ByteArray, e = .returned (.string s) ∧ s.size ≤ 1000 ∧ Below w.heap.size w w'

/-- 'of' at new texts, behind what was drawn so far. -/
theorem of_new (w V : World) (P : Nat) (l : List ByteArray) (h : Rd V w.heap.size P) (hP : P ≤ 90000) (hB : Below w.heap.size w V) (hl0 : (l.all fun s => decide (s.size ≤ 100)) = true) (h1 : 1 ≤ l.length) (h2 : l.length ≤ 1000) :
    ∀ W : World, W.heap = (V.alloc (.cells (l.map Value.string).toArray 9)).heap → W.os = V.os → W.tape = V.tape → W.output = V.output →
    Calls Tryd.prog 42 #[.pointer (some ⟨w.heap.size, 0, none⟩), .slice (some ⟨V.heap.size, 0, none⟩) l.length l.length] W fun e w' => ∃ s : ByteArray, e = .returned (.string s) ∧ s.size ≤ 100 ∧ Hid (Below w.heap.size w w') := by
  intro W e1 e2 e3 e4
  have hl : ∀ s, s ∈ l → s.size ≤ 100 := fun s hs => by simpa using List.all_eq_true.1 hl0 s hs
  have hlt := h.lt
  have hg : V.grownBy W none := ⟨e2, e3, e4, by rw [e1, World.size_alloc]; omega, fun k hk _ => by rw [e1]; exact ((Below.refl V.heap.size V).alloc (Nat.le_refl _) _).block k hk⟩
  have hR : Rd W w.heap.size P := h.grown hg (fun k e => by cases e)
  have hT : TextsAt W V.heap.size l.length := fun i hi => by
    obtain ⟨s, c, z⟩ := texts_new V l hl i hi
    refine ⟨s, ?_, z⟩
    rw [← c]
    exact World.cell?_of_block (w := (V.alloc (.cells (l.map Value.string).toArray 9))) (by rw [e1])
  refine (of_any w.heap.size P V.heap.size l.length l.length W hR hP h1 h2 hT (by omega)).mono ?_
  rintro e w' ⟨s, rfl, z, _, g, _⟩
  have hs := hB.size
  have hBW : Below w.heap.size w W := Below.grown hB hg hs (fun k e => by cases e)
  exact ⟨s, rfl, z, Below.grown hBW g (by have := hg.size; omega) (fun k e => by cases e; exact Nat.le_refl _)⟩

set_option maxRecDepth 100000 in
set_option maxHeartbeats 2000000 in
theorem DrawCalRead_any (w : World) (a : Option Addr) (n cap : Nat) (h : BytesAt w a n) (hn : n ≤ 1048576) (hc : n ≤ cap) (hm : cap ≤ 9223372036854775807) :
    Calls Tryd.prog 19 #[.slice a n cap] w fun e w' => ReadD w e w' := by
  go_enter Tryd.func19, Tryd.ntmps19
  go_wp2_with fail
  refine (l1Open_any w a n cap h hn hc hm).mono ?_
  rintro e w1 ⟨n', c', hn', rfl, hb, hw1⟩
  have hRd : Rd w1 w.heap.size 0 := by rw [hw1]; exact Rd.new w hb hn'
  have hB1 : Below w.heap.size w w1 := by rw [hw1]; exact (Below.refl _ _).alloc (Nat.le_refl _) _
  clear h hb hw1 hn hc hm hn'
  go_wp2_with fail
  refine (l3Rules_any w.heap.size 0 w1 hRd (by omega)).mono ?_
  rintro e w2 ⟨es, v, rfl, l1, l3, hok, hown, hRd2, g2⟩
  obtain ⟨va, vc, hv, _⟩ := hown.shape
  subst hv
  have hB2 : Below w.heap.size w w2 := Below.grown hB1 g2 hB1.size (fun k e => by cases e; exact Nat.le_refl _)
  have hr2 := hown.rules
  have hsp : Calls Tryd.prog 25 #[.slice va es.length vc] w2 fun e w' => ∃ s : ByteArray, e = .returned (.string s) ∧ s.size ≤ 420 ∧ Rd w' w.heap.size 61 ∧ Below w.heap.size w w' := by
    have := specCalWrite_any va vc (es.map Prod.fst) w2 _ _ (by rw [List.length_map]; omega) hr2
    rw [List.length_map] at this
    refine this.mono ?_
    rintro e w' ⟨rfl, B⟩
    exact ⟨_, rfl, writeS_small _, hRd2.below B, hB2.trans (B.mono hB2.size)⟩
  clear hok hown hr2 g2 hRd hB1 hRd2 hB2
  go_wp2_with fail
  refine hsp.mono ?_
  rintro e w3 ⟨s, rfl, hs, hRd3, hB3⟩
  clear hsp
  go_wp2_with fail
  refine (pick_any w.heap.size 61 5 w3 hRd3 (by omega) (by omega) (by omega)).mono ?_
  rintro e w4 ⟨v4, rfl, a4, b4, hRd4, g4, z4⟩
  have hB4 : Below w.heap.size w w4 := Below.grown hB3 g4 hB3.size (fun k e => by cases e; exact Nat.le_refl _)
  clear hRd3 hB3 g4 z4
  by_cases c0 : v4 = 0
  · subst c0
    clear a4 b4
    go_wp2_with fail
    refine (pick_any w.heap.size 62 (s.size + 1) w4 hRd4 (by omega) (by omega) (by omega)).mono ?_
    rintro e w5 ⟨v5, rfl, a5, b5, hRd5, g5, z5⟩
    have hB5 : Below w.heap.size w w5 := Below.grown hB4 g5 hB4.size (fun k e => by cases e; exact Nat.le_refl _)
    obtain ⟨k, rfl⟩ : ∃ k : Nat, v5 = (k : Int) := ⟨v5.toNat, by omega⟩
    have hk : k ≤ s.size := by omega
    have HC : Hid (∀ W : World, W.heap = (w5.alloc (.cells #[.string ⟨#[32]⟩, .string ⟨#[48]⟩, .string ⟨#[10]⟩, .string ⟨#[120]⟩, .string ⟨#[45]⟩, .string ⟨#[98, 117, 116]⟩] 9)).heap ∧ W.os = w5.os ∧ W.tape = w5.tape ∧ W.output = w5.output →
        Calls Tryd.prog 42 #[.pointer (some ⟨w.heap.size, 0, none⟩), .slice (some ⟨w5.heap.size, 0, none⟩) 6 6] W fun e w' => ∃ s : ByteArray, e = .returned (.string s) ∧ s.size ≤ 100 ∧ Hid (Below w.heap.size w w')) :=
      fun W hW => of_new w w5 63 [⟨#[32]⟩, ⟨#[48]⟩, ⟨#[10]⟩, ⟨#[120]⟩, ⟨#[45]⟩, ⟨#[98, 117, 116]⟩] hRd5 (by omega) hB5 rfl (by decide) (by decide) W hW.1 hW.2.1 hW.2.2.1 hW.2.2.2
    have x1 : (s.extract 0 k).size = k := by rw [ByteArray.size_extract]; omega
    have x2 : (s.extract k s.size).size = s.size - k := by rw [ByteArray.size_extract]; omega
    clear hRd5 hB5 hB4 hRd4 g5 z5 a5 b5
    go_wp2_with fail
    go_region_with (go_at_call 42; refine (HC.out _ ?hh).mono ?_; (case hh => exact ⟨rfl, rfl, rfl, rfl⟩); rintro e w6 ⟨t, rfl, ht, HB⟩)
    all_goals go_wp2
    all_goals go_ret
    all_goals exact ⟨_, rfl, by rw [ByteArray.size_append, ByteArray.size_append, x1, x2]; omega, HB.out⟩
  by_cases c1 : v4 = 1
  · subst c1
    clear a4 b4 c0
    obtain ⟨L, hL⟩ : ∃ L, L = w4.alloc (.cells #[.string ⟨#[]⟩, .string ⟨#[10]⟩, .string ⟨#[101, 118, 101, 114, 121, 32, 49, 32, 97, 116, 32, 48, 32, 102, 114, 111, 109, 32, 48, 32, 116, 111, 32, 53]⟩, .string ⟨#[101, 118, 101, 114, 121, 32, 49, 32, 97, 116, 32, 48, 32, 102, 114, 111, 109, 32, 48, 32, 116, 111, 32, 53, 32, 98, 117, 116, 10]⟩, .string ⟨#[101, 118, 101, 114, 121, 32, 48, 32, 97, 116, 32, 48, 32, 102, 114, 111, 109, 32, 48, 32, 116, 111, 32, 53, 10]⟩, .string ⟨#[101, 118, 101, 114, 121, 32, 50, 32, 97, 116, 32, 50, 32, 102, 114, 111, 109, 32, 48, 32, 116, 111, 32, 53, 10]⟩, .string ⟨#[101, 118, 101, 114, 121, 32, 49, 32, 97, 116, 32, 48, 32, 102, 114, 111, 109, 32, 54, 32, 116, 111, 32, 53, 10]⟩, .string ⟨#[101, 118, 101, 114, 121, 32, 48, 49, 32, 97, 116, 32, 48, 32, 102, 114, 111, 109, 32, 48, 32, 116, 111, 32, 53, 10]⟩, .string ⟨#[101, 118, 101, 114, 121, 32, 49, 32, 97, 116, 32, 48, 32, 102, 114, 111, 109, 32, 48, 32, 116, 111, 32, 53, 32, 98, 117, 116, 32, 51, 32, 51, 10]⟩, .string ⟨#[101, 118, 101, 114, 121, 32, 49, 32, 97, 116, 32, 48, 32, 102, 114, 111, 109, 32, 48, 32, 116, 111, 32, 53, 32, 98, 117, 116, 32, 51, 32, 52, 10]⟩, .string ⟨#[101, 118, 101, 114, 121, 32, 49, 32, 32, 97, 116, 32, 48, 32, 102, 114, 111, 109, 32, 48, 32, 116, 111, 32, 53, 10]⟩] 9) := ⟨_, rfl⟩
    have HC : Hid (Calls Tryd.prog 42 #[.pointer (some ⟨w.heap.size, 0, none⟩), .slice (some ⟨w4.heap.size, 0, none⟩) 11 11] L fun e w' => ∃ s : ByteArray, e = .returned (.string s) ∧ s.size ≤ 100 ∧ Hid (Below w.heap.size w w')) :=
      of_new w w4 62 [⟨#[]⟩, ⟨#[10]⟩, ⟨#[101, 118, 101, 114, 121, 32, 49, 32, 97, 116, 32, 48, 32, 102, 114, 111, 109, 32, 48, 32, 116, 111, 32, 53]⟩, ⟨#[101, 118, 101, 114, 121, 32, 49, 32, 97, 116, 32, 48, 32, 102, 114, 111, 109, 32, 48, 32, 116, 111, 32, 53, 32, 98, 117, 116, 10]⟩, ⟨#[101, 118, 101, 114, 121, 32, 48, 32, 97, 116, 32, 48, 32, 102, 114, 111, 109, 32, 48, 32, 116, 111, 32, 53, 10]⟩, ⟨#[101, 118, 101, 114, 121, 32, 50, 32, 97, 116, 32, 50, 32, 102, 114, 111, 109, 32, 48, 32, 116, 111, 32, 53, 10]⟩, ⟨#[101, 118, 101, 114, 121, 32, 49, 32, 97, 116, 32, 48, 32, 102, 114, 111, 109, 32, 54, 32, 116, 111, 32, 53, 10]⟩, ⟨#[101, 118, 101, 114, 121, 32, 48, 49, 32, 97, 116, 32, 48, 32, 102, 114, 111, 109, 32, 48, 32, 116, 111, 32, 53, 10]⟩, ⟨#[101, 118, 101, 114, 121, 32, 49, 32, 97, 116, 32, 48, 32, 102, 114, 111, 109, 32, 48, 32, 116, 111, 32, 53, 32, 98, 117, 116, 32, 51, 32, 51, 10]⟩, ⟨#[101, 118, 101, 114, 121, 32, 49, 32, 97, 116, 32, 48, 32, 102, 114, 111, 109, 32, 48, 32, 116, 111, 32, 53, 32, 98, 117, 116, 32, 51, 32, 52, 10]⟩, ⟨#[101, 118, 101, 114, 121, 32, 49, 32, 32, 97, 116, 32, 48, 32, 102, 114, 111, 109, 32, 48, 32, 116, 111, 32, 53, 10]⟩] hRd4 (by omega) hB4 rfl (by decide) (by decide) L (by rw [hL]; rfl) (by rw [hL]; rfl) (by rw [hL]; rfl) (by rw [hL]; rfl)
    clear hRd4 hB4
    go_wp2_with fail
    rw [← hL]
    clear hL
    refine HC.out.mono ?_
    rintro e w6 ⟨u, rfl, hu, HB⟩
    clear HC
    go_wp2
    go_ret
    exact ⟨u, rfl, by omega, HB.out⟩
  by_cases c2 : v4 = 2
  · subst c2
    clear a4 b4 c0 c1
    go_wp2_with fail
    refine (pick_any w.heap.size 62 2 w4 hRd4 (by omega) (by omega) (by omega)).mono ?_
    rintro e w5 ⟨v5, rfl, a5, b5, hRd5, g5, z5⟩
    have hB5 : Below w.heap.size w w5 := Below.grown hB4 g5 hB4.size (fun k e => by cases e; exact Nat.le_refl _)
    have HX : Hid (Calls Tryd.prog 43 #[.string ⟨#[101, 118, 101, 114, 121, 32, 49, 32, 97, 116, 32, 48, 32, 102, 114, 111, 109, 32, 48, 32, 116, 111, 32, 49, 10]⟩, .int .i64 (4 + v5)] w5 fun e w' => ∃ s : ByteArray, e = .returned (.string s) ∧ s.size ≤ 1000 ∧ Below w5.heap.size w5 w') := l1Many_any _ (4 + v5) w5 (by decide) (by omega)
    clear hRd5 g5 z5 hRd4 hB4
    go_wp2_with fail
    refine HX.out.mono ?_
    rintro e w6 ⟨u, rfl, hu, B6⟩
    have HB : Hid (Below w.heap.size w w6) := hB5.trans (B6.mono hB5.size)
    clear B6 HX hB5
    go_wp2
    go_ret
    exact ⟨u, rfl, by omega, HB.out⟩
  · have q0 : (v4 == 0) = false := by simp [c0]
    have q1 : (v4 == 1) = false := by simp [c1]
    have q2 : (v4 == 2) = false := by simp [c2]
    have HB : Hid (Below w.heap.size w w4) := hB4
    clear hB4 hRd4
    go_wp2
    go_ret
    exact ⟨s, rfl, by omega, HB.out⟩

end Go.Proofs.YtammejplaeaocaaDoor
