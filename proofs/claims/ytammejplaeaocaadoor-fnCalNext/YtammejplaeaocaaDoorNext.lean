/-
  The program's CalNext answers the next tick, as plain data. Condition: the package-level variables that CalOk comes to hold what the program's text lays.
-/
import Derived.Test.YtammejplaeaocaaDoorIter
namespace Go.Proofs.YtammejplaeaocaaDoor
open Go.RowKit Go.Shelf

attribute [local go_sem] Oper.semAt_some

theorem cell_of_box {W : World} {B : Nat} {v : Value} {t : TypeId} (h : W.heap[B]? = some (.cells #[v] t (0, 0))) : W.cell? ⟨B, 0, none⟩ = some v ∧ W.frozen? ⟨B, 0, none⟩ = false := by
  constructor <;> simp [World.cell?, World.frozen?, h]
theorem cell_new (W : World) (v : Value) (t : TypeId) : (W.alloc (.cells #[v] t)).cell? ⟨W.heap.size, 0, none⟩ = some v ∧ (W.alloc (.cells #[v] t)).frozen? ⟨W.heap.size, 0, none⟩ = false :=
  cell_of_box (World.alloc_heap_new W _)

/-- The iterator's boxes and the rules lie on, whatever becomes of the one cell c of the caller's own. -/
theorem keeps_of {w w0 w1 : World} {c B lo lb : Nat} {a a' : Option Addr} {cap' : Nat} {rs : List CR} {t : Int} (hc : RulesIn w lo lb a rs) (hw : Below w.heap.size w w1) (hcw : w.heap.size ≤ c) (hcB : c < B) (hbx : Boxes w1 B a' cap' (srcOf rs) t)
    (hrl : ∀ W, RulesIn W lo lb a rs → RulesIn W lo lb a' (srcOf rs)) (_h : w0 = w1) : Keeps (BelowBut c w1.heap.size) w1 B lo lb a' cap' (srcOf rs) t := by
  obtain ⟨b1, b2, b3⟩ := hbx
  have e1 := cell_lt b1
  have e2 := cell_lt b2
  have e3 := cell_lt b3
  simp only at e1 e2 e3
  exact ⟨fun h k => h.trans k, fun h => h.size, fun h0 h => BelowBut.of_below h h0,
    fun h => ⟨(h.cell (by simp; omega) (by simp; omega)).trans b1, (h.cell (by simp; omega) (by simp; omega)).trans b2, (h.cell (by simp; omega) (by simp; omega)).trans b3⟩,
    fun h => hrl _ (hc.but hw hcw hw.size h)⟩

set_option maxRecDepth 100000 in
set_option maxHeartbeats 2000000 in
theorem implCalNext_in (a : Option Addr) (cap : Nat) (rs : List CR) (t : Int) (w : World) (lo lb : Nat) (hl : rs.length ≤ 9223372036854775807) (hc : RulesIn w lo lb a rs) (hg : Glob w) (h64 : In64 t) (xs : List Int) (hxs : Ticks (srcOf rs) t xs) :
    CallsIn Fence.wide 6 Tryd.prog 12 #[.slice a rs.length cap, .int .i64 t] w fun e w' => e = .returned (.int .i64 (nxt rs t)) ∧ Below w.heap.size w w' := by
  have hb0 : Below w.heap.size w (w.alloc (.cells #[.int .i64 0] 3)) := (Below.refl _ _).alloc (Nat.le_refl _) _
  have hc0 := hc.below hb0 (Nat.le_refl _)
  have hg0 := hg.below hb0 (Nat.le_refl _)
  refine callsIn_of_wp_marks Tryd.func12 rfl trivial ?_ rfl
  simp only [Tryd.ntmps12, List.size_toArray, List.length_cons, List.length_nil, Nat.reduceAdd, Nat.reduceSub, Array.replicate_succ, Array.replicate_zero, List.push_toArray, List.append_toArray, List.nil_append, List.cons_append]
  gi_wp2_with fail
  refine ⟨trivial, ?_⟩
  refine (callsIn_wide.2 (dueAbove_any a cap rs t _ lo lb hl hc0 hg0)).mono ?_
  rintro e w1 ⟨B, a', cap', hBz, rfl, hbx, hrl, hb1⟩
  have hcB : w.heap.size < B := by simp at hBz; omega
  have HB1 : Hid (Below w.heap.size w w1) := hb0.trans (hb1.mono (by simp))
  have hK := keeps_of (w0 := w1) hc HB1.out (Nat.le_refl _) hcB hbx hrl rfl
  have hcell : w1.cell? ⟨w.heap.size, 0, none⟩ = some (.int .i64 0) := (hb1.cell (p := ⟨w.heap.size, 0, none⟩) (by simp)).trans (cell_new w _ _).1
  have hfroz : w1.frozen? ⟨w.heap.size, 0, none⟩ = false := (hb1.frozen (p := ⟨w.heap.size, 0, none⟩) (by simp)).trans (cell_new w _ _).2
  have hsz1 : w.heap.size < w1.heap.size := by have := hb1.size; simp at this; omega
  clear hc0 hg0 hg hb0 hbx hb1
  gi_wp2
  refine wpIn_rangeFunc_ownF rfl (by omega) (gf := 77) (lb := #[.pointer (some ⟨B + 1, 0, none⟩), .pointer (some ⟨B, 0, none⟩), .pointer (some ⟨B + 1 + 1, 0, none⟩)]) rfl trivial (enters_of Tryd.func77 (by kernel_rfl) rfl)
    (iter_stops 5 (by omega) B lo lb a' cap' (srcOf rs) t xs hxs (srcOf_len rs) (srcOf_ok rs) h64 (BelowBut w.heap.size w1.heap.size) w1 hK) (fun h k => h.trans k) (belowBut_b (Nat.le_refl _)) (Below.refl _ _) (fun _ => rfl)
    (fun pre W => (pre = [] ∧ W.cell? ⟨w.heap.size, 0, none⟩ = some (.int .i64 0) ∧ W.frozen? ⟨w.heap.size, 0, none⟩ = false) ∧ Below w.heap.size w W)
    (fun c pre W => (c = .ret ∧ ∃ x, pre = [x] ∧ W.cell? ⟨w.heap.size, 0, none⟩ = some (.int .i64 x)) ∧ Below w.heap.size w W)
    (OwnFrom.and (Own.from (fun s A B row hs hg hr => ⟨hs.1, cell_kept hs.2.1 hg hr, (frozen_kept hs.2.1 hg hr).trans hs.2.2⟩) _) (ownFrom_below (Nat.le_refl _) (by omega)))
    (fun c => OwnFrom.and (Own.from (fun s A B row hs hg hr => ⟨hs.1, by obtain ⟨x, h1, h2⟩ := hs.2; exact ⟨x, h1, cell_kept h2 hg hr⟩⟩) _) (ownFrom_below (Nat.le_refl _) (by omega)))
    ⟨⟨rfl, hcell, hfroz⟩, HB1.out⟩
    (fun x => { tmps := #[.slice a rs.length cap, .int .i64 t, undef, undef, .pointer (some ⟨w.heap.size, 0, none⟩), .int .i64 x, .slice a rs.length cap, .int .i64 t, .func (.func 77) #[] #[.pointer (some ⟨B + 1, 0, none⟩), .pointer (some ⟨B, 0, none⟩), .pointer (some ⟨B + 1 + 1, 0, none⟩)], .int .i64 x, undef], defers := [] }) ?assign ?body ?done ?stop
  case assign =>
    intro l x W K hK
    gi_wp2
    exact hK
  case body =>
    rintro l pre x W ⟨⟨rfl, hcr, hfr⟩, hB⟩ _
    gi_wp2
    exact ⟨KeepsOthers.setCell _ _ _, ⟨rfl, x, rfl, World.cell?_setCell_same' _ _ _ (by rw [hcr]; rfl)⟩, hB.setCell (p := ⟨w.heap.size, 0, none⟩) (Nat.le_refl _) _⟩
  case done =>
    rintro D ys W hD rfl ⟨⟨hnil, hcr, hfr⟩, hB⟩ hK
    have hn : Hid (nxt rs t = -1) := by
      show nxt rs t = -1
      rw [← srcOf_nxt]
      rw [hnil] at hxs
      exact hxs
    gi_wp2
    have hK' := (KeepsOthers.setCell W ⟨w.heap.size, 0, none⟩ (.int .i64 (-1))).same D _ hK rfl
    refine ⟨by simp, .inl ⟨_, _, rfl, run_takeDeferred hK', ?_⟩⟩
    have hc5 := cell_kept (World.cell?_setCell_same' W ⟨w.heap.size, 0, none⟩ (.int .i64 (-1)) (by rw [hcr]; rfl)) (grownBy_putObj' _ D (.deferred none)) (fun r e => by cases e; exact ⟨_, hK', rfl⟩)
    refine ⟨.int .i64 (-1), ?_, by rw [hn.out], (hB.setCell (p := ⟨w.heap.size, 0, none⟩) (Nat.le_refl _) _).trans (belowK_b (w := w) (Nat.le_refl _) _ D _ _ (by omega) hK' rfl rfl)⟩
    simp [results, Tryd.f12, go_sem, hc5]
  case stop =>
    rintro D c pre W hD hpre ⟨⟨rfl, x, rfl, hcr⟩, hB⟩ hK
    have hn : Hid (nxt rs t = x) := by
      show nxt rs t = x
      rw [← srcOf_nxt]
      obtain ⟨r, hr⟩ := hpre
      rw [← hr] at hxs
      exact hxs.1
    gi_wp2
    refine ⟨by simp, .inl ⟨_, _, rfl, run_takeDeferred hK, ?_⟩⟩
    have hc5 := cell_kept hcr (grownBy_putObj' _ D (.deferred none)) (fun r e => by cases e; exact ⟨_, hK, rfl⟩)
    refine ⟨.int .i64 x, ?_, by rw [hn.out], hB.trans (belowK_b (w := w) (Nat.le_refl _) W D _ _ (by omega) hK rfl rfl)⟩
    simp [results, Tryd.f12, go_sem, hc5]

theorem implCalNext_any (a : Option Addr) (cap : Nat) (rs : List CR) (t : Int) (w : World) (lo lb : Nat) (hl : rs.length ≤ 9223372036854775807) (hc : RulesIn w lo lb a rs) (hg : Glob w) (h64 : In64 t) :
    Calls Tryd.prog 12 #[.slice a rs.length cap, .int .i64 t] w fun e w' => e = .returned (.int .i64 (nxt rs t)) ∧ Below w.heap.size w w' := by
  obtain ⟨xs, hxs⟩ := ticks_exist (srcOf_ok rs) _ t (Nat.le_refl _)
  exact callsIn_wide.1 (implCalNext_in a cap rs t w lo lb hl hc hg h64 xs hxs)

end Go.Proofs.YtammejplaeaocaaDoor
