/-
  The program's CalCount answers how many ticks there are, as plain data. Condition: the package-level variables that CalOk comes to hold what the program's text lays.
-/
import Derived.Test.YtnclfhkgpcfngaaDoorCount
namespace Go.Proofs.YtnclfhkgpcfngaaDoor
open Go.RowKit Go.Shelf

attribute [local go_sem] Oper.semAt_some

theorem upTo_all {xs : List Int} {to : Int} (h : ∀ x, x ∈ xs → x ≤ to) : upTo xs to = xs.length := by
  induction xs with
  | nil => rfl
  | cons x xs ih => rw [upTo_le (h x (by simp)), ih (fun y hy => h y (by simp [hy]))]; simp
theorem upTo_pre {pre : List Int} {x : Int} {rest : List Int} {to : Int} (h : ∀ y, y ∈ pre → y ≤ to) (hx : ¬ x ≤ to) : upTo (pre ++ x :: rest) to = pre.length := by
  induction pre with
  | nil => exact upTo_gt hx
  | cons y pre ih => rw [List.cons_append, upTo_le (h y (by simp)), ih (fun z hz => h z (by simp [hz]))]; simp

set_option maxRecDepth 100000 in
set_option maxHeartbeats 2000000 in
theorem implCalCount_in (a : Option Addr) (cap : Nat) (rs : List CR) (t to : Int) (w : World) (lo lb : Nat) (hl : rs.length ≤ 9223372036854775807) (hc : RulesIn w lo lb a rs) (hg : Glob w) (h64 : In64 t) (xs : List Int) (hxs : Ticks (srcOf rs) t xs) :
    CallsIn Fence.wide 6 Tryd.prog 17 #[.slice a rs.length cap, .int .i64 t, .int .i64 to] w fun e w' => e = .returned (.int .i64 (upTo xs to)) ∧ Below w.heap.size w w' := by
  have hlen := (ticks_len (srcOf_ok rs) xs t hxs).1
  have hb0 : Below w.heap.size w ((w.alloc (.cells #[.int .i64 to] 3)).alloc (.cells #[.int .i64 0] 3)) := ((Below.refl _ _).alloc (Nat.le_refl _) _).alloc (by simp) _
  have hc0 := hc.below hb0 (Nat.le_refl _)
  have hg0 := hg.below hb0 (Nat.le_refl _)
  refine callsIn_of_wp_marks Tryd.func17 rfl trivial ?_ rfl
  simp only [Tryd.ntmps17, List.size_toArray, List.length_cons, List.length_nil, Nat.reduceAdd, Nat.reduceSub, Array.replicate_succ, Array.replicate_zero, List.push_toArray, List.append_toArray, List.nil_append, List.cons_append]
  gi_wp2_with fail
  refine ⟨trivial, ?_⟩
  refine (callsIn_wide.2 (dueAbove_any a cap rs t _ lo lb hl hc0 hg0)).mono ?_
  rintro e w1 ⟨B, a', cap', hBz, rfl, hbx, hrl, hb1⟩
  have hcB : w.heap.size + 1 < B := by simp at hBz; omega
  have HB1 : Hid (Below w.heap.size w w1) := hb0.trans (hb1.mono (by simp; omega))
  have hK := keeps_of (w0 := w1) hc HB1.out (Nat.le_succ _) hcB hbx hrl rfl
  have hto : w1.cell? ⟨w.heap.size, 0, none⟩ = some (.int .i64 to) := (hb1.cell (p := ⟨w.heap.size, 0, none⟩) (by simp; omega)).trans (by rw [World.cell?_alloc_lt _ _ _ (by simp)]; exact (cell_new w _ _).1)
  have hcell : w1.cell? ⟨w.heap.size + 1, 0, none⟩ = some (.int .i64 0) := (hb1.cell (p := ⟨w.heap.size + 1, 0, none⟩) (by simp)).trans (by simp)
  have hfroz : w1.frozen? ⟨w.heap.size + 1, 0, none⟩ = false := (hb1.frozen (p := ⟨w.heap.size + 1, 0, none⟩) (by simp)).trans (by simp)
  have hsz1 : w.heap.size + 1 < w1.heap.size := by have := hb1.size; simp at this; omega
  clear hc0 hg0 hg hb0 hbx hb1
  gi_wp2
  refine wpIn_rangeFunc_ownF rfl (by omega) (gf := 74) (lb := #[.pointer (some ⟨B + 1, 0, none⟩), .pointer (some ⟨B, 0, none⟩), .pointer (some ⟨B + 1 + 1, 0, none⟩)]) rfl trivial (enters_of Tryd.func74 (by kernel_rfl) rfl)
    (iter_stops 5 (by omega) B lo lb a' cap' (srcOf rs) t xs hxs (srcOf_len rs) (srcOf_ok rs) h64 (BelowBut (w.heap.size + 1) w1.heap.size) w1 hK) (fun h k => h.trans k) (belowBut_b (Nat.le_refl _)) (Below.refl _ _) (fun _ => rfl)
    (fun pre W => ((∀ y, y ∈ pre → y ≤ to) ∧ W.cell? ⟨w.heap.size, 0, none⟩ = some (.int .i64 to) ∧ W.cell? ⟨w.heap.size + 1, 0, none⟩ = some (.int .i64 pre.length) ∧ W.frozen? ⟨w.heap.size + 1, 0, none⟩ = false) ∧ Below w.heap.size w W)
    (fun c pre W => (c = .exit 0 ∧ ∃ pre0 x, pre = pre0 ++ [x] ∧ (∀ y, y ∈ pre0 → y ≤ to) ∧ ¬ x ≤ to ∧ W.cell? ⟨w.heap.size + 1, 0, none⟩ = some (.int .i64 pre0.length)) ∧ Below w.heap.size w W)
    (OwnFrom.and (Own.from (fun s A B row hs hg hr => ⟨hs.1, cell_kept hs.2.1 hg hr, cell_kept hs.2.2.1 hg hr, (frozen_kept hs.2.2.1 hg hr).trans hs.2.2.2⟩) _) (ownFrom_below (Nat.le_refl _) (by omega)))
    (fun c => OwnFrom.and (Own.from (fun s A B row hs hg hr => ⟨hs.1, by obtain ⟨pre0, x, h1, h2, h3, h4⟩ := hs.2; exact ⟨pre0, x, h1, h2, h3, cell_kept h4 hg hr⟩⟩) _) (ownFrom_below (Nat.le_refl _) (by omega)))
    ⟨⟨by simp, hto, hcell, hfroz⟩, HB1.out⟩
    (fun x => { tmps := #[.slice a rs.length cap, .int .i64 t, .int .i64 to, undef, undef, .pointer (some ⟨w.heap.size, 0, none⟩), .int .i64 0, .pointer (some ⟨w.heap.size + 1, 0, none⟩), .int .i64 x, .slice a rs.length cap, .int .i64 t, .func (.func 74) #[] #[.pointer (some ⟨B + 1, 0, none⟩), .pointer (some ⟨B, 0, none⟩), .pointer (some ⟨B + 1 + 1, 0, none⟩)], .int .i64 x, undef, undef, undef, undef, undef, undef], defers := [] }) ?assign ?body ?done ?stop
  case assign =>
    intro l x W K hK
    gi_wp2
    exact hK
  case body =>
    rintro l pre x W ⟨⟨hall, hct, hcr, hfr⟩, hB⟩ hlt
    have HALL : Hid (∀ y, y ∈ pre → y ≤ to) := hall
    obtain ⟨m, hm⟩ : ∃ m : Nat, m = pre.length := ⟨_, rfl⟩
    rw [← hm] at hcr
    have hpl : m < 100001 := by omega
    have HM : Hid (m = pre.length) := hm
    clear hall hlt hlen hm hxs hK hcell hfroz hto
    by_cases hx : x ≤ to
    · gi_wp2
      refine ⟨KeepsOthers.setCell _ _ _, BelowBut.setCell _ _ _, ⟨?_, ?_, ?_, ?_⟩, hB.setCell (p := ⟨w.heap.size + 1, 0, none⟩) (by simp) _⟩
      · intro y hy
        rcases List.mem_append.1 hy with h | h
        · exact HALL.out y h
        · simp at h; subst h; exact hx
      · rw [cell_setCell_other _ (by simp)]; exact hct
      · rw [cell_setCell_same _ ⟨_, hcr⟩]; have := HM.out; simp; omega
      · rw [World.frozen?_setCell]; exact hfr
    · gi_wp2
      exact ⟨KeepsOthers.refl _, ⟨rfl, pre, x, rfl, HALL.out, by omega, by rw [← HM.out]; exact hcr⟩, hB⟩
  case done =>
    rintro D ys W hD rfl ⟨⟨hall, _, hcr, hfr⟩, hB⟩ hK
    have hn : Hid (upTo ys to = ys.length) := upTo_all hall
    clear hall
    gi_wp2
    refine ⟨by simp, .inl ⟨_, _, rfl, run_takeDeferred hK, ?_⟩⟩
    exact ⟨.int .i64 ys.length, by simp [results, Tryd.f17, go_sem], by rw [hn.out], hB.trans (belowK_b (w := w) (Nat.le_refl _) W D _ _ (by omega) hK rfl rfl)⟩
  case stop =>
    rintro D c pre W hD hpre ⟨⟨rfl, pre0, x, rfl, hall, hx, hcr⟩, hB⟩ hK
    have hn : Hid (upTo xs to = pre0.length) := by
      obtain ⟨r, hr⟩ := hpre
      show _ = _
      rw [← hr, List.append_assoc, List.singleton_append, upTo_pre hall hx]
    clear hall hx
    gi_wp2
    refine ⟨by simp, .inl ⟨_, _, rfl, run_takeDeferred hK, ?_⟩⟩
    exact ⟨.int .i64 pre0.length, by simp [results, Tryd.f17, go_sem], by rw [hn.out], hB.trans (belowK_b (w := w) (Nat.le_refl _) W D _ _ (by omega) hK rfl rfl)⟩

/-- How many ticks there are above one and not above another. -/
theorem count_both (rs : List CR) (t : Int) : ∃ xs, Ticks (srcOf rs) t xs := ticks_exist (srcOf_ok rs) _ t (Nat.le_refl _)

theorem implCalCount_any (a : Option Addr) (cap : Nat) (rs : List CR) (t to : Int) (w : World) (lo lb : Nat) (hl : rs.length ≤ 9223372036854775807) (hc : RulesIn w lo lb a rs) (hg : Glob w) (h64 : In64 t) (xs : List Int) (hxs : Ticks (srcOf rs) t xs) :
    Calls Tryd.prog 17 #[.slice a rs.length cap, .int .i64 t, .int .i64 to] w fun e w' => e = .returned (.int .i64 (upTo xs to)) ∧ Below w.heap.size w w' :=
  callsIn_wide.1 (implCalCount_in a cap rs t to w lo lb hl hc hg h64 xs hxs)

end Go.Proofs.YtnclfhkgpcfngaaDoor
