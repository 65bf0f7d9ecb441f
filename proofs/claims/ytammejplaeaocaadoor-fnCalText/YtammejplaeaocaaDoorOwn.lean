/-
  Rules that a call has made: a row of rules of its own, of each the ticks that are left out in a row of their own, no two of these in one block. No condition.
-/
import Derived.Test.YtammejplaeaocaaDoorReadRule
namespace Go.Proofs.YtammejplaeaocaaDoor
open Go.RowKit

theorem infoRule : (Tryd.prog.info? 66).map (fun i => (i.zero, i.size, i.bytes)) = some (some (.agg #[.int .i64 0, .int .i64 0, .int .i64 0, .int .i64 0, .slice none 0 0]), 5, 56) := by kernel_rfl

/-- A rule's five cells. -/
def five (p : CR × Value) : List Value := [.int .i64 p.1.e, .int .i64 p.1.a, .int .i64 p.1.f, .int .i64 p.1.t, p.2]
def flat : List (CR × Value) → List Value
  | [] => []
  | p :: es => five p ++ flat es
theorem flat_len : ∀ es : List (CR × Value), (flat es).length = es.length * 5
  | [] => rfl
  | p :: es => by simp [flat, five, flat_len es]; omega
theorem flat_snoc : ∀ (es : List (CR × Value)) (p : CR × Value), flat (es ++ [p]) = flat es ++ five p
  | [], p => by simp [flat]
  | q :: es, p => by simp [flat, flat_snoc es p]
theorem flat_at : ∀ (es : List (CR × Value)) (i : Nat) (p : CR × Value) (j : Nat), es[i]? = some p → j < 5 → (flat es)[i * 5 + j]? = (five p)[j]?
  | [], i, p, j, h, _ => by simp at h
  | q :: es, 0, p, j, h, hj => by
    simp only [List.getElem?_cons_zero, Option.some.injEq] at h
    subst h
    rw [flat, Nat.zero_mul, Nat.zero_add, List.getElem?_append_left (by simp [five]; exact hj)]
  | q :: es, i + 1, p, j, h, hj => by
    rw [flat, List.getElem?_append_right (by simp [five]; omega)]
    have : (i + 1) * 5 + j - (five q).length = i * 5 + j := by simp [five]; omega
    rw [this]
    exact flat_at es i p j (by simpa using h) hj

/-- Rules that a call has made, in blocks from 'lo' on. -/
structure OwnRules (W : World) (lo : Nat) (v : Value) (es : List (CR × Value)) : Prop where
  row : W.ownsRow lo 66 5 v es.length (flat es)
  buf : ∀ (i : Nat) (p : CR × Value), es[i]? = some p → W.ownsRow lo 3 1 p.2 p.1.b.length (ints p.1.b)
  apart : ∀ (i j : Nat) (p q : CR × Value), es[i]? = some p → es[j]? = some q → i < j → ∀ k, p.2.ownBlock = some k → q.2.ownBlock ≠ some k
  rng : ∀ (i : Nat) (p : CR × Value), es[i]? = some p → p.1.In ∧ ∀ x, x ∈ p.1.b → In64 x

theorem row_block {W : World} {base : Nat} {e : TypeId} {size n : Nat} {v : Value} {xs : List Value} (h : W.ownsRow base e size v n xs) {k : Nat} (hk : v.ownBlock = some k) : ∃ cur, W.heap[k]? = some (.cells cur e (0, 0)) := by
  rcases h.2 with ⟨rfl, _⟩ | ⟨g, cap, cur, rfl, _, hh, _⟩
  · simp [Value.ownBlock] at hk
  · simp [Value.ownBlock] at hk; subst hk; exact ⟨cur, hh⟩
/-- A row of rules and a row of ints lie in two blocks. -/
theorem rows_apart {W : World} {b1 b2 n1 n2 s1 s2 : Nat} {e1 e2 : TypeId} (he : e1 ≠ e2) {v u : Value} {xs ys : List Value} (h : W.ownsRow b1 e1 s1 v n1 xs) (h2 : W.ownsRow b2 e2 s2 u n2 ys) : u.ownBlock = none ∨ u.ownBlock ≠ v.ownBlock := by
  cases hu : u.ownBlock with
  | none => exact Or.inl rfl
  | some k =>
    right
    intro e
    obtain ⟨c1, h3⟩ := row_block h2 hu
    obtain ⟨c2, h4⟩ := row_block h e.symm
    rw [h3] at h4
    cases h4
    exact he rfl

theorem OwnRules.nil (W : World) (lo : Nat) : OwnRules W lo (.slice none 0 0) [] :=
  ⟨World.ownsRow_nil _ _ _ _, fun i p h => by simp at h, fun i j p q h => by simp at h, fun i p h => by simp at h⟩
theorem OwnRules.below {W W' : World} {lo : Nat} {v : Value} {es : List (CR × Value)} (h : OwnRules W lo v es) (hb : Below W.heap.size W W') : OwnRules W' lo v es :=
  ⟨own_below h.row hb, fun i p hp => own_below (h.buf i p hp) hb, h.apart, h.rng⟩
/-- One rule more. -/
theorem OwnRules.snoc {W W' : World} {lo : Nat} {v v' : Value} {es : List (CR × Value)} (h : OwnRules W lo v es) {r : CR} {b : Value} {B : Nat} (hb : W.ownsRow B 3 1 b r.b.length (ints r.b)) (hB : lo ≤ B) (hn : ∀ (i : Nat) (p : CR × Value), es[i]? = some p → ∀ k, p.2.ownBlock = some k → k < B) (hr : r.In ∧ ∀ x, x ∈ r.b → In64 x)
    (hown : W'.ownsRow lo 66 5 v' (es.length + 1) (flat es ++ five (r, b))) (hg : W.grownBy W' v.ownBlock) : OwnRules W' lo v' (es ++ [(r, b)]) := by
  have hat : ∀ (i : Nat) (p : CR × Value), (es ++ [(r, b)])[i]? = some p → (es[i]? = some p) ∨ (i = es.length ∧ p = (r, b)) := by
    intro i p hp
    by_cases hi : i < es.length
    · rw [List.getElem?_append_left hi] at hp; exact Or.inl hp
    · rw [List.getElem?_append_right (by omega)] at hp
      have : i - es.length = 0 := by
        rcases Nat.eq_zero_or_pos (i - es.length) with h0 | h0
        · exact h0
        · rw [List.getElem?_eq_none (by simp; omega)] at hp; cases hp
      rw [this] at hp
      simp at hp
      exact Or.inr ⟨by omega, hp.symm⟩
  refine ⟨by rw [flat_snoc, List.length_append]; exact hown, fun i p hp => ?_, fun i j p q hp hq hij k hk => ?_, fun i p hp => ?_⟩
  · rcases hat i p hp with h1 | ⟨_, rfl⟩
    · exact (h.buf i p h1).kept hg (rows_apart (by decide) h.row (h.buf i p h1))
    · exact (row_mono hb hB).kept hg (rows_apart (by decide) h.row hb)
  · rcases hat i p hp with h1 | ⟨h1, rfl⟩
    · rcases hat j q hq with h2 | ⟨_, rfl⟩
      · exact h.apart i j p q h1 h2 hij k hk
      · intro e
        have h3 := (hb.lt k e).1
        have h4 := hn i p h1 k hk
        omega
    · rcases hat j q hq with h2 | ⟨h2, _⟩
      · have := (List.getElem?_eq_some_iff.1 h2).1; omega
      · omega
  · rcases hat i p hp with h1 | ⟨_, rfl⟩
    · exact h.rng i p h1
    · exact hr
theorem OwnRules.lt {W : World} {lo : Nat} {v : Value} {es : List (CR × Value)} (h : OwnRules W lo v es)  : ∀ (i : Nat) (p : CR × Value), es[i]? = some p → ∀ k, p.2.ownBlock = some k → k < W.heap.size := fun i p hp k hk => ((h.buf i p hp).lt k hk).2
theorem OwnRules.shape {W : World} {lo : Nat} {v : Value} {es : List (CR × Value)} (h : OwnRules W lo v es) : ∃ a cap, v = .slice a es.length cap ∧ es.length ≤ 9223372036854775807 := by
  rcases h.row.2 with ⟨rfl, h0⟩ | ⟨g, cap, cur, hv, _, _, hn, hm, _⟩
  · exact ⟨none, 0, by rw [h0], by omega⟩
  · exact ⟨_, _, hv, by unfold maxLen at hm; omega⟩

theorem own_ints {W : World} {base : Nat} {v : Value} {l : List Int} (h : W.ownsRow base 3 1 v l.length (ints l)) (hr : ∀ x, x ∈ l → In64 x) : ∃ a c, v = .slice a l.length c ∧ IntsIn W base a l := by
  rcases h.2 with ⟨hv, h0⟩ | ⟨g, cap, cur, hv, hg, hh, hn, hm, hs, ht⟩
  · obtain rfl : l = [] := List.length_eq_zero_iff.1 h0
    exact ⟨none, 0, hv, by simp, hr, fun i hi => by simp at hi⟩
  · refine ⟨some ⟨g, 0, none⟩, cap, hv, by unfold maxLen at hm; omega, hr, fun i hi => ⟨g, 0, rfl, hg, ?_⟩⟩
    rw [hv] at h
    rw [Nat.zero_add, h.cellAt i (by omega)]
    unfold ints
    rw [List.getElem?_map, List.getElem?_eq_getElem hi]
    rfl
/-- Rules that a call has made are rules in memory. -/
theorem OwnRules.rules {W : World} {lo : Nat} {a : Option Addr} {n cap : Nat} {es : List (CR × Value)} (h : OwnRules W lo (.slice a n cap) es) : RulesIn W lo lo a (es.map Prod.fst) := by
  intro i r hi
  rw [List.getElem?_map] at hi
  cases hp : es[i]? with
  | none => rw [hp] at hi; cases hi
  | some p =>
    rw [hp] at hi
    simp only [Option.map_some, Option.some.injEq] at hi
    subst hi
    have hlt := (List.getElem?_eq_some_iff.1 hp).1
    obtain ⟨ba, bc, hb, hints⟩ := own_ints (h.buf i p hp) (h.rng i p hp).2
    rcases h.row.2 with ⟨_, h0⟩ | ⟨g, cap', cur, hv, hg, hh, _⟩
    · omega
    · have hrow := h.row
      injection hv with ha hn hc
      subst ha hn hc
      have hc5 : ∀ j, j < 5 → W.cell? ⟨g, i * 5 + j, none⟩ = (five p)[j]? := fun j hj => by
        rw [hrow.cellAt (i * 5 + j) (by omega)]; exact flat_at es i p j hp hj
      refine ⟨(h.rng i p hp).1, g, 0, ba, bc, rfl, hg, hints, ?_, ?_, ?_, ?_, ?_⟩
      · rw [Nat.zero_add]; exact hc5 0 (by omega)
      · rw [Nat.zero_add]; exact hc5 1 (by omega)
      · rw [Nat.zero_add]; exact hc5 2 (by omega)
      · rw [Nat.zero_add]; exact hc5 3 (by omega)
      · rw [Nat.zero_add]; exact (hc5 4 (by omega)).trans (by rw [← hb]; rfl)

end Go.Proofs.YtammejplaeaocaaDoor
