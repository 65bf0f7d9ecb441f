/-
  Rules that are spoilt: how a store into a rule, another list of what is left out, and one rule more change what lies in memory. No condition.
-/
import Derived.Test.YtammejplaeaocaaDoorDrawV
import Derived.Laws.OwnMore
namespace Go.Proofs.YtammejplaeaocaaDoor
open Go.RowKit

theorem own_shape {W : World} {base : Nat} {e : TypeId} {size n : Nat} {v : Value} {xs : List Value} (h : W.ownsRow base e size v n xs) : ∃ ga gc, v = .slice ga n gc := by
  rcases h.2 with ⟨hv, h0⟩ | ⟨g, cap, cur, hv, _⟩
  · exact ⟨none, 0, by rw [hv, h0]⟩
  · exact ⟨_, _, hv⟩

/-- A slice's length. -/
def slen : Value → Nat
  | .slice _ n _ => n
  | _ => 0

theorem flat_set : ∀ (es : List (CR × Value)) (k : Nat) (p p' : CR × Value) (f : Nat) (z : Value), es[k]? = some p → f < 5 → five p' = (five p).set f z → flat (es.set k p') = (flat es).set (k * 5 + f) z
  | [], k, p, p', f, z, h, _, _ => by simp at h
  | q :: es, 0, p, p', f, z, h, hf, h5 => by
    simp only [List.getElem?_cons_zero, Option.some.injEq] at h
    subst h
    rw [List.set_cons_zero, flat, flat, h5, Nat.zero_mul, Nat.zero_add, List.set_append_left _ _ (by simp [five]; exact hf)]
  | q :: es, k + 1, p, p', f, z, h, hf, h5 => by
    have ih := flat_set es k p p' f z (by simpa using h) hf h5
    rw [List.set_cons_succ, flat, flat, ih, List.set_append_right _ _ (by simp [five]; omega)]
    have : (k + 1) * 5 + f - (five q).length = k * 5 + f := by simp [five]; omega
    rw [this]

/-- One of a list's ints. -/
def nth (l : List Int) (j : Nat) : Int := l[j]?.getD 0
theorem nth_in {l : List Int} {j : Nat} (hj : j < l.length) (h : ∀ x, x ∈ l → In64 x) : In64 (nth l j) := by
  unfold nth
  rw [List.getElem?_eq_getElem hj]
  exact h _ (List.getElem_mem hj)
theorem nth_block {W : World} {b j : Nat} {l : List Int} (h : W.heap[b]? = some (.cells (l.map (Value.int .i64)).toArray 3 (0, 0))) (hj : j < l.length) : W.cell? ⟨b, j, none⟩ = some (.int .i64 (nth l j)) := by
  have := blk_cell h j
  rw [this]
  unfold nth
  simp [List.getElem?_eq_getElem hj]
theorem nth_new (W : World) (l : List Int) {j : Nat} (hj : j < l.length) : (W.alloc (.cells (l.map (Value.int .i64)).toArray 3)).cell? ⟨W.heap.size, j, none⟩ = some (.int .i64 (nth l j)) := nth_block (heap_alloc_new W _) hj
theorem nth_kept {W W' : World} {R : Nat} (l : List Int) {j : Nat} (hg : (W.alloc (.cells (l.map (Value.int .i64)).toArray 3)).grownBy W' (some R)) (hR : R < W.heap.size) (hj : j < l.length) : W'.cell? ⟨W.heap.size, j, none⟩ = some (.int .i64 (nth l j)) :=
  nth_block ((hg.block W.heap.size (by rw [World.size_alloc]; omega) (fun e => by injection e with e; omega)).trans (heap_alloc_new W _)) hj
theorem nth_get (l : List Int) {j : Nat} (h : j < (l.map (Value.int .i64)).length) : (l.map (Value.int .i64))[j]'h = .int .i64 (nth l j) := by
  unfold nth
  rw [List.length_map] at h
  simp [List.getElem?_eq_getElem h]
theorem new_second (W : World) (o o' : Obj) : ((W.alloc o).alloc o').heap[W.heap.size + 1]? = some o' := by
  have := heap_alloc_new (W.alloc o) o'
  rwa [World.size_alloc] at this
theorem grown_like {A A' B : World} {row : Option Nat} (h : A'.grownBy B row) (h1 : A'.heap = A.heap) (h2 : A'.os = A.os) (h3 : A'.tape = A.tape) (h4 : A'.output = A.output) : A.grownBy B row :=
  ⟨h.os.trans h2, h.tape.trans h3, h.output.trans h4, by have := h.size; rw [h1] at this; exact this, fun k hk hr => by rw [← h1]; exact h.block k (by rw [h1]; exact hk) hr⟩

/-- Rules that a call has made; what is left out of two of them may lie in one row. -/
structure SQ (W w : World) (R P : Nat) (v : Value) (es : List (CR × Value)) : Prop where
  row : W.ownsRow w.heap.size 66 5 v es.length (flat es)
  buf : ∀ (i : Nat) (p : CR × Value), es[i]? = some p → W.ownsRow w.heap.size 3 1 p.2 p.1.b.length (ints p.1.b)
  rng : ∀ (i : Nat) (p : CR × Value), es[i]? = some p → p.1.In ∧ ∀ x, x ∈ p.1.b → In64 x
  rd : Rd W R P
  fr : w.grownBy W (some R)
  lt : R < w.heap.size
/-- Rules that a call has made, no two of their rows in one block. -/
structure SP (W w : World) (R P : Nat) (v : Value) (es : List (CR × Value)) : Prop where
  own : OwnRules W w.heap.size v es
  rd : Rd W R P
  fr : w.grownBy W (some R)
  lt : R < w.heap.size

section
variable {W W' w : World} {R P P' : Nat} {v : Value} {es : List (CR × Value)}

theorem SP.sq (h : SP W w R P v es) : SQ W w R P v es := ⟨h.own.row, h.own.buf, h.own.rng, h.rd, h.fr, h.lt⟩
theorem SP.pick (h : SP W w R P v es) (hr : Rd W' R P') (hg : W.grownBy W' (some R)) : SP W' w R P' v es := ⟨h.own.drawn hg h.lt, hr, grown_trans h.fr hg, h.lt⟩
theorem SP.alloc (h : SP W w R P v es) (o : Obj) : SP (W.alloc o) w R P v es :=
  ⟨h.own.below ((Below.refl _ _).alloc (Nat.le_refl _) _), h.rd.below ((Below.refl _ _).alloc (Nat.le_refl _) _), grown_trans h.fr (World.grownBy_alloc _ _ _), h.lt⟩
theorem SP.mono (h : SP W w R P v es) (hP : P ≤ P') : SP W w R P' v es := ⟨h.own, h.rd.mono hP, h.fr, h.lt⟩
theorem SP.drew (h : SP W w R P v es) : SP W.drew w R P v es := by
  have hg : W.grownBy W.drew (some R) := ⟨rfl, rfl, rfl, Nat.le_refl _, fun _ _ _ => rfl⟩
  exact ⟨h.own.drawn hg h.lt, h.rd, grown_trans h.fr hg, h.lt⟩
theorem far_row {e : TypeId} {size n lo : Nat} {u : Value} {xs : List Value} (hu : W.ownsRow lo e size u n xs) (hR : R < lo) : u.ownBlock = none ∨ u.ownBlock ≠ some R := by
  cases hb : u.ownBlock with
  | none => exact Or.inl rfl
  | some b => exact Or.inr (fun e => by injection e with e; have := (hu.lt b hb).1; omega)
theorem SQ.pick (h : SQ W w R P v es) (hr : Rd W' R P') (hg : W.grownBy W' (some R)) : SQ W' w R P' v es :=
  ⟨h.row.kept hg (far_row h.row h.lt), fun i p hp => (h.buf i p hp).kept hg (far_row (h.buf i p hp) h.lt), h.rng, hr, grown_trans h.fr hg, h.lt⟩
theorem SQ.alloc (h : SQ W w R P v es) (o : Obj) : SQ (W.alloc o) w R P v es :=
  ⟨h.row.alloc o, fun i p hp => (h.buf i p hp).alloc o, h.rng, h.rd.below ((Below.refl _ _).alloc (Nat.le_refl _) _), grown_trans h.fr (World.grownBy_alloc _ _ _), h.lt⟩
theorem SQ.mono (h : SQ W w R P v es) (hP : P ≤ P') : SQ W w R P' v es := ⟨h.row, h.buf, h.rng, h.rd.mono hP, h.fr, h.lt⟩

/-- A rule's cells. -/
theorem SQ.five {n cap : Nat} {a : Option Addr} (h : SQ W w R P (.slice a n cap) es) {i : Nat} {p : CR × Value} (hp : es[i]? = some p) : ∃ g, a = some ⟨g, 0, none⟩ ∧ w.heap.size ≤ g ∧ g < W.heap.size ∧ (∀ j, j < 5 → W.cell? ⟨g, i * 5 + j, none⟩ = (Go.Proofs.YtammejplaeaocaaDoor.five p)[j]?) ∧ ∀ j, W.frozen? ⟨g, j, none⟩ = false := by
  have hlt := (List.getElem?_eq_some_iff.1 hp).1
  rcases h.row.2 with ⟨_, h0⟩ | ⟨g, cap', cur, hv, hg, hh, _⟩
  · omega
  · have hrow := h.row
    injection hv with ha hn hc
    subst ha hn hc
    exact ⟨g, rfl, hg, (Array.getElem?_eq_some_iff.1 hh).1, fun j hj => by rw [hrow.cellAt (i * 5 + j) (by omega)]; exact flat_at es i p j hp hj, fun j => hrow.frozenAt j⟩
/-- The rules in memory. -/
theorem SQ.rules {a : Option Addr} {n cap : Nat} (h : SQ W w R P (.slice a n cap) es) : RulesIn W w.heap.size w.heap.size a (es.map Prod.fst) := by
  intro i r hi
  rw [List.getElem?_map] at hi
  cases hp : es[i]? with
  | none => rw [hp] at hi; cases hi
  | some p =>
    rw [hp] at hi
    simp only [Option.map_some, Option.some.injEq] at hi
    subst hi
    obtain ⟨ba, bc, hb, hints⟩ := own_ints (h.buf i p hp) (h.rng i p hp).2
    obtain ⟨g, rfl, hg, _, hc5, _⟩ := h.five hp
    refine ⟨(h.rng i p hp).1, g, 0, ba, bc, rfl, hg, hints, ?_, ?_, ?_, ?_, ?_⟩
    · rw [Nat.zero_add]; exact hc5 0 (by omega)
    · rw [Nat.zero_add]; exact hc5 1 (by omega)
    · rw [Nat.zero_add]; exact hc5 2 (by omega)
    · rw [Nat.zero_add]; exact hc5 3 (by omega)
    · rw [Nat.zero_add]; exact (hc5 4 (by omega)).trans (by rw [← hb]; rfl)
theorem SQ.answer (h : SQ W w R (P + 20) v es) (h5 : es.length ≤ 5) : RulesA 20 R P w (.returned v) W := by
  obtain ⟨a, cap, rfl⟩ := own_shape h.row
  exact ⟨es.map Prod.fst, a, cap, by rw [List.length_map], by rw [List.length_map]; exact h5, h.rules, h.rd, h.fr⟩

theorem set_grown (W : World) (g j : Nat) (u : Value) : W.grownBy (W.setCell ⟨g, j, none⟩ u) (some g) :=
  ⟨rfl, rfl, rfl, by simp [World.setCell], fun k _ hk => Below.heap_setCell W ⟨g, j, none⟩ u k (fun e => hk (by rw [e]))⟩

/-- A cell of one rule is set, in a world where that rule's list may be another already. -/
theorem put_rows {g cap k f : Nat} {lo : Nat} {p p' : CR × Value} {z : Value} (hrow : W.ownsRow lo 66 5 (.slice (some ⟨g, 0, none⟩) es.length cap) es.length (flat es)) (hbuf : ∀ (i : Nat) (q : CR × Value), i ≠ k → es[i]? = some q → W.ownsRow lo 3 1 q.2 q.1.b.length (ints q.1.b))
    (hap : ∀ (i j : Nat) (q q' : CR × Value), es[i]? = some q → es[j]? = some q' → i < j → ∀ m, q.2.ownBlock = some m → q'.2.ownBlock ≠ some m) (hrng : ∀ (i : Nat) (q : CR × Value), es[i]? = some q → q.1.In ∧ ∀ x, x ∈ q.1.b → In64 x)
    (hp : es[k]? = some p) (hf : f < 5) (h5 : five p' = (five p).set f z) (hb : W.ownsRow lo 3 1 p'.2 p'.1.b.length (ints p'.1.b)) (ha : ∀ (j : Nat) (q : CR × Value), j ≠ k → es[j]? = some q → ∀ m, p'.2.ownBlock = some m → q.2.ownBlock ≠ some m) (hr : p'.1.In ∧ ∀ x, x ∈ p'.1.b → In64 x) :
    OwnRules (W.setCell ⟨g, k * 5 + f, none⟩ z) lo (.slice (some ⟨g, 0, none⟩) es.length cap) (es.set k p') := by
  have hlt := (List.getElem?_eq_some_iff.1 hp).1
  have hg := set_grown W g (k * 5 + f) z
  have hat : ∀ (i : Nat) (q : CR × Value), (es.set k p')[i]? = some q → (i = k ∧ q = p') ∨ (i ≠ k ∧ es[i]? = some q) := by
    intro i q hq
    rw [List.getElem?_set] at hq
    by_cases hik : k = i
    · rw [if_pos hik, if_pos hlt] at hq
      exact Or.inl ⟨hik.symm, (Option.some.inj hq).symm⟩
    · rw [if_neg hik] at hq
      exact Or.inr ⟨fun e => hik e.symm, hq⟩
  have keep : ∀ {n : Nat} {u : Value} {xs : List Value}, W.ownsRow lo 3 1 u n xs → (W.setCell ⟨g, k * 5 + f, none⟩ z).ownsRow lo 3 1 u n xs := fun hu => hu.kept hg (rows_apart (by decide) hrow hu)
  refine ⟨?_, fun i q hq => ?_, fun i j q q' hq hq' hij m hm => ?_, fun i q hq => ?_⟩
  · rw [List.length_set, flat_set es k p p' f z hp hf h5]
    exact (hrow.stored (k * 5 + f) z).1
  · rcases hat i q hq with ⟨_, rfl⟩ | ⟨h1, h2⟩
    · exact keep hb
    · exact keep (hbuf i q h1 h2)
  · rcases hat i q hq with ⟨h1, h1'⟩ | ⟨h1, h2⟩
    · rcases hat j q' hq' with ⟨h3, _⟩ | ⟨h3, h4⟩
      · omega
      · subst h1'; exact ha j q' h3 h4 m hm
    · rcases hat j q' hq' with ⟨h3, h3'⟩ | ⟨h3, h4⟩
      · subst h3'; exact fun e => ha i q h1 h2 m e hm
      · exact hap i j q q' h2 h4 hij m hm
  · rcases hat i q hq with ⟨_, rfl⟩ | ⟨h1, h2⟩
    · exact hr
    · exact hrng i q h2
theorem apart_two (h : OwnRules W w.heap.size v es) {j k : Nat} {p q : CR × Value} (hp : es[k]? = some p) (hq : es[j]? = some q) (hjk : j ≠ k) {m : Nat} (hm : p.2.ownBlock = some m) : q.2.ownBlock ≠ some m := by
  rcases Nat.lt_or_ge j k with h1 | h1
  · exact fun e => h.apart j k q p hq hp h1 m e hm
  · exact h.apart k j p q hp hq (by omega) m hm
/-- A number of one rule is set. -/
theorem SP.put {g cap k f : Nat} {r r' : CR} {bv : Value} {z : Value} (h : SP W w R P (.slice (some ⟨g, 0, none⟩) es.length cap) es) (hp : es[k]? = some (r, bv)) (hf : f < 5) (hg : w.heap.size ≤ g) (h5 : Go.Proofs.YtammejplaeaocaaDoor.five (r', bv) = (Go.Proofs.YtammejplaeaocaaDoor.five (r, bv)).set f z) (hb : r'.b = r.b) (hr : r'.In) :
    SP (W.setCell ⟨g, k * 5 + f, none⟩ z) w R P (.slice (some ⟨g, 0, none⟩) (es.set k (r', bv)).length cap) (es.set k (r', bv)) := by
  have hs := set_grown W g (k * 5 + f) z
  have hR := h.lt
  refine ⟨?_, h.rd.grown hs (fun k e => by cases e; omega), grown_behind h.fr hs (fun k e => by cases e; exact hg), h.lt⟩
  rw [List.length_set]
  exact put_rows h.own.row (fun i q _ hq => h.own.buf i q hq) h.own.apart h.own.rng hp hf h5 (by show W.ownsRow _ _ _ bv r'.b.length (ints r'.b); rw [hb]; exact h.own.buf k _ hp) (fun j q hj hq m hm => apart_two h.own hp hq hj hm) ⟨hr, by show ∀ x, x ∈ r'.b → _; rw [hb]; exact (h.own.rng k _ hp).2⟩
/-- One rule's list is another: appended to in W', laid by. -/
theorem SP.but {g cap k g' c' n : Nat} {r : CR} {bv : Value} {l : List Int} (h : SP W w R P (.slice (some ⟨g, 0, none⟩) es.length cap) es) (hp : es[k]? = some (r, bv)) (hg : w.heap.size ≤ g) (hown : W'.ownsRow w.heap.size 3 1 (.slice (some ⟨g', 0, none⟩) n c') l.length (ints l)) (hgr : W.grownBy W' bv.ownBlock) (hat : bv.ownBlock = some g' ∨ g' = W.heap.size) (hl : ∀ x, x ∈ l → In64 x) :
    SP (W'.setCell ⟨g, k * 5 + 4, none⟩ (.slice (some ⟨g', 0, none⟩) n c')) w R P (.slice (some ⟨g, 0, none⟩) (es.set k (⟨r.e, r.a, r.f, r.t, l⟩, .slice (some ⟨g', 0, none⟩) n c')).length cap) (es.set k (⟨r.e, r.a, r.f, r.t, l⟩, .slice (some ⟨g', 0, none⟩) n c')) := by
  have hR := h.lt
  have hs := set_grown W' g (k * 5 + 4) (.slice (some ⟨g', 0, none⟩) n c')
  have hbv : ∀ m, bv.ownBlock = some m → w.heap.size ≤ m := fun m hm => ((h.own.buf k _ hp).lt m hm).1
  have hrd : Rd W' R P := h.rd.grown hgr (fun m e => by have := hbv m e; omega)
  refine ⟨?_, hrd.grown hs (fun k e => by cases e; omega), grown_behind (grown_behind h.fr hgr hbv) hs (fun k e => by cases e; exact hg), h.lt⟩
  rw [List.length_set]
  refine put_rows (p := (r, bv)) (h.own.row.kept hgr (rows_apart (by decide) (h.own.buf k _ hp) h.own.row)) (fun i q hi hq => (h.own.buf i q hq).kept hgr ?_) h.own.apart h.own.rng hp (by omega) rfl hown (fun j q hj hq m hm => ?_) ⟨(h.own.rng k _ hp).1, hl⟩
  · cases hb : bv.ownBlock with
    | none =>
      cases hq2 : q.2.ownBlock with
      | none => exact Or.inl rfl
      | some m => exact Or.inr (by simp)
    | some m => exact Or.inr (apart_two h.own hp hq hi hb)
  · have hm' : g' = m := by simpa [Value.ownBlock] using hm
    subst hm'
    rcases hat with h1 | h1
    · exact apart_two h.own hp hq hj h1
    · intro e
      have := h.own.lt j q hq _ e
      omega
/-- Where one rule's list was appended to, the rules' own row is as it was. -/
theorem SP.row_far {g cap k : Nat} {r : CR} {bv : Value} (h : SP W w R P (.slice (some ⟨g, 0, none⟩) es.length cap) es) (hp : es[k]? = some (r, bv)) (hgr : W.grownBy W' bv.ownBlock) : W'.cell? ⟨g, k * 5 + 4, none⟩ = some bv ∧ W'.frozen? ⟨g, k * 5 + 4, none⟩ = false := by
  have hlt := (List.getElem?_eq_some_iff.1 hp).1
  have hrow := h.own.row.kept hgr (rows_apart (by decide) (h.own.buf k _ hp) h.own.row)
  exact ⟨by rw [hrow.cellAt (k * 5 + 4) (by omega)]; exact flat_at es k _ 4 hp (by omega), hrow.frozenAt _⟩
/-- One rule's list is one longer. -/
theorem SP.more {g cap k g' c' : Nat} {r : CR} {bv : Value} {x : Int} (h : SP W w R P (.slice (some ⟨g, 0, none⟩) es.length cap) es) (hp : es[k]? = some (r, bv)) (hg : w.heap.size ≤ g) (hown : W'.ownsRow w.heap.size 3 1 (.slice (some ⟨g', 0, none⟩) (r.b.length + 1) c') (r.b.length + 1) (ints r.b ++ [Value.int .i64 x])) (hgr : W.grownBy W' bv.ownBlock) (hat : bv.ownBlock = some g' ∨ g' = W.heap.size) (hx : In64 x) :
    SP (W'.setCell ⟨g, k * 5 + 4, none⟩ (.slice (some ⟨g', 0, none⟩) (r.b.length + 1) c')) w R P (.slice (some ⟨g, 0, none⟩) es.length cap) (es.set k (⟨r.e, r.a, r.f, r.t, r.b ++ [x]⟩, .slice (some ⟨g', 0, none⟩) (r.b.length + 1) c')) := by
  rw [← ints_snoc] at hown
  have := h.but (l := r.b ++ [x]) hp hg (by rw [List.length_append]; exact hown) hgr hat (fun y hy => by
    rcases List.mem_append.1 hy with h1 | h1
    · exact (h.own.rng k _ hp).2 y h1
    · simp only [List.mem_singleton] at h1; rw [h1]; exact hx)
  rwa [List.length_set] at this
/-- One rule more, one of those that are there. -/
theorem SQ.snoc {v' : Value} {r : CR} {bv : Value} {k : Nat} (h : SQ W w R P v es) (hp : es[k]? = some (r, bv)) (hown : W'.ownsRow w.heap.size 66 5 v' (es.length + 1) (flat es ++ Go.Proofs.YtammejplaeaocaaDoor.five (r, bv))) (hg : W.grownBy W' v.ownBlock) : SQ W' w R P v' (es ++ [(r, bv)]) := by
  have hR := h.lt
  have hvb : ∀ m, v.ownBlock = some m → w.heap.size ≤ m := fun m hm => (h.row.lt m hm).1
  have hat : ∀ (i : Nat) (q : CR × Value), (es ++ [(r, bv)])[i]? = some q → ∃ j : Nat, es[j]? = some q := by
    intro i q hq
    have := List.mem_of_getElem? hq
    rcases List.mem_append.1 this with h1 | h1
    · exact List.getElem?_of_mem h1
    · simp only [List.mem_singleton] at h1
      exact ⟨k, by rw [h1]; exact hp⟩
  refine ⟨by rw [flat_snoc, List.length_append]; exact hown, fun i q hq => ?_, fun i q hq => ?_, h.rd.grown hg (fun m e => by have := hvb m e; omega), grown_behind h.fr hg hvb, h.lt⟩
  · obtain ⟨j, hj⟩ := hat i q hq
    exact (h.buf j q hj).kept hg (rows_apart (by decide) h.row (h.buf j q hj))
  · obtain ⟨j, hj⟩ := hat i q hq
    exact h.rng j q hj
/-- What is there behind the spoiling. -/
def Done (w : World) (R P : Nat) (v : Value) (wx : World) : Prop := ∃ (es : List (CR × Value)) (va : Option Addr) (vc : Nat), v = .slice va es.length vc ∧ es.length ≤ 5 ∧ SQ wx w R (P + 20) (.slice va es.length vc) es
theorem Done.answer (h : Done w R P v W) : RulesA 20 R P w (.returned v) W := by
  obtain ⟨es, va, vc, rfl, h5, hq⟩ := h
  exact hq.answer h5
theorem SQ.done {Q : Nat} (h : SQ W w R Q v es) (h5 : es.length ≤ 5) (hQ : Q ≤ P + 20) : Done w R P v W := by
  obtain ⟨a, cap, rfl⟩ := own_shape h.row
  exact ⟨es, a, cap, rfl, h5, h.mono hQ⟩
theorem Done.alloc (h : Done w R P v W) (o : Obj) : Done w R P v (W.alloc o) := by
  obtain ⟨es, va, vc, rfl, h5, hq⟩ := h
  exact ⟨es, va, vc, rfl, h5, hq.alloc o⟩
theorem SP.number {g cap k f off Q : Nat} {r : CR} {bv : Value} {z : Int} (h : SP W w R Q (.slice (some ⟨g, 0, none⟩) es.length cap) es) (hp : es[k]? = some (r, bv)) (h3 : es.length ≤ 3) (hQ : Q ≤ P + 20) (hg : w.heap.size ≤ g) (hf : f < 4) (ho : k * 5 + f = off) (hz : In64 z) :
    Done w R P (.slice (some ⟨g, 0, none⟩) es.length cap) (W.setCell ⟨g, off, none⟩ (.int .i64 z)) := by
  obtain ⟨i1, i2, i3, i4⟩ := (h.own.rng k _ hp).1
  have key : ∀ r' : CR, Go.Proofs.YtammejplaeaocaaDoor.five (r', bv) = (Go.Proofs.YtammejplaeaocaaDoor.five (r, bv)).set f (.int .i64 z) → r'.b = r.b → r'.In → Done w R P (.slice (some ⟨g, 0, none⟩) es.length cap) (W.setCell ⟨g, off, none⟩ (.int .i64 z)) := by
    intro r' h5 hb hr
    have := (h.put hp (by omega) hg h5 hb hr).sq
    rw [ho, List.length_set] at this
    exact this.done (by rw [List.length_set]; omega) hQ
  match f, hf with
  | 0, _ => exact key ⟨z, r.a, r.f, r.t, r.b⟩ rfl rfl ⟨hz, i2, i3, i4⟩
  | 1, _ => exact key ⟨r.e, z, r.f, r.t, r.b⟩ rfl rfl ⟨i1, hz, i3, i4⟩
  | 2, _ => exact key ⟨r.e, r.a, z, r.t, r.b⟩ rfl rfl ⟨i1, i2, hz, i4⟩
  | 3, _ => exact key ⟨r.e, r.a, r.f, z, r.b⟩ rfl rfl ⟨i1, i2, i3, hz⟩
  | n + 4, h => omega
end

end Go.Proofs.YtammejplaeaocaaDoor
