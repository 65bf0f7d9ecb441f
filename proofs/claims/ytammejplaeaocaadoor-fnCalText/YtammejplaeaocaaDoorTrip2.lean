/-
  The text that CalWrite writes, as plain data. No condition.
-/
import Derived.Test.YtammejplaeaocaaDoorTrip
import Derived.Test.YtammejplaeaocaaDoorText2
import Derived.Laws.Concat
namespace Go.Proofs.YtammejplaeaocaaDoor

theorem bs_app (l k : List UInt8) : bs l ++ bs k = bs (l ++ k) := by
  exact ByteArray.mk_append_mk l k
theorem headS_bs (r : CR) : headS decS r = bs (joinL 32 [wEvery, dg r.e, wAt, dg r.a, wFrom, dg r.f, wTo, dg r.t]) := by
  have e : headS decS r = bs [101, 118, 101, 114, 121, 32] ++ bs (dg r.e) ++ bs [32, 97, 116, 32] ++ bs (dg r.a) ++ bs [32, 102, 114, 111, 109, 32] ++ bs (dg r.f) ++ bs [32, 116, 111, 32] ++ bs (dg r.t) := rfl
  rw [e]
  simp only [bs_app, joinL]
  congr 1
  simp
theorem butS_bs : ∀ (l : List Int) (o : List UInt8), butS decS (bs o) l = bs (o ++ l.flatMap (fun x => 32 :: dg x))
  | [], o => by simp [butS]
  | x :: l, o => by
    have e : butS decS (bs o) (x :: l) = butS decS (bs o ++ bs [32] ++ bs (dg x)) l := rfl
    rw [e, bs_app, bs_app, butS_bs l]
    simp
theorem lineS_bs (r : CR) : lineS decS r = bs (lineL r) := by
  unfold lineS lineL
  have hw : wordsOf r = [wEvery, dg r.e, wAt, dg r.a, wFrom, dg r.f, wTo, dg r.t] ++ tailW r.b := rfl
  rw [hw, join_app 32 _ _ (by simp), headS_bs]
  cases r.b with
  | nil =>
    show butS decS (bs _) [] = _
    rw [butS_bs]; simp [tailW]
  | cons x l =>
    have hm : ∀ o, markS (bs o) (x :: l) = bs o ++ bs [32, 98, 117, 116] := fun _ => rfl
    rw [hm, bs_app, butS_bs]
    congr 1
    simp [tailW, List.flatMap_map]
theorem linesS_bs (rs : List CR) : linesS decS rs = bs (textL rs) := by
  have key : ∀ (rs : List CR) (o : List UInt8), rs.foldl (fun o r => o ++ lineS decS r ++ (⟨#[10]⟩ : ByteArray)) (bs o) = bs (o ++ textL rs) := by
    intro rs
    induction rs with
    | nil => intro o; simp [textL]
    | cons r rs ih =>
      intro o
      rw [List.foldl_cons, lineS_bs]
      show List.foldl _ (bs o ++ bs (lineL r) ++ bs [10]) rs = _
      rw [bs_app, bs_app, ih]
      simp [textL]
  exact key rs []

end Go.Proofs.YtammejplaeaocaaDoor
