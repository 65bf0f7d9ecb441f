/-
  The law FnCalText, walked over a contract of l3Spoil: it answers true at every two codes that lie in memory. Condition: the package-level variables that CalRead and CalWrite come to hold what the program's text lays.
-/
import Derived.Test.YtammejplaeaocaaDoorDrawW2
import Derived.Test.YtammejplaeaocaaDoorWc
import Derived.Test.YtammejplaeaocaaDoorTrip2
import Derived.Test.YtammejplaeaocaaDoorLawRead
import Derived.Test.YtammejplaeaocaaDoorLawWrite
import Derived.Deep.CutBlock
namespace Go.Proofs.YtammejplaeaocaaDoor
open Go.RowKit

theorem bytes_below {W W' : World} {a : Option Addr} {n : Nat} (h : BytesAt W a n) (hb : Below W.heap.size W W') : BytesAt W' a n := fun i hi => by
  obtain ⟨b, off, x, e1, e2, e3, e4⟩ := h i hi
  exact ⟨b, off, x, e1, e2, e3, (hb.cell (p := ⟨b, off + i, none⟩) (cell_lt e4)).trans e4⟩

/-- What is read is written so. -/
theorem back_write (s : ByteArray) (h : (readS s.data.toList).isSome = true) : writeS decS ((readS s.data.toList).getD []) = s := by
  cases hr : readS s.data.toList with
  | none => rw [hr] at h; cases h
  | some rs =>
    rw [← read_same] at hr
    obtain ⟨h1, h2⟩ := text_read hr
    rw [Option.getD_some, writeS_ok h2, linesS_bs, ← h1]
    exact bs_data s
/-- What is written is read. -/
theorem read_back (rs : List CR) : readI (writeS decS rs).data.toList = if rulesB rs = true then some rs else none := by
  cases hok : rulesB rs with
  | false =>
    rw [writeS_no hok]
    exact read_nil
  | true =>
    have hz := writeS_small rs
    rw [writeS_ok hok, linesS_bs] at hz ⊢
    have hd : (bs (textL rs)).data.toList = textL rs := by simp [bs]
    have hl : (textL rs).length ≤ 800 := by
      have : (bs (textL rs)).size = (textL rs).length := by simp [bs, ByteArray.size]
      omega
    rw [hd, read_text hok hl]
    rfl

set_option maxRecDepth 100000 in
set_option maxHeartbeats 2000000 in
theorem lawCalText (hSp : Spoils) (a c : Option Addr) (n m ca cc : Nat) (w : World) (ha : BytesAt w a n) (hc : BytesAt w c m) (hna : n ≤ ca) (hma : ca ≤ 9223372036854775807) (hnc : m ≤ cc) (hmc : cc ≤ 9223372036854775807) (hg : Glob2 w) (hM : MaxAt w) (ht : Tab w) :
    Calls Tryd.prog 4 #[.slice a n ca, .slice c m cc] w fun e w' => e = .returned (.bool true) ∧ Below w.heap.size w w' := by
  have HS : Hid Spoils := hSp
  clear hSp
  by_cases h1 : (1048576 : Int) < (n : Int)
  · go_enter Tryd.func4, Tryd.ntmps4
    go_wp2
    go_ret
    exact ⟨rfl, Below.refl _ _⟩
  by_cases h2 : (1048576 : Int) < (m : Int)
  · go_enter Tryd.func4, Tryd.ntmps4
    go_wp2
    go_ret
    exact ⟨rfl, Below.refl _ _⟩
  go_enter Tryd.func4, Tryd.ntmps4
  go_wp2_with fail
  refine (DrawCalRead_any w a n ca ha (by omega) hna hma).mono ?_
  rintro e w1 ⟨s, rfl, hs, B1⟩
  have hg1 := hg.below B1 (Nat.le_refl _)
  have hM1 := hM.below B1 (Nat.le_refl _)
  have ht1 := ht.below B1 (Nat.le_refl _)
  have hspec := fun (W : World) => specCalRead_any s W (by omega)
  have himpl := fun (W : World) (h1 : Glob2 W) (h2 : MaxAt W) => implCalRead_any s W (by omega) h1 h2 split_cuts count_counts
  rw [read_same] at himpl
  obtain ⟨h4, _⟩ := readS_small s.data.toList
  have hback := back_write s
  obtain ⟨rs, hrs⟩ : ∃ rs, rs = (readS s.data.toList).getD [] := ⟨_, rfl⟩
  obtain ⟨b, hbb⟩ : ∃ b, b = (readS s.data.toList).isSome := ⟨_, rfl⟩
  unfold SpecRead at hspec
  rw [← hrs, ← hbb] at hspec himpl hback
  rw [← hrs] at h4
  clear hrs hbb
  have HBK : Hid (b = true → writeS decS rs = s) := hback
  clear hback
  have q2 : (b != b) = false := by simp
  have hrl : rs.length ≤ 9223372036854775807 := by omega
  go_wp2_with fail
  refine (himpl w1 hg1 hM1).mono ?_
  rintro e w2 ⟨x, es, rfl, hes, hown, B2⟩
  obtain ⟨ga, gc, hx, _⟩ := hown.shape
  have hel : es.length = rs.length := by rw [← hes, List.length_map]
  rw [hel] at hx
  subst hx
  have g2 : RulesIn w2 w1.heap.size w1.heap.size ga rs := by have := hown.rules; rwa [hes] at this
  clear hown hes hel himpl
  go_wp2_with fail
  refine (hspec w2).mono ?_
  rintro e w3 ⟨a0, cap0, rfl, r3, B3⟩
  have g3 := g2.below B3 (Nat.le_refl _)
  have e1 := B1.size
  have e2 := B2.size
  have e3 := B3.size
  have B13 : Below w1.heap.size w1 w3 := B2.trans (B3.mono e2)
  have hg3 := hg1.below B13 (Nat.le_refl _)
  have hM3 := hM1.below B13 (Nat.le_refl _)
  have ht3 := ht1.below B13 (Nat.le_refl _)
  have hB3 : Below w.heap.size w w3 := B1.trans (B13.mono e1)
  have HR3 : Hid (RulesIn w3 w1.heap.size w1.heap.size ga rs ∧ RulesIn w3 w2.heap.size w2.heap.size a0 rs) := ⟨g3, r3⟩
  have HG3 : Hid (Glob2 w3 ∧ MaxAt w3 ∧ Tab w3) := ⟨hg3, hM3, ht3⟩
  have HB3 : Hid (Below w.heap.size w w3) := hB3
  clear hspec g2 g3 r3 B1 B2 B3 B13 hg1 hM1 ht1 hg3 hM3 ht3 hB3 e1 e2 e3 hg hM ht
  go_upto_region 6 with fail
  go_cut [51] (fun v wx => v = .bool false ∧ Hid (Below w3.heap.size w3 wx))
  case first =>
    go_wp2_with fail
    refine (wcRules_same ga a0 gc cap0 rs w3 _ _ _ _ hrl HR3.out.1 HR3.out.2).mono ?_
    rintro e w4 ⟨rfl, B4⟩
    have HR4 : Hid (RulesIn w4 w1.heap.size w1.heap.size ga rs) := HR3.out.1.below B4 (Nat.le_refl _)
    have HG4 : Hid (Glob w4 ∧ Tab w4) := ⟨HG3.out.1.glob.below B4 (Nat.le_refl _), HG3.out.2.2.below B4 (Nat.le_refl _)⟩
    have HB4 : Hid (Below w3.heap.size w3 w4) := B4
    clear B4
    cases b with
    | true =>
      have hbk := HBK.out rfl
      have hw := implCalWrite_any ga gc rs w4 _ _ hrl HR4.out HG4.out.1 Tab (fun w' h' => HG4.out.2.below h' (Nat.le_refl _)) itoa_writes
      rw [hbk] at hw
      clear hbk HBK
      go_wp2_with fail
      refine hw.mono ?_
      rintro e w5 ⟨rfl, B5⟩
      have HB5 : Hid (Below w3.heap.size w3 w5) := HB4.out.trans (B5.mono HB4.out.size)
      clear hw B5
      go_wp2
      go_meet
      exact ⟨rfl, HB5⟩
    | false =>
      go_wp2
      go_meet
      exact ⟨rfl, HB4⟩
  case rest =>
    obtain ⟨rfl, HBc⟩ := hcut
    have hBw : Below w.heap.size w wc := HB3.out.trans (HBc.out.mono HB3.out.size)
    have HGc : Hid (Glob2 wc ∧ MaxAt wc ∧ Tab wc) := ⟨HG3.out.1.below HBc.out (Nat.le_refl _), HG3.out.2.1.below HBc.out (Nat.le_refl _), HG3.out.2.2.below HBc.out (Nat.le_refl _)⟩
    have hc' := bytes_below hc hBw
    have HBW : Hid (Below w.heap.size w wc) := hBw
    clear HBc HB3 HG3 HR3 HBK hBw ha hc q2 hrl h4 hs
    go_wp2_with fail
    refine (DrawCalWrite_any HS.out wc c m cc hc' (by omega) hnc hmc).mono ?_
    rintro e w5 ⟨ds, da, dc, rfl, l5, r5, B5⟩
    have hdl : ds.length ≤ 9223372036854775807 := by omega
    have hG5 : Glob2 w5 ∧ MaxAt w5 ∧ Tab w5 := ⟨HGc.out.1.below B5 (Nat.le_refl _), HGc.out.2.1.below B5 (Nat.le_refl _), HGc.out.2.2.below B5 (Nat.le_refl _)⟩
    have HB5 : Hid (Below w.heap.size w w5) := HBW.out.trans (B5.mono HBW.out.size)
    have HR5 : Hid (RulesIn w5 0 0 da ds) := r5
    have husz := writeS_small ds
    have hrb := read_back ds
    have hw1 := fun (W : World) (hr : RulesIn W 0 0 da ds) (hg : Glob W) (ht : Tab W) => implCalWrite_any da dc ds W _ _ hdl hr hg Tab (fun w' h' => ht.below h' (Nat.le_refl _)) itoa_writes
    have hw2 := fun (W : World) (hr : RulesIn W 0 0 da ds) => specCalWrite_any da dc ds W _ _ hdl hr
    have ho1 := fun (W : World) (hr : RulesIn W 0 0 da ds) (hg : Glob W) => implCalOk_any da dc ds W _ _ hdl hr hg
    have ho2 := fun (W : World) (hr : RulesIn W 0 0 da ds) => specCalOk_any da dc ds W _ _ hdl hr
    have hre := fun (W : World) (h1 : Glob2 W) (h2 : MaxAt W) => implCalRead_any (writeS decS ds) W (by omega) h1 h2 split_cuts count_counts
    rw [hrb] at hre
    clear hrb
    obtain ⟨u, hu⟩ : ∃ u, u = writeS decS ds := ⟨_, rfl⟩
    rw [← hu] at hw1 hw2 hre husz
    clear hu
    obtain ⟨ok, hok⟩ : ∃ ok, ok = rulesB ds := ⟨_, rfl⟩
    rw [← hok] at hre ho1 ho2
    clear hok HGc HBW B5 r5 hc'
    have qoo : (ok == ok) = true := by simp
    have HG5 : Hid (Glob2 w5 ∧ MaxAt w5 ∧ Tab w5) := hG5
    clear hG5
    go_wp2_with fail
    refine (hw1 w5 HR5.out HG5.out.1.glob HG5.out.2.2).mono ?_
    rintro e w6 ⟨rfl, B6⟩
    have HG6 : Hid (Glob2 w6 ∧ MaxAt w6 ∧ Tab w6) := ⟨HG5.out.1.below B6 (Nat.le_refl _), HG5.out.2.1.below B6 (Nat.le_refl _), HG5.out.2.2.below B6 (Nat.le_refl _)⟩
    have HR6 : Hid (RulesIn w6 0 0 da ds) := HR5.out.below B6 (Nat.le_refl _)
    have HB6 : Hid (Below w.heap.size w w6) := HB5.out.trans (B6.mono HB5.out.size)
    clear B6 HG5 HR5 HB5 hw1
    cases ok with
    | true =>
      simp only [if_true, Option.isSome_some, Option.getD_some] at hre
      go_wp2_with fail
      refine (hre w6 HG6.out.1 HG6.out.2.1).mono ?_
      rintro e w7 ⟨x, fs, rfl, hfs, hown, B7⟩
      obtain ⟨ga', gc', hx, _⟩ := hown.shape
      have hel : fs.length = ds.length := by rw [← hfs, List.length_map]
      rw [hel] at hx
      subst hx
      have HK7 : Hid (RulesIn w7 w6.heap.size w6.heap.size ga' ds) := by have := hown.rules; rwa [hfs] at this
      have HR7 : Hid (RulesIn w7 0 0 da ds) := HR6.out.below B7 (Nat.le_refl _)
      have HG7 : Hid (Glob w7) := HG6.out.1.glob.below B7 (Nat.le_refl _)
      have HB7 : Hid (Below w.heap.size w w7) := HB6.out.trans (B7.mono HB6.out.size)
      clear hown hfs hel B7 hre HG6 HR6 HB6
      go_wp2_with fail
      refine (hw2 w7 HR7.out).mono ?_
      rintro e w8 ⟨rfl, B8⟩
      have HK8 : Hid (RulesIn w8 w6.heap.size w6.heap.size ga' ds) := HK7.out.below B8 (Nat.le_refl _)
      have HR8 : Hid (RulesIn w8 0 0 da ds) := HR7.out.below B8 (Nat.le_refl _)
      have HG8 : Hid (Glob w8) := HG7.out.below B8 (Nat.le_refl _)
      have HB8 : Hid (Below w.heap.size w w8) := HB7.out.trans (B8.mono HB7.out.size)
      clear B8 HK7 HR7 HG7 HB7
      go_wp2_with fail
      refine (ho2 w8 HR8.out).mono ?_
      rintro e w9 ⟨rfl, B9⟩
      have HK9 : Hid (RulesIn w9 w6.heap.size w6.heap.size ga' ds) := HK8.out.below B9 (Nat.le_refl _)
      have HR9 : Hid (RulesIn w9 0 0 da ds) := HR8.out.below B9 (Nat.le_refl _)
      have HG9 : Hid (Glob w9) := HG8.out.below B9 (Nat.le_refl _)
      have HB9 : Hid (Below w.heap.size w w9) := HB8.out.trans (B9.mono HB8.out.size)
      clear B9 HK8 HR8 HG8 HB8
      go_wp2_with fail
      refine (wcRules_same ga' da gc' dc ds w9 _ _ _ _ hdl HK9.out HR9.out).mono ?_
      rintro e w10 ⟨rfl, B10⟩
      have HR10 : Hid (RulesIn w10 0 0 da ds) := HR9.out.below B10 (Nat.le_refl _)
      have HG10 : Hid (Glob w10) := HG9.out.below B10 (Nat.le_refl _)
      have HB10 : Hid (Below w.heap.size w w10) := HB9.out.trans (B10.mono HB9.out.size)
      clear B10 HK9 HR9 HG9 HB9
      go_wp2_with fail
      refine (ho1 w10 HR10.out HG10.out).mono ?_
      rintro e w11 ⟨rfl, B11⟩
      have HR11 : Hid (RulesIn w11 0 0 da ds) := HR10.out.below B11 (Nat.le_refl _)
      have HB11 : Hid (Below w.heap.size w w11) := HB10.out.trans (B11.mono HB10.out.size)
      clear B11 HR10 HG10 HB10
      go_wp2_with fail
      refine (ho2 w11 HR11.out).mono ?_
      rintro e w12 ⟨rfl, B12⟩
      have HB12 : Hid (Below w.heap.size w w12) := HB11.out.trans (B12.mono HB11.out.size)
      clear B12 HR11 HB11
      go_wp2
      go_ret
      exact ⟨rfl, HB12.out⟩
    | false =>
      simp only [Bool.false_eq_true, if_false, Option.isSome_none, Option.getD_none] at hre
      go_wp2_with fail
      refine (hre w6 HG6.out.1 HG6.out.2.1).mono ?_
      rintro e w7 ⟨x, fs, rfl, hfs, hown, B7⟩
      obtain ⟨ga', gc', hx, _⟩ := hown.shape
      subst hx
      have HR7 : Hid (RulesIn w7 0 0 da ds) := HR6.out.below B7 (Nat.le_refl _)
      have HG7 : Hid (Glob w7) := HG6.out.1.glob.below B7 (Nat.le_refl _)
      have HB7 : Hid (Below w.heap.size w w7) := HB6.out.trans (B7.mono HB6.out.size)
      clear hown hfs B7 hre HG6 HR6 HB6
      go_wp2_with fail
      refine (hw2 w7 HR7.out).mono ?_
      rintro e w8 ⟨rfl, B8⟩
      have HR8 : Hid (RulesIn w8 0 0 da ds) := HR7.out.below B8 (Nat.le_refl _)
      have HG8 : Hid (Glob w8) := HG7.out.below B8 (Nat.le_refl _)
      have HB8 : Hid (Below w.heap.size w w8) := HB7.out.trans (B8.mono HB7.out.size)
      clear B8 HR7 HG7 HB7
      go_wp2_with fail
      refine (ho2 w8 HR8.out).mono ?_
      rintro e w9 ⟨rfl, B9⟩
      have HR9 : Hid (RulesIn w9 0 0 da ds) := HR8.out.below B9 (Nat.le_refl _)
      have HG9 : Hid (Glob w9) := HG8.out.below B9 (Nat.le_refl _)
      have HB9 : Hid (Below w.heap.size w w9) := HB8.out.trans (B9.mono HB8.out.size)
      clear B9 HR8 HG8 HB8
      go_wp2_with fail
      refine (ho1 w9 HR9.out HG9.out).mono ?_
      rintro e w11 ⟨rfl, B11⟩
      have HR11 : Hid (RulesIn w11 0 0 da ds) := HR9.out.below B11 (Nat.le_refl _)
      have HB11 : Hid (Below w.heap.size w w11) := HB9.out.trans (B11.mono HB9.out.size)
      clear B11 HR9 HG9 HB9
      go_wp2_with fail
      refine (ho2 w11 HR11.out).mono ?_
      rintro e w12 ⟨rfl, B12⟩
      have HB12 : Hid (Below w.heap.size w w12) := HB11.out.trans (B12.mono HB11.out.size)
      clear B12 HR11 HB11
      go_wp2
      go_ret
      exact ⟨rfl, HB12.out⟩

end Go.Proofs.YtammejplaeaocaaDoor
