/-
  Package written: a start tag: its walk.
-/
import Derived.Test.YtkcgmimldjeaiaaGreatDoorWrText
import Derived.Test.YtkcgmimldjeaiaaGreatDoorUnref
namespace Go.Proofs.YtkcgmimldjeaiaaGreatDoor
open Go.RowKit Go.Lib Own

def attrL (a : AttrP) : List UInt8 := [32] ++ a.1 ++ [61, 34] ++ escL true a.2 ++ [34]
def openL (n : List UInt8) (al : List AttrP) : List UInt8 := [60] ++ n ++ al.flatMap attrL ++ [62]
theorem attrs_len : ∀ al : List AttrP, (al.flatMap attrL).length ≤ 6 * bulkA al
  | [] => by simp
  | a :: r => by
    have := attrs_len r
    have h2 := esc_len true _ a.2 (Nat.le_refl _)
    rw [List.flatMap_cons, List.length_append, bulkA_cons]
    have h3 : (attrL a).length = 4 + a.1.length + (escL true a.2).length := by
      unfold attrL
      simp only [List.length_append, List.length_cons, List.length_nil]
      omega
    omega
theorem attr_str (a : AttrP) (b : ByteArray) : (⟨#[32]⟩ : ByteArray) ++ b ++ ⟨#[61, 34]⟩ ++ bs (escL true a.2) ++ ⟨#[34]⟩ = bs ([32] ++ b.data.toList ++ [61, 34] ++ escL true a.2 ++ [34]) := by
  rw [show (⟨#[32]⟩ : ByteArray) = bs [32] from rfl, show (⟨#[61, 34]⟩ : ByteArray) = bs [61, 34] from rfl, show (⟨#[34]⟩ : ByteArray) = bs [34] from rfl, cat_bs, bs_cat, bs_cat, bs_cat]
theorem value_eq (s : List UInt8) : replaceAll (escL false s) [34] quotE = escL true s := by
  rw [← valueE_eq]
  unfold valueE
  rw [textE_eq _ s (Nat.le_refl _)]

set_option maxHeartbeats 4000000 in
set_option maxRecDepth 100000 in
theorem startTag_any (n : ByteArray) (u : Value) (al : List AttrP) (m : Int) (w : World) (hn : n.size ≤ 100000000) (h : AttrsR w u al) (hb : bulkA al ≤ 100000000) (hm : w.cell? ⟨4, 0, none⟩ = some (.int .i64 m)) :
    Calls Tryz.prog 68 #[.string n, u] w fun e w' => e = .returned (.string (bs (openL n.data.toList al))) ∧ Below w.heap.size w w' := by
  obtain ⟨p, c, rfl, hl, hcm, hcell, _⟩ := h
  have hnz := size_eq n
  have hlen := attrs_len al
  have hal := bulkA_len al
  obtain ⟨R, hR⟩ : ∃ R, [60] ++ n.data.toList ++ al.flatMap attrL = R := ⟨_, rfl⟩
  have hRl : R.length ≤ 700000001 := by rw [← hR]; simp only [List.length_append, List.length_cons, List.length_nil]; omega
  have ho : openL n.data.toList al = R ++ [62] := by unfold openL; rw [hR]
  rw [ho]
  have HR := hid (fun (_ : True) => hR)
  have HC := hid hcell
  have HM := hid hm
  have HB := hid hb
  have hstr : (⟨#[60]⟩ : ByteArray) ++ n = bs ([60] ++ n.data.toList) := cat_bs [60] n
  have HS := hid (fun (_ : True) => hstr)
  have HRL := hid hRl
  clear hcell hR ho hm hb hlen hstr hnz hal hRl
  go_enter Tryz.func68, Tryz.ntmps68
  go_wp2_with fail
  rw [HS.out trivial]
  refine (Tryz.Builder_WriteString_k w.heap.size w.heap.size (Lib.byteCells []) (bs ([60] ++ n.data.toList)) _ (builder_new w _ _) (by rw [bs_size]; simp only [List.length_append, List.length_cons, List.length_nil, Lib.byteCells_length]; rw [← size_eq]; omega) (by simp)).mono ?_
  rintro e W1 ⟨rfl, g1, g2, g3⟩
  have H1 : Hid (Lib.IsBuilderF 115 5 w.heap.size w.heap.size (Lib.byteCells ([60] ++ n.data.toList)) W1 ∧ Below w.heap.size w W1 ∧ w.heap.size < W1.heap.size) :=
    ⟨by rw [← List.nil_append ([60] ++ n.data.toList), Lib.byteCells_append, ← bs_data ([60] ++ n.data.toList), ← strCells_byte]; exact Or.inr g1, Below.trans (b := w.alloc (.cells #[.pointer none, .slice none 0 0] 115)) ((Below.refl _ w).alloc (Nat.le_refl _) _) g2, by have := g2.size; simp at this; omega⟩
  clear g1 g2 g3 HS
  go_wp2_with fail
  go_loopw [14] (fun iv wr => ∃ (k : Nat) (acc : List UInt8), iv = .int .i64 k ∧ k ≤ al.length ∧ Hid (Lib.IsBuilderF 115 5 w.heap.size w.heap.size (Lib.byteCells acc) wr ∧ Below w.heap.size w wr ∧ w.heap.size < wr.heap.size) ∧ Hid (True → acc ++ (al.drop k).flatMap attrL = R)) (fun iv _ => al.length - (RowKit.intOf iv).toNat)
  case atStart => exact ⟨0, [60] ++ n.data.toList, rfl, Nat.zero_le _, H1, HR⟩
  case round =>
    obtain ⟨k, acc, rfl, hk, HX, HK⟩ := hrel
    by_cases hkl : k < al.length
    · obtain ⟨a, ha⟩ : ∃ a, al[k]? = some a := ⟨_, List.getElem?_eq_getElem hkl⟩
      obtain ⟨b, o, rfl, hc1, hc2⟩ := HC.out k a ha
      replace hc1 := cell_low hc1 HX.out.2.1 (cell_block hc1)
      replace hc2 := cell_low hc2 HX.out.2.1 (cell_block hc2)
      have hab := bulkA_get ha
      have hd := HK.out trivial
      rw [drop_at ha, List.flatMap_cons] at hd
      have hdl := congrArg List.length hd
      have hRl := HRL.out
      have hBl := HB.out
      simp only [List.length_append] at hdl
      have hp : (attrL a).length = 4 + a.1.length + (escL true a.2).length := by
        unfold attrL
        simp only [List.length_append, List.length_cons, List.length_nil]
        omega
      have hal : acc.length + (attrL a).length ≤ 700000001 := by omega
      have ct := fun W hW => wrText_any (bs a.2) m W (by rw [bs_size]; omega) hW
      have cq := fun W hW => repl_any (bs (escL false a.2)) [34] quotE m W (by rw [bs_size]; have := esc_len false _ a.2 (Nat.le_refl _); omega) hW (by decide) (by decide)
      rw [bs_data] at ct cq
      rw [value_eq] at cq
      obtain ⟨E1, hE1⟩ : ∃ E1, bs (escL false a.2) = E1 := ⟨_, rfl⟩
      obtain ⟨E2, hE2⟩ : ∃ E2, bs (escL true a.2) = E2 := ⟨_, rfl⟩
      obtain ⟨S1, hS1⟩ : ∃ S, bs a.1 = S := ⟨_, rfl⟩
      obtain ⟨S2, hS2⟩ : ∃ S, bs a.2 = S := ⟨_, rfl⟩
      have hst := attr_str a S1
      rw [hE1] at ct cq
      rw [hE2] at cq hst
      rw [hS2] at ct hc2
      rw [hS1] at hc1
      have hs1 : S1.data.toList = a.1 := by rw [← hS1]; rfl
      rw [hs1] at hst
      have hz1 : S1.size ≤ 100000000 := by rw [size_eq, hs1]; omega
      have hz2 : E2.size ≤ 1000000000 := by rw [← hE2, bs_size]; omega
      have HST := hid (fun (_ : True) => hst)
      have CT := hid ct
      have CQ := hid cq
      unfold bs quotE at CQ
      have HAL := hid hal
      have HD := hid (fun (_ : True) => hd)
      have HM1 := hid (cell_low HM.out HX.out.2.1 (cell_block HM.out))
      clear ct cq hst hE1 hE2 hS1 hS2 hs1 hd hdl hRl hBl hp hal hab ha HK HC
      have hB1 := (Below.refl wr.heap.size wr).alloc (Nat.le_refl _) (.cells #[.string S1, .string S2] 66)
      have HB1 := hid (And.intro hB1 (heap_alloc_new wr (.cells #[.string S1, .string S2] 66)))
      clear hB1
      go_wp2_with fail
      refine (CT.out _ (cell_low HM1.out HB1.out.1 (cell_block HM1.out))).mono ?_
      rintro e W2 ⟨rfl, b2⟩
      have hat2 := (b2.block _ (block_lt HB1.out.2)).trans HB1.out.2
      have m2 := cell_low (cell_low HM1.out HB1.out.1 (cell_block HM1.out)) b2 (by have := cell_block HM1.out; simp; omega)
      have hbw2 := HB1.out.1.trans (b2.mono HB1.out.1.size)
      clear b2
      go_wp2_with fail
      refine (CQ.out _ m2).mono ?_
      rintro e W3 ⟨rfl, b3⟩
      have hat3 := (b3.block _ (block_lt hat2)).trans hat2
      have c3 := cell_at hat3 (j := 0) rfl
      have hbw3 := hbw2.trans (b3.mono hbw2.size)
      have I3 := hid (And.intro (builder_below HX.out.1 hbw3) (And.intro (HX.out.2.1.trans (hbw3.mono HX.out.2.1.size)) (Nat.lt_of_lt_of_le HX.out.2.2 hbw3.size)))
      clear b3 hat2 m2 hbw2 hat3 hbw3 HX HB1
      go_wp2_with fail
      rw [HST.out trivial]
      refine (Tryz.Builder_WriteString_k w.heap.size w.heap.size (Lib.byteCells acc) (bs (attrL a)) _ I3.out.1 (by rw [Lib.byteCells_length, bs_size]; have := HAL.out; omega) (by have := I3.out.2.2; omega)).mono ?_
      rintro e W4 ⟨rfl, g1, g2, g3⟩
      have HZ : Hid (Lib.IsBuilderF 115 5 w.heap.size w.heap.size (Lib.byteCells (acc ++ attrL a)) W4 ∧ Below w.heap.size w W4 ∧ w.heap.size < W4.heap.size) :=
        ⟨by rw [Lib.byteCells_append, ← bs_data (attrL a), ← strCells_byte]; exact Or.inr g1, I3.out.2.1.trans g2, by have := g2.size; have := I3.out.2.2; omega⟩
      have HE := hid (fun (_ : True) => (by have := HD.out trivial; rwa [← List.append_assoc] at this : (acc ++ attrL a) ++ (al.drop (k + 1)).flatMap attrL = R))
      clear g1 g2 g3 I3 HST HD HAL c3 CT CQ
      go_wp2_with fail
      go_roundw
      case rel => first | exact ⟨k + 1, _, rfl, by omega, HZ, HE⟩ | ((repeat apply Exists.intro); exact ⟨⟨k + 1, _, rfl, by omega, HZ, HE⟩, rfl⟩)
      case measure => simp [RowKit.intOf]; omega
    · obtain rfl : acc = R := by
        have := HK.out trivial
        rwa [List.drop_of_length_le (by omega), List.flatMap_nil, List.append_nil] at this
      have HRL2 := HRL
      clear HK HC H1
      go_wp2_with fail
      refine (Tryz.Builder_WriteString_k w.heap.size w.heap.size (Lib.byteCells acc) (bs [62]) _ HX.out.1 (by rw [Lib.byteCells_length, bs_size]; have := HRL.out; simp; omega) (by have := HX.out.2.2; omega)).mono ?_
      rintro e W4 ⟨rfl, g1, g2, g3⟩
      have HZ : Hid (Lib.IsBuilderF 115 5 w.heap.size w.heap.size (Lib.byteCells (acc ++ [62])) W4 ∧ Below w.heap.size w W4 ∧ w.heap.size < W4.heap.size) :=
        ⟨by rw [Lib.byteCells_append, ← bs_data [62], ← strCells_byte]; exact Or.inr g1, HX.out.2.1.trans g2, by have := g2.size; have := HX.out.2.2; omega⟩
      clear g1 g2 g3 HX
      go_wp2_with fail
      refine (Tryz.Builder_String_any_k w.heap.size w.heap.size (acc ++ [62]) _ HZ.out.1 (by have := HZ.out.2.2; omega)).mono ?_
      rintro e W5 ⟨rfl, _, g2, _⟩
      have HY := hid (HZ.out.2.1.trans g2)
      clear g2 HZ
      go_wp2_with fail
      go_ret
      exact ⟨rfl, HY.out⟩
end Go.Proofs.YtkcgmimldjeaiaaGreatDoor
