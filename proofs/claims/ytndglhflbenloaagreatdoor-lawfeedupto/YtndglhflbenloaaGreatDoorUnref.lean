/-
  chars.Unref: its walk.
-/
import Derived.Test.YtndglhflbenloaaGreatDoorReferred
import Derived.Test.YtndglhflbenloaaGreatDoorAmp
namespace Go.Proofs.YtndglhflbenloaaGreatDoor
open Go.RowKit Go.Lib

theorem fold_range (L : List UInt8) : ∀ (T : List (List UInt8 × Int)), (∀ t ∈ T, 0 ≤ t.2 ∧ t.2 ≤ 9000) → ∀ a : Nat × Int, 0 ≤ a.2 ∧ a.2 ≤ 9000 → 0 ≤ (T.foldl (step1 L) a).2 ∧ (T.foldl (step1 L) a).2 ≤ 9000
  | [], _, _, h => h
  | t :: T, hT, a, h => by
    rw [List.foldl_cons]
    refine fold_range L T (fun u hu => hT u (.tail _ hu)) _ ?_
    unfold step1
    split
    · exact hT t (.head _)
    · exact h
theorem name_range (L : List UInt8) : 0 ≤ (nameL L).2 ∧ (nameL L).2 ≤ 9000 := by
  have h := fold_range L (eitherT ++ closedT) (by decide +kernel) (0, 0) (by decide)
  have hsh : ∀ a : Nat × Int, (shut1 L a).2 = a.2 := fun a => by
    unfold shut1
    split <;> rfl
  have e : (nameL L).2 = (name1 L (eitherT ++ closedT)).2 := hsh _
  rw [e]
  exact h
theorem ref_range (attr : Bool) (L : List UInt8) : 0 ≤ (refL attr L).2 ∧ (refL attr L).2 ≤ 1114111 ∧ ¬ (55296 ≤ (refL attr L).2 ∧ (refL attr L).2 ≤ 57343) := by
  unfold refL
  split
  · unfold numL
    split
    · simp
    · exact numb_good _ (by omega)
  · split
    · simp
    · have := name_range L
      omega
theorem ref_le (attr : Bool) (L : List UInt8) : (refL attr L).1 ≤ L.length := by
  unfold refL
  split
  · have h1 : ∀ N : List UInt8, (numL N).1 ≤ N.length := by
      intro N
      unfold numL
      split
      · exact Nat.zero_le _
      · rename_i hd
        have h2 : fromN N + (digsN N).length ≤ N.length := by
          have h3 := (List.takeWhile_prefix (p := digN N) (l := N.drop (fromN N))).length_le
          have h4 : 0 < (digsN N).length := List.length_pos_iff.2 hd
          unfold digsN at h4 ⊢
          rw [List.length_drop] at h3
          omega
        split
        · rename_i h59
          have := (List.getElem?_eq_some_iff.1 h59).1
          simp only
          omega
        · simp only
          omega
    have := h1 (L.take 31)
    rw [List.length_take] at this
    omega
  · split
    · exact Nat.zero_le _
    · exact name_le L

def strLen : Value → Nat
  | .string s => s.size
  | _ => 0
theorem strCells_byte (t : ByteArray) : Lib.strCells t = Lib.byteCells t.data.toList := by
  rfl

theorem rangeAt_low {w w' : World} {b o : Nat} {cs : List Value} (h : w.rangeAt b o cs) (hb : Below w.heap.size w w') : w'.rangeAt b o cs := rangeAt_below h hb
theorem builder_new (w : World) (T e : TypeId) : Lib.IsBuilderF T e w.heap.size w.heap.size (Lib.byteCells []) (w.alloc (.cells #[.pointer none, .slice none 0 0] T)) :=
  Lib.IsBuilderF.of (Or.inl ⟨Nat.le_refl _, .slice none 0 0, heap_alloc_new w _, World.ownsRow_nil _ _ _ _, by simp [Value.ownBlock]⟩)
/-- what holds between two rounds -/
def UnrAt (attr : Bool) (t : ByteArray) (acc R : List UInt8) : Prop := acc ++ unr attr t.data.toList = R

set_option maxHeartbeats 4000000 in
set_option maxRecDepth 100000 in
theorem unref_any (s : ByteArray) (attr : Bool) (m : Int) (w : World) (hs : s.size ≤ 10000000) (hT : ChTabs w) (hm : w.cell? ⟨5, 0, none⟩ = some (.int .i64 m)) :
    Calls Tryz.prog 34 #[.string s, .bool attr] w fun e w' => e = .returned (.string ⟨(unr attr s.data.toList).toArray⟩) ∧ Below w.heap.size w w' := by
  obtain ⟨R, hR⟩ : ∃ R, unr attr s.data.toList = R := ⟨_, rfl⟩
  rw [hR]
  have HR : UnrAt attr s [] R := hR
  clear hR
  have HT := hid hT
  have HM := hid hm
  clear hT hm
  go_enter Tryz.func34, Tryz.ntmps34
  go_wp2
  go_loopw [0] (fun sv wr => ∃ (t : ByteArray) (acc : List UInt8), sv = .string t ∧ Lib.IsBuilderF 39 5 w.heap.size w.heap.size (Lib.byteCells acc) wr ∧ Below w.heap.size w wr ∧ w.heap.size < wr.heap.size ∧ acc.length + 4 * t.size ≤ 4 * s.size ∧ UnrAt attr t acc R) (fun sv _ => strLen sv)
  case atStart => exact ⟨s, [], rfl, builder_new w _ _, (Below.refl _ w).alloc (Nat.le_refl _) _, by simp, by simp, HR⟩
  case round =>
    obtain ⟨t, acc, rfl, hI, hbw, hwz, hal, HA⟩ := hrel
    have hm1 : wr.cell? ⟨5, 0, none⟩ = some (.int .i64 m) := by
      have hc := HM.out
      have := hbw.block _ (cell_block hc)
      unfold World.cell? at hc ⊢
      rw [this]
      exact hc
    have HT1 : ChTabs wr := HT.out.below hbw
    have hcut := Tryz.strings_Cut t ⟨#[38]⟩ m wr (by omega) hm1
    rw [show (⟨#[38]⟩ : ByteArray).data.toList = [38] from rfl] at hcut
    rcases cut_amp t.data.toList with ⟨h1, h2⟩ | ⟨a, b, h1, h2, h3⟩
    · rw [h1] at hcut
      have ht : (⟨t.data.toList.toArray⟩ : ByteArray) = t := rfl
      simp only at hcut
      rw [ht, show (⟨([] : List UInt8).toArray⟩ : ByteArray) = ⟨#[]⟩ from rfl] at hcut
      have hfin : acc ++ t.data.toList = R := by
        have := unr_ahead attr t.data.toList [] h2
        rw [List.append_nil, unr_nil, List.append_nil] at this
        rw [← this]
        exact HA
      have HC := hid (fun (_ : True) => hcut)
      have HF := hid (fun (_ : True) => hfin)
      clear hcut h1 h2 ht hfin HA HT1 hm1 HM HT
      go_wp2_with (go_at_call 62; refine (HC.out trivial).mono ?_; rintro e W1 ⟨rfl, nd, rfl⟩)
      go_wp2_with (go_at_call 63; refine (Tryz.Builder_WriteString_k w.heap.size w.heap.size (Lib.byteCells acc) t _ (by exact hI) (by rw [Lib.byteCells_length]; omega) (by simp; omega)).mono ?_; rintro e W2 ⟨rfl, g1, g2, g3⟩)
      have hI2 : Lib.IsBuilderF 39 5 w.heap.size w.heap.size (Lib.byteCells R) W2 := by
        have := HF.out trivial
        rw [← this, Lib.byteCells_append, ← strCells_byte]
        exact Or.inr g1
      have hb2 : Below w.heap.size w W2 := Below.trans (b := wr) hbw ⟨g2.os, g2.tape, g2.output, g2.size, g2.block⟩
      clear g1 g2 g3 HF
      go_wp2_with (go_at_call 48; refine (Tryz.Builder_String_any_k w.heap.size w.heap.size R _ hI2 (by have := hb2.size; omega)).mono ?_; rintro e W3 ⟨rfl, _, g2, _⟩)
      go_ret
      exact ⟨rfl, hb2.trans g2⟩
    · rw [h3] at hcut
      obtain ⟨ta, hta⟩ : ∃ ta : ByteArray, (⟨a.toArray⟩ : ByteArray) = ta := ⟨_, rfl⟩
      obtain ⟨tb, htb⟩ : ∃ tb : ByteArray, (⟨b.toArray⟩ : ByteArray) = tb := ⟨_, rfl⟩
      simp only at hcut
      rw [hta, htb] at hcut
      have hal2 : ta.data.toList = a := by rw [← hta]
      have hbl2 : tb.data.toList = b := by rw [← htb]
      have haz : ta.size = a.length := by rw [size_eq, hal2]
      have hbz : tb.size = b.length := by rw [size_eq, hbl2]
      have htz : t.size = a.length + 1 + b.length := by rw [size_eq, h1]; simp; omega
      have hfr := fun W hTW => findRef_any tb attr W (by omega) hTW
      have hle := ref_le attr b
      have hrg := ref_range attr b
      have hone : oneL attr b = if (refL attr b).1 = 0 then [38] else encodeRune (refL attr b).2 := rfl
      have hnext : acc ++ a ++ oneL attr b ++ unr attr (b.drop (refL attr b).1) = R := by
        have h4 := unr_ahead attr a (38 :: b) h2
        rw [← h1, unr_amp] at h4
        have : acc ++ unr attr t.data.toList = R := HA
        rw [h4] at this
        rw [← this]
        simp
      rw [hbl2] at hfr
      rw [hone] at hnext
      obtain ⟨q, hq⟩ : ∃ q, refL attr b = q := ⟨_, rfl⟩
      rw [hq] at hfr hle hrg hnext
      obtain ⟨n, c⟩ := q
      simp only at hfr hle hrg hnext
      have HC := hid (fun (_ : True) => hcut)
      have HF := hid hfr
      have HX := hid (fun (_ : True) => hnext)
      have HL := hid (fun (_ : True) => hbl2)
      have HAL := hid (fun (_ : True) => hal2)
      clear hcut h1 h2 h3 hq hfr hnext hone HA hta htb hal2 hbl2
      obtain ⟨hc0, hc1, hc2⟩ := hrg
      go_wp2_with (go_at_call 62; refine (HC.out trivial).mono ?_; rintro e W1 ⟨rfl, nd, rfl⟩)
      go_wp2_with (go_at_call 63; refine (Tryz.Builder_WriteString_k w.heap.size w.heap.size (Lib.byteCells acc) ta _ (by exact hI) (by rw [Lib.byteCells_length]; omega) (by simp; omega)).mono ?_; rintro e W2 ⟨rfl, g1, g2, g3⟩)
      have hI2 : Lib.IsBuilderF 39 5 w.heap.size w.heap.size (Lib.byteCells (acc ++ a)) W2 := by
        rw [Lib.byteCells_append, ← HAL.out trivial, ← strCells_byte]
        exact Or.inr g1
      have hb2 : Below w.heap.size w W2 := Below.trans (b := wr) hbw ⟨g2.os, g2.tape, g2.output, g2.size, g2.block⟩
      have hz2 : w.heap.size < W2.heap.size := by have := g2.size; simp at this; omega
      have HT2 : ChTabs W2 := HT.out.below hb2
      clear g1 g2 g3
      have hdrop : (tb.extract n b.length).data.toList = tb.data.toList.drop n := by rw [← hbz]; exact extract_to_end tb n
      have hdz : (tb.extract n b.length).size = b.length - n := by rw [size_eq, hdrop, List.length_drop, ← size_eq, hbz]
      by_cases hn : n = 0
      · subst hn
        go_wp2_with (go_at_call 64; refine (HF.out _ HT2).mono ?_; rintro e W3 ⟨rfl, b3⟩)
        have hI3 := builder_below hI2 b3
        have hb3 := hb2.trans (b3.mono (by omega))
        have hz3 : w.heap.size < W3.heap.size := by have := b3.size; omega
        clear b3 hI2 hb2
        go_wp2_with (go_at_call 65; refine (Tryz.Builder_WriteByte_k w.heap.size w.heap.size (Lib.byteCells (acc ++ a)) 38 _ hI3 (by rw [Lib.byteCells_length, List.length_append]; omega) (by omega)).mono ?_; rintro e W4 ⟨rfl, g1, g2, g3⟩)
        go_roundw
        case rel =>
          refine ⟨tb.extract 0 b.length, acc ++ a ++ [38], rfl, ?_, hb3.trans g2, by have := g2.size; omega, ?_, ?_⟩
          · rw [Lib.byteCells_append]; exact Or.inr g1
          · rw [hdz]; simp only [List.length_append, List.length_singleton]; omega
          · have := HX.out trivial
            rw [if_pos trivial] at this
            unfold UnrAt
            rw [hdrop, HL.out trivial]
            exact this
        case measure => simp only [strLen]; rw [hdz]; omega
      · have qn : ((n : Int) == 0) = false := beq_eq_false_iff_ne.2 (by omega)
        go_wp2_with (go_at_call 64; refine (HF.out _ HT2).mono ?_; rintro e W3 ⟨rfl, b3⟩)
        have hI3 := builder_below hI2 b3
        have hb3 := hb2.trans (b3.mono (by omega))
        have hz3 : w.heap.size < W3.heap.size := by have := b3.size; omega
        clear b3 hI2 hb2
        go_wp2_with (go_at_call 66; refine (Tryz.Builder_WriteRune_k w.heap.size w.heap.size (Lib.byteCells (acc ++ a)) c (by omega) (by omega) _ hI3 (by rw [Lib.byteCells_length, List.length_append]; omega) (by omega)).mono ?_; rintro e W4 ⟨rfl, g1, g2, g3⟩)
        go_roundw
        case rel =>
          have hl4 := Lib.runeCells_le c
          rw [Lib.runeCells_length] at hl4
          refine ⟨tb.extract n b.length, acc ++ a ++ encodeRune c, rfl, ?_, hb3.trans g2, by have := g2.size; omega, ?_, ?_⟩
          · rw [Lib.byteCells_append, Lib.byteCells_encodeRune]; exact Or.inr g1
          · rw [hdz]; simp only [List.length_append]; omega
          · have := HX.out trivial
            rw [if_neg hn] at this
            unfold UnrAt
            rw [hdrop, HL.out trivial]
            exact this
        case measure => simp only [strLen]; rw [hdz]; omega
end Go.Proofs.YtndglhflbenloaaGreatDoor
