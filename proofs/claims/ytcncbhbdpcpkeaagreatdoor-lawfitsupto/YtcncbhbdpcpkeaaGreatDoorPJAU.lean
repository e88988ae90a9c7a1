/-
  Parts of the walk, joined: WrTag, LinkIx.
-/
import Derived.Laws.RangeAny
import Derived.Laws.RangeString
import Derived.Lib.OthersKept
import Derived.Lib.QuoteLoop
import Derived.Lib.TrimU
import Derived.Shelf.Strings.IndexAny
import Derived.WalkMore
import Derived.Deep.QuietTactic
import Derived.BigQuiet
import Derived.BigCall
import Derived.Test.YtcncbhbdpcpkeaaGreatDoorPJAT
import Derived.Test.YtcncbhbdpcpkeaaGreatDoorPJAC
import Derived.Test.YtcncbhbdpcpkeaaGreatDoorPJAI
/-
  Package written: a start tag: its walk.
-/
namespace Go.Proofs.YtcncbhbdpcpkeaaGreatDoor
open Go.RowKit Go.Lib Own

def attrL (a : AttrP) : List UInt8 := [32] ++ a.1 ++ [61, 34] ++ escL true a.2 ++ [34]
def openL (n : List UInt8) (al : List AttrP) : List UInt8 := [60] ++ n ++ al.flatMap attrL ++ [62]
theorem attrs_len : ∀ al : List AttrP, (al.flatMap attrL).length ≤ 6 * bulkA al
  | [] => by simp
  | a :: r => by
    have := attrs_len r
    have h2 := esc_len true _ a.2 (Nat.le_refl _)
    rw [List.flatMap_cons, List.length_append, bulkA_cons]
    have h3 : (attrL a).length = 4 + a.1.length + (escL true a.2).length := by
      unfold attrL
      simp only [List.length_append, List.length_cons, List.length_nil]
      omega
    omega
theorem attr_str (a : AttrP) (b : ByteArray) : (⟨#[32]⟩ : ByteArray) ++ b ++ ⟨#[61, 34]⟩ ++ bs (escL true a.2) ++ ⟨#[34]⟩ = bs ([32] ++ b.data.toList ++ [61, 34] ++ escL true a.2 ++ [34]) := by
  rw [show (⟨#[32]⟩ : ByteArray) = bs [32] from rfl, show (⟨#[61, 34]⟩ : ByteArray) = bs [61, 34] from rfl, show (⟨#[34]⟩ : ByteArray) = bs [34] from rfl, cat_bs, bs_cat, bs_cat, bs_cat]
theorem value_eq (s : List UInt8) : replaceAll (escL false s) [34] quotE = escL true s := by
  rw [← valueE_eq]
  unfold valueE
  rw [textE_eq _ s (Nat.le_refl _)]

set_option maxHeartbeats 4000000 in
set_option maxRecDepth 100000 in
theorem startTag_any (n : ByteArray) (u : Value) (al : List AttrP) (m : Int) (w : World) (hn : n.size ≤ 100000000) (h : AttrsR w u al) (hb : bulkA al ≤ 100000000) (hm : w.cell? ⟨4, 0, none⟩ = some (.int .i64 m)) :
    Calls Tryz.prog 133 #[.string n, u] w fun e w' => e = .returned (.string (bs (openL n.data.toList al))) ∧ Below w.heap.size w w' := by
  obtain ⟨p, c, rfl, hl, hcm, hcell, _⟩ := h
  have hnz := size_eq n
  have hlen := attrs_len al
  have hal := bulkA_len al
  obtain ⟨R, hR⟩ : ∃ R, [60] ++ n.data.toList ++ al.flatMap attrL = R := ⟨_, rfl⟩
  have hRl : R.length ≤ 700000001 := by rw [← hR]; simp only [List.length_append, List.length_cons, List.length_nil]; omega
  have ho : openL n.data.toList al = R ++ [62] := by unfold openL; rw [hR]
  rw [ho]
  have HR := hid (fun (_ : True) => hR)
  have HC := hid hcell
  have HM := hid hm
  have HB := hid hb
  have hstr : (⟨#[60]⟩ : ByteArray) ++ n = bs ([60] ++ n.data.toList) := cat_bs [60] n
  have HS := hid (fun (_ : True) => hstr)
  have HRL := hid hRl
  clear hcell hR ho hm hb hlen hstr hnz hal hRl
  go_enter Tryz.func133, Tryz.ntmps133
  go_wp2_with fail
  rw [HS.out trivial]
  refine (Tryz.Builder_WriteString_k w.heap.size w.heap.size (Lib.byteCells []) (bs ([60] ++ n.data.toList)) _ (builder_new w _ _) (by rw [bs_size]; simp only [List.length_append, List.length_cons, List.length_nil, Lib.byteCells_length]; rw [← size_eq]; omega) (by simp)).mono ?_
  rintro e W1 ⟨rfl, g1, g2, g3⟩
  have H1 : Hid (Lib.IsBuilderF 67 5 w.heap.size w.heap.size (Lib.byteCells ([60] ++ n.data.toList)) W1 ∧ Below w.heap.size w W1 ∧ w.heap.size < W1.heap.size) :=
    ⟨by rw [← List.nil_append ([60] ++ n.data.toList), Lib.byteCells_append, ← bs_data ([60] ++ n.data.toList), ← strCells_byte]; exact Or.inr g1, Below.trans (b := w.alloc (.cells #[.pointer none, .slice none 0 0] 67)) ((Below.refl _ w).alloc (Nat.le_refl _) _) g2, by have := g2.size; simp at this; omega⟩
  clear g1 g2 g3 HS
  go_wp2_with fail
  go_loopw [14] (fun iv wr => ∃ (k : Nat) (acc : List UInt8), iv = .int .i64 k ∧ k ≤ al.length ∧ Hid (Lib.IsBuilderF 67 5 w.heap.size w.heap.size (Lib.byteCells acc) wr ∧ Below w.heap.size w wr ∧ w.heap.size < wr.heap.size) ∧ Hid (True → acc ++ (al.drop k).flatMap attrL = R)) (fun iv _ => al.length - (RowKit.intOf iv).toNat)
  case atStart => exact ⟨0, [60] ++ n.data.toList, rfl, Nat.zero_le _, H1, HR⟩
  case round =>
    obtain ⟨k, acc, rfl, hk, HX, HK⟩ := hrel
    by_cases hkl : k < al.length
    · obtain ⟨a, ha⟩ : ∃ a, al[k]? = some a := ⟨_, List.getElem?_eq_getElem hkl⟩
      obtain ⟨b, o, rfl, hc1, hc2⟩ := HC.out k a ha
      replace hc1 := cell_low hc1 HX.out.2.1 (cell_block hc1)
      replace hc2 := cell_low hc2 HX.out.2.1 (cell_block hc2)
      have hab := bulkA_get ha
      have hd := HK.out trivial
      rw [drop_at ha, List.flatMap_cons] at hd
      have hdl := congrArg List.length hd
      have hRl := HRL.out
      have hBl := HB.out
      simp only [List.length_append] at hdl
      have hp : (attrL a).length = 4 + a.1.length + (escL true a.2).length := by
        unfold attrL
        simp only [List.length_append, List.length_cons, List.length_nil]
        omega
      have hal : acc.length + (attrL a).length ≤ 700000001 := by omega
      have ct := fun W hW => wrText_any (bs a.2) m W (by rw [bs_size]; omega) hW
      have cq := fun W hW => repl_any (bs (escL false a.2)) [34] quotE m W (by rw [bs_size]; have := esc_len false _ a.2 (Nat.le_refl _); omega) hW (by decide) (by decide)
      rw [bs_data] at ct cq
      rw [value_eq] at cq
      obtain ⟨E1, hE1⟩ : ∃ E1, bs (escL false a.2) = E1 := ⟨_, rfl⟩
      obtain ⟨E2, hE2⟩ : ∃ E2, bs (escL true a.2) = E2 := ⟨_, rfl⟩
      obtain ⟨S1, hS1⟩ : ∃ S, bs a.1 = S := ⟨_, rfl⟩
      obtain ⟨S2, hS2⟩ : ∃ S, bs a.2 = S := ⟨_, rfl⟩
      have hst := attr_str a S1
      rw [hE1] at ct cq
      rw [hE2] at cq hst
      rw [hS2] at ct hc2
      rw [hS1] at hc1
      have hs1 : S1.data.toList = a.1 := by rw [← hS1]; rfl
      rw [hs1] at hst
      have hz1 : S1.size ≤ 100000000 := by rw [size_eq, hs1]; omega
      have hz2 : E2.size ≤ 1000000000 := by rw [← hE2, bs_size]; omega
      have HST := hid (fun (_ : True) => hst)
      have CT := hid ct
      have CQ := hid cq
      unfold bs quotE at CQ
      have HAL := hid hal
      have HD := hid (fun (_ : True) => hd)
      have HM1 := hid (cell_low HM.out HX.out.2.1 (cell_block HM.out))
      clear ct cq hst hE1 hE2 hS1 hS2 hs1 hd hdl hRl hBl hp hal hab ha HK HC
      have hB1 := (Below.refl wr.heap.size wr).alloc (Nat.le_refl _) (.cells #[.string S1, .string S2] 122)
      have HB1 := hid (And.intro hB1 (heap_alloc_new wr (.cells #[.string S1, .string S2] 122)))
      clear hB1
      go_wp2_with fail
      refine (CT.out _ (cell_low HM1.out HB1.out.1 (cell_block HM1.out))).mono ?_
      rintro e W2 ⟨rfl, b2⟩
      have hat2 := (b2.block _ (block_lt HB1.out.2)).trans HB1.out.2
      have m2 := cell_low (cell_low HM1.out HB1.out.1 (cell_block HM1.out)) b2 (by have := cell_block HM1.out; simp; omega)
      have hbw2 := HB1.out.1.trans (b2.mono HB1.out.1.size)
      clear b2
      go_wp2_with fail
      refine (CQ.out _ m2).mono ?_
      rintro e W3 ⟨rfl, b3⟩
      have hat3 := (b3.block _ (block_lt hat2)).trans hat2
      have c3 := cell_at hat3 (j := 0) rfl
      have hbw3 := hbw2.trans (b3.mono hbw2.size)
      have I3 := hid (And.intro (builder_below HX.out.1 hbw3) (And.intro (HX.out.2.1.trans (hbw3.mono HX.out.2.1.size)) (Nat.lt_of_lt_of_le HX.out.2.2 hbw3.size)))
      clear b3 hat2 m2 hbw2 hat3 hbw3 HX HB1
      go_wp2_with fail
      rw [HST.out trivial]
      refine (Tryz.Builder_WriteString_k w.heap.size w.heap.size (Lib.byteCells acc) (bs (attrL a)) _ I3.out.1 (by rw [Lib.byteCells_length, bs_size]; have := HAL.out; omega) (by have := I3.out.2.2; omega)).mono ?_
      rintro e W4 ⟨rfl, g1, g2, g3⟩
      have HZ : Hid (Lib.IsBuilderF 67 5 w.heap.size w.heap.size (Lib.byteCells (acc ++ attrL a)) W4 ∧ Below w.heap.size w W4 ∧ w.heap.size < W4.heap.size) :=
        ⟨by rw [Lib.byteCells_append, ← bs_data (attrL a), ← strCells_byte]; exact Or.inr g1, I3.out.2.1.trans g2, by have := g2.size; have := I3.out.2.2; omega⟩
      have HE := hid (fun (_ : True) => (by have := HD.out trivial; rwa [← List.append_assoc] at this : (acc ++ attrL a) ++ (al.drop (k + 1)).flatMap attrL = R))
      clear g1 g2 g3 I3 HST HD HAL c3 CT CQ
      go_wp2_with fail
      go_roundw
      case rel => first | exact ⟨k + 1, _, rfl, by omega, HZ, HE⟩ | ((repeat apply Exists.intro); exact ⟨⟨k + 1, _, rfl, by omega, HZ, HE⟩, rfl⟩)
      case measure => simp [RowKit.intOf]; omega
    · obtain rfl : acc = R := by
        have := HK.out trivial
        rwa [List.drop_of_length_le (by omega), List.flatMap_nil, List.append_nil] at this
      have HRL2 := HRL
      clear HK HC H1
      go_wp2_with fail
      refine (Tryz.Builder_WriteString_k w.heap.size w.heap.size (Lib.byteCells acc) (bs [62]) _ HX.out.1 (by rw [Lib.byteCells_length, bs_size]; have := HRL.out; simp; omega) (by have := HX.out.2.2; omega)).mono ?_
      rintro e W4 ⟨rfl, g1, g2, g3⟩
      have HZ : Hid (Lib.IsBuilderF 67 5 w.heap.size w.heap.size (Lib.byteCells (acc ++ [62])) W4 ∧ Below w.heap.size w W4 ∧ w.heap.size < W4.heap.size) :=
        ⟨by rw [Lib.byteCells_append, ← bs_data [62], ← strCells_byte]; exact Or.inr g1, HX.out.2.1.trans g2, by have := g2.size; have := HX.out.2.2; omega⟩
      clear g1 g2 g3 HX
      go_wp2_with fail
      refine (Tryz.Builder_String_any_k w.heap.size w.heap.size (acc ++ [62]) _ HZ.out.1 (by have := HZ.out.2.2; omega)).mono ?_
      rintro e W5 ⟨rfl, _, g2, _⟩
      have HY := hid (HZ.out.2.1.trans g2)
      clear g2 HZ
      go_wp2_with fail
      go_ret
      exact ⟨rfl, HY.out⟩
end Go.Proofs.YtcncbhbdpcpkeaaGreatDoor

/-
  strings.IndexRune and IndexAny, of the four marks of a link: their walks at every text.
-/
namespace Go.Proofs.YtcncbhbdpcpkeaaGreatDoor
open Go.RowKit Go.Lib Own

theorem decode_cont (s : ByteArray) (pos : Nat) (h : pos < s.size) (ha : 128 ≤ (s[pos]'h).toNat) : ∀ k, k < (Utf8.decode s pos).2 → ∃ hk : pos + k < s.size, 128 ≤ (s[pos + k]'hk).toNat := by
  have hg : ∀ j (hj : j < s.size), s.get! j = s[j]'hj := fun j hj => by
    show s.data[j]! = s.data[j]
    simp [getElem!_pos, hj]
  have zero : ∃ hk : pos + 0 < s.size, 128 ≤ (s[pos + 0]'hk).toNat := ⟨h, ha⟩
  have cont : ∀ k, (decide (pos + k < s.size) && ((s.get! (pos + k)).toNat / 64 == 2)) = true → ∃ hk : pos + k < s.size, 128 ≤ (s[pos + k]'hk).toNat := fun k hc => by
    rw [Bool.and_eq_true, decide_eq_true_eq, beq_iff_eq] at hc
    refine ⟨hc.1, ?_⟩
    rw [← hg _ hc.1]
    omega
  intro k hk
  have one : (k < 1) → ∃ hk : pos + k < s.size, 128 ≤ (s[pos + k]'hk).toNat := fun h1 => by
    obtain rfl : k = 0 := by omega
    exact zero
  unfold Utf8.decode at hk
  simp only [Nat.add_zero] at hk
  split at hk
  · exact one hk
  · split at hk
    · rename_i _ h2
      simp only [Bool.and_eq_true] at h2
      split at hk
      · simp only at hk
        match k, hk with
        | 0, _ => exact zero
        | 1, _ => exact cont 1 (by simpa using h2.2)
        | k + 2, hk => omega
      · exact one hk
    · split at hk
      · rename_i _ _ h3
        simp only [Bool.and_eq_true] at h3
        split at hk
        · simp only at hk
          match k, hk with
          | 0, _ => exact zero
          | 1, _ => exact cont 1 (by simpa using h3.1.2)
          | 2, _ => exact cont 2 (by simpa using h3.2)
          | k + 3, hk => omega
        · exact one hk
      · split at hk
        · rename_i _ _ _ h4
          simp only [Bool.and_eq_true] at h4
          split at hk
          · simp only at hk
            match k, hk with
            | 0, _ => exact zero
            | 1, _ => exact cont 1 (by simpa using h4.1.1.2)
            | 2, _ => exact cont 2 (by simpa using h4.1.2)
            | 3, _ => exact cont 3 (by simpa using h4.2)
            | k + 4, hk => omega
          · exact one hk
        · exact one hk

/-- a rune as it is encoded: two bytes to four, the last of 128 on -/
theorem enc_high (r : Int) (h : 128 ≤ r) (h1 : r ≤ 1114111) (h2 : ¬ (55296 ≤ r ∧ r ≤ 57343)) : ∃ l, (l = 1 ∨ l = 2 ∨ l = 3) ∧ (Utf8.encode r).size = l + 1 ∧ ∃ (hl : l < (Utf8.encode r).size), 128 ≤ ((Utf8.encode r)[l]'hl).toNat := by
  have hv : Utf8.valid r = true := by
    unfold Utf8.valid
    simp
    omega
  have h8 : ∀ n : Nat, (UInt8.ofNat (128 + n % 64)).toNat = 128 + n % 64 := fun n => by
    rw [UInt8.toNat_ofNat']
    omega
  obtain ⟨n, rfl⟩ : ∃ n : Nat, r = n := ⟨r.toNat, by omega⟩
  unfold Utf8.encode
  rw [hv]
  simp only [if_true, Int.toNat_natCast]
  split
  · omega
  · split
    · exact ⟨1, .inl rfl, rfl, Nat.lt_succ_self _, by show 128 ≤ (UInt8.ofNat (128 + n % 64)).toNat; rw [h8]; omega⟩
    · split
      · exact ⟨2, .inr (.inl rfl), rfl, Nat.lt_succ_self _, by show 128 ≤ (UInt8.ofNat (128 + n % 64)).toNat; rw [h8]; omega⟩
      · exact ⟨3, .inr (.inr rfl), rfl, Nat.lt_succ_self _, by show 128 ≤ (UInt8.ofNat (128 + n % 64)).toNat; rw [h8]; omega⟩
def marksB : ByteArray := ⟨#[58, 47, 63, 35]⟩
set_option maxHeartbeats 2000000 in
set_option maxRecDepth 100000 in
theorem idxRune_high (r : Int) (w : World) (h0 : 128 ≤ r) (h1 : r ≤ 1114111) (h2 : ¬ (55296 ≤ r ∧ r ≤ 57343)) (h3 : r ≠ 65533) :
    Calls Tryz.prog 270 #[.string marksB, .int .i32 r] w fun e w' => e = .returned (.int .i64 (-1)) ∧ Below w.heap.size w w' := by
  have q1 : ¬ r < 128 := by omega
  have q2 : (0 : Int) ≤ r := by omega
  have q3 : (r == 65533) = false := beq_eq_false_iff_ne.2 h3
  have hvr : ∀ W, Calls Tryz.prog 283 #[.int .i32 r] W fun e w' => e = .returned (.bool true) ∧ w' = W := by
    intro W
    by_cases h4 : r < 55296
    · clear h2 h3 q3
      go_enter Tryz.func283, Tryz.ntmps283
      go_wp2_with fail
      go_ret
      exact ⟨rfl, rfl⟩
    · have h5 : 57343 < r := by omega
      clear h2 h3 q3
      go_enter Tryz.func283, Tryz.ntmps283
      go_wp2_with fail
      go_ret
      exact ⟨rfl, rfl⟩
  have HVR := hid hvr
  obtain ⟨l, hl, hsz, hlt, hb⟩ := enc_high r h0 h1 h2
  obtain ⟨E, hE⟩ : ∃ E, Utf8.encode r = E := ⟨_, rfl⟩
  have hbE : ∃ (hl : l < E.size), 128 ≤ (E[l]'hl).toNat := by subst hE; exact ⟨hlt, hb⟩
  have hszE : E.size = l + 1 := by rw [← hE]; exact hsz
  clear hvr h2 h3 hsz hb hlt
  obtain ⟨hlt, hb⟩ := hbE
  obtain ⟨c, hc⟩ : ∃ c, E[l]'hlt = c := ⟨_, rfl⟩
  rw [hc] at hb
  have hcu := UInt8.toNat_lt c
  have d1 : ((((⟨#[58, 47, 63, 35]⟩ : ByteArray)[1]'(by decide)).toNat : Int) != (c.toNat : Int)) = true := bne_iff_ne.2 (by show (47 : Int) ≠ _; omega)
  have d2 : ((((⟨#[58, 47, 63, 35]⟩ : ByteArray)[2]'(by decide)).toNat : Int) != (c.toNat : Int)) = true := bne_iff_ne.2 (by show (63 : Int) ≠ _; omega)
  have d3 : ((((⟨#[58, 47, 63, 35]⟩ : ByteArray)[3]'(by decide)).toNat : Int) != (c.toNat : Int)) = true := bne_iff_ne.2 (by show (35 : Int) ≠ _; omega)
  have hib : ∀ s W, 128 ≤ c.toNat → s.data.toList.contains c = false → Calls Tryz.prog 190 #[.string s, .int .u8 (c.toNat : Int)] W fun e w' => e = .returned (.int .i64 (-1)) ∧ w' = W := by
    intro s W _ h
    have h1 := Tryz.strings_IndexByte s (c.toNat : Int) W
    have hback : ((c.toNat : Int)).toNat.toUInt8 = c := by simp
    rw [hback] at h1
    have h2 := Lib.contains_iff_indexByte s.data.toList c
    rw [h] at h2
    have h3 := Lib.indexByte_ge s.data.toList c
    have h4 : Lib.indexByte s.data.toList c = -1 := by have := of_decide_eq_false h2.symm; omega
    rw [h4] at h1
    exact h1
  have hno : ∀ L : List UInt8, (∀ x ∈ L, x.toNat < 128) → L.contains c = false := fun L h => by
    rw [Bool.eq_false_iff]
    intro h2
    have := h c (List.contains_iff_mem.1 h2)
    omega
  have HIB := hid hib
  have HNO := hid hno
  have y2 : IntKind.i64.wrap 2 = 2 := by decide
  have y3 : IntKind.i64.wrap 3 = 3 := by decide
  have y4 : IntKind.i64.wrap 4 = 4 := by decide
  clear hib hno
  unfold marksB
  rcases hl with rfl | rfl | rfl
  · go_enter Tryz.func270, Tryz.ntmps270
    go_wp2_with fail
    refine (HVR.out _).mono ?_
    rintro e w1 ⟨rfl, rfl⟩
    go_wp2_with fail
    go_step3
    go_wp2_with fail
    go_loopw [4, 9, 10, 11, 12] (fun _ a _ _ _ wr => a = .int .i64 1 ∧ wr = w1) (fun _ _ _ _ _ _ => 0)
    case atStart => exact ⟨rfl, rfl⟩
    case round =>
      obtain ⟨rfl, rfl⟩ := hrel
      go_wp2_with fail
      go_step3
      go_wp2_with fail
      go_quiet (fail)
      go_wp2_with fail
      obtain ⟨w5, hw5⟩ : ∃ W, wr.drewN nq = W := ⟨_, rfl⟩
      have hb5 : Below wr.heap.size wr w5 := by rw [← hw5]; exact below_drewN (Below.refl _ _) nq
      simp only [hw5]
      clear hw5
      go_quiet (first | (go_at_call 190; refine Calls.quiet_of_same (HIB.out _ _ hb (HNO.out _ ?_)); decide +kernel))
      go_wp2_with fail
      simp (config := { zetaDelta := true }) only [Exit.noGoto_ret, Exit.inBlock, Exit.then]
      go_ret
      exact ⟨rfl, below_drewN hb5 _⟩
  · go_enter Tryz.func270, Tryz.ntmps270
    go_wp2_with fail
    refine (HVR.out _).mono ?_
    rintro e w1 ⟨rfl, rfl⟩
    go_wp2_with fail
    go_step3
    go_wp2_with fail
    go_loopw [4, 9, 10, 11, 12] (fun _ a _ _ _ wr => a = .int .i64 2 ∧ wr = w1) (fun _ _ _ _ _ _ => 0)
    case atStart => exact ⟨rfl, rfl⟩
    case round =>
      obtain ⟨rfl, rfl⟩ := hrel
      go_wp2_with fail
      go_step3
      go_wp2_with fail
      go_quiet (fail)
      go_wp2_with fail
      obtain ⟨w5, hw5⟩ : ∃ W, wr.drewN nq = W := ⟨_, rfl⟩
      have hb5 : Below wr.heap.size wr w5 := by rw [← hw5]; exact below_drewN (Below.refl _ _) nq
      simp only [hw5]
      clear hw5
      go_quiet (first | (go_at_call 190; refine Calls.quiet_of_same (HIB.out _ _ hb (HNO.out _ ?_)); decide +kernel))
      go_wp2_with fail
      simp (config := { zetaDelta := true }) only [Exit.noGoto_ret, Exit.inBlock, Exit.then]
      go_ret
      exact ⟨rfl, below_drewN hb5 _⟩
  · go_enter Tryz.func270, Tryz.ntmps270
    go_wp2_with fail
    refine (HVR.out _).mono ?_
    rintro e w1 ⟨rfl, rfl⟩
    go_wp2_with fail
    go_step3
    go_wp2_with fail
    go_loopw [4, 9, 10, 11, 12] (fun _ a _ _ _ wr => a = .int .i64 3 ∧ wr = w1) (fun _ _ _ _ _ _ => 0)
    case atStart => exact ⟨rfl, rfl⟩
    case round =>
      obtain ⟨rfl, rfl⟩ := hrel
      go_wp2_with fail
      go_step3
      go_wp2_with fail
      go_quiet (fail)
      go_wp2_with fail
      obtain ⟨w5, hw5⟩ : ∃ W, wr.drewN nq = W := ⟨_, rfl⟩
      have hb5 : Below wr.heap.size wr w5 := by rw [← hw5]; exact below_drewN (Below.refl _ _) nq
      simp only [hw5]
      clear hw5
      go_quiet (first | (go_at_call 190; refine Calls.quiet_of_same (HIB.out _ _ hb (HNO.out _ ?_)); decide +kernel))
      go_wp2_with fail
      simp (config := { zetaDelta := true }) only [Exit.noGoto_ret, Exit.inBlock, Exit.then]
      go_ret
      exact ⟨rfl, below_drewN hb5 _⟩
set_option maxHeartbeats 2000000 in
set_option maxRecDepth 100000 in
theorem idxRune_bad (w : World) :
    Calls Tryz.prog 270 #[.string marksB, .int .i32 65533] w fun e w' => e = .returned (.int .i64 (-1)) ∧ Below w.heap.size w w' := by
  unfold marksB
  have y2 : IntKind.i64.wrap 2 = 2 := by decide
  go_enter Tryz.func270, Tryz.ntmps270
  go_wp2_with fail
  go_loopg [4, 5, 6] 4 (fun g _ _ _ wx => ∃ i : Nat, i + g = 4 ∧ wx = w.iter ⟨#[58, 47, 63, 35]⟩ i)
  case atStart => exact ⟨0, rfl, rfl⟩
  case round =>
    obtain ⟨i, hig, rfl⟩ := hrel
    cases gk with
    | zero =>
      obtain rfl : i = 4 := by omega
      have hnx := run_next_end (P := Tryz.prog) w ⟨#[58, 47, 63, 35]⟩ 4
      go_wp2
      go_ret
      exact ⟨rfl, (Below.refl _ w).alloc (Nat.le_refl _) _⟩
    | succ g =>
      have hi : i < (⟨#[58, 47, 63, 35]⟩ : ByteArray).size := by show i < 4; omega
      have h128 : ((⟨#[58, 47, 63, 35]⟩ : ByteArray)[i]'hi).toNat < 128 := by
        match i, hi with
        | 0, _ => show (58 : Nat) < 128; decide
        | 1, _ => show (47 : Nat) < 128; decide
        | 2, _ => show (63 : Nat) < 128; decide
        | 3, _ => show (35 : Nat) < 128; decide
        | k + 4, h => exact absurd h (by show ¬ k + 4 < 4; omega)
      have hnx := fun ty => run_next_ascii (P := Tryz.prog) w ⟨#[58, 47, 63, 35]⟩ i ty hi h128
      obtain ⟨x, hx⟩ : ∃ x : Nat, ((⟨#[58, 47, 63, 35]⟩ : ByteArray)[i]'hi).toNat = x := ⟨_, rfl⟩
      rw [hx] at hnx h128
      have q : ((x : Int) == 65533) = false := beq_eq_false_iff_ne.2 (by omega)
      clear hx
      go_wp2
      go_roundg g
      case measure => omega
      case rel => exact ⟨i + 1, by omega, rfl⟩
end Go.Proofs.YtcncbhbdpcpkeaaGreatDoor
