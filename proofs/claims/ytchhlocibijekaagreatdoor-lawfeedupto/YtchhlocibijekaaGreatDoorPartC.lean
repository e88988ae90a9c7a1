/-
  Parts of the walk, joined: Unref, Row, Own, RefUnref, Lex, LexCut, LexRun, LexWhole, LexEv, LexByte, LexName, Lower.
-/
import Derived.Test.YtchhlocibijekaaGreatDoorPartB
import Derived.Lib.AppendStr
import Derived.Lib.FrozenHead
import Derived.Lib.ConvBytes
import Derived.Lib.SlBytesConst
import Derived.Laws.IdiomStrings
import Derived.Test.YtchhlocibijekaaGreatDoorPartA
import Derived.Lib.BufferWrite
import Derived.BigQuiet
import Derived.Laws.Tables
/-
  chars.Unref: its walk.
-/
namespace Go.Proofs.YtchhlocibijekaaGreatDoor
open Go.RowKit Go.Lib

theorem fold_range (L : List UInt8) : ∀ (T : List (List UInt8 × Int)), (∀ t ∈ T, 0 ≤ t.2 ∧ t.2 ≤ 9000) → ∀ a : Nat × Int, 0 ≤ a.2 ∧ a.2 ≤ 9000 → 0 ≤ (T.foldl (step1 L) a).2 ∧ (T.foldl (step1 L) a).2 ≤ 9000
  | [], _, _, h => h
  | t :: T, hT, a, h => by
    rw [List.foldl_cons]
    refine fold_range L T (fun u hu => hT u (.tail _ hu)) _ ?_
    unfold step1
    split
    · exact hT t (.head _)
    · exact h
theorem name_range (L : List UInt8) : 0 ≤ (nameL L).2 ∧ (nameL L).2 ≤ 9000 := by
  have h := fold_range L (eitherT ++ closedT) (by decide +kernel) (0, 0) (by decide)
  have hsh : ∀ a : Nat × Int, (shut1 L a).2 = a.2 := fun a => by
    unfold shut1
    split <;> rfl
  have e : (nameL L).2 = (name1 L (eitherT ++ closedT)).2 := hsh _
  rw [e]
  exact h
theorem ref_range (attr : Bool) (L : List UInt8) : 0 ≤ (refL attr L).2 ∧ (refL attr L).2 ≤ 1114111 ∧ ¬ (55296 ≤ (refL attr L).2 ∧ (refL attr L).2 ≤ 57343) := by
  unfold refL
  split
  · unfold numL
    split
    · simp
    · exact numb_good _ (by omega)
  · split
    · simp
    · have := name_range L
      omega
theorem ref_le (attr : Bool) (L : List UInt8) : (refL attr L).1 ≤ L.length := by
  unfold refL
  split
  · have h1 : ∀ N : List UInt8, (numL N).1 ≤ N.length := by
      intro N
      unfold numL
      split
      · exact Nat.zero_le _
      · rename_i hd
        have h2 : fromN N + (digsN N).length ≤ N.length := by
          have h3 := (List.takeWhile_prefix (p := digN N) (l := N.drop (fromN N))).length_le
          have h4 : 0 < (digsN N).length := List.length_pos_iff.2 hd
          unfold digsN at h4 ⊢
          rw [List.length_drop] at h3
          omega
        split
        · rename_i h59
          have := (List.getElem?_eq_some_iff.1 h59).1
          simp only
          omega
        · simp only
          omega
    have := h1 (L.take 31)
    rw [List.length_take] at this
    omega
  · split
    · exact Nat.zero_le _
    · exact name_le L

def strLen : Value → Nat
  | .string s => s.size
  | _ => 0
theorem strCells_byte (t : ByteArray) : Lib.strCells t = Lib.byteCells t.data.toList := by
  rfl

theorem rangeAt_low {w w' : World} {b o : Nat} {cs : List Value} (h : w.rangeAt b o cs) (hb : Below w.heap.size w w') : w'.rangeAt b o cs := rangeAt_below h hb
theorem builder_new (w : World) (T e : TypeId) : Lib.IsBuilderF T e w.heap.size w.heap.size (Lib.byteCells []) (w.alloc (.cells #[.pointer none, .slice none 0 0] T)) :=
  Lib.IsBuilderF.of (Or.inl ⟨Nat.le_refl _, .slice none 0 0, heap_alloc_new w _, World.ownsRow_nil _ _ _ _, by simp [Value.ownBlock]⟩)
/-- what holds between two rounds -/
def UnrAt (attr : Bool) (t : ByteArray) (acc R : List UInt8) : Prop := acc ++ unr attr t.data.toList = R

set_option maxHeartbeats 4000000 in
set_option maxRecDepth 100000 in
theorem unref_any (s : ByteArray) (attr : Bool) (m : Int) (w : World) (hs : s.size ≤ 10000000) (hT : ChTabs w) (hm : w.cell? ⟨5, 0, none⟩ = some (.int .i64 m)) :
    Calls Tryz.prog 34 #[.string s, .bool attr] w fun e w' => e = .returned (.string ⟨(unr attr s.data.toList).toArray⟩) ∧ Below w.heap.size w w' := by
  obtain ⟨R, hR⟩ : ∃ R, unr attr s.data.toList = R := ⟨_, rfl⟩
  rw [hR]
  have HR : UnrAt attr s [] R := hR
  clear hR
  have HT := hid hT
  have HM := hid hm
  clear hT hm
  go_enter Tryz.func34, Tryz.ntmps34
  go_wp2
  go_loopw [0] (fun sv wr => ∃ (t : ByteArray) (acc : List UInt8), sv = .string t ∧ Lib.IsBuilderF 39 5 w.heap.size w.heap.size (Lib.byteCells acc) wr ∧ Below w.heap.size w wr ∧ w.heap.size < wr.heap.size ∧ acc.length + 4 * t.size ≤ 4 * s.size ∧ UnrAt attr t acc R) (fun sv _ => strLen sv)
  case atStart => exact ⟨s, [], rfl, builder_new w _ _, (Below.refl _ w).alloc (Nat.le_refl _) _, by simp, by simp, HR⟩
  case round =>
    obtain ⟨t, acc, rfl, hI, hbw, hwz, hal, HA⟩ := hrel
    have hm1 : wr.cell? ⟨5, 0, none⟩ = some (.int .i64 m) := by
      have hc := HM.out
      have := hbw.block _ (cell_block hc)
      unfold World.cell? at hc ⊢
      rw [this]
      exact hc
    have HT1 : ChTabs wr := HT.out.below hbw
    have hcut := Tryz.strings_Cut t ⟨#[38]⟩ m wr (by omega) hm1
    rw [show (⟨#[38]⟩ : ByteArray).data.toList = [38] from rfl] at hcut
    rcases cut_amp t.data.toList with ⟨h1, h2⟩ | ⟨a, b, h1, h2, h3⟩
    · rw [h1] at hcut
      have ht : (⟨t.data.toList.toArray⟩ : ByteArray) = t := rfl
      simp only at hcut
      rw [ht, show (⟨([] : List UInt8).toArray⟩ : ByteArray) = ⟨#[]⟩ from rfl] at hcut
      have hfin : acc ++ t.data.toList = R := by
        have := unr_ahead attr t.data.toList [] h2
        rw [List.append_nil, unr_nil, List.append_nil] at this
        rw [← this]
        exact HA
      have HC := hid (fun (_ : True) => hcut)
      have HF := hid (fun (_ : True) => hfin)
      clear hcut h1 h2 ht hfin HA HT1 hm1 HM HT
      go_wp2_with (go_at_call 62; refine (HC.out trivial).mono ?_; rintro e W1 ⟨rfl, nd, rfl⟩)
      go_wp2_with (go_at_call 63; refine (Tryz.Builder_WriteString_k w.heap.size w.heap.size (Lib.byteCells acc) t _ (by exact hI) (by rw [Lib.byteCells_length]; omega) (by simp; omega)).mono ?_; rintro e W2 ⟨rfl, g1, g2, g3⟩)
      have hI2 : Lib.IsBuilderF 39 5 w.heap.size w.heap.size (Lib.byteCells R) W2 := by
        have := HF.out trivial
        rw [← this, Lib.byteCells_append, ← strCells_byte]
        exact Or.inr g1
      have hb2 : Below w.heap.size w W2 := Below.trans (b := wr) hbw ⟨g2.os, g2.tape, g2.output, g2.size, g2.block⟩
      clear g1 g2 g3 HF
      go_wp2_with (go_at_call 48; refine (Tryz.Builder_String_any_k w.heap.size w.heap.size R _ hI2 (by have := hb2.size; omega)).mono ?_; rintro e W3 ⟨rfl, _, g2, _⟩)
      go_ret
      exact ⟨rfl, hb2.trans g2⟩
    · rw [h3] at hcut
      obtain ⟨ta, hta⟩ : ∃ ta : ByteArray, (⟨a.toArray⟩ : ByteArray) = ta := ⟨_, rfl⟩
      obtain ⟨tb, htb⟩ : ∃ tb : ByteArray, (⟨b.toArray⟩ : ByteArray) = tb := ⟨_, rfl⟩
      simp only at hcut
      rw [hta, htb] at hcut
      have hal2 : ta.data.toList = a := by rw [← hta]
      have hbl2 : tb.data.toList = b := by rw [← htb]
      have haz : ta.size = a.length := by rw [size_eq, hal2]
      have hbz : tb.size = b.length := by rw [size_eq, hbl2]
      have htz : t.size = a.length + 1 + b.length := by rw [size_eq, h1]; simp; omega
      have hfr := fun W hTW => findRef_any tb attr W (by omega) hTW
      have hle := ref_le attr b
      have hrg := ref_range attr b
      have hone : oneL attr b = if (refL attr b).1 = 0 then [38] else encodeRune (refL attr b).2 := rfl
      have hnext : acc ++ a ++ oneL attr b ++ unr attr (b.drop (refL attr b).1) = R := by
        have h4 := unr_ahead attr a (38 :: b) h2
        rw [← h1, unr_amp] at h4
        have : acc ++ unr attr t.data.toList = R := HA
        rw [h4] at this
        rw [← this]
        simp
      rw [hbl2] at hfr
      rw [hone] at hnext
      obtain ⟨q, hq⟩ : ∃ q, refL attr b = q := ⟨_, rfl⟩
      rw [hq] at hfr hle hrg hnext
      obtain ⟨n, c⟩ := q
      simp only at hfr hle hrg hnext
      have HC := hid (fun (_ : True) => hcut)
      have HF := hid hfr
      have HX := hid (fun (_ : True) => hnext)
      have HL := hid (fun (_ : True) => hbl2)
      have HAL := hid (fun (_ : True) => hal2)
      clear hcut h1 h2 h3 hq hfr hnext hone HA hta htb hal2 hbl2
      obtain ⟨hc0, hc1, hc2⟩ := hrg
      go_wp2_with (go_at_call 62; refine (HC.out trivial).mono ?_; rintro e W1 ⟨rfl, nd, rfl⟩)
      go_wp2_with (go_at_call 63; refine (Tryz.Builder_WriteString_k w.heap.size w.heap.size (Lib.byteCells acc) ta _ (by exact hI) (by rw [Lib.byteCells_length]; omega) (by simp; omega)).mono ?_; rintro e W2 ⟨rfl, g1, g2, g3⟩)
      have hI2 : Lib.IsBuilderF 39 5 w.heap.size w.heap.size (Lib.byteCells (acc ++ a)) W2 := by
        rw [Lib.byteCells_append, ← HAL.out trivial, ← strCells_byte]
        exact Or.inr g1
      have hb2 : Below w.heap.size w W2 := Below.trans (b := wr) hbw ⟨g2.os, g2.tape, g2.output, g2.size, g2.block⟩
      have hz2 : w.heap.size < W2.heap.size := by have := g2.size; simp at this; omega
      have HT2 : ChTabs W2 := HT.out.below hb2
      clear g1 g2 g3
      have hdrop : (tb.extract n b.length).data.toList = tb.data.toList.drop n := by rw [← hbz]; exact extract_to_end tb n
      have hdz : (tb.extract n b.length).size = b.length - n := by rw [size_eq, hdrop, List.length_drop, ← size_eq, hbz]
      by_cases hn : n = 0
      · subst hn
        go_wp2_with (go_at_call 64; refine (HF.out _ HT2).mono ?_; rintro e W3 ⟨rfl, b3⟩)
        have hI3 := builder_below hI2 b3
        have hb3 := hb2.trans (b3.mono (by omega))
        have hz3 : w.heap.size < W3.heap.size := by have := b3.size; omega
        clear b3 hI2 hb2
        go_wp2_with (go_at_call 65; refine (Tryz.Builder_WriteByte_k w.heap.size w.heap.size (Lib.byteCells (acc ++ a)) 38 _ hI3 (by rw [Lib.byteCells_length, List.length_append]; omega) (by omega)).mono ?_; rintro e W4 ⟨rfl, g1, g2, g3⟩)
        go_roundw
        case rel =>
          refine ⟨tb.extract 0 b.length, acc ++ a ++ [38], rfl, ?_, hb3.trans g2, by have := g2.size; omega, ?_, ?_⟩
          · rw [Lib.byteCells_append]; exact Or.inr g1
          · rw [hdz]; simp only [List.length_append, List.length_singleton]; omega
          · have := HX.out trivial
            rw [if_pos trivial] at this
            unfold UnrAt
            rw [hdrop, HL.out trivial]
            exact this
        case measure => simp only [strLen]; rw [hdz]; omega
      · have qn : ((n : Int) == 0) = false := beq_eq_false_iff_ne.2 (by omega)
        go_wp2_with (go_at_call 64; refine (HF.out _ HT2).mono ?_; rintro e W3 ⟨rfl, b3⟩)
        have hI3 := builder_below hI2 b3
        have hb3 := hb2.trans (b3.mono (by omega))
        have hz3 : w.heap.size < W3.heap.size := by have := b3.size; omega
        clear b3 hI2 hb2
        go_wp2_with (go_at_call 66; refine (Tryz.Builder_WriteRune_k w.heap.size w.heap.size (Lib.byteCells (acc ++ a)) c (by omega) (by omega) _ hI3 (by rw [Lib.byteCells_length, List.length_append]; omega) (by omega)).mono ?_; rintro e W4 ⟨rfl, g1, g2, g3⟩)
        go_roundw
        case rel =>
          have hl4 := Lib.runeCells_le c
          rw [Lib.runeCells_length] at hl4
          refine ⟨tb.extract n b.length, acc ++ a ++ encodeRune c, rfl, ?_, hb3.trans g2, by have := g2.size; omega, ?_, ?_⟩
          · rw [Lib.byteCells_append, Lib.byteCells_encodeRune]; exact Or.inr g1
          · rw [hdz]; simp only [List.length_append]; omega
          · have := HX.out trivial
            rw [if_neg hn] at this
            unfold UnrAt
            rw [hdrop, HL.out trivial]
            exact this
        case measure => simp only [strLen]; rw [hdz]; omega
end Go.Proofs.YtchhlocibijekaaGreatDoor

/-
  A row of bytes that the call owns and that a conversion has marked behind its end: appending a text to it.
-/
namespace Go.Proofs.YtchhlocibijekaaGreatDoor
open Go.Lib Go.RowKit
variable {P : Program}

/-- block g holds the cells xs, of cap places, none of them frozen -/
def ownsN (w : World) (e : TypeId) (g n cap : Nat) (xs : List Value) : Prop :=
  ∃ cur fz, w.heap[g]? = some (.cells cur e fz) ∧ (cap ≤ fz.1 ∨ fz = (0, 0)) ∧ n ≤ cap ∧ cap ≤ maxLen ∧ cur.size = cap ∧ xs.length = n ∧ cur.toList.take n = xs

theorem ownsN.lt {w : World} {e : TypeId} {g n cap : Nat} {xs : List Value} (h : ownsN w e g n cap xs) : g < w.heap.size := by
  obtain ⟨cur, fz, hg, _⟩ := h
  exact (Array.getElem?_eq_some_iff.1 hg).1
theorem ownsN.kept {w w' : World} {e : TypeId} {g n cap : Nat} {xs : List Value} (h : ownsN w e g n cap xs) (hk : w'.heap[g]? = w.heap[g]?) : ownsN w' e g n cap xs := by
  obtain ⟨cur, fz, hg, r⟩ := h
  exact ⟨cur, fz, hk.trans hg, r⟩
theorem ownsN.cell {w : World} {e : TypeId} {g n cap : Nat} {xs : List Value} (h : ownsN w e g n cap xs) (j : Nat) (hj : j < n) : w.cell? ⟨g, j, none⟩ = xs[j]? := by
  obtain ⟨cur, fz, hg, _, _, _, hc, hl, ht⟩ := h
  rw [← ht, List.getElem?_take, if_pos hj]
  simp [World.cell?, hg]

theorem run_storeCells_marked (P : Program) (g o : Nat) (t : TypeId) (fz : Nat × Nat) : ∀ (vs : List Value) (i : Nat) (cur : Array Value) (w : World), w.heap[g]? = some (.cells cur t fz) → (cur.size ≤ fz.1 ∨ fz = (0, 0)) → o + i + vs.length ≤ cur.size → (∀ v ∈ vs, v.oneCell' = true) →
    (storeCells ⟨g, o, none⟩ vs i).run P w = .ok () (w.setRow g (cur.toList.take (o + i) ++ vs ++ cur.toList.drop (o + i + vs.length)).toArray)
  | [], i, cur, w, hg, _, _, _ => by
    simp only [storeCells, List.append_nil, List.length_nil, Nat.add_zero, List.take_append_drop, Array.toArray_toList]
    rw [setRow_self w g cur t fz hg]
    rfl
  | v :: rest, i, cur, w, hg, hfz, hl, h1 => by
    have hi : o + i < cur.size := by simp at hl; omega
    have hadd : (⟨g, o, none⟩ : Addr).add i = ⟨g, o + i, none⟩ := by unfold Addr.add; split <;> simp_all
    have hcell : w.cell? ⟨g, o + i, none⟩ = some cur[o + i] := by simp [World.cell?, hg, hi]
    have hfro : w.frozen? ⟨g, o + i, none⟩ = false := by
      obtain ⟨lo, hi'⟩ := fz
      simp only [World.frozen?, hg, Bool.and_eq_false_iff, decide_eq_false_iff_not]
      rcases hfz with hfz | hfz
      · left; simp only at hfz; omega
      · right; simp only [Prod.mk.injEq] at hfz; omega
    have hst : (store ((⟨g, o, none⟩ : Addr).add i) v).run P w = .ok () (w.setRow g (cur.setIfInBounds (o + i) v)) := by
      rw [hadd, run_store P w _ v _ (h1 v (by simp)), hcell]
      simp [hfro, setCell_eq_setRow w g (o + i) cur t fz v hg]
    have ih := run_storeCells_marked P g o t fz rest (i + 1) (cur.setIfInBounds (o + i) v) (w.setRow g (cur.setIfInBounds (o + i) v)) (setRow_heap w g cur _ t _ hg) (by simpa using hfz) (by simp at hl ⊢; omega) (fun x hx => h1 x (by simp [hx]))
    simp only [storeCells, Sem.run_bind, hst, Result.andThen_ok, ih, setRow_setRow]
    congr 3
    have e := list_seg_step cur.toList (o + i) v rest (by simp at hl ⊢; omega)
    simpa [Array.toList_setIfInBounds, Nat.add_assoc] using e

/-- appending a text: some row holds both, and no other block has turned -/
theorem run_append_marked (w : World) (t u ty e : TypeId) (i : TypeInfo) (ht : P.underlying t = some (.slice e)) (hu : P.underlying u = some .string) (hi : P.info? e = some i) (hz : i.zero = some (.int .u8 0))
    (hsize : i.size = 1) (hby : i.bytes = 1) (g n cap : Nat) (xs : List Value) (hown : ownsN w e g n cap xs) (s : ByteArray) (hbytes : n + s.size ≤ 140737488355328) :
    ∃ g' cap' w', (Builtin.append_ #[t, u] ty #[.slice (some ⟨g, 0, none⟩) n cap, .string s]).run P w = .ok (.slice (some ⟨g', 0, none⟩) (n + s.size) cap') w' ∧
      ownsN w' e g' (n + s.size) cap' (xs ++ strCells s) ∧ w.grownBy w' (some g) ∧ (g' = g ∨ g' = w.heap.size) := by
  have h63 : n + s.size ≤ maxLen := by unfold maxLen; omega
  obtain ⟨cur, fz, hg, hfz, hnc, hcm, hcs, hxl, htake⟩ := hown
  have hlen : (xs ++ strCells s).length = n + s.size := by rw [List.length_append, hxl, strCells_length]
  by_cases hroom : n + s.size ≤ cap
  · have hf := run_firstCells_string (P := P) w 1 s
    have hst := run_storeCells_marked P g n e fz (strCells s) 0 cur w hg (by rw [hcs]; exact hfz) (by simp [strCells_length]; omega) (strCells_oneCell s)
    simp only [Nat.add_zero, strCells_length] at hst
    refine ⟨g, cap, w.setRow g (cur.toList.take n ++ strCells s ++ cur.toList.drop (n + s.size)).toArray, ?_, ⟨_, fz, setRow_heap w g cur _ e _ hg, hfz, hroom, hcm, ?_, hlen, ?_⟩, ⟨rfl, rfl, rfl, by simp, fun k _ hk => setRow_other w g k _ (fun e => hk (by rw [e]))⟩, Or.inl rfl⟩
    · simp [Builtin.append_, run_underlying ht, run_underlying hu, sizeOf, typeInfo, hi, hsize, Builtin.lenOf, hroom, hf, Addr.add_lit, hst]
    · simp only [List.size_toArray, List.length_append, List.length_take, List.length_drop, Array.length_toList, strCells_length]
      omega
    · rw [htake, ← hlen]
      exact List.take_left
  · have holds : ∀ j u, xs[j]? = some u → w.cell? ((⟨g, 0, none⟩ : Addr).add j) = some u := by
      intro j u hj
      have hjn : j < n := by rw [← hxl]; exact (List.getElem?_eq_some_iff.1 hj).1
      have := ownsN.cell ⟨cur, fz, hg, hfz, hnc, hcm, hcs, hxl, htake⟩ j hjn
      have hadd : (⟨g, 0, none⟩ : Addr).add j = ⟨g, j, none⟩ := by unfold Addr.add; split <;> simp_all
      rw [hadd, this, hj]
    have hr := run_append_grow_string (P := P) w t u ty e i (.int .u8 0) ht hu hi hz ⟨g, 0, none⟩ n cap xs (by rw [hsize]; simpa using hxl) holds s (by omega) (by omega) (by rw [hby]; exact growslice_fits (by omega) (by omega))
    have hge := grownCap_ge w (n + s.size) cap e
    have hcm2 := grownCap_le_maxLen w (n + s.size) cap e h63
    refine ⟨_, _, _, hr, ⟨_, (0, 0), heap_alloc_new w.drew _, Or.inr rfl, hge, hcm2, ?_, hlen, ?_⟩, ⟨rfl, rfl, rfl, by simp, fun k hk _ => by first | exact heap_alloc_old w.drew _ k hk | exact heap_alloc_old w.drew _ hk⟩, Or.inr rfl⟩
    · have hz1 : (Value.int IntKind.u8 0).cells.size = 1 := rfl
      simp only [Array.size_append, List.size_toArray, size_zeroCells, hz1, hxl, strCells_length]
      omega
    · simp only [Array.toList_append, List.append_assoc]
      rw [← List.append_assoc, ← hlen]
      exact List.take_left

theorem wpList_append_marked (w : World) {ops : Array Oper} {rest : List Oper} {o : Oper} {a : Act} {Q : Exit → Act → World → Prop} (hgd : o.guard = none) (sl x : Operand) (t u : TypeId)
    (ho : o.op = .call { callee := .builtin .append, args := #[sl, x], argTypes := #[t, u] })
    (e : TypeId) (i : TypeInfo) (ht : P.underlying t = some (.slice e)) (hu : P.underlying u = some .string) (hi : P.info? e = some i) (hz : i.zero = some (.int .u8 0))
    (hsize : i.size = 1) (hby : i.bytes = 1) (g n cap : Nat) (xs : List Value) (hs : a.eval sl = .slice (some ⟨g, 0, none⟩) n cap) (hown : ownsN w e g n cap xs) (s : ByteArray) (hx : a.eval x = .string s)
    (hbytes : n + s.size ≤ 140737488355328)
    (h : ∀ g' cap' w', ownsN w' e g' (n + s.size) cap' (xs ++ strCells s) → w.grownBy w' (some g) → (g' = g ∨ g' = w.heap.size) → wpList P ops Q rest (a.put o.dst (.slice (some ⟨g', 0, none⟩) (n + s.size) cap')) w') : wpList P ops Q (o :: rest) a w := by
  refine wpList_plain hgd fun K hK => ?_
  obtain ⟨g', cap', w', hr, h2, h3, h4⟩ := run_append_marked (P := P) w t u o.type e i ht hu hi hz hsize hby g n cap xs hown s hbytes
  unfold Oper.wp execOp
  simp only [ho, resolve, invoke, builtin, Sem.run_bind, Sem.run_pure, Result.andThen_ok, List.map_toArray, List.map_cons, List.map_nil, hs, hx, hr]
  exact hK _ _ (h g' cap' w' h2 h3 h4)

/-- what a conversion of a text makes -/
theorem ownsN_bytes (w : World) (e : TypeId) (s : ByteArray) (h : s.size ≤ maxLen) : ownsN (bytesWorld w e s) e w.heap.size s.size (grownCap w s.size 0 e) (strCells s) := by
  have hge := grownCap_ge w s.size 0 e
  have hsz : (bytesCells w e s).size = grownCap w s.size 0 e := by
    unfold bytesCells
    simp only [Array.size_append, Array.size_map, Array.size_replicate]
    have : s.data.size = s.size := rfl
    omega
  refine ⟨_, _, bytesWorld_at_new w e s, Or.inl (by simp only [hsz]; exact Nat.le_refl _), hge, grownCap_le_maxLen w _ 0 e h, hsz, strCells_length s, ?_⟩
  unfold bytesCells strCells
  simp only [Array.toList_append, Array.toList_map]
  rw [List.take_append_of_le_length (by simp)]
  rw [List.take_of_length_le]
  simp
end Go.Proofs.YtchhlocibijekaaGreatDoor

/-
  Rows of bytes that a call owns: what appending and converting them takes.
-/
namespace Go.Proofs.YtchhlocibijekaaGreatDoor.Own
open Go.RowKit Go.Lib

theorem info_u8 : (Tryz.prog.info? 5).map (fun i => (i.zero, i.size, i.bytes)) = some (some (.int .u8 0), 1, 1) := by kernel_rfl
theorem nil_text (W : World) : (convert 37 9 (.slice none 0 0)).run Tryz.prog W = .ok (.string ⟨#[]⟩) W := by
  rw [run_convert_bytes_string W 37 9 5 none 0 0 Tryz.underlying37 Tryz.underlying5 Tryz.underlying9]
  rfl
/-- the text of bytes that the call owns -/
theorem own_text (W : World) (base : Nat) (v : Value) (l : List UInt8) (h : W.ownsRow base 5 1 v l.length (byteCells l)) :
    (convert 37 9 v).run Tryz.prog W = .ok (.string ⟨l.toArray⟩) W := by
  rcases h.2 with ⟨rfl, h0⟩ | ⟨g, cap, cur, rfl, _⟩
  · have : l = [] := List.eq_nil_of_length_eq_zero h0
    subst this
    exact nil_text W
  · exact run_convert_bytes_back W 37 9 5 ⟨g, 0, none⟩ cap l Tryz.underlying37 Tryz.underlying5 Tryz.underlying9 (fun j hj => by
      have hadd : (⟨g, 0, none⟩ : Addr).add j = ⟨g, j, none⟩ := by unfold Addr.add; split <;> simp_all
      rw [hadd, h.cellAt j (by omega)]
      simp [byteCells, hj])
theorem cells_len (L : List UInt8) : (byteCells L).length = L.length * 1 := by simp [byteCells]
theorem cells_new (L : List UInt8) (W : World) : ∀ j u, (byteCells L)[j]? = some u → (W.alloc (.cells (byteCells L).toArray 5)).cell? ((⟨W.heap.size, 0, none⟩ : Addr).add j) = some u := by
  intro j u hj
  have hadd : (⟨W.heap.size, 0, none⟩ : Addr).add j = ⟨W.heap.size, j, none⟩ := by unfold Addr.add; split <;> simp_all
  rw [hadd]
  have hb := heap_alloc_new W (.cells (byteCells L).toArray 5)
  unfold World.cell?
  rw [hb]
  simp [hj]
theorem own_cat {W : World} {base : Nat} {v : Value} {a L : List UInt8} (h : W.ownsRow base 5 1 v (a.length + L.length) (byteCells a ++ byteCells L)) : W.ownsRow base 5 1 v (a ++ L).length (byteCells (a ++ L)) := by
  rw [byteCells_append, List.length_append]; exact h
end Go.Proofs.YtchhlocibijekaaGreatDoor.Own

/-
  scrubref.Unref: its walk.
-/
namespace Go.Proofs.YtchhlocibijekaaGreatDoor
open Go.RowKit Go.Lib Own

set_option maxHeartbeats 4000000 in
set_option maxRecDepth 100000 in
theorem refUnref_any (s : ByteArray) (attr : Bool) (w : World) (hs : s.size ≤ 10000000) (hT : RefTabs w) :
    Calls Tryz.prog 38 #[.string s, .bool attr] w fun e w' => e = .returned (.string ⟨(unr attr s.data.toList).toArray⟩) ∧ Below w.heap.size w w' := by
  obtain ⟨i0, hi, hz0, hz1, hz2⟩ := info_parts info_u8
  obtain ⟨R, hR⟩ : ∃ R, unr attr s.data.toList = R := ⟨_, rfl⟩
  rw [hR]
  have HR := hid (fun (_ : True) => hR)
  have HT := hid hT
  clear hR hT
  go_enter Tryz.func38, Tryz.ntmps38
  go_wp2
  go_loopw [5, 6] (fun bv iv wr => ∃ (pos : Nat) (acc : List UInt8), iv = .int .i64 pos ∧ wr.ownsRow w.heap.size 5 1 bv acc.length (byteCells acc) ∧ Below w.heap.size w wr ∧ Hid (True → acc ++ unr attr (s.data.toList.drop pos) = R) ∧ acc.length ≤ 4 * pos ∧ pos ≤ s.size) (fun _ iv _ => s.size - (RowKit.intOf iv).toNat)
  case atStart => exact ⟨0, [], rfl, World.ownsRow_nil _ _ _ _, Below.refl _ _, HR.out, by simp, Nat.zero_le _⟩
  case round =>
    obtain ⟨pos, acc, rfl, hown, hbw, HA, hal, hps⟩ := hrel
    by_cases hp : pos < s.size
    · obtain ⟨x, hx⟩ : ∃ x, s[pos]'hp = x := ⟨_, rfl⟩
      have hl := getElem_list hp hx
      obtain ⟨h1, h2⟩ := List.getElem?_eq_some_iff.1 hl
      have hd := List.drop_eq_getElem_cons h1
      rw [h2] at hd
      have hst := HA.out trivial
      rw [hd] at hst
      clear hl h1 h2 hd HA
      have hlt := hown.lt
      have hbs := hbw.size
      by_cases hx38 : x = 38
      · subst hx38
        have q : (((38 : UInt8).toNat : Int) != 38) = false := rfl
        rw [unr_amp] at hst
        obtain ⟨tb, htb⟩ : ∃ tb, s.extract (pos + 1) s.size = tb := ⟨_, rfl⟩
        have htl : tb.data.toList = s.data.toList.drop (pos + 1) := by rw [← htb]; exact extract_to_end s (pos + 1)
        have htz : tb.size = s.size - (pos + 1) := by rw [size_eq, htl, List.length_drop, ← size_eq]
        have hfr := fun W hTW => referred_any tb attr W (by omega) hTW
        have hle := ref_le attr tb.data.toList
        have hrg := ref_range attr tb.data.toList
        have hone : oneL attr tb.data.toList = if (refL attr tb.data.toList).1 = 0 then [38] else encodeRune (refL attr tb.data.toList).2 := rfl
        rw [← htl, hone] at hst
        rw [← size_eq] at hle
        obtain ⟨qq, hqq⟩ : ∃ qq, refL attr tb.data.toList = qq := ⟨_, rfl⟩
        rw [hqq] at hfr hle hrg hst
        obtain ⟨n, c⟩ := qq
        simp only at hfr hle hrg hst
        rw [htl, List.drop_drop] at hst
        have HF := hid hfr
        have HT1 : RefTabs wr := HT.out.below hbw
        obtain ⟨hc0, hc1, hc2⟩ := hrg
        clear hone hqq hfr htl
        by_cases hn : n = 0
        · subst hn
          rw [if_pos rfl] at hst
          have e38 : encodeRune 38 = [38] := by decide
          have henc := fun W => encode_any 38 (by omega) (by omega) (by omega) W
          rw [e38] at henc
          obtain ⟨E, hE⟩ : ∃ E : List UInt8, [38] = E := ⟨_, rfl⟩
          have hEl : E.length ≤ 4 := by rw [← hE]; simp
          rw [hE] at henc hst
          have hst2 : acc ++ E ++ unr attr (s.data.toList.drop (pos + 1)) = R := by rw [← hst]; simp
          have HS := hid (fun (_ : True) => hst2)
          clear hst hst2 hE e38 hc0 hc1 hc2
          have HE := hid henc
          have hA1 := hid (cells_len E)
          have hA2 := hid (cells_new E)
          have hA3 := hid (byteCells_one E)
          have hA4 := hid (show acc.length + E.length ≤ maxLen by unfold maxLen; omega)
          have hA5 := hid (show (acc.length + E.length) * 1 ≤ 140737488355328 by omega)
          clear henc
          go_wp2_with (go_at_call 70; refine (HF.out _ HT1).mono ?_; rintro e W1 ⟨v, rfl, hv, b1⟩)
          have hown1 := hown.kept (row := none) ⟨b1.os, b1.tape, b1.output, b1.size, fun k hk _ => b1.block k hk⟩ (Classical.em _)
          have hbw1 := hbw.trans (b1.mono hbs)
          clear b1 hown hbw hlt hbs
          have hlt := hown1.lt
          have hbs := hbw1.size
          go_wp2_with fail
          refine (HE.out _).mono ?_
          rintro e W2 ⟨rfl, rfl⟩
          go_wp2_with (at_builtin; refine wpList_append_own _ rfl (.tmp 41) (.tmp 42) 37 rfl w.heap.size 5 i0 (.int .u8 0) 1 1 Tryz.underlying37 hi hz0 hz1 hz2 rfl (by decide) _ _ _ rfl (hown1.alloc _) ⟨_, 0, none⟩ E.length E.length (byteCells E) rfl hA1.out (hA2.out _) hA3.out hA4.out hA5.out ?_ ?_)
          · simp; omega
          · intro v' w2 hown2 hgrow _
            have hbw2 := (hbw1.alloc hbs _).grown hgrow (by simp; omega) (fun k hk => (hlt k hk).1)
            have hown3 := own_cat hown2
            clear hown2 hgrow hbw1 hown1 hlt hbs
            go_wp2
            go_roundw
            case rel => exact ⟨pos + 1, acc ++ E, rfl, hown3, hbw2, HS.out, by rw [List.length_append]; omega, by omega⟩
            case measure => simp [RowKit.intOf]; omega
        · have qn : ((n : Int) == 0) = false := beq_eq_false_iff_ne.2 (by omega)
          rw [if_neg hn] at hst
          have henc := fun W => encode_any c (by omega) (by omega) (by omega) W
          have hEl : (encodeRune c).length ≤ 4 := by rw [← runeCells_length]; exact (runeCells_le c).2
          obtain ⟨E, hE⟩ : ∃ E, encodeRune c = E := ⟨_, rfl⟩
          rw [hE] at henc hst hEl
          have hst2 : acc ++ E ++ unr attr (s.data.toList.drop (pos + 1 + n)) = R := by rw [← hst]; simp
          have HS := hid (fun (_ : True) => hst2)
          clear hst hst2 hE
          have HE := hid henc
          have hA1 := hid (cells_len E)
          have hA2 := hid (cells_new E)
          have hA3 := hid (byteCells_one E)
          have hA4 := hid (show acc.length + E.length ≤ maxLen by unfold maxLen; omega)
          have hA5 := hid (show (acc.length + E.length) * 1 ≤ 140737488355328 by omega)
          clear henc
          go_wp2_with (go_at_call 70; refine (HF.out _ HT1).mono ?_; rintro e W1 ⟨v, rfl, hv, b1⟩; obtain rfl := hv hn)
          have hown1 := hown.kept (row := none) ⟨b1.os, b1.tape, b1.output, b1.size, fun k hk _ => b1.block k hk⟩ (Classical.em _)
          have hbw1 := hbw.trans (b1.mono hbs)
          clear b1 hown hbw hlt hbs
          have hlt := hown1.lt
          have hbs := hbw1.size
          go_wp2_with fail
          refine (HE.out _).mono ?_
          rintro e W2 ⟨rfl, rfl⟩
          go_wp2_with (at_builtin; refine wpList_append_own _ rfl (.tmp 41) (.tmp 42) 37 rfl w.heap.size 5 i0 (.int .u8 0) 1 1 Tryz.underlying37 hi hz0 hz1 hz2 rfl (by decide) _ _ _ rfl (hown1.alloc _) ⟨_, 0, none⟩ E.length E.length (byteCells E) rfl hA1.out (hA2.out _) hA3.out hA4.out hA5.out ?_ ?_)
          · simp; omega
          · intro v' w2 hown2 hgrow _
            have hbw2 := (hbw1.alloc hbs _).grown hgrow (by simp; omega) (fun k hk => (hlt k hk).1)
            have hown3 := own_cat hown2
            clear hown2 hgrow hbw1 hown1 hlt hbs
            go_wp2
            go_roundw
            case rel => exact ⟨pos + 1 + n, acc ++ E, rfl, hown3, hbw2, HS.out, by rw [List.length_append]; omega, by omega⟩
            case measure => simp [RowKit.intOf]; omega
      · have q : ((x.toNat : Int) != 38) = true := bne_iff_ne.2 (fun h => hx38 (UInt8.toNat_inj.1 (by simp; omega)))
        rw [unr_other attr x _ hx38] at hst
        have hst2 : acc ++ [x] ++ unr attr (s.data.toList.drop (pos + 1)) = R := by rw [← hst]; simp
        have HS := hid (fun (_ : True) => hst2)
        clear hst hst2 hx38
        have hA1 := hid (cells_len [x])
        have hA2 := hid (cells_new [x])
        have hA3 := hid (byteCells_one [x])
        have hA4 := hid (show acc.length + 1 ≤ maxLen by unfold maxLen; omega)
        have hA5 := hid (show (acc.length + 1) * 1 ≤ 140737488355328 by omega)
        go_wp2_with (at_builtin; refine wpList_append_own _ rfl (.tmp 22) (.tmp 24) 37 rfl w.heap.size 5 i0 (.int .u8 0) 1 1 Tryz.underlying37 hi hz0 hz1 hz2 rfl (by decide) _ _ _ rfl (hown.alloc _) ⟨_, 0, none⟩ 1 1 (byteCells [x]) rfl hA1.out (hA2.out _) hA3.out hA4.out hA5.out ?_ ?_)
        · simp; omega
        · intro v' w2 hown2 hgrow _
          have hbw2 := (hbw.alloc hbs _).grown hgrow (by simp; omega) (fun k hk => (hlt k hk).1)
          have hown3 := own_cat (L := [x]) hown2
          clear hown2 hgrow hbw hown hlt hbs
          go_wp2
          go_roundw
          case rel => exact ⟨pos + 1, acc ++ [x], rfl, hown3, hbw2, HS.out, by simp; omega, by omega⟩
          case measure => simp [RowKit.intOf]; omega
    · have hst : acc = R := by
        have := HA.out trivial
        rw [List.drop_of_length_le (by rw [← size_eq]; omega), unr_nil, List.append_nil] at this
        exact this
      subst hst
      have hc := own_text wr w.heap.size _ acc hown
      go_wp2
      go_ret
      exact ⟨rfl, hbw⟩
end Go.Proofs.YtchhlocibijekaaGreatDoor

/-
  The lexer as a plain function on lists of bytes: a step, a run, and that a text may be cut anywhere. No program is named here.
-/
namespace Go.Proofs.YtchhlocibijekaaGreatDoor

structure LS where
  mode : Nat
  scan : Nat
  eat : Bool

inductive Item where
  | unit (b : List UInt8)
  | start (name : List UInt8) (attrs : List (List UInt8 × List UInt8))
  | stop (name : List UInt8)

/-- what a step comes to: it needs more bytes, n of them being passed; or it has taken n bytes -/
inductive Res where
  | more (n : Nat) (st : LS)
  | done (n : Nat) (st : LS) (it : List Item)
def Res.shift (k : Nat) : Res → Res
  | .more n st => .more (k + n) st
  | .done n st it => .done (k + n) st it

def spaceC (c : UInt8) : Bool := c == 9 || c == 10 || c == 12 || c == 13 || c == 32
def letterC (c : UInt8) : Bool := decide (65 ≤ c.toNat ∧ c.toNat ≤ 90 ∨ 97 ≤ c.toNat ∧ c.toNat ≤ 122)
def lowC (c : UInt8) : UInt8 := if 65 ≤ c.toNat ∧ c.toNat ≤ 90 then c + 32 else c
def alnumC (c : UInt8) : Bool := letterC c || digD c
def endsC (c : UInt8) : Bool := spaceC c || c == 47 || c == 62
def colC (c : UInt8) : Nat := if c = 47 then 1 else if c = 62 then 2 else if c = 61 then 3 else if c = 34 then 4 else if c = 39 then 5 else if spaceC c then 0 else 6
def tagTab : List (List Nat) := [[4, 4, 0, 3, 3, 3, 3], [4, 4, 0, 5, 5, 5, 5], [6, 4, 0, 7, 5, 5, 5], [6, 4, 0, 7, 5, 5, 5], [7, 10, 0, 10, 8, 9, 10], [8, 8, 8, 8, 4, 8, 8], [9, 9, 9, 9, 9, 4, 9], [4, 10, 0, 10, 10, 10, 10]]
def nextT (s : Nat) (c : UInt8) : Nat := (tagTab.getD (s - 3) []).getD (colC c) 0

/-- on in a tag: how many bytes, and the state behind them -/
def passL : Nat → List UInt8 → Nat × Nat
  | s, [] => (0, s)
  | s, c :: r => if s = 0 then (0, 0) else ((passL (nextT s c) r).1 + 1, (passL (nextT s c) r).2)

def rawNames : List (List UInt8) := [[116, 101, 120, 116, 97, 114, 101, 97], [115, 99, 114, 105, 112, 116], [115, 116, 121, 108, 101], [120, 109, 112], [105, 102, 114, 97, 109, 101], [110, 111, 101, 109, 98, 101, 100],
  [110, 111, 102, 114, 97, 109, 101, 115], [110, 111, 115, 99, 114, 105, 112, 116], [116, 105, 116, 108, 101], [112, 108, 97, 105, 110, 116, 101, 120, 116]]
def rawL (m : Nat) : List UInt8 := rawNames.getD (m - 1) []
def insF (name : List UInt8) : Nat → List (List UInt8) → Nat
  | _, [] => 0
  | i, x :: r => if name = x then i else insF name (i + 1) r
def insideL (name : List UInt8) : Nat := insF name 1 rawNames
def eatsL (name : List UInt8) : Bool := name == [112, 114, 101] || name == [116, 101, 120, 116, 97, 114, 101, 97]

/-- the end tag of the mode's own element: 0 something else, 1 its beginning but not known yet, 2 it is -/
def ownL : List UInt8 → List UInt8 → Nat
  | _, [] => 1
  | [], c :: _ => if endsC c then 2 else 0
  | o :: os, c :: r => if lowC c = o then ownL os r else 0

def tagNameL (tag : List UInt8) : List UInt8 := (tag.takeWhile fun c => nextT 3 c == 3).map lowC
/-- the attributes of a tag: the state, what has been gathered of the part that is under way, the attributes -/
def attrsL : Nat → List UInt8 → List (List UInt8 × List UInt8) → List UInt8 → List (List UInt8 × List UInt8)
  | _, _, acc, [] => acc
  | s, part, acc, c :: r =>
    if nextT s c = s then attrsL s (part ++ [c]) acc r else
      let acc2 := if s = 5 then acc ++ [(part.map lowC, [])] else if s = 8 ∨ s = 9 ∨ s = 10 then acc.dropLast ++ [((acc.getLast?.getD ([], [])).1, unr true part)] else acc
      attrsL (nextT s c) (if nextT s c = 8 ∨ nextT s c = 9 then [] else [c]) acc2 r
/-- a tag at the front, whose name begins at k -/
def tagL (W k : Nat) (L : List UInt8) (st : LS) : Res :=
  let p := passL 3 (L.drop k)
  let tag := (L.drop k).take p.1
  if k + p.1 ≤ W ∧ p.2 ≠ 0 then .more 0 st
  else .done (k + p.1) ⟨if k = 1 then insideL (tagNameL tag) else 0, p.2, if k = 1 then eatsL (tagNameL tag) else false⟩
    (if k + p.1 ≤ W then (if k = 1 then [.start (tagNameL tag) (attrsL 3 [] [] tag)] else [.stop (tagNameL tag)]) else [])

def refEnd (L : List UInt8) : Option Nat :=
  let s := if L[1]? = some 35 then 2 else 1
  let e := s + (((L.drop s).take (32 - s)).takeWhile alnumC).length
  if e < 32 then (if e = L.length then none else some (if L[e]? = some 59 then e + 1 else e)) else some e
def unitL2 (st : LS) (b : List UInt8) : List Item := if st.eat = true ∧ b = [10] then [] else [.unit b]
def noEat (st : LS) : LS := { st with eat := false }
def byteRes (st : LS) (c : UInt8) : Res := .done 1 (noEat st) (unitL2 st [c])
def refRes (st : LS) (L : List UInt8) : Res :=
  match refEnd L with
  | none => .more 0 st
  | some e => .done e (noEat st) (unitL2 st (unr false (L.take e)))

/-- in a comment, d dashes standing ahead: how many bytes there are to its end, and the dashes at the end where it has none -/
def comL : Nat → List UInt8 → Option Nat × Nat
  | d, [] => (none, d)
  | d, c :: r => if c = 62 ∧ d = 2 then (some 1, 0) else
    ((comL (if c = 45 then min (d + 1) 2 else 0) r).1.map (· + 1), (comL (if c = 45 then min (d + 1) 2 else 0) r).2)
def commentRes (st : LS) (L : List UInt8) : Res :=
  match (comL 0 L).1 with
  | some n => .done n { st with scan := 0 } []
  | none => .more (L.length - (comL 0 L).2) st
def byteIdx (x : UInt8) : List UInt8 → Option Nat
  | [] => none
  | c :: r => if c = x then some 0 else (byteIdx x r).map (· + 1)
def bogusRes (st : LS) (L : List UInt8) : Res :=
  match byteIdx 62 L with
  | some i => .done (i + 1) { st with scan := 0 } []
  | none => .more L.length st
def skipTagRes (st : LS) (L : List UInt8) : Res := .done (passL st.scan L).1 { st with scan := (passL st.scan L).2 } []
def rawRes (W : Nat) (st : LS) (L : List UInt8) : Res :=
  match byteIdx 60 L with
  | none => .done L.length st []
  | some i =>
    if st.mode = 10 then .done L.length st [] else
    let o := ownL (60 :: 47 :: rawL st.mode) (L.drop i)
    if o = 1 then .more i st else if o = 2 then (tagL W 2 (L.drop i) st).shift i else .done (i + 1) st []
def markupRes (W : Nat) (st : LS) (L : List UInt8) : Res :=
  if L = [60] ∨ L = [60, 47] ∨ L = [60, 33] ∨ L = [60, 33, 45] then .more 0 st
  else if letterC (L.getD 1 0) then tagL W 1 L st
  else if L.getD 1 0 = 47 ∧ letterC (L.getD 2 0) = true then tagL W 2 L st
  else if [60, 33, 45, 45] <+: L then .done 2 ⟨st.mode, 1, false⟩ []
  else if L.getD 1 0 = 33 ∨ L.getD 1 0 = 63 ∨ L.getD 1 0 = 47 then .done 2 ⟨st.mode, 2, false⟩ []
  else byteRes st 60
def dataRes (W : Nat) (st : LS) (L : List UInt8) : Res :=
  if L.getD 0 0 = 60 then markupRes W st L else if L.getD 0 0 = 38 then refRes st L else byteRes st (L.getD 0 0)
def areaRes (W : Nat) (st : LS) (L : List UInt8) : Res :=
  if L.getD 0 0 = 60 then
    (let o := ownL (60 :: 47 :: rawL 1) L
    if o = 1 then .more 0 st else if o = 2 then tagL W 2 L st else byteRes st 60)
  else if L.getD 0 0 = 38 then refRes st L else byteRes st (L.getD 0 0)
/-- one step, at bytes that there are -/
def stepL (W : Nat) (st : LS) (L : List UInt8) : Res :=
  if st.scan = 1 then commentRes st L else if st.scan = 2 then bogusRes st L else if st.scan ≠ 0 then skipTagRes st L
  else if st.mode = 0 then dataRes W st L else if st.mode = 1 then areaRes W st L else rawRes W st L

def runF (W : Nat) : Nat → LS → List UInt8 → LS × List UInt8 × List Item
  | 0, st, L => (st, L, [])
  | f + 1, st, L =>
    if L = [] then (st, [], []) else
    match stepL W st L with
    | .more n st' => (st', L.drop n, [])
    | .done n st' it => ((runF W f st' (L.drop n)).1, (runF W f st' (L.drop n)).2.1, it ++ (runF W f st' (L.drop n)).2.2)
def runL (W : Nat) (st : LS) (L : List UInt8) : LS × List UInt8 × List Item := runF W L.length st L
end Go.Proofs.YtchhlocibijekaaGreatDoor

/-
  A text may be cut anywhere: the run over the whole is the run over its first part and then over what that holds and the rest.
-/
namespace Go.Proofs.YtchhlocibijekaaGreatDoor

theorem shift_zero (r : Res) : r.shift 0 = r := by cases r <;> simp [Res.shift]
theorem shift_shift (r : Res) (a b : Nat) : (r.shift a).shift b = r.shift (b + a) := by cases r <;> simp [Res.shift, Nat.add_assoc]

theorem pass_append : ∀ (A B : List UInt8) (s : Nat), ((passL s A).2 = 0 ∧ (passL s A).1 ≤ A.length ∧ passL s (A ++ B) = passL s A) ∨
    ((passL s A).2 ≠ 0 ∧ (passL s A).1 = A.length ∧ passL s (A ++ B) = (A.length + (passL (passL s A).2 B).1, (passL (passL s A).2 B).2))
  | [], B, s => by
    by_cases hs : s = 0
    · subst hs
      refine .inl ⟨rfl, by simp [passL], ?_⟩
      cases B <;> simp [passL]
    · exact .inr ⟨hs, rfl, by simp [passL]⟩
  | c :: A, B, s => by
    by_cases hs : s = 0
    · subst hs
      exact .inl ⟨by simp [passL], by simp [passL], by simp [passL]⟩
    · have ih := pass_append A B (nextT s c)
      simp only [List.cons_append, passL, if_neg hs, List.length_cons]
      rcases ih with ⟨h1, h2, h3⟩ | ⟨h1, h2, h3⟩
      · exact .inl ⟨h1, by omega, by rw [h3]⟩
      · refine .inr ⟨h1, by omega, ?_⟩
        rw [h3]
        simp only [Prod.mk.injEq, and_true]
        omega
theorem next_range (s : Nat) (h0 : 3 ≤ s) (h1 : s ≤ 10) (c : UInt8) : nextT s c = 0 ∨ 3 ≤ nextT s c ∧ nextT s c ≤ 10 := by
  have hc : colC c < 7 := by unfold colC; (repeat' split) <;> omega
  have hall : ∀ (i : Fin 8) (k : Fin 7), (tagTab.getD i.val []).getD k.val 0 = 0 ∨ 3 ≤ (tagTab.getD i.val []).getD k.val 0 ∧ (tagTab.getD i.val []).getD k.val 0 ≤ 10 := by decide +kernel
  exact hall ⟨s - 3, by omega⟩ ⟨colC c, hc⟩
theorem pass_range : ∀ (L : List UInt8) (s : Nat), (s = 0 ∨ 3 ≤ s ∧ s ≤ 10) → (passL s L).2 = 0 ∨ 3 ≤ (passL s L).2 ∧ (passL s L).2 ≤ 10
  | [], s, h => h
  | c :: L, s, h => by
    unfold passL
    split
    · exact .inl rfl
    · exact pass_range L _ (next_range s (by omega) (by omega) c)
theorem insF_none {name : List UInt8} : ∀ (l : List (List UInt8)) (i : Nat), (∀ x ∈ l, name ≠ x) → insF name i l = 0
  | [], _, _ => rfl
  | x :: r, i, h => by
    unfold insF
    rw [if_neg (h x (.head _))]
    exact insF_none r (i + 1) (fun y hy => h y (.tail _ hy))
theorem inside_long {name : List UInt8} (h : 10 < name.length) : insideL name = 0 ∧ eatsL name = false := by
  refine ⟨insF_none rawNames 1 (fun x hx h2 => ?_), ?_⟩
  · subst h2
    have : ∀ y ∈ rawNames, y.length ≤ 10 := by decide +kernel
    have := this name hx
    omega
  unfold eatsL
  rw [Bool.or_eq_false_iff]
  refine ⟨beq_eq_false_iff_ne.2 (fun h2 => ?_), beq_eq_false_iff_ne.2 (fun h2 => ?_)⟩
  · rw [h2] at h; simp at h
  · rw [h2] at h; simp at h
theorem takeWhile_more {p : UInt8 → Bool} : ∀ (A B : List UInt8), (A.takeWhile p = A) ∨ (A ++ B).takeWhile p = A.takeWhile p
  | [], _ => .inl rfl
  | c :: A, B => by
    by_cases hc : p c = true
    · rcases takeWhile_more A B with h | h
      · exact .inl (by rw [List.takeWhile_cons, if_pos hc, h])
      · exact .inr (by rw [List.cons_append, List.takeWhile_cons, List.takeWhile_cons, if_pos hc, if_pos hc, h])
    · exact .inr (by rw [List.cons_append, List.takeWhile_cons, List.takeWhile_cons, if_neg hc, if_neg hc])
theorem takeWhile_ge {p : UInt8 → Bool} : ∀ {A : List UInt8} (B : List UInt8), A.takeWhile p = A → A.length ≤ ((A ++ B).takeWhile p).length
  | [], _, _ => Nat.zero_le _
  | c :: A, B, h => by
    by_cases hc : p c = true
    · rw [List.takeWhile_cons, if_pos hc] at h
      have := takeWhile_ge B (List.cons.inj h).2
      rw [List.cons_append, List.takeWhile_cons, if_pos hc, List.length_cons, List.length_cons]
      omega
    · rw [List.takeWhile_cons, if_neg hc] at h
      cases h
/-- what a long tag does to the mode is told by its first bytes -/
theorem name_long (A B : List UInt8) (h : 30 ≤ A.length) : insideL (tagNameL (A ++ B)) = insideL (tagNameL A) ∧ eatsL (tagNameL (A ++ B)) = eatsL (tagNameL A) := by
  unfold tagNameL
  rcases takeWhile_more (p := fun c => nextT 3 c == 3) A B with h1 | h1
  · have h2 := takeWhile_ge B h1
    have l1 := inside_long (name := ((A ++ B).takeWhile fun c => nextT 3 c == 3).map lowC) (by rw [List.length_map]; omega)
    have l2 := inside_long (name := (A.takeWhile fun c => nextT 3 c == 3).map lowC) (by rw [List.length_map, h1]; omega)
    rw [l1.1, l1.2, l2.1, l2.2]
    exact ⟨rfl, rfl⟩
  · rw [h1]
    exact ⟨rfl, rfl⟩

theorem tag_cases (W k : Nat) (hW : 32 ≤ W) (A : List UInt8) (st : LS) (hk0 : 1 ≤ k) (hk2 : k ≤ 2) (hk : k ≤ A.length) :
    (tagL W k A st = .more 0 st) ∨ (∃ n st' it, 0 < n ∧ n ≤ A.length ∧ st'.scan ≤ 10 ∧ ∀ B, tagL W k (A ++ B) st = .done n st' it) ∨
    (∃ st', 3 ≤ st'.scan ∧ st'.scan ≤ 10 ∧ tagL W k A st = .done A.length st' [] ∧ ∀ B, tagL W k (A ++ B) st = (skipTagRes st' B).shift A.length) := by
  have hdrop : ∀ B, (A ++ B).drop k = A.drop k ++ B := fun B => List.drop_append_of_le_length hk
  have hrange := pass_range (A.drop k) 3 (.inr ⟨by omega, by omega⟩)
  by_cases hp : (passL 3 (A.drop k)).2 = 0
  · refine .inr (.inl ?_)
    have hle : (passL 3 (A.drop k)).1 ≤ (A.drop k).length := by
      rcases pass_append (A.drop k) [] 3 with ⟨_, h, _⟩ | ⟨h, _⟩
      · exact h
      · exact absurd hp h
    refine ⟨k + (passL 3 (A.drop k)).1, ⟨if k = 1 then insideL (tagNameL ((A.drop k).take (passL 3 (A.drop k)).1)) else 0, (passL 3 (A.drop k)).2, if k = 1 then eatsL (tagNameL ((A.drop k).take (passL 3 (A.drop k)).1)) else false⟩,
      if k + (passL 3 (A.drop k)).1 ≤ W then (if k = 1 then [.start (tagNameL ((A.drop k).take (passL 3 (A.drop k)).1)) (attrsL 3 [] [] ((A.drop k).take (passL 3 (A.drop k)).1))] else [.stop (tagNameL ((A.drop k).take (passL 3 (A.drop k)).1))]) else [],
      by omega, by rw [List.length_drop] at hle; omega, by show (passL 3 (A.drop k)).2 ≤ 10; omega, fun B => ?_⟩
    have h2 : passL 3 (A.drop k ++ B) = passL 3 (A.drop k) := by
      rcases pass_append (A.drop k) B 3 with ⟨_, _, h⟩ | ⟨h, _⟩
      · exact h
      · exact absurd hp h
    unfold tagL
    simp only [hdrop, h2]
    rw [if_neg (fun h => h.2 hp), List.take_append_of_le_length hle]
  · have hlen : k + (passL 3 (A.drop k)).1 = A.length := by
      rcases pass_append (A.drop k) [] 3 with ⟨h, _⟩ | ⟨_, h, _⟩
      · exact absurd h hp
      · rw [h, List.length_drop]; omega
    by_cases hw : A.length ≤ W
    · refine .inl ?_
      unfold tagL
      simp only
      rw [if_pos ⟨by omega, hp⟩]
    · refine .inr (.inr ?_)
      have htake : (A.drop k).take (passL 3 (A.drop k)).1 = A.drop k := List.take_of_length_le (by rw [List.length_drop]; omega)
      refine ⟨⟨if k = 1 then insideL (tagNameL (A.drop k)) else 0, (passL 3 (A.drop k)).2, if k = 1 then eatsL (tagNameL (A.drop k)) else false⟩, by show 3 ≤ (passL 3 (A.drop k)).2; omega, by show (passL 3 (A.drop k)).2 ≤ 10; omega, ?_, fun B => ?_⟩
      · unfold tagL
        simp only
        rw [htake, hlen, if_neg (fun h => hw h.1), if_neg hw]
      · have h2 : passL 3 (A.drop k ++ B) = ((A.drop k).length + (passL (passL 3 (A.drop k)).2 B).1, (passL (passL 3 (A.drop k)).2 B).2) := by
          rcases pass_append (A.drop k) B 3 with ⟨h, _⟩ | ⟨_, _, h⟩
          · exact absurd h hp
          · exact h
        have hl : k + (A.drop k).length = A.length := by rw [List.length_drop]; omega
        unfold tagL skipTagRes
        simp only [hdrop, h2, Res.shift]
        have c2 : ¬ k + ((A.drop k).length + (passL (passL 3 (A.drop k)).2 B).1) ≤ W := by omega
        rw [if_neg (fun h => c2 h.1), if_neg c2]
        have ht2 : (A.drop k ++ B).take ((A.drop k).length + (passL (passL 3 (A.drop k)).2 B).1) = A.drop k ++ B.take (passL (passL 3 (A.drop k)).2 B).1 := by
          rw [List.take_append, List.take_of_length_le (by omega)]
          congr 1
          rw [Nat.add_sub_cancel_left]
        rw [ht2]
        obtain ⟨n1, n2⟩ := name_long (A.drop k) (B.take (passL (passL 3 (A.drop k)).2 B).1) (by rw [List.length_drop]; omega)
        rw [n1, n2, ← Nat.add_assoc, hl]

theorem own_stable : ∀ (o A B : List UInt8), ownL o A ≠ 1 → ownL o (A ++ B) = ownL o A
  | _, [], _, h => by unfold ownL at h; exact absurd rfl h
  | [], c :: A, B, _ => rfl
  | o :: os, c :: A, B, h => by
    rw [List.cons_append]
    unfold ownL at h ⊢
    split
    · rename_i hc
      rw [if_pos hc] at h
      exact own_stable os A B h
    · rfl
theorem own_two : ∀ (o A : List UInt8), ownL o A = 2 → o.length < A.length
  | _, [], h => by unfold ownL at h; simp at h
  | [], c :: A, _ => by simp
  | o :: os, c :: A, h => by
    unfold ownL at h
    split at h
    · have := own_two os A h
      simp only [List.length_cons]
      omega
    · simp at h
theorem byte_append (x : UInt8) : ∀ (A B : List UInt8), (∃ i, byteIdx x A = some i ∧ i < A.length ∧ A[i]? = some x ∧ byteIdx x (A ++ B) = some i) ∨ (byteIdx x A = none ∧ byteIdx x (A ++ B) = (byteIdx x B).map (· + A.length))
  | [], B => .inr ⟨rfl, by cases h : byteIdx x B <;> simp [h]⟩
  | c :: A, B => by
    by_cases hc : c = x
    · exact .inl ⟨0, by simp [byteIdx, hc], by simp, by simp [hc], by simp [byteIdx, hc]⟩
    · rcases byte_append x A B with ⟨i, h1, h2, h3, h4⟩ | ⟨h1, h2⟩
      · exact .inl ⟨i + 1, by simp [byteIdx, hc, h1], by simp; omega, by simpa using h3, by simp [byteIdx, hc, h4]⟩
      · refine .inr ⟨by simp [byteIdx, hc, h1], ?_⟩
        simp only [List.cons_append, byteIdx, if_neg hc, h2, List.length_cons]
        cases byteIdx x B <;> simp [Nat.add_assoc]
theorem com_append : ∀ (A B : List UInt8) (d : Nat), (∃ n, (comL d A).1 = some n ∧ 0 < n ∧ n ≤ A.length ∧ (comL d (A ++ B)).1 = some n) ∨
    ((comL d A).1 = none ∧ (comL d (A ++ B)).1 = (comL (comL d A).2 B).1.map (· + A.length) ∧ (comL d (A ++ B)).2 = (comL (comL d A).2 B).2)
  | [], B, d => .inr ⟨rfl, by simp only [List.nil_append, comL, List.length_nil]; cases (comL d B).1 <;> rfl, rfl⟩
  | c :: A, B, d => by
    by_cases hc : c = 62 ∧ d = 2
    · exact .inl ⟨1, by simp [comL, hc], by omega, by simp, by simp [comL, hc]⟩
    · rcases com_append A B (if c = 45 then min (d + 1) 2 else 0) with ⟨n, h1, h2, h3, h4⟩ | ⟨h1, h2, h3⟩
      · exact .inl ⟨n + 1, by simp only [comL, if_neg hc, h1]; rfl, by omega, by simp; omega, by simp only [List.cons_append, comL, if_neg hc, h4]; rfl⟩
      · refine .inr ⟨by simp only [comL, if_neg hc, h1]; rfl, ?_, ?_⟩
        · simp only [List.cons_append, comL, if_neg hc, h2, List.length_cons]
          cases (comL (comL (if c = 45 then min (d + 1) 2 else 0) A).2 B).1 <;> simp [Nat.add_assoc]
        · simp only [List.cons_append, comL, if_neg hc, h3]
/-- the dashes that stand at the end -/
theorem com_tail : ∀ (A : List UInt8) (d : Nat), d ≤ 2 → (comL d A).1 = none → (comL d A).2 ≤ 2 ∧ List.replicate (comL d A).2 45 <:+ List.replicate d 45 ++ A
  | [], d, hd, _ => ⟨hd, by simp [comL]⟩
  | c :: A, d, hd, h => by
    by_cases hc : c = 62 ∧ d = 2
    · rw [comL, if_pos hc] at h; simp at h
    · rw [comL, if_neg hc] at h ⊢
      simp only at h ⊢
      have h' : (comL (if c = 45 then min (d + 1) 2 else 0) A).1 = none := by
        cases hx : (comL (if c = 45 then min (d + 1) 2 else 0) A).1 with
        | none => rfl
        | some n => rw [hx] at h; simp at h
      obtain ⟨i1, i2⟩ := com_tail A (if c = 45 then min (d + 1) 2 else 0) (by split <;> omega) h'
      refine ⟨i1, i2.trans ?_⟩
      by_cases h45 : c = 45
      · subst h45
        rw [if_pos rfl]
        have e : List.replicate d (45 : UInt8) ++ 45 :: A = List.replicate (d + 1) 45 ++ A := by
          rw [List.replicate_succ', List.append_assoc]; rfl
        rw [e]
        rcases Nat.lt_or_ge d 2 with h2 | h2
        · rw [Nat.min_eq_left (by omega)]; exact List.suffix_refl _
        · obtain rfl : d = 2 := by omega
          exact ⟨[45], rfl⟩
      · rw [if_neg h45]
        exact ⟨List.replicate d 45 ++ [c], by simp⟩
theorem com_dashes (d : Nat) (hd : d ≤ 2) (B : List UInt8) : (comL 0 (List.replicate d 45 ++ B)).1 = (comL d B).1.map (· + d) ∧ (comL 0 (List.replicate d 45 ++ B)).2 = (comL d B).2 := by
  have h : comL 0 (List.replicate d 45) = (none, d) := by
    rcases (show d = 0 ∨ d = 1 ∨ d = 2 by omega) with rfl | rfl | rfl <;> rfl
  rcases com_append (List.replicate d 45) B 0 with ⟨n, h1, _⟩ | ⟨_, h2, h3⟩
  · rw [h] at h1; simp at h1
  · rw [h] at h2 h3
    rw [h2, h3, List.length_replicate]
    exact ⟨rfl, rfl⟩
theorem com_le : ∀ (B : List UInt8) (d : Nat), (comL d B).2 ≤ d + B.length
  | [], d => by simp [comL]
  | c :: B, d => by
    unfold comL
    split
    · exact Nat.zero_le _
    · have := com_le B (if c = 45 then min (d + 1) 2 else 0)
      have hm : (if c = 45 then min (d + 1) 2 else 0) ≤ d + 1 := by split <;> omega
      generalize (if c = 45 then min (d + 1) 2 else 0) = k at this hm ⊢
      simp only [List.length_cons]
      omega
theorem take_while (m : Nat) (p : UInt8 → Bool) (X B : List UInt8) (h : ((X.take m).takeWhile p).length = m ∨ ((X.take m).takeWhile p).length < X.length) : ((X ++ B).take m).takeWhile p = (X.take m).takeWhile p := by
  have hl := (List.takeWhile_prefix (p := p) (l := X.take m)).length_le
  rw [List.length_take] at hl
  rw [List.take_append]
  rcases h with h | h
  · rw [show m - X.length = 0 from by omega, List.take_zero, List.append_nil]
  · rcases takeWhile_more (p := p) (X.take m) (B.take (m - X.length)) with h2 | h2
    · rw [h2, List.length_take] at h
      rw [show m - X.length = 0 from by omega, List.take_zero, List.append_nil]
    · exact h2
/-- the run's end, before it is asked whether it is the end of what there is -/
def refRun (L : List UInt8) : Nat := (if L[1]? = some 35 then 2 else 1) + (((L.drop (if L[1]? = some 35 then 2 else 1)).take (32 - (if L[1]? = some 35 then 2 else 1))).takeWhile alnumC).length
theorem refEnd_eq (L : List UInt8) : refEnd L = if refRun L < 32 then (if refRun L = L.length then none else some (if L[refRun L]? = some 59 then refRun L + 1 else refRun L)) else some (refRun L) := rfl
theorem ref_stable {A : List UInt8} {e : Nat} (h : refEnd A = some e) (hA : A ≠ []) (B : List UInt8) : 0 < e ∧ e ≤ A.length ∧ refEnd (A ++ B) = some e := by
  have hpos := List.length_pos_iff.2 hA
  have h2 : 2 ≤ A.length := by
    rcases Nat.lt_or_ge A.length 2 with h1 | h1
    · exfalso
      have h3 : A[1]? = none := List.getElem?_eq_none (by omega)
      have hr : refRun A = 1 := by
        unfold refRun
        rw [h3, if_neg (by simp), List.drop_of_length_le (by omega)]
        rfl
      rw [refEnd_eq, hr, if_pos (by omega), if_pos (by omega)] at h
      simp at h
    · exact h1
  have h1 : (A ++ B)[1]? = A[1]? := List.getElem?_append_left (by omega)
  obtain ⟨s, hs⟩ : ∃ s, (if A[1]? = some 35 then 2 else 1) = s := ⟨_, rfl⟩
  have hs12 : 1 ≤ s ∧ s ≤ 2 := by rw [← hs]; split <;> omega
  have hrA : refRun A = s + (((A.drop s).take (32 - s)).takeWhile alnumC).length := by unfold refRun; rw [hs]
  have hrB : refRun (A ++ B) = s + (((A.drop s ++ B).take (32 - s)).takeWhile alnumC).length := by
    unfold refRun
    rw [h1, hs, List.drop_append_of_le_length (by omega)]
  have hl := (List.takeWhile_prefix (p := alnumC) (l := (A.drop s).take (32 - s))).length_le
  rw [List.length_take, List.length_drop] at hl
  obtain ⟨t, ht⟩ : ∃ t, (((A.drop s).take (32 - s)).takeWhile alnumC).length = t := ⟨_, rfl⟩
  rw [ht] at hrA hl
  have hcase : (t = 32 - s) ∨ (t < 32 - s ∧ s + t < A.length) := by
    rcases Nat.lt_or_ge t (32 - s) with h3 | h3
    · refine .inr ⟨h3, ?_⟩
      rcases Nat.lt_or_ge (s + t) A.length with h4 | h4
      · exact h4
      · exfalso
        rw [refEnd_eq, hrA, if_pos (by omega), if_pos (by omega)] at h
        simp at h
    · exact .inl (by omega)
  have hsame : refRun (A ++ B) = refRun A := by
    rw [hrB, hrA, take_while (32 - s) alnumC (A.drop s) B (by rw [ht, List.length_drop]; rcases hcase with h3 | h3; exact .inl h3; exact .inr (by omega)), ht]
  rcases hcase with h3 | ⟨h3, h4⟩
  · rw [refEnd_eq, hrA, if_neg (by omega)] at h
    rw [refEnd_eq, hsame, hrA, if_neg (by omega)]
    have := Option.some.inj h
    refine ⟨by omega, by omega, h⟩
  · have h5 : (A ++ B)[s + t]? = A[s + t]? := List.getElem?_append_left (by omega)
    rw [refEnd_eq, hrA, if_pos (by omega), if_neg (by omega)] at h
    rw [refEnd_eq, hsame, hrA, if_pos (by omega), if_neg (by rw [List.length_append]; omega), h5]
    refine ⟨?_, ?_, h⟩
    · have := Option.some.inj h
      rw [← this]
      split <;> omega
    · have := Option.some.inj h
      rw [← this]
      split <;> omega

/-- what a step at A comes to, whatever comes behind A -/
def Firm (W : Nat) (st : LS) (A : List UInt8) : Prop := ∃ n st' it, 0 < n ∧ n ≤ A.length ∧ st'.scan ≤ 10 ∧ ∀ B, stepL W st (A ++ B) = .done n st' it
def Soft (W : Nat) (st : LS) (A : List UInt8) : Prop :=
  ∃ n st', n ≤ A.length ∧ st'.scan ≤ 10 ∧ (stepL W st A = .more n st' ∨ (stepL W st A = .done n st' [] ∧ n = A.length)) ∧ ∀ B, A.drop n ++ B ≠ [] → stepL W st (A ++ B) = (stepL W st' (A.drop n ++ B)).shift n
theorem soft_held {W : Nat} {st : LS} {A : List UInt8} (h0 : st.scan ≤ 10) (h : stepL W st A = .more 0 st) : Soft W st A :=
  ⟨0, st, Nat.zero_le _, h0, .inl h, fun B _ => by rw [List.drop_zero, shift_zero]⟩
theorem getD_append {A B : List UInt8} {i : Nat} (h : i < A.length) : (A ++ B).getD i 0 = A.getD i 0 := by
  rw [List.getD_eq_getElem?_getD, List.getD_eq_getElem?_getD, List.getElem?_append_left h]
theorem skip_step {W : Nat} {st : LS} (h0 : 3 ≤ st.scan) (L : List UInt8) : stepL W st L = skipTagRes st L := by
  unfold stepL
  rw [if_neg (by omega), if_neg (by omega), if_pos (by omega)]
end Go.Proofs.YtchhlocibijekaaGreatDoor

/-
  The lexer's run over a text that is cut: what each step comes to, and the whole.
-/
namespace Go.Proofs.YtchhlocibijekaaGreatDoor

section
variable {W : Nat} {st : LS} {A : List UInt8}
theorem app_nil {R : List UInt8 → Res} (h : ∀ B, stepL W st (A ++ B) = R (A ++ B)) : stepL W st A = R A := by
  have := h []
  rwa [List.append_nil] at this
theorem byte_step {c : UInt8} (h0 : st.scan ≤ 10) (hA : A ≠ []) (h : ∀ B, stepL W st (A ++ B) = byteRes st c) : Firm W st A ∨ Soft W st A :=
  .inl ⟨1, noEat st, unitL2 st [c], by omega, List.length_pos_iff.2 hA, h0, h⟩
theorem ref_step (h0 : st.scan ≤ 10) (hA : A ≠ []) (h : ∀ B, stepL W st (A ++ B) = refRes st (A ++ B)) : Firm W st A ∨ Soft W st A := by
  cases he : refEnd A with
  | none =>
    refine .inr (soft_held h0 ?_)
    rw [app_nil h]
    unfold refRes
    rw [he]
  | some e =>
    obtain ⟨h1, h2, _⟩ := ref_stable he hA []
    refine .inl ⟨e, noEat st, unitL2 st (unr false (A.take e)), h1, h2, h0, fun B => ?_⟩
    obtain ⟨_, _, h3⟩ := ref_stable he hA B
    rw [h B]
    unfold refRes
    rw [h3]
    simp only
    rw [List.take_append_of_le_length h2]
theorem tag_step {k : Nat} (hW : 32 ≤ W) (h0 : st.scan ≤ 10) (hk0 : 1 ≤ k) (hk2 : k ≤ 2) (hk : k ≤ A.length) (h : ∀ B, stepL W st (A ++ B) = tagL W k (A ++ B) st) : Firm W st A ∨ Soft W st A := by
  have hA : stepL W st A = tagL W k A st := app_nil (R := fun L => tagL W k L st) h
  rcases tag_cases W k hW A st hk0 hk2 hk with h1 | ⟨n, st', it, a1, a2, a3, a4⟩ | ⟨st', a1, a2, a3, a4⟩
  · exact .inr (soft_held h0 (hA.trans h1))
  · exact .inl ⟨n, st', it, a1, a2, a3, fun B => (h B).trans (a4 B)⟩
  · refine .inr ⟨A.length, st', Nat.le_refl _, a2, .inr ⟨hA.trans a3, rfl⟩, fun B _ => ?_⟩
    rw [h B, a4 B, List.drop_length, List.nil_append, skip_step a1]
end

theorem comment_step (W : Nat) (st : LS) (A : List UInt8) (hs : st.scan = 1) : Firm W st A ∨ Soft W st A := by
  have hst : ∀ L, stepL W st L = commentRes st L := fun L => by unfold stepL; rw [if_pos hs]
  cases hc : (comL 0 A).1 with
  | some n =>
    have hn : 0 < n ∧ n ≤ A.length := by
      rcases com_append A [] 0 with ⟨m, h1, h2, h3, _⟩ | ⟨h1, _⟩
      · rw [hc] at h1; rw [Option.some.inj h1]; exact ⟨h2, h3⟩
      · rw [hc] at h1; cases h1
    refine .inl ⟨n, { st with scan := 0 }, [], hn.1, hn.2, by simp, fun B => ?_⟩
    rw [hst]
    unfold commentRes
    rcases com_append A B 0 with ⟨m, h1, _, _, h4⟩ | ⟨h1, _⟩
    · rw [hc] at h1
      rw [h4, Option.some.inj h1]
    · rw [hc] at h1; cases h1
  | none =>
    obtain ⟨t1, t2⟩ := com_tail A 0 (by omega) hc
    obtain ⟨F, hF⟩ := t2
    rw [List.replicate_zero, List.nil_append] at hF
    obtain ⟨d, hd⟩ : ∃ d, (comL 0 A).2 = d := ⟨_, rfl⟩
    rw [hd] at t1 hF
    have hl : F.length + d = A.length := by rw [← hF, List.length_append, List.length_replicate]
    have hdrop : A.drop (A.length - d) = List.replicate d 45 := by
      rw [← hF, List.length_append, List.length_replicate, Nat.add_sub_cancel, List.drop_left]
    refine .inr ⟨A.length - d, st, by omega, by omega, .inl ?_, fun B _ => ?_⟩
    · rw [hst]
      unfold commentRes
      rw [hc, hd]
    · rw [hst, hst, hdrop]
      unfold commentRes
      obtain ⟨c1, c2⟩ := com_dashes d t1 B
      rcases com_append A B 0 with ⟨m, h1, _⟩ | ⟨_, h2, h3⟩
      · rw [hc] at h1; cases h1
      · rw [h2, h3, c1, c2, hd]
        cases (comL d B).1 with
        | none => simp only [Option.map_none, Res.shift, List.length_append, List.length_replicate]; congr 1; have : (comL d B).2 ≤ d + B.length := com_le B d; omega
        | some m => simp only [Option.map_some, Res.shift]; congr 1; omega
theorem bogus_step (W : Nat) (st : LS) (A : List UInt8) (hs : st.scan = 2) : Firm W st A ∨ Soft W st A := by
  have hst : ∀ L, stepL W st L = bogusRes st L := fun L => by unfold stepL; rw [if_neg (by omega), if_pos hs]
  cases hc : byteIdx 62 A with
  | some n =>
    have hn : n < A.length := by
      rcases byte_append 62 A [] with ⟨m, h1, h2, _⟩ | ⟨h1, _⟩
      · rw [hc] at h1; rw [Option.some.inj h1]; exact h2
      · rw [hc] at h1; cases h1
    refine .inl ⟨n + 1, { st with scan := 0 }, [], by omega, hn, by simp, fun B => ?_⟩
    rw [hst]
    unfold bogusRes
    rcases byte_append 62 A B with ⟨m, h1, _, _, h4⟩ | ⟨h1, _⟩
    · rw [hc] at h1
      rw [h4, Option.some.inj h1]
    · rw [hc] at h1; cases h1
  | none =>
    refine .inr ⟨A.length, st, Nat.le_refl _, by omega, .inl ?_, fun B _ => ?_⟩
    · rw [hst]
      unfold bogusRes
      rw [hc]
    · rw [hst, hst, List.drop_length, List.nil_append]
      unfold bogusRes
      rcases byte_append 62 A B with ⟨m, h1, _⟩ | ⟨_, h2⟩
      · rw [hc] at h1; cases h1
      · rw [h2]
        cases byteIdx 62 B with
        | none => simp [Res.shift]
        | some m => simp only [Option.map_some, Res.shift]; congr 1; omega
theorem skip_tag_step (W : Nat) (st : LS) (A : List UInt8) (h3 : 3 ≤ st.scan) (h0 : st.scan ≤ 10) (hA : A ≠ []) : Firm W st A ∨ Soft W st A := by
  have hst : ∀ L, stepL W st L = skipTagRes st L := skip_step h3
  have hrange := pass_range A st.scan (.inr ⟨h3, h0⟩)
  by_cases hp : (passL st.scan A).2 = 0
  · have hle : (passL st.scan A).1 ≤ A.length := by
      rcases pass_append A [] st.scan with ⟨_, h, _⟩ | ⟨h, _⟩
      · exact h
      · exact absurd hp h
    have hpos : 0 < (passL st.scan A).1 := by
      cases A with
      | nil => exact absurd rfl hA
      | cons c A => unfold passL; rw [if_neg (by omega)]; simp
    refine .inl ⟨(passL st.scan A).1, { st with scan := (passL st.scan A).2 }, [], hpos, hle, by show (passL st.scan A).2 ≤ 10; omega, fun B => ?_⟩
    rw [hst]
    unfold skipTagRes
    rcases pass_append A B st.scan with ⟨_, _, h⟩ | ⟨h, _⟩
    · rw [h]
    · exact absurd hp h
  · have hlen : (passL st.scan A).1 = A.length := by
      rcases pass_append A [] st.scan with ⟨h, _⟩ | ⟨_, h, _⟩
      · exact absurd h hp
      · exact h
    refine .inr ⟨A.length, { st with scan := (passL st.scan A).2 }, Nat.le_refl _, by show (passL st.scan A).2 ≤ 10; omega, .inr ⟨?_, rfl⟩, fun B _ => ?_⟩
    · rw [hst]
      unfold skipTagRes
      rw [hlen]
    · rw [hst, List.drop_length, List.nil_append, skip_step (by show 3 ≤ (passL st.scan A).2; omega)]
      unfold skipTagRes
      rcases pass_append A B st.scan with ⟨h, _⟩ | ⟨_, _, h⟩
      · exact absurd h hp
      · rw [h]
        rfl

theorem ne_app {A : List UInt8} (hA : A ≠ []) (B : List UInt8) : (A ++ B).getD 0 0 = A.getD 0 0 := getD_append (List.length_pos_iff.2 hA)
theorem data_step (W : Nat) (hW : 32 ≤ W) (st : LS) (A : List UInt8) (hA : A ≠ []) (hs : st.scan = 0) (hm : st.mode = 0) : Firm W st A ∨ Soft W st A := by
  have hst : ∀ L, stepL W st L = dataRes W st L := fun L => by unfold stepL; rw [if_neg (by omega), if_neg (by omega), if_neg (by omega), if_pos hm]
  have h0 : st.scan ≤ 10 := by omega
  by_cases h60 : A.getD 0 0 = 60
  · have hst2 : ∀ B, stepL W st (A ++ B) = markupRes W st (A ++ B) := fun B => by rw [hst]; unfold dataRes; rw [ne_app hA, if_pos h60]
    obtain ⟨r, hr⟩ : ∃ r, A = 60 :: r := by
      cases A with
      | nil => exact absurd rfl hA
      | cons c r => exact ⟨r, by simp at h60; rw [h60]⟩
    by_cases hsp : A = [60] ∨ A = [60, 47] ∨ A = [60, 33] ∨ A = [60, 33, 45]
    · refine .inr (soft_held h0 ?_)
      rw [app_nil hst2]
      unfold markupRes
      rw [if_pos hsp]
    · have hl2 : 2 ≤ A.length := by
        rw [hr, List.length_cons]
        cases r with
        | nil => exact absurd (.inl hr) hsp
        | cons _ _ => simp
      have hspB : ∀ B, ¬ (A ++ B = [60] ∨ A ++ B = [60, 47] ∨ A ++ B = [60, 33] ∨ A ++ B = [60, 33, 45]) := by
        intro B h
        have hpre : ∀ X : List UInt8, A ++ B = X → A = X.take A.length := fun X hX => by rw [← hX, List.take_left]
        rcases h with h | h | h | h
        · have := congrArg List.length h; rw [List.length_append] at this; simp at this; omega
        · have h1 := hpre _ h
          have := congrArg List.length h; rw [List.length_append] at this; simp at this
          rw [show A.length = 2 from by omega] at h1
          exact hsp (.inr (.inl h1))
        · have h1 := hpre _ h
          have := congrArg List.length h; rw [List.length_append] at this; simp at this
          rw [show A.length = 2 from by omega] at h1
          exact hsp (.inr (.inr (.inl h1)))
        · have h1 := hpre _ h
          have := congrArg List.length h; rw [List.length_append] at this; simp at this
          rcases (show A.length = 2 ∨ A.length = 3 by omega) with e | e
          · rw [e] at h1; exact hsp (.inr (.inr (.inl h1)))
          · rw [e] at h1; exact hsp (.inr (.inr (.inr h1)))
      have g1 : ∀ B, (A ++ B).getD 1 0 = A.getD 1 0 := fun B => getD_append (by omega)
      by_cases hlet : letterC (A.getD 1 0) = true
      · refine tag_step (k := 1) hW h0 (by omega) (by omega) (by omega) (fun B => ?_)
        rw [hst2]
        unfold markupRes
        rw [if_neg (hspB B), g1, if_pos hlet]
      · by_cases hsl : A.getD 1 0 = 47
        · have hl3 : 3 ≤ A.length := by
            rcases Nat.lt_or_ge A.length 3 with h | h
            · exfalso
              rw [hr] at hsl h hsp
              cases r with
              | nil => simp at hsl
              | cons c r =>
                cases r with
                | nil => simp at hsl; exact hsp (.inr (.inl (by rw [hsl])))
                | cons _ _ => simp at h; omega
            · exact h
          have g2 : ∀ B, (A ++ B).getD 2 0 = A.getD 2 0 := fun B => getD_append (by omega)
          by_cases hlet2 : letterC (A.getD 2 0) = true
          · refine tag_step (k := 2) hW h0 (by omega) (by omega) (by omega) (fun B => ?_)
            rw [hst2]
            unfold markupRes
            rw [if_neg (hspB B), g1, g2, if_neg hlet, if_pos ⟨hsl, hlet2⟩]
          · refine .inl ⟨2, ⟨st.mode, 2, false⟩, [], by omega, by omega, by simp, fun B => ?_⟩
            rw [hst2]
            unfold markupRes
            have hnp : ¬ [60, 33, 45, 45] <+: (A ++ B) := by
              rintro ⟨t, ht⟩
              have := g1 B
              rw [← ht] at this
              rw [hsl] at this
              simp at this
            rw [if_neg (hspB B), g1, g2, if_neg hlet, if_neg (fun h => hlet2 h.2), if_neg hnp, if_pos (.inr (.inr hsl))]
        · by_cases hcm : [60, 33, 45, 45] <+: A
          · refine .inl ⟨2, ⟨st.mode, 1, false⟩, [], by omega, by omega, by simp, fun B => ?_⟩
            rw [hst2]
            unfold markupRes
            rw [if_neg (hspB B), g1, if_neg hlet, if_neg (fun h => hsl h.1), if_pos (hcm.trans (List.prefix_append A B))]
          · have hcmB : ∀ B, ¬ [60, 33, 45, 45] <+: (A ++ B) := by
              intro B h
              rcases Nat.lt_or_ge A.length 4 with h4 | h4
              · have h5 : A <+: [60, 33, 45, 45] := by
                  refine List.prefix_of_prefix_length_le (List.prefix_append A B) h (by simp; omega)
                have h6 := List.prefix_iff_eq_take.1 h5
                rcases (show A.length = 2 ∨ A.length = 3 by omega) with e | e
                · rw [e] at h6; exact hsp (.inr (.inr (.inl h6)))
                · rw [e] at h6; exact hsp (.inr (.inr (.inr h6)))
              · exact hcm (List.prefix_of_prefix_length_le h (List.prefix_append A B) (by simp; omega))
            by_cases hbg : A.getD 1 0 = 33 ∨ A.getD 1 0 = 63 ∨ A.getD 1 0 = 47
            · refine .inl ⟨2, ⟨st.mode, 2, false⟩, [], by omega, by omega, by simp, fun B => ?_⟩
              rw [hst2]
              unfold markupRes
              rw [if_neg (hspB B), g1, if_neg hlet, if_neg (fun h => hsl h.1), if_neg (hcmB B), if_pos hbg]
            · refine byte_step (c := 60) h0 hA (fun B => ?_)
              rw [hst2]
              unfold markupRes
              rw [if_neg (hspB B), g1, if_neg hlet, if_neg (fun h => hsl h.1), if_neg (hcmB B), if_neg hbg]
  · by_cases h38 : A.getD 0 0 = 38
    · refine ref_step h0 hA (fun B => ?_)
      rw [hst]
      unfold dataRes
      rw [ne_app hA, if_neg h60, if_pos h38]
    · refine byte_step (c := A.getD 0 0) h0 hA (fun B => ?_)
      rw [hst]
      unfold dataRes
      rw [ne_app hA, if_neg h60, if_neg h38]
theorem area_step (W : Nat) (hW : 32 ≤ W) (st : LS) (A : List UInt8) (hA : A ≠ []) (hs : st.scan = 0) (hm : st.mode = 1) : Firm W st A ∨ Soft W st A := by
  have hst : ∀ L, stepL W st L = areaRes W st L := fun L => by unfold stepL; rw [if_neg (by omega), if_neg (by omega), if_neg (by omega), if_neg (by omega), if_pos hm]
  have h0 : st.scan ≤ 10 := by omega
  by_cases h60 : A.getD 0 0 = 60
  · by_cases o1 : ownL (60 :: 47 :: rawL 1) A = 1
    · refine .inr (soft_held h0 ?_)
      rw [hst]
      unfold areaRes
      rw [if_pos h60]
      simp only
      rw [if_pos o1]
    · have hos := fun B => own_stable (60 :: 47 :: rawL 1) A B o1
      by_cases o2 : ownL (60 :: 47 :: rawL 1) A = 2
      · refine tag_step (k := 2) hW h0 (by omega) (by omega) (by have := own_two _ _ o2; simp only [List.length_cons] at this; omega) (fun B => ?_)
        rw [hst]
        unfold areaRes
        rw [ne_app hA, if_pos h60]
        simp only
        rw [hos B, if_neg o1, if_pos o2]
      · refine byte_step (c := 60) h0 hA (fun B => ?_)
        rw [hst]
        unfold areaRes
        rw [ne_app hA, if_pos h60]
        simp only
        rw [hos B, if_neg o1, if_neg o2]
  · by_cases h38 : A.getD 0 0 = 38
    · refine ref_step h0 hA (fun B => ?_)
      rw [hst]
      unfold areaRes
      rw [ne_app hA, if_neg h60, if_pos h38]
    · refine byte_step (c := A.getD 0 0) h0 hA (fun B => ?_)
      rw [hst]
      unfold areaRes
      rw [ne_app hA, if_neg h60, if_neg h38]
theorem raw_at {W : Nat} {st : LS} {L : List UInt8} (h10 : st.mode ≠ 10) (i : Nat) (h : byteIdx 60 L = some i) : rawRes W st L =
    if ownL (60 :: 47 :: rawL st.mode) (L.drop i) = 1 then .more i st else if ownL (60 :: 47 :: rawL st.mode) (L.drop i) = 2 then (tagL W 2 (L.drop i) st).shift i else .done (i + 1) st [] := by
  unfold rawRes
  rw [h]
  simp only
  rw [if_neg h10]
theorem raw_step (W : Nat) (hW : 32 ≤ W) (st : LS) (A : List UInt8) (hs : st.scan = 0) (hm : st.mode ≠ 0) (hm1 : st.mode ≠ 1) : Firm W st A ∨ Soft W st A := by
  have hst : ∀ L, stepL W st L = rawRes W st L := fun L => by unfold stepL; rw [if_neg (by omega), if_neg (by omega), if_neg (by omega), if_neg hm, if_neg hm1]
  have h0 : st.scan ≤ 10 := by omega
  by_cases h10 : st.mode = 10
  · have hr : ∀ L, rawRes W st L = .done L.length st [] := fun L => by
      unfold rawRes
      cases byteIdx 60 L with
      | none => rfl
      | some i => simp only; rw [if_pos h10]
    refine .inr ⟨A.length, st, Nat.le_refl _, h0, .inr ⟨(hst A).trans (hr A), rfl⟩, fun B _ => ?_⟩
    rw [hst, hst, hr, hr, List.drop_length, List.nil_append, List.length_append]
    rfl
  · cases hc : byteIdx 60 A with
    | none =>
      refine .inr ⟨A.length, st, Nat.le_refl _, h0, .inr ⟨?_, rfl⟩, fun B _ => ?_⟩
      · rw [hst]; unfold rawRes; rw [hc]
      · rw [hst, hst, List.drop_length, List.nil_append]
        rcases byte_append 60 A B with ⟨m, h1, _⟩ | ⟨_, h2⟩
        · rw [hc] at h1; cases h1
        · cases hb : byteIdx 60 B with
          | none =>
            rw [hb] at h2
            unfold rawRes
            rw [h2, hb]
            simp [Res.shift]
          | some m =>
            rw [hb] at h2
            have hd : (A ++ B).drop (m + A.length) = B.drop m := by rw [Nat.add_comm, ← List.drop_drop, List.drop_left]
            rw [raw_at h10 _ h2, raw_at h10 _ hb, hd]
            split
            · simp only [Res.shift]; rw [Nat.add_comm]
            · split
              · rw [shift_shift, Nat.add_comm]
              · simp only [Res.shift]; congr 1; omega
    | some i =>
      obtain ⟨hi, hx⟩ : i < A.length ∧ A[i]? = some 60 := by
        rcases byte_append 60 A [] with ⟨m, h1, h2, h3, _⟩ | ⟨h1, _⟩
        · rw [hc] at h1; rw [Option.some.inj h1]; exact ⟨h2, h3⟩
        · rw [hc] at h1; cases h1
      have hcB : ∀ B, byteIdx 60 (A ++ B) = some i := fun B => by
        rcases byte_append 60 A B with ⟨m, h1, _, _, h4⟩ | ⟨h1, _⟩
        · rw [hc] at h1; rw [h4, Option.some.inj h1]
        · rw [hc] at h1; cases h1
      have hd : ∀ B, (A ++ B).drop i = A.drop i ++ B := fun B => List.drop_append_of_le_length (by omega)
      have hat : ∀ B, byteIdx 60 (A.drop i ++ B) = some 0 := fun B => by
        obtain ⟨h1, h2⟩ := List.getElem?_eq_some_iff.1 hx
        rw [List.drop_eq_getElem_cons h1, h2]
        simp [byteIdx]
      have hne : A.drop i ≠ [] := by
        intro h
        have := congrArg List.length h
        rw [List.length_drop] at this
        simp at this
        omega
      by_cases o1 : ownL (60 :: 47 :: rawL st.mode) (A.drop i) = 1
      · refine .inr ⟨i, st, by omega, h0, .inl ?_, fun B _ => ?_⟩
        · rw [hst, raw_at h10 _ hc, if_pos o1]
        · rw [hst, hst, raw_at h10 _ (hcB B), raw_at h10 _ (hat B), hd, List.drop_zero]
          split
          · simp [Res.shift]
          · split
            · rw [shift_shift, Nat.add_zero]
            · simp [Res.shift]
      · have hos := fun B => own_stable (60 :: 47 :: rawL st.mode) (A.drop i) B o1
        by_cases o2 : ownL (60 :: 47 :: rawL st.mode) (A.drop i) = 2
        · have hstB : ∀ B, stepL W st (A ++ B) = (tagL W 2 (A.drop i ++ B) st).shift i := fun B => by
            rw [hst, raw_at h10 _ (hcB B), hd, hos B, if_neg o1, if_pos o2]
          have hstA : stepL W st A = (tagL W 2 (A.drop i) st).shift i := by
            have := hstB []
            rwa [List.append_nil, List.append_nil] at this
          have hk : 2 ≤ (A.drop i).length := by have := own_two _ _ o2; simp only [List.length_cons] at this; omega
          rcases tag_cases W 2 hW (A.drop i) st (by omega) (by omega) hk with h1 | ⟨n, st', it, a1, a2, a3, a4⟩ | ⟨st', a1, a2, a3, a4⟩
          · refine .inr ⟨i, st, by omega, h0, .inl ?_, fun B _ => ?_⟩
            · rw [hstA, h1]; simp [Res.shift]
            · rw [hstB, hst, raw_at h10 _ (hat B), List.drop_zero, hos B, if_neg o1, if_pos o2, shift_zero]
          · refine .inl ⟨i + n, st', it, by omega, by rw [List.length_drop] at a2; omega, a3, fun B => ?_⟩
            rw [hstB, a4]; rfl
          · have hl : i + (A.drop i).length = A.length := by rw [List.length_drop]; omega
            refine .inr ⟨A.length, st', Nat.le_refl _, a2, .inr ⟨?_, rfl⟩, fun B _ => ?_⟩
            · rw [hstA, a3]; simp only [Res.shift]; rw [hl]
            · rw [hstB, a4, List.drop_length, List.nil_append, skip_step a1, shift_shift, hl]
        · refine .inl ⟨i + 1, st, [], by omega, by omega, h0, fun B => ?_⟩
          rw [hst, raw_at h10 _ (hcB B), hd, hos B, if_neg o1, if_neg o2]
theorem step_cases (W : Nat) (hW : 32 ≤ W) (st : LS) (h0 : st.scan ≤ 10) (A : List UInt8) (hA : A ≠ []) : Firm W st A ∨ Soft W st A := by
  by_cases h1 : st.scan = 1
  · exact comment_step W st A h1
  · by_cases h2 : st.scan = 2
    · exact bogus_step W st A h2
    · by_cases h3 : st.scan = 0
      · by_cases m0 : st.mode = 0
        · exact data_step W hW st A hA h3 m0
        · by_cases m1 : st.mode = 1
          · exact area_step W hW st A hA h3 m1
          · exact raw_step W hW st A h3 m0 m1
      · exact skip_tag_step W st A (by omega) h0 hA
end Go.Proofs.YtchhlocibijekaaGreatDoor

/-
  The lexer's run over pieces is the run over the whole.
-/
namespace Go.Proofs.YtchhlocibijekaaGreatDoor

theorem step_pos {W : Nat} (hW : 32 ≤ W) {st : LS} (h0 : st.scan ≤ 10) {L : List UInt8} (hL : L ≠ []) {n : Nat} {st' : LS} {it : List Item} (h : stepL W st L = .done n st' it) : 0 < n ∧ n ≤ L.length ∧ st'.scan ≤ 10 := by
  rcases step_cases W hW st h0 L hL with ⟨m, s, i, a1, a2, a3, a4⟩ | ⟨m, s, a1, a2, a3, _⟩
  · have := a4 []
    rw [List.append_nil, h] at this
    cases this
    exact ⟨a1, a2, a3⟩
  · rcases a3 with a3 | ⟨a3, a4⟩
    · rw [h] at a3; cases a3
    · rw [h] at a3
      cases a3
      exact ⟨by rw [a4]; exact List.length_pos_iff.2 hL, a1, a2⟩
theorem step_more {W : Nat} (hW : 32 ≤ W) {st : LS} (h0 : st.scan ≤ 10) {L : List UInt8} (hL : L ≠ []) {n : Nat} {st' : LS} (h : stepL W st L = .more n st') : n ≤ L.length ∧ st'.scan ≤ 10 := by
  rcases step_cases W hW st h0 L hL with ⟨m, s, i, a1, a2, a3, a4⟩ | ⟨m, s, a1, a2, a3, _⟩
  · have := a4 []
    rw [List.append_nil, h] at this
    cases this
  · rcases a3 with a3 | ⟨a3, _⟩
    · rw [h] at a3
      cases a3
      exact ⟨a1, a2⟩
    · rw [h] at a3; cases a3
theorem runF_fuel {W : Nat} (hW : 32 ≤ W) : ∀ (f g : Nat) (st : LS) (L : List UInt8), st.scan ≤ 10 → L.length ≤ f → L.length ≤ g → runF W f st L = runF W g st L
  | 0, 0, _, _, _, _, _ => rfl
  | 0, g + 1, st, L, _, h, _ => by
    obtain rfl := List.length_eq_zero_iff.1 (Nat.le_zero.1 h)
    rfl
  | f + 1, 0, st, L, _, _, h => by
    obtain rfl := List.length_eq_zero_iff.1 (Nat.le_zero.1 h)
    rfl
  | f + 1, g + 1, st, L, h0, hf, hg => by
    unfold runF
    by_cases hL : L = []
    · rw [if_pos hL, if_pos hL]
    · rw [if_neg hL, if_neg hL]
      cases hs : stepL W st L with
      | more n st' => rfl
      | done n st' it =>
        obtain ⟨h1, h2, h3⟩ := step_pos hW h0 hL hs
        simp only
        rw [runF_fuel hW f g st' (L.drop n) h3 (by rw [List.length_drop]; omega) (by rw [List.length_drop]; omega)]
theorem run_nil (W : Nat) (st : LS) : runL W st [] = (st, [], []) := rfl
theorem run_more {W : Nat} {st : LS} {L : List UInt8} (hL : L ≠ []) {n : Nat} {st' : LS} (h : stepL W st L = .more n st') : runL W st L = (st', L.drop n, []) := by
  unfold runL
  cases L with
  | nil => exact absurd rfl hL
  | cons c r =>
    rw [List.length_cons]
    unfold runF
    rw [if_neg hL, h]
theorem run_done {W : Nat} (hW : 32 ≤ W) {st : LS} (h0 : st.scan ≤ 10) {L : List UInt8} (hL : L ≠ []) {n : Nat} {st' : LS} {it : List Item} (h : stepL W st L = .done n st' it) :
    runL W st L = ((runL W st' (L.drop n)).1, (runL W st' (L.drop n)).2.1, it ++ (runL W st' (L.drop n)).2.2) := by
  obtain ⟨h1, h2, h3⟩ := step_pos hW h0 hL h
  unfold runL
  cases L with
  | nil => exact absurd rfl hL
  | cons c r =>
    rw [List.length_cons, runF, if_neg hL, h]
    simp only
    rw [runF_fuel hW r.length ((c :: r).drop n).length st' ((c :: r).drop n) h3 (by rw [List.length_drop, List.length_cons]; omega) (Nat.le_refl _)]
theorem run_scan {W : Nat} (hW : 32 ≤ W) : ∀ (N : Nat) (st : LS) (L : List UInt8), st.scan ≤ 10 → L.length ≤ N → (runL W st L).1.scan ≤ 10
  | _, st, [], h0, _ => h0
  | 0, st, c :: r, _, h => by simp at h
  | N + 1, st, c :: r, h0, h => by
    cases hs : stepL W st (c :: r) with
    | more n st' => rw [run_more (by simp) hs]; exact (step_more hW h0 (by simp) hs).2
    | done n st' it =>
      obtain ⟨h1, h2, h3⟩ := step_pos hW h0 (by simp) hs
      rw [run_done hW h0 (by simp) hs]
      exact run_scan hW N st' _ h3 (by rw [List.length_drop]; omega)
/-- where a step leaves part of the bytes, they are taken up as if they had come at once -/
theorem run_shift {W : Nat} (hW : 32 ≤ W) {st st' : LS} (h0 : st.scan ≤ 10) (h0' : st'.scan ≤ 10) {n : Nat} {X Y : List UInt8} (hX : X ≠ []) (hY : Y ≠ []) (hd : Y.drop n = X) (h : stepL W st Y = (stepL W st' X).shift n) : runL W st Y = runL W st' X := by
  cases hs : stepL W st' X with
  | more m s =>
    rw [hs] at h
    rw [run_more hX hs, run_more hY h, ← hd, List.drop_drop]
  | done m s it =>
    rw [hs] at h
    rw [run_done hW h0' hX hs, run_done hW h0 hY h, ← hd, List.drop_drop]
theorem run_cut {W : Nat} (hW : 32 ≤ W) : ∀ (N : Nat) (st : LS) (A B : List UInt8), st.scan ≤ 10 → A.length ≤ N →
    runL W st (A ++ B) = ((runL W (runL W st A).1 ((runL W st A).2.1 ++ B)).1, (runL W (runL W st A).1 ((runL W st A).2.1 ++ B)).2.1, (runL W st A).2.2 ++ (runL W (runL W st A).1 ((runL W st A).2.1 ++ B)).2.2)
  | _, st, [], B, _, _ => by rw [run_nil]; rfl
  | 0, st, c :: r, B, _, h => by simp at h
  | N + 1, st, c :: r, B, h0, h => by
    have hA : c :: r ≠ [] := by simp
    have hAB : c :: r ++ B ≠ [] := by simp
    rcases step_cases W hW st h0 (c :: r) hA with ⟨n, st', it, a1, a2, a3, a4⟩ | ⟨n, st', a1, a2, a3, a4⟩
    · have s1 : stepL W st (c :: r) = .done n st' it := by have := a4 []; rwa [List.append_nil] at this
      have ih := run_cut hW N st' ((c :: r).drop n) B a3 (by rw [List.length_drop]; omega)
      rw [run_done hW h0 hA s1, run_done hW h0 hAB (a4 B), List.drop_append_of_le_length a2, ih]
      simp only [List.append_assoc]
    · have hr : runL W st (c :: r) = (st', (c :: r).drop n, []) := by
        rcases a3 with a3 | ⟨a3, a5⟩
        · exact run_more hA a3
        · rw [run_done hW h0 hA a3, a5, List.drop_length, run_nil]
          rfl
      rw [hr]
      simp only [List.nil_append]
      by_cases hX : (c :: r).drop n ++ B = []
      · have hB : B = [] := (List.append_eq_nil_iff.1 hX).2
        have hD : (c :: r).drop n = [] := (List.append_eq_nil_iff.1 hX).1
        rw [hB, List.append_nil, List.append_nil, hr, hD, run_nil]
      · rw [run_shift hW h0 a2 hX hAB (List.drop_append_of_le_length a1) (a4 B hX)]
/-- what is held needs more bytes: run again it gives nothing -/
theorem run_again {W : Nat} (hW : 32 ≤ W) (st : LS) (A : List UInt8) (h0 : st.scan ≤ 10) : runL W (runL W st A).1 (runL W st A).2.1 = ((runL W st A).1, (runL W st A).2.1, []) := by
  have h := run_cut hW A.length st A [] h0 (Nat.le_refl _)
  rw [List.append_nil, List.append_nil] at h
  have h1 := congrArg (fun x => x.1) h
  have h2 := congrArg (fun x => x.2.1) h
  have h3 := congrArg (fun x => x.2.2) h
  simp only at h1 h2 h3
  have h4 : (runL W (runL W st A).1 (runL W st A).2.1).2.2 = [] := by
    have := congrArg List.length h3
    rw [List.length_append] at this
    exact List.eq_nil_of_length_eq_zero (by omega)
  exact Prod.ext h1.symm (Prod.ext h2.symm h4)

/-! ## what is held is short -/

theorem own_held : ∀ (o A : List UInt8), ownL o A = 1 → A.length ≤ o.length
  | _, [], _ => Nat.zero_le _
  | [], c :: A, h => by unfold ownL at h; split at h <;> simp at h
  | o :: os, c :: A, h => by
    unfold ownL at h
    split at h
    · have := own_held os A h
      simp only [List.length_cons]
      omega
    · simp at h
theorem raw_len (m : Nat) : (rawL m).length ≤ 10 := by
  unfold rawL
  rw [List.getD_eq_getElem?_getD]
  cases h : rawNames[m - 1]? with
  | none => simp
  | some x =>
    have : ∀ y ∈ rawNames, y.length ≤ 10 := by decide +kernel
    exact this x (List.mem_of_getElem? h)
theorem tag_held {W k n : Nat} {L : List UInt8} {st st' : LS} (hk : k ≤ L.length) (h : tagL W k L st = .more n st') : L.length ≤ W ∧ n = 0 := by
  unfold tagL at h
  simp only at h
  split at h
  · rename_i hc
    simp only [Res.more.injEq] at h
    refine ⟨?_, h.1.symm⟩
    rcases pass_append (L.drop k) [] 3 with ⟨h1, _⟩ | ⟨_, h1, _⟩
    · exact absurd h1 hc.2
    · have := hc.1
      rw [h1, List.length_drop] at this
      omega
  · cases h
theorem ref_held {n : Nat} {L : List UInt8} {st st' : LS} (h : refRes st L = .more n st') : L.length < 32 ∧ n = 0 := by
  unfold refRes at h
  split at h
  · rename_i hr
    simp only [Res.more.injEq] at h
    refine ⟨?_, h.1.symm⟩
    rw [refEnd_eq] at hr
    split at hr
    · split at hr
      · omega
      · cases hr
    · cases hr
  · cases h
theorem step_held {W : Nat} (hW : 32 ≤ W) {st : LS} {L : List UInt8} {n : Nat} {st' : LS} (h : stepL W st L = .more n st') : L.length - n ≤ W := by
  unfold stepL at h
  split at h
  · unfold commentRes at h
    split at h
    · cases h
    · rename_i hc
      simp only [Res.more.injEq] at h
      have := (com_tail L 0 (by omega) hc).1
      omega
  · split at h
    · unfold bogusRes at h
      split at h
      · cases h
      · simp only [Res.more.injEq] at h
        omega
    · split at h
      · unfold skipTagRes at h; cases h
      · split at h
        · unfold dataRes at h
          split at h
          · rename_i h60
            unfold markupRes at h
            split at h
            · rename_i hs
              rcases hs with hs | hs | hs | hs <;> (rw [hs]; simp; omega)
            · split at h
              · rename_i hs hl
                have hk : 1 ≤ L.length := by
                  cases L with
                  | nil => simp at h60
                  | cons _ _ => simp
                have := (tag_held hk h).1
                omega
              · split at h
                · rename_i hl
                  have hk : 2 ≤ L.length := by
                    cases L with
                    | nil => simp at h60
                    | cons _ r =>
                      cases r with
                      | nil => simp at hl
                      | cons _ _ => simp
                  have := (tag_held hk h).1
                  omega
                · split at h
                  · cases h
                  · split at h
                    · cases h
                    · unfold byteRes at h; cases h
          · split at h
            · have := ref_held h; omega
            · unfold byteRes at h; cases h
        · split at h
          · unfold areaRes at h
            split at h
            · simp only at h
              split at h
              · rename_i ho
                have h1 := own_held _ _ ho
                have h2 := raw_len 1
                simp only [List.length_cons] at h1
                omega
              · split at h
                · rename_i ho
                  have h1 := own_two _ _ ho
                  simp only [List.length_cons] at h1
                  have := (tag_held (by omega) h).1
                  omega
                · unfold byteRes at h; cases h
            · split at h
              · have := ref_held h; omega
              · unfold byteRes at h; cases h
          · unfold rawRes at h
            split at h
            · cases h
            · rename_i i hi
              split at h
              · cases h
              · simp only at h
                split at h
                · rename_i ho
                  have h1 := own_held _ _ ho
                  have h2 := raw_len st.mode
                  simp only [Res.more.injEq] at h
                  simp only [List.length_cons, List.length_drop] at h1
                  omega
                · split at h
                  · rename_i ho
                    have h1 := own_two _ _ ho
                    simp only [List.length_cons] at h1
                    cases ht : tagL W 2 (L.drop i) st with
                    | more m s =>
                      rw [ht] at h
                      simp only [Res.shift, Res.more.injEq] at h
                      have h2 := tag_held (by omega) ht
                      rw [List.length_drop] at h2
                      omega
                    | done m s it =>
                      rw [ht] at h
                      cases h
                  · cases h
theorem run_held {W : Nat} (hW : 32 ≤ W) : ∀ (N : Nat) (st : LS) (L : List UInt8), st.scan ≤ 10 → L.length ≤ N → (runL W st L).2.1.length ≤ W
  | _, st, [], _, _ => by rw [run_nil]; simp
  | 0, st, c :: r, _, h => by simp at h
  | N + 1, st, c :: r, h0, h => by
    cases hs : stepL W st (c :: r) with
    | more n st' =>
      rw [run_more (by simp) hs]
      have := step_held hW hs
      simp only [List.length_drop]
      exact this
    | done n st' it =>
      obtain ⟨h1, h2, h3⟩ := step_pos hW h0 (by simp) hs
      rw [run_done hW h0 (by simp) hs]
      exact run_held hW N st' _ h3 (by rw [List.length_drop]; omega)
end Go.Proofs.YtchhlocibijekaaGreatDoor

/-
  The lexer's events as a plain list: texts that meet, joined; and what is told at the end of a text.
-/
namespace Go.Proofs.YtchhlocibijekaaGreatDoor

inductive Ev where
  | text (b : List UInt8)
  | start (name : List UInt8) (attrs : List (List UInt8 × List UInt8))
  | stop (name : List UInt8)
def toEv : Item → Ev
  | .unit b => .text b
  | .start n a => .start n a
  | .stop n => .stop n
def jcons : Ev → List Ev → List Ev
  | .text b, .text c :: r => .text (b ++ c) :: r
  | e, r => e :: r
def joinEv : List Ev → List Ev
  | [] => []
  | e :: r => jcons e (joinEv r)
theorem jcons_start (n : List UInt8) (a : List (List UInt8 × List UInt8)) (r : List Ev) : jcons (.start n a) r = .start n a :: r := rfl
theorem jcons_stop (n : List UInt8) (r : List Ev) : jcons (.stop n) r = .stop n :: r := rfl
theorem jcons_text2 (b c : List UInt8) (r : List Ev) : jcons (.text b) (jcons (.text c) r) = jcons (.text (b ++ c)) r := by
  cases r with
  | nil => rfl
  | cons e r => cases e <;> simp [jcons]
theorem join_two (b c : List UInt8) (r : List Ev) : joinEv (.text b :: .text c :: r) = joinEv (.text (b ++ c) :: r) := jcons_text2 b c (joinEv r)
theorem join_left : ∀ (a b : List Ev), joinEv (joinEv a ++ b) = joinEv (a ++ b)
  | [], b => rfl
  | e :: a, b => by
    have ih := join_left a b
    have h : joinEv (jcons e (joinEv a) ++ b) = jcons e (joinEv (joinEv a ++ b)) := by
      cases e with
      | start n x => rfl
      | stop n => rfl
      | text t =>
        cases hj : joinEv a with
        | nil => rfl
        | cons f r =>
          cases f with
          | start n x => rfl
          | stop n => rfl
          | text u =>
            show jcons (.text (t ++ u)) (joinEv (r ++ b)) = jcons (.text t) (jcons (.text u) (joinEv (r ++ b)))
            rw [jcons_text2]
    show joinEv (jcons e (joinEv a) ++ b) = jcons e (joinEv (a ++ b))
    rw [h, ih]
theorem join_idem (a : List Ev) : joinEv (joinEv a) = joinEv a := by
  have := join_left a []
  rwa [List.append_nil, List.append_nil] at this
theorem join_right : ∀ (a b : List Ev), joinEv (a ++ joinEv b) = joinEv (a ++ b)
  | [], b => join_idem b
  | e :: a, b => by
    show jcons e (joinEv (a ++ joinEv b)) = jcons e (joinEv (a ++ b))
    rw [join_right a b]

/-! ## the stream: events, and the text that was put behind the last of them -/

def flushE (s : List Ev × List UInt8) : List Ev := if s.2 = [] then s.1 else s.1 ++ [.text s.2]
def putI (s : List Ev × List UInt8) : Item → List Ev × List UInt8
  | .unit b => (s.1, s.2 ++ b)
  | .start n a => (flushE s ++ [.start n a], [])
  | .stop n => (flushE s ++ [.stop n], [])
def evsL (l : List Item) : List Ev := flushE (l.foldl putI ([], []))
def fullI : Item → Prop
  | .unit b => b ≠ []
  | _ => True
theorem fold_join : ∀ (l : List Item), (∀ i ∈ l, fullI i) → ∀ (E : List Ev) (t : List UInt8), flushE (l.foldl putI (E, t)) = E ++ joinEv ((if t = [] then [] else [.text t]) ++ l.map toEv)
  | [], _, E, t => by
    unfold flushE
    by_cases ht : t = [] <;> simp [ht, joinEv, jcons]
  | i :: l, h, E, t => by
    have hi := h i (.head _)
    have hl : ∀ j ∈ l, fullI j := fun j hj => h j (.tail _ hj)
    rw [List.foldl_cons]
    cases i with
    | unit b =>
      have hb : b ≠ [] := hi
      show flushE (l.foldl putI (E, t ++ b)) = _
      rw [fold_join l hl E (t ++ b), if_neg (by simp [hb])]
      congr 1
      by_cases ht : t = []
      · subst ht; rfl
      · rw [if_neg ht]
        exact (join_two t b (l.map toEv)).symm
    | start n a =>
      show flushE (l.foldl putI (flushE (E, t) ++ [.start n a], [])) = _
      rw [fold_join l hl _ [], if_pos rfl]
      unfold flushE
      by_cases ht : t = []
      · simp [ht, joinEv, toEv, jcons_start]
      · simp [ht, joinEv, toEv, jcons]
    | stop n =>
      show flushE (l.foldl putI (flushE (E, t) ++ [.stop n], [])) = _
      rw [fold_join l hl _ [], if_pos rfl]
      unfold flushE
      by_cases ht : t = []
      · simp [ht, joinEv, toEv, jcons_stop]
      · simp [ht, joinEv, toEv, jcons]
theorem evs_join (l : List Item) (h : ∀ i ∈ l, fullI i) : evsL l = joinEv (l.map toEv) := by
  unfold evsL
  rw [fold_join l h [] [], if_pos rfl]
  rfl
theorem evs_append (a b : List Item) (hb : ∀ i ∈ b, fullI i) (pre : List Ev) (hp : joinEv pre = joinEv (a.map toEv)) : joinEv (pre ++ evsL b) = joinEv ((a ++ b).map toEv) := by
  rw [evs_join b hb, join_right, ← join_left, hp, join_left, List.map_append]

/-! ## what a run puts out is full -/

theorem unr_full (attr : Bool) (r : List UInt8) : unr attr (38 :: r) ≠ [] := by
  rw [unr_amp]
  intro h
  have h1 := (List.append_eq_nil_iff.1 h).1
  unfold oneL at h1
  split at h1
  · cases h1
  · have h2 := congrArg List.length h1
    rw [← Go.Lib.runeCells_length] at h2
    unfold Go.Lib.runeCells at h2
    rw [List.length_map] at h2
    have := (Go.Lib.encodeRuneZ_length (refL attr r).2).1
    simp at h2
    rw [h2] at this
    simp at this
theorem unit_full {st : LS} {b : List UInt8} (h : b ≠ []) : ∀ i ∈ unitL2 st b, fullI i := by
  intro i hi
  unfold unitL2 at hi
  split at hi
  · cases hi
  · rw [List.mem_singleton] at hi
    rw [hi]
    exact h
theorem tag_full {W k : Nat} {L : List UInt8} {st st' : LS} {n : Nat} {it : List Item} (h : tagL W k L st = .done n st' it) : ∀ i ∈ it, fullI i := by
  unfold tagL at h
  simp only at h
  split at h
  · cases h
  · simp only [Res.done.injEq] at h
    rw [← h.2.2]
    intro i hi
    split at hi
    · split at hi <;> (rw [List.mem_singleton] at hi; rw [hi]; trivial)
    · cases hi
theorem ref_full {st st' : LS} {L : List UInt8} {n : Nat} {it : List Item} (hL : L.getD 0 0 = 38) (h : refRes st L = .done n st' it) : ∀ i ∈ it, fullI i := by
  unfold refRes at h
  split at h
  · cases h
  · rename_i e he
    simp only [Res.done.injEq] at h
    rw [← h.2.2]
    cases L with
    | nil => simp at hL
    | cons c r =>
      obtain ⟨h1, _, _⟩ := ref_stable he (by simp) []
      obtain ⟨m, rfl⟩ : ∃ m, e = m + 1 := ⟨e - 1, by omega⟩
      have hc : c = 38 := by simpa using hL
      subst hc
      exact unit_full (unr_full false _)
theorem step_full {W : Nat} {st st' : LS} {L : List UInt8} {n : Nat} {it : List Item} (h : stepL W st L = .done n st' it) : ∀ i ∈ it, fullI i := by
  have none : ∀ {r : List Item}, r = [] → ∀ i ∈ r, fullI i := fun hr i hi => by rw [hr] at hi; cases hi
  unfold stepL at h
  split at h
  · unfold commentRes at h
    split at h <;> cases h
    exact none rfl
  · split at h
    · unfold bogusRes at h
      split at h <;> cases h
      exact none rfl
    · split at h
      · unfold skipTagRes at h; cases h; exact none rfl
      · split at h
        · unfold dataRes at h
          split at h
          · unfold markupRes at h
            split at h
            · cases h
            · split at h
              · exact tag_full h
              · split at h
                · exact tag_full h
                · split at h
                  · cases h; exact none rfl
                  · split at h
                    · cases h; exact none rfl
                    · unfold byteRes at h; cases h; exact unit_full (by simp)
          · split at h
            · rename_i h38; exact ref_full h38 h
            · unfold byteRes at h; cases h; exact unit_full (by simp)
        · split at h
          · unfold areaRes at h
            split at h
            · simp only at h
              split at h
              · cases h
              · split at h
                · exact tag_full h
                · unfold byteRes at h; cases h; exact unit_full (by simp)
            · split at h
              · rename_i h38; exact ref_full h38 h
              · unfold byteRes at h; cases h; exact unit_full (by simp)
          · unfold rawRes at h
            split at h
            · cases h; exact none rfl
            · rename_i i hi
              split at h
              · cases h; exact none rfl
              · simp only at h
                split at h
                · cases h
                · split at h
                  · cases ht : tagL W 2 (L.drop i) st with
                    | more m s => rw [ht] at h; cases h
                    | done m s it2 =>
                      rw [ht] at h
                      simp only [Res.shift, Res.done.injEq] at h
                      rw [← h.2.2]
                      exact tag_full ht
                  · cases h; exact none rfl
theorem run_full {W : Nat} (hW : 32 ≤ W) : ∀ (N : Nat) (st : LS) (L : List UInt8), st.scan ≤ 10 → L.length ≤ N → ∀ i ∈ (runL W st L).2.2, fullI i
  | _, st, [], _, _ => by rw [run_nil]; intro i hi; cases hi
  | 0, st, c :: r, _, h => by simp at h
  | N + 1, st, c :: r, h0, h => by
    cases hs : stepL W st (c :: r) with
    | more n st' => rw [run_more (by simp) hs]; intro i hi; cases hi
    | done n st' it =>
      obtain ⟨h1, h2, h3⟩ := step_pos hW h0 (by simp) hs
      rw [run_done hW h0 (by simp) hs]
      intro i hi
      rcases List.mem_append.1 hi with hi | hi
      · exact step_full hs i hi
      · exact run_full hW N st' _ h3 (by rw [List.length_drop]; omega) i hi

/-! ## the end of a text -/

def bytesL : LS → List UInt8 → List Item
  | _, [] => []
  | st, c :: r => unitL2 st [c] ++ bytesL (noEat st) r
def endL (st : LS) (L : List UInt8) : List Item :=
  if L = [] ∨ st.scan ≠ 0 then [] else if L.getD 0 0 = 38 then unitL2 st (unr false L)
  else if st.mode = 0 ∧ (L = [60] ∨ L = [60, 47]) ∨ st.mode = 1 ∧ ownL (60 :: 47 :: rawL 1) L = 1 then bytesL st L else []
theorem bytes_full : ∀ (st : LS) (L : List UInt8), ∀ i ∈ bytesL st L, fullI i
  | _, [] => fun i hi => by cases hi
  | st, c :: r => fun i hi => by
    rcases List.mem_append.1 hi with hi | hi
    · exact unit_full (by simp) i hi
    · exact bytes_full _ r i hi
theorem end_full (st : LS) (L : List UInt8) : ∀ i ∈ endL st L, fullI i := by
  unfold endL
  split
  · intro i hi; cases hi
  · rename_i hL
    split
    · rename_i h38
      cases L with
      | nil => exact absurd (.inl rfl) hL
      | cons c r =>
        have hc : c = 38 := by simpa using h38
        subst hc
        exact unit_full (unr_full false r)
    · split
      · exact bytes_full st L
      · intro i hi; cases hi
/-- all that a whole text gives -/
def wholeL (W : Nat) (st : LS) (L : List UInt8) : List Item := (runL W st L).2.2 ++ endL (runL W st L).1 (runL W st L).2.1
end Go.Proofs.YtchhlocibijekaaGreatDoor

/-
  The lexer's single bytes and the states of a tag: their walks.
-/
namespace Go.Proofs.YtchhlocibijekaaGreatDoor
open Go.RowKit Go.Lib

def spaceZ (z : Int) : Bool := decide (z = 9 ∨ z = 10 ∨ z = 12 ∨ z = 13 ∨ z = 32)
def colZ (z : Int) : Int := if z = 47 then 1 else if z = 62 then 2 else if z = 61 then 3 else if z = 34 then 4 else if z = 39 then 5 else if spaceZ z then 0 else 6
theorem u8_int (c k : UInt8) : ((c.toNat : Int) = (k.toNat : Int)) ↔ c = k := by
  constructor
  · intro h; exact UInt8.toNat_inj.1 (by omega)
  · rintro rfl; rfl
theorem spaceZ_C (c : UInt8) : spaceZ (c.toNat : Int) = spaceC c := by
  have := u8_all (p := fun c => spaceZ (c.toNat : Int) == spaceC c) (by decide +kernel) c
  exact beq_iff_eq.1 this
theorem colZ_C (c : UInt8) : colZ (c.toNat : Int) = (colC c : Int) := by
  have := u8_all (p := fun c => decide (colZ (c.toNat : Int) = (colC c : Int))) (by decide +kernel) c
  exact of_decide_eq_true this
theorem colC_lt (c : UInt8) : colC c < 7 := by unfold colC; (repeat' split) <;> omega

theorem space_any (z : Int) (_h0 : 0 ≤ z) (_h1 : z ≤ 255) (w : World) :
    Calls Tryz.prog 93 #[.int .u8 z] w fun e w' => e = .returned (.bool (spaceZ z)) ∧ w' = w := by
  rcases (show z = 9 ∨ z = 10 ∨ z = 12 ∨ z = 13 ∨ z = 32 ∨ (z ≠ 9 ∧ z ≠ 10 ∧ z ≠ 12 ∧ z ≠ 13 ∧ z ≠ 32) by omega) with rfl | rfl | rfl | rfl | rfl | ⟨n1, n2, n3, n4, n5⟩
  rotate_right
  · have hs : spaceZ z = false := by unfold spaceZ; rw [decide_eq_false_iff_not]; omega
    rw [hs]
    have q1 : (z == 9) = false := beq_eq_false_iff_ne.2 n1
    have q2 : (z == 10) = false := beq_eq_false_iff_ne.2 n2
    have q3 : (z == 12) = false := beq_eq_false_iff_ne.2 n3
    have q4 : (z == 13) = false := beq_eq_false_iff_ne.2 n4
    have q5 : (z == 32) = false := beq_eq_false_iff_ne.2 n5
    go_enter Tryz.func93, Tryz.ntmps93
    go_wp2
    go_ret
    exact ⟨rfl, rfl⟩
  all_goals
    go_enter Tryz.func93, Tryz.ntmps93
    go_wp2
    go_ret
    exact ⟨rfl, rfl⟩
theorem column_any (z : Int) (h0 : 0 ≤ z) (h1 : z ≤ 255) (w : World) :
    Calls Tryz.prog 125 #[.int .u8 z] w fun e w' => e = .returned (.int .i64 (colZ z)) ∧ w' = w := by
  have hs := fun W => space_any z h0 h1 W
  have hc : colZ z = if z = 47 then 1 else if z = 62 then 2 else if z = 61 then 3 else if z = 34 then 4 else if z = 39 then 5 else if spaceZ z then 0 else 6 := rfl
  rw [hc]
  generalize spaceZ z = b at hs
  clear hc
  cases b
  all_goals
    go_enter Tryz.func125, Tryz.ntmps125
    go_wp2_with (go_at_call 93; refine (hs _).mono ?_; rintro e w' ⟨rfl, rfl⟩)
  all_goals go_ret
  all_goals refine ⟨ret_i64 ?_, rfl⟩
  all_goals ((repeat' split) <;> first | rfl | omega | simp_all)
theorem ends_any (c : UInt8) (w : World) :
    Calls Tryz.prog 69 #[.int .u8 c.toNat] w fun e w' => e = .returned (.bool (endsC c)) ∧ w' = w := by
  have hlt := c.toNat_lt
  have hs := fun W => space_any (c.toNat : Int) (by omega) (by omega) W
  rw [spaceZ_C] at hs
  have i1 := int_beq c 47
  have i2 := int_beq c 62
  rw [show ((47 : UInt8).toNat : Int) = 47 from rfl] at i1
  rw [show ((62 : UInt8).toNat : Int) = 62 from rfl] at i2
  unfold endsC
  generalize spaceC c = b0 at hs ⊢
  generalize (c == 47) = b1 at i1 ⊢
  generalize (c == 62) = b2 at i2 ⊢
  cases b0 <;> cases b1 <;> cases b2
  all_goals
    go_enter Tryz.func69, Tryz.ntmps69
    go_wp2_with (go_at_call 93; refine (hs _).mono ?_; rintro e w' ⟨rfl, rfl⟩)
  all_goals go_ret
  all_goals exact ⟨rfl, rfl⟩

def tagV : List Value := tagTab.flatten.map fun (z : Nat) => .int .u8 (z : Int)
/-- the table of a tag's states holds what its initialiser lays -/
def TagTabs (w : World) : Prop := w.rangeAt 6 0 tagV
theorem tag_at {w : World} (h : TagTabs w) (i k : Nat) (hi : i < 8) (hk : k < 7) : w.cell? ⟨6, i * 7 + k, none⟩ = some (.int .u8 (((tagTab.getD i []).getD k 0 : Nat) : Int)) := by
  have hall : ∀ (i : Fin 8) (k : Fin 7), tagTab.flatten[i.val * 7 + k.val]? = some ((tagTab.getD i.val []).getD k.val 0) := by decide +kernel
  have := h (i * 7 + k) (.int .u8 (((tagTab.getD i []).getD k 0 : Nat) : Int)) (by unfold tagV; rw [List.getElem?_map, hall ⟨i, hi⟩ ⟨k, hk⟩]; rfl)
  rwa [Nat.zero_add] at this
set_option maxHeartbeats 1000000 in
theorem behind_any (s : Nat) (c : UInt8) (hs0 : 3 ≤ s) (hs1 : s ≤ 10) (w : World) (hT : TagTabs w) :
    Calls Tryz.prog 100 #[.int .i64 s, .int .u8 c.toNat] w fun e w' => e = .returned (.int .i64 (nextT s c : Int)) ∧ ∃ n, w' = w.drewN n := by
  obtain ⟨i, rfl⟩ : ∃ i, s = i + 3 := ⟨s - 3, by omega⟩
  have hlt := c.toNat_lt
  have hk := colC_lt c
  have hc := fun W => column_any (c.toNat : Int) (by omega) (by omega) W
  rw [colZ_C] at hc
  have hx := tag_at hT i (colC c) (by omega) hk
  have hv : nextT (i + 3) c ≤ 10 := by rcases next_range (i + 3) hs0 hs1 c with h | h <;> omega
  have hn : nextT (i + 3) c = (tagTab.getD i []).getD (colC c) 0 := rfl
  rw [← hn] at hx
  generalize nextT (i + 3) c = v at hx hv
  generalize colC c = k at hc hx hk
  clear hn
  go_enter Tryz.func100, Tryz.ntmps100
  go_wp2_with fail
  go_quiet (first | (go_at_call 125; refine Calls.quiet_of_same (hc _)))
  go_wp2
  go_ret
  exact ⟨rfl, _, rfl⟩
theorem drew_zero (w : World) : w.drewN 0 = w := rfl
theorem pass_step {D : List UInt8} {a s : Nat} {c : UInt8} {R : Nat × Nat} (hc : D[a]? = some c) (hs : s ≠ 0) (h : (a + (passL s (D.drop a)).1, (passL s (D.drop a)).2) = R) : (a + 1 + (passL (nextT s c) (D.drop (a + 1))).1, (passL (nextT s c) (D.drop (a + 1))).2) = R := by
  obtain ⟨h1, h2⟩ := List.getElem?_eq_some_iff.1 hc
  rw [List.drop_eq_getElem_cons h1, h2, passL, if_neg hs] at h
  rw [← h]
  simp only [Prod.mk.injEq, and_true]
  omega
theorem pass_end {D : List UInt8} {a s : Nat} {R : Nat × Nat} (hc : D.length ≤ a ∨ s = 0) (h : (a + (passL s (D.drop a)).1, (passL s (D.drop a)).2) = R) : (a, s) = R := by
  rcases hc with hc | hc
  · rw [List.drop_of_length_le hc] at h
    exact h
  · subst hc
    rw [← h]
    cases D.drop a <;> rfl
set_option maxHeartbeats 1000000 in
theorem pass_any (data : ByteArray) (a0 s0 : Nat) (w : World) (hd : data.size ≤ 140737488355328) (ha0 : a0 ≤ data.size) (hs0 : s0 = 0 ∨ 3 ≤ s0 ∧ s0 ≤ 10) (hT : TagTabs w) :
    Calls Tryz.prog 78 #[.string data, .int .i64 a0, .int .i64 s0] w fun e w' =>
      e = .returned (.tuple #[.int .i64 ((a0 + (passL s0 (data.data.toList.drop a0)).1 : Nat) : Int), .int .i64 ((passL s0 (data.data.toList.drop a0)).2 : Int)]) ∧ ∃ n, w' = w.drewN n := by
  obtain ⟨R, hR⟩ : ∃ R, (a0 + (passL s0 (data.data.toList.drop a0)).1, (passL s0 (data.data.toList.drop a0)).2) = R := ⟨_, rfl⟩
  obtain ⟨E, S⟩ := R
  obtain ⟨e1, e2⟩ := Prod.mk.inj hR
  rw [e1, e2]
  have HR := hid (fun (_ : True) => hR)
  have HT := hid hT
  clear hR hT e1 e2
  go_enter Tryz.func78, Tryz.ntmps78
  go_wp2
  go_loopw [1, 2] (fun av sv wr => ∃ (a s m : Nat), av = .int .i64 a ∧ sv = .int .i64 s ∧ a ≤ data.size ∧ (s = 0 ∨ 3 ≤ s ∧ s ≤ 10) ∧ wr = w.drewN m ∧ Hid (True → (a + (passL s (data.data.toList.drop a)).1, (passL s (data.data.toList.drop a)).2) = (E, S))) (fun av _ _ => data.size - (RowKit.intOf av).toNat)
  case atStart => exact ⟨a0, s0, 0, rfl, rfl, ha0, hs0, rfl, HR.out⟩
  case round =>
    obtain ⟨a, s, m, rfl, rfl, ha, hs, rfl, HA⟩ := hrel
    by_cases hp : a < data.size
    · rcases hs with rfl | ⟨hs1, hs2⟩
      · have he := pass_end (.inr rfl) (HA.out trivial)
        obtain ⟨rfl, rfl⟩ := Prod.mk.inj he
        clear HA he HR
        go_wp2
        refine bodyPost_ret (v := .tuple #[.int .i64 (a : Int), .int .i64 0]) ?_ rfl ⟨rfl, m, rfl⟩
        simp [results, Tryz.results78, go_sem]
      · obtain ⟨x, hx⟩ : ∃ x, data[a]'hp = x := ⟨_, rfl⟩
        have q : ((s : Int) != 0) = true := bne_iff_ne.2 (by omega)
        have HB := hid (fun (_ : True) => pass_step (getElem_list hp hx) (by omega) (HA.out trivial))
        have hnx := next_range s hs1 hs2 x
        have hcall := behind_any s x hs1 hs2 (w.drewN m) HT.out
        generalize nextT s x = v at HB hnx hcall
        have HC := hid (fun (_ : True) => hcall)
        clear HA hcall
        go_wp2_with (go_at_call 100; refine (HC.out trivial).mono ?_; rintro e w' ⟨rfl, nd, rfl⟩)
        go_roundw
        case rel => exact ⟨a + 1, v, m + nd, rfl, rfl, by omega, hnx, rfl, HB.out⟩
        case measure => simp [RowKit.intOf]; omega
    · have he := pass_end (.inl (by rw [← size_eq]; omega)) (HA.out trivial)
      obtain ⟨rfl, rfl⟩ := Prod.mk.inj he
      clear HA he HR
      go_wp2
      refine bodyPost_ret (v := .tuple #[.int .i64 (a : Int), .int .i64 (s : Int)]) ?_ rfl ⟨rfl, m, rfl⟩
      simp [results, Tryz.results78, go_sem]
end Go.Proofs.YtchhlocibijekaaGreatDoor

/-
  The lexer's names: rawName, modeInside, eatsNewline: their walks.
-/
namespace Go.Proofs.YtchhlocibijekaaGreatDoor
open Go.RowKit Go.Lib

theorem raw_any (m : Nat) (h1 : 1 ≤ m) (h2 : m ≤ 10) (w : World) :
    Calls Tryz.prog 67 #[.int .i64 m] w fun e w' => e = .returned (.string ⟨(rawL m).toArray⟩) ∧ w' = w := by
  rcases (show m = 1 ∨ m = 2 ∨ m = 3 ∨ m = 4 ∨ m = 5 ∨ m = 6 ∨ m = 7 ∨ m = 8 ∨ m = 9 ∨ m = 10 by omega) with rfl | rfl | rfl | rfl | rfl | rfl | rfl | rfl | rfl | rfl
  all_goals
    go_enter Tryz.func67, Tryz.ntmps67
    go_wp2
    go_ret
    exact ⟨rfl, rfl⟩
theorem ins_step {name : List UInt8} {k r : Nat} {x : List UInt8} (hx : rawNames[k]? = some x) (hn : name ≠ x) (h : insF name (k + 1) (rawNames.drop k) = r) : insF name (k + 2) (rawNames.drop (k + 1)) = r := by
  obtain ⟨h1, h2⟩ := List.getElem?_eq_some_iff.1 hx
  rw [List.drop_eq_getElem_cons h1, h2, insF, if_neg hn] at h
  exact h
theorem ins_hit {name : List UInt8} {k r : Nat} {x : List UInt8} (hx : rawNames[k]? = some x) (hn : name = x) (h : insF name (k + 1) (rawNames.drop k) = r) : k + 1 = r := by
  obtain ⟨h1, h2⟩ := List.getElem?_eq_some_iff.1 hx
  rw [List.drop_eq_getElem_cons h1, h2, insF, if_pos hn] at h
  exact h
theorem str_beq (s : ByteArray) (L : List UInt8) : (s.toList == (⟨L.toArray⟩ : ByteArray).toList) = decide (s.data.toList = L) := by
  rw [Lib.toList_data, Lib.toList_data, Bool.eq_iff_iff, beq_iff_eq, decide_eq_true_eq]
set_option maxHeartbeats 1000000 in
theorem inside_any (s : ByteArray) (w : World) :
    Calls Tryz.prog 107 #[.string s] w fun e w' => e = .returned (.int .i64 (insideL s.data.toList : Int)) ∧ w' = w := by
  obtain ⟨r, hr⟩ : ∃ r, insideL s.data.toList = r := ⟨_, rfl⟩
  rw [hr]
  have HR := hid (fun (_ : True) => hr)
  clear hr
  go_enter Tryz.func107, Tryz.ntmps107
  go_wp2
  go_loopw [3] (fun mv wr => ∃ k : Nat, mv = .int .i64 ((k : Int) + 1) ∧ k ≤ 10 ∧ wr = w ∧ Hid (True → insF s.data.toList (k + 1) (rawNames.drop k) = r)) (fun mv _ => 11 - (RowKit.intOf mv).toNat)
  case atStart => exact ⟨0, rfl, by omega, rfl, HR.out⟩
  case round =>
    obtain ⟨k, rfl, hk, rfl, HA⟩ := hrel
    by_cases hp : k < 10
    · have hx : rawNames[k]? = some (rawL (k + 1)) := by
        have h1 : k < rawNames.length := hp
        unfold rawL
        rw [Nat.add_sub_cancel, List.getD_eq_getElem?_getD, List.getElem?_eq_getElem h1]
        rfl
      have hc := fun W => raw_any (k + 1) (by omega) (by omega) W
      rw [show (((k + 1 : Nat) : Int)) = (k : Int) + 1 from rfl] at hc
      generalize rawL (k + 1) = L at hx hc
      have hq := str_beq s L
      obtain ⟨t, ht⟩ : ∃ t : ByteArray, (⟨L.toArray⟩ : ByteArray) = t := ⟨_, rfl⟩
      rw [ht] at hc hq
      have HC := hid hc
      by_cases hn : s.data.toList = L
      · have hk1 := ins_hit hx hn (HA.out trivial)
        subst hk1
        rw [decide_eq_true hn] at hq
        clear hn ht hx hc HA HR
        go_wp2_with (go_at_call 67; refine (HC.out _).mono ?_; rintro e w' ⟨rfl, rfl⟩)
        go_ret
        exact ⟨rfl, rfl⟩
      · have HB := hid (fun (_ : True) => ins_step hx hn (HA.out trivial))
        rw [decide_eq_false hn] at hq
        clear hn ht hx hc HA
        go_wp2_with (go_at_call 67; refine (HC.out _).mono ?_; rintro e w' ⟨rfl, rfl⟩)
        go_roundw
        case rel => exact ⟨k + 1, by simp, by omega, by first | rfl | trivial, HB.out⟩
        case measure => simp [RowKit.intOf]; omega
    · have hk10 : k = 10 := by omega
      subst hk10
      have h0 : 0 = r := HA.out trivial
      subst h0
      clear HA HR
      go_wp2
      go_ret
      exact ⟨rfl, rfl⟩
theorem eats_any (s : ByteArray) (w : World) :
    Calls Tryz.prog 108 #[.string s] w fun e w' => e = .returned (.bool (eatsL s.data.toList)) ∧ w' = w := by
  have he : eatsL s.data.toList = (decide (s.toList = [112, 114, 101]) || decide (s.toList = [116, 101, 120, 116, 97, 114, 101, 97])) := by
    rw [Lib.toList_data]
    unfold eatsL
    rw [Bool.eq_iff_iff]
    simp
  rw [he]
  clear he
  by_cases h1 : s.toList = [112, 114, 101]
  · have h2 : ¬ s.toList = [116, 101, 120, 116, 97, 114, 101, 97] := by rw [h1]; decide
    rw [decide_eq_true h1, decide_eq_false h2]
    have q1 : (s.toList == [112, 114, 101]) = true := beq_iff_eq.2 h1
    clear h1 h2
    go_enter Tryz.func108, Tryz.ntmps108
    go_wp2
    go_ret
    refine ⟨ret_bool ?_, rfl⟩
    first | rfl | simp [q1]
  · by_cases h2 : s.toList = [116, 101, 120, 116, 97, 114, 101, 97]
    · rw [decide_eq_false h1, decide_eq_true h2]
      have q1 : (s.toList == [112, 114, 101]) = false := beq_eq_false_iff_ne.2 h1
      have q2 : (s.toList == [116, 101, 120, 116, 97, 114, 101, 97]) = true := beq_iff_eq.2 h2
      clear h2
      go_enter Tryz.func108, Tryz.ntmps108
      go_wp2
      go_ret
      refine ⟨ret_bool ?_, rfl⟩
      first | rfl | simp [q1, q2]
    · rw [decide_eq_false h1, decide_eq_false h2]
      have q1 : (s.toList == [112, 114, 101]) = false := beq_eq_false_iff_ne.2 h1
      have q2 : (s.toList == [116, 101, 120, 116, 97, 114, 101, 97]) = false := beq_eq_false_iff_ne.2 h2
      go_enter Tryz.func108, Tryz.ntmps108
      go_wp2
      go_ret
      refine ⟨ret_bool ?_, rfl⟩
      first | rfl | simp [q1, q2]
end Go.Proofs.YtchhlocibijekaaGreatDoor

/-
  ascii.Lower: its walk.
-/
namespace Go.Proofs.YtchhlocibijekaaGreatDoor
open Go.RowKit Go.Lib Own

theorem ownsN_free {w : World} {e : TypeId} {g n cap : Nat} {xs : List Value} (h : ownsN w e g n cap xs) (j : Nat) (hj : j < n) : w.frozen? ⟨g, j, none⟩ = false := by
  obtain ⟨cur, fz, hg, hf, hn, _⟩ := h
  obtain ⟨lo, hi⟩ := fz
  unfold World.frozen?
  rw [hg]
  simp only
  rcases hf with hf | hf
  · have : ¬ lo ≤ j := by simp only at hf; omega
    simp [this]
  · cases hf
    simp
theorem ownsN_set {w : World} {e : TypeId} {g n cap : Nat} {xs : List Value} (h : ownsN w e g n cap xs) (j : Nat) (v : Value) : ownsN (w.setCell ⟨g, j, none⟩ v) e g n cap (xs.set j v) := by
  obtain ⟨cur, fz, hg, hf, hn, hm, hc, hl, ht⟩ := h
  refine ⟨cur.setIfInBounds j v, fz, ?_, hf, hn, hm, by simp [hc], by simp [hl], ?_⟩
  · rw [setCell_eq_setRow w g j cur e fz v hg]
    exact setRow_heap w g cur _ e fz hg
  · rw [Array.toList_setIfInBounds, List.take_set, ht]
theorem ownsN_text {W : World} {g n cap : Nat} {l : List UInt8} (h : ownsN W 5 g n cap (byteCells l)) : (convert 37 9 (.slice (some ⟨g, 0, none⟩) n cap)).run Tryz.prog W = .ok (.string ⟨l.toArray⟩) W := by
  have hl : l.length = n := by
    obtain ⟨cur, fz, _, _, _, _, _, hl, _⟩ := h
    rwa [byteCells_length] at hl
  subst hl
  exact run_convert_bytes_back W 37 9 5 ⟨g, 0, none⟩ cap l Tryz.underlying37 Tryz.underlying5 Tryz.underlying9 (fun j hj => by
    have hadd : (⟨g, 0, none⟩ : Addr).add j = ⟨g, j, none⟩ := by unfold Addr.add; split <;> simp_all
    rw [hadd, h.cell j (by omega)]
    simp [byteCells, hj])
theorem lowZ_C (c : UInt8) : lowZ (c.toNat : Int) = ((lowC c).toNat : Int) := by
  have := u8_all (p := fun c => decide (lowZ (c.toNat : Int) = ((lowC c).toNat : Int))) (by decide +kernel) c
  exact of_decide_eq_true this
theorem low_set (L : List UInt8) (k : Nat) (x : UInt8) (h : L[k]? = some x) : (byteCells ((L.take k).map lowC ++ L.drop k)).set k (.int .u8 ((lowC x).toNat : Int)) = byteCells ((L.take (k + 1)).map lowC ++ L.drop (k + 1)) := by
  obtain ⟨h1, h2⟩ := List.getElem?_eq_some_iff.1 h
  have hd := List.drop_eq_getElem_cons h1
  rw [h2] at hd
  have hk : ((L.take k).map lowC).length = k := by rw [List.length_map, List.length_take]; omega
  have hset : ((L.take k).map lowC ++ x :: L.drop (k + 1)).set k (lowC x) = (L.take (k + 1)).map lowC ++ L.drop (k + 1) := by
    rw [List.set_append, if_neg (by omega), hk, Nat.sub_self, List.set_cons_zero, List.take_add_one, h, List.map_append]
    simp
  unfold byteCells
  rw [hd, ← hset, List.map_set]
theorem low_get (L : List UInt8) (k : Nat) (x : UInt8) (h : L[k]? = some x) : (byteCells ((L.take k).map lowC ++ L.drop k))[k]? = some (.int .u8 (x.toNat : Int)) := by
  obtain ⟨h1, h2⟩ := List.getElem?_eq_some_iff.1 h
  have hk : ((L.take k).map lowC).length = k := by rw [List.length_map, List.length_take]; omega
  unfold byteCells
  rw [List.getElem?_map, List.getElem?_append_right (by omega), hk, Nat.sub_self, List.getElem?_drop, Nat.add_zero, h]
  rfl

set_option maxHeartbeats 1000000 in
set_option maxRecDepth 10000 in
theorem lower_any (s : ByteArray) (w : World) (hs : s.size ≤ 10000000) :
    Calls Tryz.prog 126 #[.string s] w fun e w' => e = .returned (.string ⟨(s.data.toList.map lowC).toArray⟩) ∧ Below w.heap.size w w' := by
  have hconv := Go.Lib.run_convert_string_bytes (P := Tryz.prog) w 9 37 5 s Tryz.underlying9 Tryz.underlying37 Tryz.underlying5
  have hown := ownsN_bytes w 5 s (by unfold maxLen; omega)
  have hbel : Below w.heap.size w (bytesWorld w 5 s) := ⟨rfl, rfl, rfl, by rw [bytesWorld_size]; omega, fun k hk => bytesWorld_at_old w _ s k hk⟩
  have hz := bytesWorld_size w 5 s
  generalize bytesWorld w 5 s = W0 at hconv hown hbel hz
  generalize grownCap w s.size 0 5 = cap at hconv hown
  change ownsN W0 5 w.heap.size s.size cap (byteCells s.data.toList) at hown
  have HO := hid hown
  clear hown
  go_enter Tryz.func126, Tryz.ntmps126
  go_wp2
  go_loopw [10] (fun iv wr => ∃ k : Nat, iv = .int .i64 k ∧ k ≤ s.size ∧ Below w.heap.size w wr ∧ Hid (ownsN wr 5 w.heap.size s.size cap (byteCells ((s.data.toList.take k).map lowC ++ s.data.toList.drop k)))) (fun iv _ => s.size - (RowKit.intOf iv).toNat)
  case atStart => exact ⟨0, rfl, Nat.zero_le _, hbel, HO.out⟩
  case round =>
    obtain ⟨k, rfl, hk, hbw, HA⟩ := hrel
    by_cases hp : k < s.size
    · obtain ⟨x, hx⟩ : ∃ x, s[k]'hp = x := ⟨_, rfl⟩
      have hl := getElem_list hp hx
      have hc := (HA.out.cell k hp).trans (low_get _ _ _ hl)
      have hfz := ownsN_free HA.out k hp
      have hset := ownsN_set HA.out k (.int .u8 ((lowC x).toNat : Int))
      rw [low_set _ _ _ hl] at hset
      have hlt := x.toNat_lt
      have hlow := fun W => low_any (x.toNat : Int) (by omega) (by omega) W
      rw [lowZ_C] at hlow
      have HL := hid hlow
      have HS := hid hset
      clear hlow hset hl hx HA
      go_wp2_with (go_at_call 68; refine (HL.out _).mono ?_; rintro e w' ⟨rfl, rfl⟩)
      go_roundw
      case rel => exact ⟨k + 1, rfl, by omega, hbw.setCell (Nat.le_refl _) _, HS.out⟩
      case measure => simp [RowKit.intOf]; omega
    · have hk1 : k = s.size := by omega
      subst hk1
      have ht := HA.out
      rw [size_eq, List.take_length, List.drop_length, List.append_nil, ← size_eq] at ht
      have hcv := ownsN_text ht
      clear ht HA
      go_wp2
      go_ret
      exact ⟨rfl, hbw⟩
end Go.Proofs.YtchhlocibijekaaGreatDoor
