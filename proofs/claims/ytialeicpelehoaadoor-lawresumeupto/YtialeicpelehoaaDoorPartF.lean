/-
  Parts of the walk, joined: Lower, TagName, Amp, Unref, TagAttrs, Stream, EndText.
-/
import Derived.Test.YtialeicpelehoaaDoorPartE
import Derived.Test.YtialeicpelehoaaDoorPartA
import Derived.Laws.Tables
import Derived.Lib.IndexMore
import Derived.Deep.RegionLaw
import Derived.Deep.AppendLies
/-
  ascii.Lower: its walk.
-/
namespace Go.Proofs.YtialeicpelehoaaDoor
open Go.RowKit Go.Lib Own

theorem ownsN_free {w : World} {e : TypeId} {g n cap : Nat} {xs : List Value} (h : ownsN w e g n cap xs) (j : Nat) (hj : j < n) : w.frozen? ⟨g, j, none⟩ = false := by
  obtain ⟨cur, fz, hg, hf, hn, _⟩ := h
  obtain ⟨lo, hi⟩ := fz
  unfold World.frozen?
  rw [hg]
  simp only
  rcases hf with hf | hf
  · have : ¬ lo ≤ j := by simp only at hf; omega
    simp [this]
  · cases hf
    simp
theorem ownsN_set {w : World} {e : TypeId} {g n cap : Nat} {xs : List Value} (h : ownsN w e g n cap xs) (j : Nat) (v : Value) : ownsN (w.setCell ⟨g, j, none⟩ v) e g n cap (xs.set j v) := by
  obtain ⟨cur, fz, hg, hf, hn, hm, hc, hl, ht⟩ := h
  refine ⟨cur.setIfInBounds j v, fz, ?_, hf, hn, hm, by simp [hc], by simp [hl], ?_⟩
  · rw [setCell_eq_setRow w g j cur e fz v hg]
    exact setRow_heap w g cur _ e fz hg
  · rw [Array.toList_setIfInBounds, List.take_set, ht]
theorem ownsN_text {W : World} {g n cap : Nat} {l : List UInt8} (h : ownsN W 5 g n cap (byteCells l)) : (convert 27 9 (.slice (some ⟨g, 0, none⟩) n cap)).run Tryd.prog W = .ok (.string ⟨l.toArray⟩) W := by
  have hl : l.length = n := by
    obtain ⟨cur, fz, _, _, _, _, _, hl, _⟩ := h
    rwa [byteCells_length] at hl
  subst hl
  exact run_convert_bytes_back W 27 9 5 ⟨g, 0, none⟩ cap l Tryd.underlying27 Tryd.underlying5 Tryd.underlying9 (fun j hj => by
    have hadd : (⟨g, 0, none⟩ : Addr).add j = ⟨g, j, none⟩ := by unfold Addr.add; split <;> simp_all
    rw [hadd, h.cell j (by omega)]
    simp [byteCells, hj])
theorem lowZ_C (c : UInt8) : lowZ (c.toNat : Int) = ((lowC c).toNat : Int) := by
  have := u8_all (p := fun c => decide (lowZ (c.toNat : Int) = ((lowC c).toNat : Int))) (by decide +kernel) c
  exact of_decide_eq_true this
theorem low_set (L : List UInt8) (k : Nat) (x : UInt8) (h : L[k]? = some x) : (byteCells ((L.take k).map lowC ++ L.drop k)).set k (.int .u8 ((lowC x).toNat : Int)) = byteCells ((L.take (k + 1)).map lowC ++ L.drop (k + 1)) := by
  obtain ⟨h1, h2⟩ := List.getElem?_eq_some_iff.1 h
  have hd := List.drop_eq_getElem_cons h1
  rw [h2] at hd
  have hk : ((L.take k).map lowC).length = k := by rw [List.length_map, List.length_take]; omega
  have hset : ((L.take k).map lowC ++ x :: L.drop (k + 1)).set k (lowC x) = (L.take (k + 1)).map lowC ++ L.drop (k + 1) := by
    rw [List.set_append, if_neg (by omega), hk, Nat.sub_self, List.set_cons_zero, List.take_add_one, h, List.map_append]
    simp
  unfold byteCells
  rw [hd, ← hset, List.map_set]
theorem low_get (L : List UInt8) (k : Nat) (x : UInt8) (h : L[k]? = some x) : (byteCells ((L.take k).map lowC ++ L.drop k))[k]? = some (.int .u8 (x.toNat : Int)) := by
  obtain ⟨h1, h2⟩ := List.getElem?_eq_some_iff.1 h
  have hk : ((L.take k).map lowC).length = k := by rw [List.length_map, List.length_take]; omega
  unfold byteCells
  rw [List.getElem?_map, List.getElem?_append_right (by omega), hk, Nat.sub_self, List.getElem?_drop, Nat.add_zero, h]
  rfl

set_option maxHeartbeats 1000000 in
set_option maxRecDepth 10000 in
theorem lower_any (s : ByteArray) (w : World) (hs : s.size ≤ 10000000) :
    Calls Tryd.prog 106 #[.string s] w fun e w' => e = .returned (.string ⟨(s.data.toList.map lowC).toArray⟩) ∧ Below w.heap.size w w' := by
  have hconv := Go.Lib.run_convert_string_bytes (P := Tryd.prog) w 9 27 5 s Tryd.underlying9 Tryd.underlying27 Tryd.underlying5
  have hown := ownsN_bytes w 5 s (by unfold maxLen; omega)
  have hbel : Below w.heap.size w (bytesWorld w 5 s) := ⟨rfl, rfl, rfl, by rw [bytesWorld_size]; omega, fun k hk => bytesWorld_at_old w _ s k hk⟩
  have hz := bytesWorld_size w 5 s
  generalize bytesWorld w 5 s = W0 at hconv hown hbel hz
  generalize grownCap w s.size 0 5 = cap at hconv hown
  change ownsN W0 5 w.heap.size s.size cap (byteCells s.data.toList) at hown
  have HO := hid hown
  clear hown
  go_enter Tryd.func106, Tryd.ntmps106
  go_wp2
  go_loopw [10] (fun iv wr => ∃ k : Nat, iv = .int .i64 k ∧ k ≤ s.size ∧ Below w.heap.size w wr ∧ Hid (ownsN wr 5 w.heap.size s.size cap (byteCells ((s.data.toList.take k).map lowC ++ s.data.toList.drop k)))) (fun iv _ => s.size - (RowKit.intOf iv).toNat)
  case atStart => exact ⟨0, rfl, Nat.zero_le _, hbel, HO.out⟩
  case round =>
    obtain ⟨k, rfl, hk, hbw, HA⟩ := hrel
    by_cases hp : k < s.size
    · obtain ⟨x, hx⟩ : ∃ x, s[k]'hp = x := ⟨_, rfl⟩
      have hl := getElem_list hp hx
      have hc := (HA.out.cell k hp).trans (low_get _ _ _ hl)
      have hfz := ownsN_free HA.out k hp
      have hset := ownsN_set HA.out k (.int .u8 ((lowC x).toNat : Int))
      rw [low_set _ _ _ hl] at hset
      have hlt := x.toNat_lt
      have hlow := fun W => low_any (x.toNat : Int) (by omega) (by omega) W
      rw [lowZ_C] at hlow
      have HL := hid hlow
      have HS := hid hset
      clear hlow hset hl hx HA
      go_wp2_with (go_at_call 66; refine (HL.out _).mono ?_; rintro e w' ⟨rfl, rfl⟩)
      go_roundw
      case rel => exact ⟨k + 1, rfl, by omega, hbw.setCell (Nat.le_refl _) _, HS.out⟩
      case measure => simp [RowKit.intOf]; omega
    · have hk1 : k = s.size := by omega
      subst hk1
      have ht := HA.out
      rw [size_eq, List.take_length, List.drop_length, List.append_nil, ← size_eq] at ht
      have hcv := ownsN_text ht
      clear ht HA
      go_wp2
      go_ret
      exact ⟨rfl, hbw⟩
end Go.Proofs.YtialeicpelehoaaDoor

/-
  lexer.tagName: its walk.
-/
namespace Go.Proofs.YtialeicpelehoaaDoor
open Go.RowKit Go.Lib Own

def nameC (c : UInt8) : Bool := nextT 3 c == 3
theorem tagName_eq (L : List UInt8) : tagNameL L = (L.takeWhile nameC).map lowC := rfl
set_option maxHeartbeats 1000000 in
theorem tagName_any (s : ByteArray) (w : World) (hs : s.size ≤ 10000000) (hT : TagTabs w) :
    Calls Tryd.prog 98 #[.string s] w fun e w' => e = .returned (.string ⟨(tagNameL s.data.toList).toArray⟩) ∧ Below w.heap.size w w' := by
  obtain ⟨E, hE⟩ : ∃ E, (s.data.toList.takeWhile nameC).length = E := ⟨_, rfl⟩
  have hEs : E ≤ s.size := by
    rw [← hE, size_eq]
    exact (List.takeWhile_prefix (p := nameC) (l := s.data.toList)).length_le
  have hlist : (s.extract 0 E).data.toList = s.data.toList.takeWhile nameC := by
    rw [take_extract, ← hE]
    exact (List.prefix_iff_eq_take.1 (List.takeWhile_prefix nameC)).symm
  have hlow := fun W => lower_any (s.extract 0 E) W (by rw [ByteArray.size_extract]; omega)
  rw [hlist] at hlow
  rw [tagName_eq]
  generalize (s.data.toList.takeWhile nameC).map lowC = N at hlow ⊢
  have HL := hid hlow
  have HE := hid (fun (_ : True) => hE)
  have HT := hid hT
  clear hlow hlist hE hT
  go_enter Tryd.func98, Tryd.ntmps98
  go_wp2
  go_loopw [3] (fun iv wr => ∃ (k m : Nat), iv = .int .i64 k ∧ k ≤ s.size ∧ wr = w.drewN m ∧ Hid (True → k + ((s.data.toList.drop k).takeWhile nameC).length = E)) (fun iv _ => s.size - (RowKit.intOf iv).toNat)
  case atStart => exact ⟨0, 0, rfl, Nat.zero_le _, rfl, hid (fun _ => by rw [Nat.zero_add]; exact HE.out trivial)⟩
  case round =>
    obtain ⟨k, m, rfl, hk, rfl, HA⟩ := hrel
    by_cases hp : k < s.size
    · obtain ⟨x, hx⟩ : ∃ x, s[k]'hp = x := ⟨_, rfl⟩
      have hl := getElem_list hp hx
      have hcall := behind_any 3 x (by omega) (by omega) (w.drewN m) HT.out
      have hnx := next_range 3 (by omega) (by omega) x
      by_cases hn : nameC x = true
      · have h3 : nextT 3 x = 3 := beq_iff_eq.1 hn
        rw [h3] at hcall
        have HC := hid hcall
        have HB : Hid (True → k + 1 + ((s.data.toList.drop (k + 1)).takeWhile nameC).length = E) := by
          have := HA.out trivial
          rw [while_step hl hn, List.length_cons] at this
          exact hid (fun _ => by omega)
        clear hcall hnx h3 hn hl HA
        go_wp2_with (go_at_call 96; refine HC.out.mono ?_; rintro e w' ⟨rfl, nd, rfl⟩)
        go_roundw
        case rel => exact ⟨k + 1, m + nd, rfl, by omega, rfl, HB.out⟩
        case measure => simp [RowKit.intOf]; omega
      · have h3 : ((nextT 3 x : Int) == 3) = false := by
          refine beq_eq_false_iff_ne.2 (fun h => hn ?_)
          exact beq_iff_eq.2 (by omega)
        have hkE : k = E := by
          have := HA.out trivial
          rw [while_stop (fun c hc => by rw [hl] at hc; cases hc; simpa using hn)] at this
          simpa using this
        subst hkE
        generalize nextT 3 x = v at hcall h3 hnx
        have HC := hid hcall
        clear hcall hn hl HA HE
        go_wp2_with (first | (go_at_call 96; refine HC.out.mono ?_; rintro e w' ⟨rfl, nd, rfl⟩) | (go_at_call 106; refine (HL.out _).mono ?_; rintro e w9 ⟨rfl, b9⟩))
        go_ret
        exact ⟨rfl, ⟨b9.os, b9.tape, b9.output, b9.size, b9.block⟩⟩
    · have hkE : k = E := by
        have := HA.out trivial
        rw [List.drop_of_length_le (by rw [← size_eq]; omega)] at this
        simpa using this
      subst hkE
      clear HA HE
      go_wp2_with (go_at_call 106; refine (HL.out _).mono ?_; rintro e w9 ⟨rfl, b9⟩)
      go_ret
      exact ⟨rfl, ⟨b9.os, b9.tape, b9.output, b9.size, b9.block⟩⟩
end Go.Proofs.YtialeicpelehoaaDoor

/-
  What strings.Cut gives at an ampersand. No program is named here.
-/
namespace Go.Proofs.YtialeicpelehoaaDoor
open Go.Lib

theorem index_amp : ∀ (L : List UInt8), (index L [38] = -1 ∧ ∀ c ∈ L, c ≠ 38) ∨ ∃ a b, L = a ++ 38 :: b ∧ (∀ c ∈ a, c ≠ 38) ∧ index L [38] = (a.length : Int)
  | [] => .inl ⟨rfl, fun _ h => by cases h⟩
  | c :: l => by
    by_cases hc : c = 38
    · subst hc
      refine .inr ⟨[], l, rfl, (fun _ h => by cases h), ?_⟩
      unfold index
      rw [if_pos (by simp [List.isPrefixOf])]
      rfl
    · have hp : List.isPrefixOf [38] (c :: l) = false := by simp [List.isPrefixOf]; exact fun h => hc h.symm
      rcases index_amp l with ⟨h1, h2⟩ | ⟨a, b, rfl, h2, h3⟩
      · refine .inl ⟨by unfold index; rw [hp, h1]; rfl, fun d hd => ?_⟩
        rcases List.mem_cons.1 hd with rfl | hd
        · exact hc
        · exact h2 d hd
      · refine .inr ⟨c :: a, b, rfl, fun d hd => ?_, ?_⟩
        · rcases List.mem_cons.1 hd with rfl | hd
          · exact hc
          · exact h2 d hd
        · unfold index
          rw [hp, h3]
          have : ((a.length : Int) == -1) = false := by rw [beq_eq_false_iff_ne]; omega
          simp [this]
theorem cut_amp (L : List UInt8) : (cut L [38] = (L, [], false) ∧ ∀ c ∈ L, c ≠ 38) ∨ ∃ a b, L = a ++ 38 :: b ∧ (∀ c ∈ a, c ≠ 38) ∧ cut L [38] = (a, b, true) := by
  rcases index_amp L with ⟨h1, h2⟩ | ⟨a, b, rfl, h2, h3⟩
  · refine .inl ⟨by unfold cut; rw [h1]; rfl, h2⟩
  · refine .inr ⟨a, b, rfl, h2, ?_⟩
    unfold cut
    rw [h3, if_pos (by omega)]
    have e : (a.length : Int).toNat = a.length := rfl
    rw [e, List.take_left, List.drop_append, List.drop_of_length_le (by omega)]
    simp
end Go.Proofs.YtialeicpelehoaaDoor

/-
  chars.Unref: its walk.
-/
namespace Go.Proofs.YtialeicpelehoaaDoor
open Go.RowKit Go.Lib

theorem fold_range (L : List UInt8) : ∀ (T : List (List UInt8 × Int)), (∀ t ∈ T, 0 ≤ t.2 ∧ t.2 ≤ 9000) → ∀ a : Nat × Int, 0 ≤ a.2 ∧ a.2 ≤ 9000 → 0 ≤ (T.foldl (step1 L) a).2 ∧ (T.foldl (step1 L) a).2 ≤ 9000
  | [], _, _, h => h
  | t :: T, hT, a, h => by
    rw [List.foldl_cons]
    refine fold_range L T (fun u hu => hT u (.tail _ hu)) _ ?_
    unfold step1
    split
    · exact hT t (.head _)
    · exact h
theorem name_range (L : List UInt8) : 0 ≤ (nameL L).2 ∧ (nameL L).2 ≤ 9000 := by
  have h := fold_range L (eitherT ++ closedT) (by decide +kernel) (0, 0) (by decide)
  have hsh : ∀ a : Nat × Int, (shut1 L a).2 = a.2 := fun a => by
    unfold shut1
    split <;> rfl
  have e : (nameL L).2 = (name1 L (eitherT ++ closedT)).2 := hsh _
  rw [e]
  exact h
theorem ref_range (attr : Bool) (L : List UInt8) : 0 ≤ (refL attr L).2 ∧ (refL attr L).2 ≤ 1114111 ∧ ¬ (55296 ≤ (refL attr L).2 ∧ (refL attr L).2 ≤ 57343) := by
  unfold refL
  split
  · unfold numL
    split
    · simp
    · exact numb_good _ (by omega)
  · split
    · simp
    · have := name_range L
      omega
theorem ref_le (attr : Bool) (L : List UInt8) : (refL attr L).1 ≤ L.length := by
  unfold refL
  split
  · have h1 : ∀ N : List UInt8, (numL N).1 ≤ N.length := by
      intro N
      unfold numL
      split
      · exact Nat.zero_le _
      · rename_i hd
        have h2 : fromN N + (digsN N).length ≤ N.length := by
          have h3 := (List.takeWhile_prefix (p := digN N) (l := N.drop (fromN N))).length_le
          have h4 : 0 < (digsN N).length := List.length_pos_iff.2 hd
          unfold digsN at h4 ⊢
          rw [List.length_drop] at h3
          omega
        split
        · rename_i h59
          have := (List.getElem?_eq_some_iff.1 h59).1
          simp only
          omega
        · simp only
          omega
    have := h1 (L.take 31)
    rw [List.length_take] at this
    omega
  · split
    · exact Nat.zero_le _
    · exact name_le L

def strLen : Value → Nat
  | .string s => s.size
  | _ => 0
theorem strCells_byte (t : ByteArray) : Lib.strCells t = Lib.byteCells t.data.toList := by
  rfl

theorem rangeAt_low {w w' : World} {b o : Nat} {cs : List Value} (h : w.rangeAt b o cs) (hb : Below w.heap.size w w') : w'.rangeAt b o cs := rangeAt_below h hb
theorem builder_new (w : World) (T e : TypeId) : Lib.IsBuilderF T e w.heap.size w.heap.size (Lib.byteCells []) (w.alloc (.cells #[.pointer none, .slice none 0 0] T)) :=
  Lib.IsBuilderF.of (Or.inl ⟨Nat.le_refl _, .slice none 0 0, heap_alloc_new w _, World.ownsRow_nil _ _ _ _, by simp [Value.ownBlock]⟩)
/-- what holds between two rounds -/
def UnrAt (attr : Bool) (t : ByteArray) (acc R : List UInt8) : Prop := acc ++ unr attr t.data.toList = R

set_option maxHeartbeats 4000000 in
set_option maxRecDepth 100000 in
theorem unref_any (s : ByteArray) (attr : Bool) (m : Int) (w : World) (hs : s.size ≤ 10000000) (hT : ChTabs w) (hm : w.cell? ⟨7, 0, none⟩ = some (.int .i64 m)) :
    Calls Tryd.prog 17 #[.string s, .bool attr] w fun e w' => e = .returned (.string ⟨(unr attr s.data.toList).toArray⟩) ∧ Below w.heap.size w w' := by
  obtain ⟨R, hR⟩ : ∃ R, unr attr s.data.toList = R := ⟨_, rfl⟩
  rw [hR]
  have HR : UnrAt attr s [] R := hR
  clear hR
  have HT := hid hT
  have HM := hid hm
  clear hT hm
  go_enter Tryd.func17, Tryd.ntmps17
  go_wp2
  go_loopw [0] (fun sv wr => ∃ (t : ByteArray) (acc : List UInt8), sv = .string t ∧ Lib.IsBuilderF 57 5 w.heap.size w.heap.size (Lib.byteCells acc) wr ∧ Below w.heap.size w wr ∧ w.heap.size < wr.heap.size ∧ acc.length + 4 * t.size ≤ 4 * s.size ∧ UnrAt attr t acc R) (fun sv _ => strLen sv)
  case atStart => exact ⟨s, [], rfl, builder_new w _ _, (Below.refl _ w).alloc (Nat.le_refl _) _, by simp, by simp, HR⟩
  case round =>
    obtain ⟨t, acc, rfl, hI, hbw, hwz, hal, HA⟩ := hrel
    have hm1 : wr.cell? ⟨7, 0, none⟩ = some (.int .i64 m) := by
      have hc := HM.out
      have := hbw.block _ (cell_block hc)
      unfold World.cell? at hc ⊢
      rw [this]
      exact hc
    have HT1 : ChTabs wr := HT.out.below hbw
    have hcut := Tryd.strings_Cut t ⟨#[38]⟩ m wr (by omega) hm1
    rw [show (⟨#[38]⟩ : ByteArray).data.toList = [38] from rfl] at hcut
    rcases cut_amp t.data.toList with ⟨h1, h2⟩ | ⟨a, b, h1, h2, h3⟩
    · rw [h1] at hcut
      have ht : (⟨t.data.toList.toArray⟩ : ByteArray) = t := rfl
      simp only at hcut
      rw [ht, show (⟨([] : List UInt8).toArray⟩ : ByteArray) = ⟨#[]⟩ from rfl] at hcut
      have hfin : acc ++ t.data.toList = R := by
        have := unr_ahead attr t.data.toList [] h2
        rw [List.append_nil, unr_nil, List.append_nil] at this
        rw [← this]
        exact HA
      have HC := hid (fun (_ : True) => hcut)
      have HF := hid (fun (_ : True) => hfin)
      clear hcut h1 h2 ht hfin HA HT1 hm1 HM HT
      go_wp2_with (go_at_call 28; refine (HC.out trivial).mono ?_; rintro e W1 ⟨rfl, nd, rfl⟩)
      go_wp2_with (go_at_call 29; refine (Tryd.Builder_WriteString_k w.heap.size w.heap.size (Lib.byteCells acc) t _ (by exact hI) (by rw [Lib.byteCells_length]; omega) (by simp; omega)).mono ?_; rintro e W2 ⟨rfl, g1, g2, g3⟩)
      have hI2 : Lib.IsBuilderF 57 5 w.heap.size w.heap.size (Lib.byteCells R) W2 := by
        have := HF.out trivial
        rw [← this, Lib.byteCells_append, ← strCells_byte]
        exact Or.inr g1
      have hb2 : Below w.heap.size w W2 := Below.trans (b := wr) hbw ⟨g2.os, g2.tape, g2.output, g2.size, g2.block⟩
      clear g1 g2 g3 HF
      go_wp2_with (go_at_call 30; refine (Tryd.Builder_String_any_k w.heap.size w.heap.size R _ hI2 (by have := hb2.size; omega)).mono ?_; rintro e W3 ⟨rfl, _, g2, _⟩)
      go_ret
      exact ⟨rfl, hb2.trans g2⟩
    · rw [h3] at hcut
      obtain ⟨ta, hta⟩ : ∃ ta : ByteArray, (⟨a.toArray⟩ : ByteArray) = ta := ⟨_, rfl⟩
      obtain ⟨tb, htb⟩ : ∃ tb : ByteArray, (⟨b.toArray⟩ : ByteArray) = tb := ⟨_, rfl⟩
      simp only at hcut
      rw [hta, htb] at hcut
      have hal2 : ta.data.toList = a := by rw [← hta]
      have hbl2 : tb.data.toList = b := by rw [← htb]
      have haz : ta.size = a.length := by rw [size_eq, hal2]
      have hbz : tb.size = b.length := by rw [size_eq, hbl2]
      have htz : t.size = a.length + 1 + b.length := by rw [size_eq, h1]; simp; omega
      have hfr := fun W hTW => findRef_any tb attr W (by omega) hTW
      have hle := ref_le attr b
      have hrg := ref_range attr b
      have hone : oneL attr b = if (refL attr b).1 = 0 then [38] else encodeRune (refL attr b).2 := rfl
      have hnext : acc ++ a ++ oneL attr b ++ unr attr (b.drop (refL attr b).1) = R := by
        have h4 := unr_ahead attr a (38 :: b) h2
        rw [← h1, unr_amp] at h4
        have : acc ++ unr attr t.data.toList = R := HA
        rw [h4] at this
        rw [← this]
        simp
      rw [hbl2] at hfr
      rw [hone] at hnext
      obtain ⟨q, hq⟩ : ∃ q, refL attr b = q := ⟨_, rfl⟩
      rw [hq] at hfr hle hrg hnext
      obtain ⟨n, c⟩ := q
      simp only at hfr hle hrg hnext
      have HC := hid (fun (_ : True) => hcut)
      have HF := hid hfr
      have HX := hid (fun (_ : True) => hnext)
      have HL := hid (fun (_ : True) => hbl2)
      have HAL := hid (fun (_ : True) => hal2)
      clear hcut h1 h2 h3 hq hfr hnext hone HA hta htb hal2 hbl2
      obtain ⟨hc0, hc1, hc2⟩ := hrg
      go_wp2_with (go_at_call 28; refine (HC.out trivial).mono ?_; rintro e W1 ⟨rfl, nd, rfl⟩)
      go_wp2_with (go_at_call 29; refine (Tryd.Builder_WriteString_k w.heap.size w.heap.size (Lib.byteCells acc) ta _ (by exact hI) (by rw [Lib.byteCells_length]; omega) (by simp; omega)).mono ?_; rintro e W2 ⟨rfl, g1, g2, g3⟩)
      have hI2 : Lib.IsBuilderF 57 5 w.heap.size w.heap.size (Lib.byteCells (acc ++ a)) W2 := by
        rw [Lib.byteCells_append, ← HAL.out trivial, ← strCells_byte]
        exact Or.inr g1
      have hb2 : Below w.heap.size w W2 := Below.trans (b := wr) hbw ⟨g2.os, g2.tape, g2.output, g2.size, g2.block⟩
      have hz2 : w.heap.size < W2.heap.size := by have := g2.size; simp at this; omega
      have HT2 : ChTabs W2 := HT.out.below hb2
      clear g1 g2 g3
      have hdrop : (tb.extract n b.length).data.toList = tb.data.toList.drop n := by rw [← hbz]; exact extract_to_end tb n
      have hdz : (tb.extract n b.length).size = b.length - n := by rw [size_eq, hdrop, List.length_drop, ← size_eq, hbz]
      by_cases hn : n = 0
      · subst hn
        go_wp2_with (go_at_call 31; refine (HF.out _ HT2).mono ?_; rintro e W3 ⟨rfl, b3⟩)
        have hI3 := builder_below hI2 b3
        have hb3 := hb2.trans (b3.mono (by omega))
        have hz3 : w.heap.size < W3.heap.size := by have := b3.size; omega
        clear b3 hI2 hb2
        go_wp2_with (go_at_call 32; refine (Tryd.Builder_WriteByte_k w.heap.size w.heap.size (Lib.byteCells (acc ++ a)) 38 _ hI3 (by rw [Lib.byteCells_length, List.length_append]; omega) (by omega)).mono ?_; rintro e W4 ⟨rfl, g1, g2, g3⟩)
        go_roundw
        case rel =>
          refine ⟨tb.extract 0 b.length, acc ++ a ++ [38], rfl, ?_, hb3.trans g2, by have := g2.size; omega, ?_, ?_⟩
          · rw [Lib.byteCells_append]; exact Or.inr g1
          · rw [hdz]; simp only [List.length_append, List.length_singleton]; omega
          · have := HX.out trivial
            rw [if_pos trivial] at this
            unfold UnrAt
            rw [hdrop, HL.out trivial]
            exact this
        case measure => simp only [strLen]; rw [hdz]; omega
      · have qn : ((n : Int) == 0) = false := beq_eq_false_iff_ne.2 (by omega)
        go_wp2_with (go_at_call 31; refine (HF.out _ HT2).mono ?_; rintro e W3 ⟨rfl, b3⟩)
        have hI3 := builder_below hI2 b3
        have hb3 := hb2.trans (b3.mono (by omega))
        have hz3 : w.heap.size < W3.heap.size := by have := b3.size; omega
        clear b3 hI2 hb2
        go_wp2_with (go_at_call 33; refine (Tryd.Builder_WriteRune_k w.heap.size w.heap.size (Lib.byteCells (acc ++ a)) c (by omega) (by omega) _ hI3 (by rw [Lib.byteCells_length, List.length_append]; omega) (by omega)).mono ?_; rintro e W4 ⟨rfl, g1, g2, g3⟩)
        go_roundw
        case rel =>
          have hl4 := Lib.runeCells_le c
          rw [Lib.runeCells_length] at hl4
          refine ⟨tb.extract n b.length, acc ++ a ++ encodeRune c, rfl, ?_, hb3.trans g2, by have := g2.size; omega, ?_, ?_⟩
          · rw [Lib.byteCells_append, Lib.byteCells_encodeRune]; exact Or.inr g1
          · rw [hdz]; simp only [List.length_append]; omega
          · have := HX.out trivial
            rw [if_neg hn] at this
            unfold UnrAt
            rw [hdrop, HL.out trivial]
            exact this
        case measure => simp only [strLen]; rw [hdz]; omega
end Go.Proofs.YtialeicpelehoaaDoor

/-
  lexer.tagAttrs: its walk.
-/
namespace Go.Proofs.YtialeicpelehoaaDoor
open Go.RowKit Go.Lib Own

def attrsV (l : List (List UInt8 × List UInt8)) : List Value := l.flatMap fun a => [strV a.1, strV a.2]
theorem attrsV_len : ∀ l : List (List UInt8 × List UInt8), (attrsV l).length = l.length * 2
  | [] => rfl
  | a :: l => by
    have := attrsV_len l
    unfold attrsV at this ⊢
    simp only [List.flatMap_cons, List.length_append, List.length_cons, List.length_nil, this]
    omega
theorem attrsV_app (a b : List (List UInt8 × List UInt8)) : attrsV (a ++ b) = attrsV a ++ attrsV b := by
  unfold attrsV
  rw [List.flatMap_append]
theorem attrsV_set (ini : List (List UInt8 × List UInt8)) (a : List UInt8 × List UInt8) (u : List UInt8) : (attrsV (ini ++ [a])).set (ini.length * 2 + 1) (strV u) = attrsV (ini ++ [(a.1, u)]) := by
  rw [attrsV_app, attrsV_app, List.set_append, attrsV_len, if_neg (by omega), Nat.add_sub_cancel_left]
  rfl
theorem info_attr : (Tryd.prog.info? 84).map (fun i => (i.zero, i.size, i.bytes)) = some (some (.agg #[.string ⟨#[]⟩, .string ⟨#[]⟩]), 2, 32) := by kernel_rfl
theorem cells_newV (L : List Value) (t : TypeId) (W : World) : ∀ j u, L[j]? = some u → (W.alloc (.cells L.toArray t)).cell? ((⟨W.heap.size, 0, none⟩ : Addr).add j) = some u := by
  intro j u hj
  have hadd : (⟨W.heap.size, 0, none⟩ : Addr).add j = ⟨W.heap.size, j, none⟩ := by unfold Addr.add; split <;> simp_all
  rw [hadd]
  unfold World.cell?
  rw [heap_alloc_new W (.cells L.toArray t)]
  simpa using hj
theorem part_more (L : List UInt8) (f k : Nat) (x : UInt8) (hf : f ≤ k) (h : L[k]? = some x) : (L.take (k + 1)).drop f = (L.take k).drop f ++ [x] := by
  have h1 := (List.getElem?_eq_some_iff.1 h).1
  rw [List.take_add_one, h, List.drop_append_of_le_length (by rw [List.length_take]; omega)]
  rfl
theorem part_slice (s : ByteArray) (f k : Nat) : (s.extract f k).data.toList = (s.data.toList.take k).drop f := by
  simp [List.drop_take]
theorem next_table (s : Nat) (h0 : 3 ≤ s) (h1 : s ≤ 10) (c : UInt8) : ((s = 5 ∨ s = 8 ∨ s = 9 ∨ s = 10) → nextT s c = s ∨ nextT s c ≠ 8 ∧ nextT s c ≠ 9) ∧
    ((nextT s c = 6 ∨ nextT s c = 7 ∨ nextT s c = 8 ∨ nextT s c = 9 ∨ nextT s c = 10) → s = 5 ∨ 6 ≤ s) := by
  have hc := colC_lt c
  have hall : ∀ (i : Fin 8) (k : Fin 7), ((i.val + 3 = 5 ∨ i.val + 3 = 8 ∨ i.val + 3 = 9 ∨ i.val + 3 = 10) → (tagTab.getD i.val []).getD k.val 0 = i.val + 3 ∨ (tagTab.getD i.val []).getD k.val 0 ≠ 8 ∧ (tagTab.getD i.val []).getD k.val 0 ≠ 9) ∧
    (((tagTab.getD i.val []).getD k.val 0 = 6 ∨ (tagTab.getD i.val []).getD k.val 0 = 7 ∨ (tagTab.getD i.val []).getD k.val 0 = 8 ∨ (tagTab.getD i.val []).getD k.val 0 = 9 ∨ (tagTab.getD i.val []).getD k.val 0 = 10) → i.val + 3 = 5 ∨ 6 ≤ i.val + 3) := by decide +kernel
  obtain ⟨i, rfl⟩ : ∃ i, s = i + 3 := ⟨s - 3, by omega⟩
  exact hall ⟨i, by omega⟩ ⟨colC c, hc⟩
/-- the attributes, from byte k on -/
def AttrsAt (L : List UInt8) (k s f : Nat) (acc R : List (List UInt8 × List UInt8)) : Prop := attrsL s ((L.take k).drop f) acc (L.drop k) = R ∧ (passL s (L.drop k)).1 = L.length - k
theorem attrs_same {L : List UInt8} {k s f : Nat} {acc R : List (List UInt8 × List UInt8)} {x : UInt8} (h : AttrsAt L k s f acc R) (hf : f ≤ k) (hx : L[k]? = some x) (hs : s ≠ 0) (hv : nextT s x = s) : AttrsAt L (k + 1) s f acc R := by
  obtain ⟨h1, h2⟩ := h
  obtain ⟨hl, hg⟩ := List.getElem?_eq_some_iff.1 hx
  rw [List.drop_eq_getElem_cons hl, hg] at h1 h2
  rw [attrsL, if_pos hv] at h1
  rw [passL, if_neg hs, hv] at h2
  exact ⟨by rw [part_more L f k x hf hx]; exact h1, by simp only at h2; omega⟩
theorem attrs_next {L : List UInt8} {k s f : Nat} {acc R : List (List UInt8 × List UInt8)} {x : UInt8} (h : AttrsAt L k s f acc R) (hx : L[k]? = some x) (hs : s ≠ 0) (hv : nextT s x ≠ s) :
    AttrsAt L (k + 1) (nextT s x) (if nextT s x = 8 ∨ nextT s x = 9 then k + 1 else k)
      (if s = 5 then acc ++ [(((L.take k).drop f).map lowC, [])] else if s = 8 ∨ s = 9 ∨ s = 10 then acc.dropLast ++ [((acc.getLast?.getD ([], [])).1, unr true ((L.take k).drop f))] else acc) R := by
  obtain ⟨h1, h2⟩ := h
  obtain ⟨hl, hg⟩ := List.getElem?_eq_some_iff.1 hx
  rw [List.drop_eq_getElem_cons hl, hg] at h1 h2
  rw [attrsL, if_neg hv] at h1
  rw [passL, if_neg hs] at h2
  refine ⟨?_, by simp only at h2; omega⟩
  have hpart : (L.take (k + 1)).drop (if nextT s x = 8 ∨ nextT s x = 9 then k + 1 else k) = if nextT s x = 8 ∨ nextT s x = 9 then [] else [x] := by
    split
    · rw [List.drop_of_length_le (by rw [List.length_take]; omega)]
    · rw [part_more L k k x (Nat.le_refl _) hx, List.drop_of_length_le (by rw [List.length_take]; omega)]
      rfl
  rw [hpart]
  exact h1
theorem attrs_live {L : List UInt8} {k s f : Nat} {acc R : List (List UInt8 × List UInt8)} (h : AttrsAt L k s f acc R) (hk : k < L.length) : s ≠ 0 := by
  rintro rfl
  obtain ⟨_, h2⟩ := h
  rw [List.drop_eq_getElem_cons hk] at h2
  simp only [passL, if_true] at h2
  omega
theorem attrs_over {L : List UInt8} {k s f : Nat} {acc R : List (List UInt8 × List UInt8)} (h : AttrsAt L k s f acc R) (hk : L.length ≤ k) : acc = R := by
  obtain ⟨h1, _⟩ := h
  rw [List.drop_of_length_le hk] at h1
  exact h1
set_option maxHeartbeats 8000000 in
set_option maxRecDepth 100000 in
theorem attrs_any (s : ByteArray) (m : Int) (w : World) (hs : s.size ≤ 1000000) (hp : (passL 3 s.data.toList).1 = s.data.toList.length) (hT : TagTabs w) (hR : ChTabs w) (hm : w.cell? ⟨7, 0, none⟩ = some (.int .i64 m)) :
    Calls Tryd.prog 100 #[.string s] w fun e w' => ∃ v, e = .returned v ∧ w'.ownsRow w.heap.size 84 2 v (attrsL 3 [] [] s.data.toList).length (attrsV (attrsL 3 [] [] s.data.toList)) ∧ Below w.heap.size w w' := by
  obtain ⟨i0, hi, hz0, hz1, hz2⟩ := info_parts info_attr
  obtain ⟨R, hRR⟩ : ∃ R, attrsL 3 [] [] s.data.toList = R := ⟨_, rfl⟩
  rw [hRR]
  have H0 : AttrsAt s.data.toList 0 3 0 [] R := ⟨hRR, by rw [List.drop_zero, hp, Nat.sub_zero]⟩
  have HT := hid hT
  have HRT := hid hR
  have HM := hid hm
  clear hRR hp hT hR hm
  go_enter Tryd.func100, Tryd.ntmps100
  go_wp2
  go_loopw [3, 4, 5, 10] (fun av sv fv iv wr => ∃ (k st f : Nat) (acc : List (List UInt8 × List UInt8)), iv = .int .i64 k ∧ sv = .int .i64 st ∧ fv = .int .i64 f ∧ k ≤ s.size ∧ f ≤ k ∧ (st = 0 ∨ 3 ≤ st ∧ st ≤ 10) ∧ acc.length ≤ k ∧ (6 ≤ st → acc ≠ []) ∧ wr.ownsRow w.heap.size 84 2 av acc.length (attrsV acc) ∧ Below w.heap.size w wr ∧ AttrsAt s.data.toList k st f acc R) (fun _ _ _ iv _ => s.size - (RowKit.intOf iv).toNat)
  case atStart => exact ⟨0, 3, 0, [], rfl, rfl, rfl, Nat.zero_le _, Nat.le_refl _, .inr ⟨by omega, by omega⟩, by simp, fun h => absurd h (by omega), World.ownsRow_nil _ _ _ _, Below.refl _ _, H0⟩
  case round =>
    obtain ⟨k, st, f, acc, rfl, rfl, rfl, hk, hf, hst, hal, hne, hown, hbw, HA⟩ := hrel
    clear H0
    by_cases hkp : k < s.size
    · have hst0 := attrs_live HA (by rw [← size_eq]; exact hkp)
      obtain ⟨hst1, hst2⟩ : 3 ≤ st ∧ st ≤ 10 := hst.resolve_left hst0
      obtain ⟨x, hx⟩ : ∃ x, s[k]'hkp = x := ⟨_, rfl⟩
      have hl := getElem_list hkp hx
      have hTr : TagTabs wr := rangeAt_below HT.out hbw
      have hcall := behind_any st x hst1 hst2 wr hTr
      have hnx := next_range st hst1 hst2 x
      obtain ⟨t1, t2⟩ := next_table st hst1 hst2 x
      have hlt := hown.lt
      have hbs := hbw.size
      by_cases hsame : nextT st x = st
      · have HB := attrs_same HA hf hl hst0 hsame
        rw [hsame] at hcall
        have HC := hid (fun (_ : True) => hcall)
        clear hcall hnx t1 t2 hsame hl HA hTr
        go_wp2_with (go_at_call 96; refine (HC.out trivial).mono ?_; rintro e w' ⟨rfl, nd, rfl⟩)
        go_roundw
        case rel => exact ⟨k + 1, st, f, acc, rfl, rfl, rfl, by omega, by omega, .inr ⟨hst1, hst2⟩, by omega, hne, hown, below_drewN hbw _, HB⟩
        case measure => simp [RowKit.intOf]; omega
      · have HB := attrs_next HA hl hst0 hsame
        have qs : ((nextT st x : Int) == (st : Int)) = false := beq_eq_false_iff_ne.2 (by omega)
        obtain ⟨v, hv⟩ : ∃ v, nextT st x = v := ⟨_, rfl⟩
        rw [hv] at hcall hnx t1 t2 HB qs hsame
        have hsl : (s.extract f k).data.toList = (s.data.toList.take k).drop f := part_slice s f k
        have hszx : (s.extract f k).size ≤ 1000000 := by rw [ByteArray.size_extract]; omega
        obtain ⟨px, hpx⟩ : ∃ px, s.extract f k = px := ⟨_, rfl⟩
        rw [hpx] at hsl hszx
        rw [← hsl] at HB
        have HC := hid (fun (_ : True) => hcall)
        have HX := hid (fun (_ : True) => HB)
        clear hcall hl HA hTr hv HB hsl
        by_cases h5 : st = 5
        · subst h5
          have hv89 : v ≠ 8 ∧ v ≠ 9 := by rcases t1 (.inl rfl) with h | h; exact absurd h hsame; exact h
          have q8 : ((v : Int) == 8) = false := beq_eq_false_iff_ne.2 (by omega)
          have q9 : ((v : Int) == 9) = false := beq_eq_false_iff_ne.2 (by omega)
          have hlow := fun W => lower_any px W (by omega)
          obtain ⟨nb, hnb⟩ : ∃ nb : ByteArray, (⟨(px.data.toList.map lowC).toArray⟩ : ByteArray) = nb := ⟨_, rfl⟩
          rw [hnb] at hlow
          have HL := hid hlow
          have hA4 := hid (show acc.length + 1 ≤ maxLen by unfold maxLen; omega)
          have hA5 := hid (show (acc.length + 1) * 32 ≤ 140737488355328 by omega)
          clear hlow t1 t2
          go_wp2_with (first | (go_at_call 96; refine (HC.out trivial).mono ?_; rintro e w' ⟨rfl, nd, rfl⟩) | (go_at_call 106; fail))
          refine (HL.out _).mono ?_
          rintro e W1 ⟨rfl, b1⟩
          have hown9 := hown.kept (row := none) (w' := W1) ⟨b1.os, b1.tape, b1.output, b1.size, fun j hj _ => b1.block j hj⟩ (Classical.em _)
          have hbw9 : Below w.heap.size w W1 := hbw.trans (Below.mono (B := wr.heap.size) ⟨b1.os, b1.tape, b1.output, b1.size, b1.block⟩ hbs)
          clear b1 hown hbw hlt hbs
          have hlt := hown9.lt
          have hbs := hbw9.size
          go_wp2_with (at_builtin; refine wpList_append_own _ rfl (.tmp 24) (.tmp 31) 42 rfl w.heap.size 84 i0 (.agg #[.string ⟨#[]⟩, .string ⟨#[]⟩]) 2 32 Tryd.underlying42 hi hz0 hz1 hz2 rfl (by decide) _ _ _ rfl (hown9.alloc _) ⟨_, 0, none⟩ 1 1 [.string nb, .string ⟨#[]⟩] rfl rfl (cells_newV _ _ _) (by simp [Value.oneCell']) hA4.out hA5.out ?_ ?_)
          · simp; omega
          · intro v' w2 hown2 hgrow _
            have hbw2 := (hbw9.alloc hbs _).grown hgrow (by simp; omega) (fun j hj => (hlt j hj).1)
            clear hgrow hbw9 hown9 hlt hbs
            go_wp2
            go_roundw
            case rel =>
              refine ⟨k + 1, v, k, acc ++ [(px.data.toList.map lowC, [])], rfl, rfl, rfl, by omega, by omega, hnx, by simp; omega, fun _ => by simp, ?_, hbw2, ?_⟩
              · rw [attrsV_app, List.length_append]
                have e : attrsV [(px.data.toList.map lowC, [])] = [.string nb, .string ⟨#[]⟩] := by rw [← hnb]; rfl
                rw [e]
                exact hown2
              · have := HX.out trivial
                rw [if_neg (fun h => h.elim hv89.1 hv89.2), if_pos trivial] at this
                exact this
            case measure => simp [RowKit.intOf]; omega
        · have q5 : ((st : Int) == 5) = false := beq_eq_false_iff_ne.2 (by omega)
          by_cases h8 : st = 8 ∨ st = 9 ∨ st = 10
          · have hv89 : v ≠ 8 ∧ v ≠ 9 := by rcases t1 (.inr h8) with h | h; exact absurd h hsame; exact h
            have q8 : ((v : Int) == 8) = false := beq_eq_false_iff_ne.2 (by omega)
            have q9 : ((v : Int) == 9) = false := beq_eq_false_iff_ne.2 (by omega)
            obtain ⟨ini, a, rfl⟩ : ∃ ini a, acc = ini ++ [a] := by
              have h := hne (by omega)
              exact ⟨acc.dropLast, acc.getLast h, (List.dropLast_concat_getLast h).symm⟩
            have hln : (ini ++ [a]).length = ini.length + 1 := by simp
            rw [hln] at hown hal
            have HX2 : Hid (True → AttrsAt s.data.toList (k + 1) v k (ini ++ [(a.1, unr true px.data.toList)]) R) := by
              have := HX.out trivial
              rw [if_neg (fun h => h.elim hv89.1 hv89.2), if_neg h5, if_pos h8] at this
              rw [List.dropLast_concat, List.getLast?_concat] at this
              exact hid (fun _ => this)
            have hrr : ChTabs wr := HRT.out.below hbw
            have hmr : wr.cell? ⟨7, 0, none⟩ = some (.int .i64 m) := by
              have hc := HM.out
              have := hbw.block _ (cell_block hc)
              unfold World.cell? at hc ⊢
              rw [this]
              exact hc
            have HU := hid (fun nd => unref_any px true m (wr.drewN nd) (by omega) ⟨hrr.names, hrr.repl⟩ hmr)
            generalize unr true px.data.toList = U at HU HX2
            obtain ⟨ub, hub⟩ : ∃ ub : ByteArray, (⟨U.toArray⟩ : ByteArray) = ub := ⟨_, rfl⟩
            rw [hub] at HU
            clear HX hne hln hrr hmr
            rcases hown.2 with ⟨_, h0⟩ | ⟨g, cap, cur, rfl, _⟩
            · exact absurd h0 (by omega)
            · rcases h8 with rfl | rfl | rfl
              all_goals
                go_wp2_with (first | (go_at_call 96; refine (HC.out trivial).mono ?_; rintro e w' ⟨rfl, nd, rfl⟩) | (go_at_call 17; fail))
                refine (HU.out _).mono ?_
                rintro e W1 ⟨rfl, b1⟩
                have hown9 := hown.kept (row := none) (w' := W1) ⟨b1.os, b1.tape, b1.output, b1.size, fun j hj _ => b1.block j hj⟩ (Classical.em _)
                have hbw9 : Below w.heap.size w W1 := hbw.trans (Below.mono (B := wr.heap.size) ⟨b1.os, b1.tape, b1.output, b1.size, b1.block⟩ hbs)
                have hg : w.heap.size ≤ g := by
                  rcases hown9.2 with ⟨h, _⟩ | ⟨g', c', cu, h, hb, _⟩
                  · cases h
                  · cases h; exact hb
                have hc := hown9.cellAt (ini.length * 2 + 1) (by omega)
                have hfz := hown9.frozenAt (ini.length * 2 + 1)
                have hc2 : (attrsV (ini ++ [a]))[ini.length * 2 + 1]? = some (strV a.2) := by
                  rw [attrsV_app, List.getElem?_append_right (by rw [attrsV_len]; omega), attrsV_len, Nat.add_sub_cancel_left]
                  rfl
                rw [hc2] at hc
                have hst9 := (hown9.stored (ini.length * 2 + 1) (strV U)).1
                rw [attrsV_set] at hst9
                have hsV : strV U = .string ub := by unfold strV; rw [hub]
                rw [hsV] at hst9
                have HS := hid hst9
                clear b1 hown hbw hlt hbs hst9 hown9 hc2
                go_wp2
                go_roundw
                case rel => exact ⟨k + 1, v, k, ini ++ [(a.1, U)], rfl, rfl, rfl, by omega, by omega, hnx, by simp; omega, fun _ => by simp, by have := HS.out; simpa using this, hbw9.setCell hg _, HX2.out trivial⟩
                case measure => simp [RowKit.intOf]; omega
          · have r8 : ((st : Int) == 8) = false := beq_eq_false_iff_ne.2 (by omega)
            have r9 : ((st : Int) == 9) = false := beq_eq_false_iff_ne.2 (by omega)
            have r10 : ((st : Int) == 10) = false := beq_eq_false_iff_ne.2 (by omega)
            have HX2 : Hid (True → AttrsAt s.data.toList (k + 1) v (if v = 8 ∨ v = 9 then k + 1 else k) acc R) := by
              have := HX.out trivial
              rw [if_neg h5, if_neg h8] at this
              exact hid (fun _ => this)
            have hne2 : 6 ≤ v → acc ≠ [] := fun h => hne (by rcases t2 (by omega) with e | e; exact absurd e h5; exact e)
            clear HX t1 t2 hpx
            by_cases hv8 : v = 8
            · subst hv8
              go_wp2_with (go_at_call 96; refine (HC.out trivial).mono ?_; rintro e w' ⟨rfl, nd, rfl⟩)
              go_roundw
              case rel => exact ⟨k + 1, 8, k + 1, acc, rfl, rfl, rfl, by omega, by omega, hnx, by omega, hne2, hown, below_drewN hbw _, HX2.out trivial⟩
              case measure => simp [RowKit.intOf]; omega
            · have q8 : ((v : Int) == 8) = false := beq_eq_false_iff_ne.2 (by omega)
              by_cases hv9 : v = 9
              · subst hv9
                go_wp2_with (go_at_call 96; refine (HC.out trivial).mono ?_; rintro e w' ⟨rfl, nd, rfl⟩)
                go_roundw
                case rel => exact ⟨k + 1, 9, k + 1, acc, rfl, rfl, rfl, by omega, by omega, hnx, by omega, hne2, hown, below_drewN hbw _, HX2.out trivial⟩
                case measure => simp [RowKit.intOf]; omega
              · have q9 : ((v : Int) == 9) = false := beq_eq_false_iff_ne.2 (by omega)
                go_wp2_with (go_at_call 96; refine (HC.out trivial).mono ?_; rintro e w' ⟨rfl, nd, rfl⟩)
                go_roundw
                case rel =>
                  refine ⟨k + 1, v, k, acc, rfl, rfl, rfl, by omega, by omega, hnx, by omega, hne2, hown, below_drewN hbw _, ?_⟩
                  have := HX2.out trivial
                  rw [if_neg (fun h => h.elim hv8 hv9)] at this
                  exact this
                case measure => simp [RowKit.intOf]; omega
    · have he := attrs_over HA (by rw [← size_eq]; omega)
      subst he
      go_wp2
      go_ret
      exact ⟨_, rfl, hown, hbw⟩
end Go.Proofs.YtialeicpelehoaaDoor

/-
  The stream of events inside another block: what it holds, and PutText: its walk.
-/
namespace Go.Proofs.YtialeicpelehoaaDoor
open Go.RowKit Go.Lib Own

/-- the cells of a list of events: each an event's four -/
def EvsAt (W : World) (base : Nat) : List Value → List Ev → Prop
  | [], [] => True
  | k :: n :: a :: t :: r, e :: l => (match e with
    | .text b => k = .int .i64 3 ∧ n = .string ⟨#[]⟩ ∧ a = .slice none 0 0 ∧ t = strV b
    | .start m at_ => k = .int .i64 1 ∧ n = strV m ∧ W.ownsRow base 84 2 a at_.length (attrsV at_) ∧ t = .string ⟨#[]⟩
    | .stop m => k = .int .i64 2 ∧ n = strV m ∧ a = .slice none 0 0 ∧ t = .string ⟨#[]⟩) ∧ EvsAt W base r l
  | _, _ => False
/-- rows of another kind than the one that is written stay what they are -/
theorem row_keep {W W' : World} {base b : Nat} {e T : TypeId} {size n n0 : Nat} {v v0 : Value} {xs xs0 : List Value} {cs : Array Value} (h : W.ownsRow base e size v n xs) (hb : W.heap[b]? = some (.cells cs T (0, 0))) (hT : T ≠ e)
    (h0 : W.ownsRowF base 5 1 v0 n0 xs0) (he : e ≠ 5) (hk : ∀ k, k < W.heap.size → k ≠ b → v0.ownBlock ≠ some k → W'.heap[k]? = W.heap[k]?) : W'.ownsRow base e size v n xs := by
  refine ⟨h.1, ?_⟩
  rcases h.2 with h2 | ⟨g, cap, cur, rfl, hg0, hg, rest⟩
  · exact .inl h2
  · refine .inr ⟨g, cap, cur, rfl, hg0, ?_, rest⟩
    rw [hk g (Array.getElem?_eq_some_iff.1 hg).1 ?_ ?_]
    · exact hg
    · rintro rfl
      rw [hg] at hb
      simp only [Option.some.injEq, Obj.cells.injEq] at hb
      exact hT hb.2.1.symm
    · intro h3
      rcases h0.2 with ⟨rfl, _⟩ | ⟨g', cap', cur', fz, rfl, _, hg', _⟩
      · cases h3
      · simp only [Value.ownBlock, Option.some.injEq] at h3
        subst h3
        rw [hg] at hg'
        simp only [Option.some.injEq, Obj.cells.injEq] at hg'
        exact he hg'.2.1
theorem evs_keep {W W' : World} {base b : Nat} {T : TypeId} {n0 : Nat} {v0 : Value} {xs0 : List Value} {cs : Array Value} (hb : W.heap[b]? = some (.cells cs T (0, 0))) (hT : T ≠ 84)
    (h0 : W.ownsRowF base 5 1 v0 n0 xs0) (hk : ∀ k, k < W.heap.size → k ≠ b → v0.ownBlock ≠ some k → W'.heap[k]? = W.heap[k]?) : ∀ (xs : List Value) (l : List Ev), EvsAt W base xs l → EvsAt W' base xs l
  | [], [], _ => trivial
  | k :: n :: a :: t :: r, e :: l, ⟨h1, h2⟩ => by
    refine ⟨?_, evs_keep hb hT h0 hk r l h2⟩
    cases e with
    | text b => exact h1
    | start m at_ => exact ⟨h1.1, h1.2.1, row_keep h1.2.2.1 hb hT h0 (by decide) hk, h1.2.2.2⟩
    | stop m => exact h1
  | [], _ :: _, h => h.elim
  | [_], _, h => by cases ‹List Ev› <;> exact h.elim
  | [_, _], _, h => by cases ‹List Ev› <;> exact h.elim
  | [_, _, _], _, h => by cases ‹List Ev› <;> exact h.elim
  | _ :: _ :: _ :: _ :: _, [], h => h.elim
/-- a stream at cell o of block b -/
structure StreamAt (W : World) (base b o : Nat) (cs : Array Value) (T : TypeId) (evs : List Ev) (pend : List UInt8) : Prop where
  it : ∃ ev p v xs, cs[o]? = some ev ∧ InB W base b (o + 1) cs T p v pend ∧ W.ownsRow base 44 4 ev evs.length xs ∧ EvsAt W base xs evs
structure StreamT (T : TypeId) (cs : Array Value) (o : Nat) : Prop where
  lies : liesAt Tryd.prog Tryd.prog.depth T (cs.size / Tryd.prog.cellsOf T) (o + 1) 57 1 = true
  n0 : T ≠ 5
  n1 : T ≠ 84
  n2 : T ≠ 44

set_option maxHeartbeats 1000000 in
theorem putText_any (base b o : Nat) (cs : Array Value) (T : TypeId) (evs : List Ev) (pend : List UInt8) (s : ByteArray) (w : World) (h : StreamAt w base b o cs T evs pend) (hT : StreamT T cs o) (hlen : pend.length + s.size ≤ 140737488355328) :
    Calls Tryd.prog 64 #[.pointer (some ⟨b, o, none⟩), .string s] w fun e w' => e = .returned (.tuple #[]) ∧
      ∃ p v, StreamAt w' base b o ((cs.setIfInBounds (o + 1) p).setIfInBounds (o + 2) v) T evs (pend ++ s.data.toList) ∧ Below base w w' := by
  obtain ⟨ev, p, v, xs, hev, hin, hrow, hevs⟩ := h.it
  have hw := write_in base b (o + 1) cs T p v pend s w hin hT.lies hT.n0 hlen
  have HW := hid hw
  clear hw
  go_enter Tryd.func64, Tryd.ntmps64
  go_wp2_with (go_at_call 29; refine HW.out.mono ?_; rintro e w1 ⟨rfl, v', hin', hbel, hk⟩)
  go_end0
  refine ⟨rfl, .pointer (some ⟨b, o + 1, none⟩), v', ⟨ev, _, v', xs, ?_, hin', row_keep hrow hin.at_ hT.n2 hin.own (by decide) hk, evs_keep hin.at_ hT.n1 hin.own hk xs evs hevs⟩, hbel⟩
  rw [Array.getElem?_setIfInBounds, if_neg (by omega), Array.getElem?_setIfInBounds, if_neg (by omega)]
  exact hev
end Go.Proofs.YtialeicpelehoaaDoor

/-
  The stream's endText where there is text: its walk.
-/
namespace Go.Proofs.YtialeicpelehoaaDoor
open Go.RowKit Go.Lib Own

theorem info_event : (Tryd.prog.info? 44).map (fun i => (i.zero, i.size, i.bytes)) = some (some (.agg #[.int .i64 0, .string ⟨#[]⟩, .slice none 0 0, .string ⟨#[]⟩]), 4, 64) := by kernel_rfl
theorem row_ne {W : World} {base b : Nat} {e T : TypeId} {size n : Nat} {v : Value} {xs : List Value} {cs : Array Value} (h : W.ownsRow base e size v n xs) (hb : W.heap[b]? = some (.cells cs T (0, 0))) (hT : T ≠ e) : v.ownBlock ≠ some b := by
  rcases h.2 with ⟨rfl, _⟩ | ⟨g, cap, cur, rfl, _, hg, _⟩
  · simp [Value.ownBlock]
  · intro h3
    simp only [Value.ownBlock, Option.some.injEq] at h3
    subst h3
    rw [hg] at hb
    simp only [Option.some.injEq, Obj.cells.injEq] at hb
    exact hT hb.2.1.symm
theorem rows_ne {W : World} {base : Nat} {e1 e2 : TypeId} {z1 z2 n1 n2 : Nat} {v1 v2 : Value} {xs1 xs2 : List Value} (h1 : W.ownsRow base e1 z1 v1 n1 xs1) (h2 : W.ownsRow base e2 z2 v2 n2 xs2) (hne : e1 ≠ e2) : v1.ownBlock = none ∨ v1.ownBlock ≠ v2.ownBlock := by
  rcases h1.2 with ⟨rfl, _⟩ | ⟨g, cap, cur, rfl, _, hg, _⟩
  · exact .inl rfl
  · refine .inr (fun h3 => ?_)
    rcases h2.2 with ⟨rfl, _⟩ | ⟨g2, cap2, cur2, rfl, _, hg2, _⟩
    · cases h3
    · simp only [Value.ownBlock, Option.some.injEq] at h3
      subst h3
      rw [hg] at hg2
      simp only [Option.some.injEq, Obj.cells.injEq] at hg2
      exact hne hg2.2.1
theorem evs_mono {W W' : World} {base : Nat} (hr : ∀ a n xs, W.ownsRow base 84 2 a n xs → W'.ownsRow base 84 2 a n xs) : ∀ (xs : List Value) (l : List Ev), EvsAt W base xs l → EvsAt W' base xs l
  | [], [], _ => trivial
  | k :: n :: a :: t :: r, e :: l, ⟨h1, h2⟩ => by
    refine ⟨?_, evs_mono hr r l h2⟩
    cases e with
    | text b => exact h1
    | start m at_ => exact ⟨h1.1, h1.2.1, hr _ _ _ h1.2.2.1, h1.2.2.2⟩
    | stop m => exact h1
  | [], _ :: _, h => h.elim
  | [_], _, h => by cases ‹List Ev› <;> exact h.elim
  | [_, _], _, h => by cases ‹List Ev› <;> exact h.elim
  | [_, _, _], _, h => by cases ‹List Ev› <;> exact h.elim
  | _ :: _ :: _ :: _ :: _, [], h => h.elim
theorem evs_snoc {W : World} {base : Nat} {b : List UInt8} : ∀ (xs : List Value) (l : List Ev), EvsAt W base xs l → EvsAt W base (xs ++ [.int .i64 3, .string ⟨#[]⟩, .slice none 0 0, strV b]) (l ++ [.text b])
  | [], [], _ => ⟨⟨rfl, rfl, rfl, rfl⟩, trivial⟩
  | k :: n :: a :: t :: r, e :: l, ⟨h1, h2⟩ => ⟨h1, evs_snoc r l h2⟩
  | [], _ :: _, h => h.elim
  | [_], _, h => by cases ‹List Ev› <;> exact h.elim
  | [_, _], _, h => by cases ‹List Ev› <;> exact h.elim
  | [_, _, _], _, h => by cases ‹List Ev› <;> exact h.elim
  | _ :: _ :: _ :: _ :: _, [], h => h.elim
theorem row_just {W W' : World} {base b : Nat} {e T : TypeId} {size n : Nat} {v : Value} {xs : List Value} {cs : Array Value} (h : W.ownsRow base e size v n xs) (hb : W.heap[b]? = some (.cells cs T (0, 0))) (hT : T ≠ e) (hk : ∀ k, k ≠ b → W'.heap[k]? = W.heap[k]?) : W'.ownsRow base e size v n xs := by
  have hne := row_ne h hb hT
  refine ⟨h.1, ?_⟩
  rcases h.2 with h2 | ⟨g, cap, cur, rfl, hg0, hg, rest⟩
  · exact .inl h2
  · refine .inr ⟨g, cap, cur, rfl, hg0, ?_, rest⟩
    rw [hk g (fun e => hne (by simp [Value.ownBlock, e]))]
    exact hg

/-- blocks that are not the stream's stay what they are -/
def KeepF (w w' : World) (b o : Nat) (cs : Array Value) : Prop := ∀ ev v, cs[o]? = some ev → cs[o + 2]? = some v → ∀ k, k < w.heap.size → k ≠ b → ev.ownBlock ≠ some k → v.ownBlock ≠ some k → w'.heap[k]? = w.heap[k]?
set_option maxHeartbeats 4000000 in
set_option maxRecDepth 100000 in
theorem endText_full (base b o : Nat) (cs : Array Value) (T : TypeId) (evs : List Ev) (pend : List UInt8) (w : World) (h : StreamAt w base b o cs T evs pend) (hT : StreamT T cs o) (h0 : pend ≠ []) (hlen : evs.length ≤ 10000000) :
    Calls Tryd.prog 40 #[.pointer (some ⟨b, o, none⟩)] w fun e w' => e = .returned (.tuple #[]) ∧
      ∃ ev, StreamAt w' base b o (((cs.setIfInBounds o ev).setIfInBounds (o + 1) (.pointer none)).setIfInBounds (o + 2) (.slice none 0 0)) T (evs ++ [.text pend]) [] ∧ Below base w w' ∧ (∀ a n ys, w.ownsRow base 84 2 a n ys → w'.ownsRow base 84 2 a n ys) ∧ KeepF w w' b o cs := by
  obtain ⟨i0, hi, hz0, hz1, hz2⟩ := info_parts info_event
  obtain ⟨ev, p, v, xs, hev, hin, hrow, hevs⟩ := h.it
  have hlen0 := fun W hW => len_in base b (o + 1) cs T p v pend W hW
  have hn0 : ((pend.length : Int) == 0) = false := beq_eq_false_iff_ne.2 (by have := List.length_pos_iff.2 h0; omega)
  have hstr := fun W hW => string_in base b (o + 1) cs T p v pend W hW h0
  have ce := cell_at hin.at_ hev
  have fe := free_at hin.at_ o
  have HL := hid hlen0
  have HS := hid hstr
  have HI := hid hin
  clear hlen0 hstr hin
  go_enter Tryd.func40, Tryd.ntmps40
  go_wp2_with (go_at_call 62; refine (HL.out _ HI.out).mono ?_; rintro e w1 ⟨rfl, rfl⟩)
  have hbs : base ≤ w1.heap.size := by have := (Array.getElem?_eq_some_iff.1 HI.out.at_).1; have := HI.out.lo; omega
  have hneb : ev.ownBlock ≠ some b := row_ne hrow HI.out.at_ hT.n2
  go_region_law (first
    | (go_simp; go_at_call 30; refine (HS.out _ (by exact ⟨HI.out.at_, HI.out.lo, HI.out.cp, HI.out.cv, HI.out.hp, HI.out.own, HI.out.ne⟩)).mono ?_; rintro e w9 ⟨rfl, hb9, bel9, k9⟩; have hbs9 := (Array.getElem?_eq_some_iff.1 hb9).1; have hsz9 := bel9.size; have hsz9' : w1.heap.size ≤ w9.heap.size := (by exact hsz9); have ce9 := cell_at hb9 hev; have fe9 := free_at hb9 o; have hrow9 := row_keep hrow HI.out.at_ hT.n2 HI.out.own (by decide) (fun k _ h1 h2 => k9 k h1 h2))
    | (refine step_append_lies _ rfl (.tmp 11) (.tmp 17) 35 rfl base 44 i0 (.agg #[.int .i64 0, .string ⟨#[]⟩, .slice none 0 0, .string ⟨#[]⟩]) 4 64 Tryd.underlying35 hi hz0 hz1 hz2 rfl (by decide) ev evs.length xs (by simp [Act.eval]) (by exact hrow9.alloc _) ⟨_, 0, none⟩ 1 1 [.int .i64 3, .string ⟨#[]⟩, .slice none 0 0, strV pend] (by simp [Act.eval]) rfl (cells_newV _ _ _) (by simp [Value.oneCell', strV]) (by omega) (by unfold maxLen; omega) (by omega) (by simp; omega) _ rfl ?_; rintro g cap w10 hrow10 hgrow10 - -; have hb10 : w10.heap[b]? = some (.cells cs T (0, 0)) := ((hgrow10.block b (by simp; omega) (fun e => hneb e.symm)).trans (alloc_old _ _ b (by exact hbs9))).trans (by exact hb9); have ce10 := cell_at hb10 hev; have fe10 := free_at hb10 o))
  all_goals
    have j1 := just_set (j := o) hb10 (.slice (some ⟨g, 0, none⟩) (evs.length + 1) cap)
    have hlo := HI.out.lo
    have hcp1 : (cs.setIfInBounds o (.slice (some ⟨g, 0, none⟩) (evs.length + 1) cap))[o + 1]? = some p := by
      rw [Array.getElem?_setIfInBounds, if_neg (by omega)]; exact HI.out.cp
    have hcv1 : (cs.setIfInBounds o (.slice (some ⟨g, 0, none⟩) (evs.length + 1) cap))[o + 1 + 1]? = some v := by
      rw [Array.getElem?_setIfInBounds, if_neg (by omega)]; exact HI.out.cv
    have hres := reset_in base b (o + 1) _ T p v _ j1.at_ hlo hcp1 hcv1
    have HR := hid hres
    clear hres
    have hkx := j1.other
    have hbx := j1.below hlo
    clear j1
    go_wp2_with (go_at_call 63; refine HR.out.mono ?_; rintro e w11 ⟨rfl, hin11, bel11, k11⟩)
    go_end0
    have hk : ∀ k, k ≠ b → w11.heap[k]? = w10.heap[k]? := fun k h => (k11 k h).trans (hkx k h)
    have b9 : Below base w1 w9 := ⟨bel9.os, bel9.tape, bel9.output, bel9.size, bel9.block⟩
    have b10 : Below base w1 w10 := (b9.alloc (by omega) _).grown hgrow10 (by simp; omega) (fun k hk => (hrow9.lt k hk).1)
    have e9 : EvsAt w9 base xs evs := evs_keep HI.out.at_ hT.n1 HI.out.own (fun k _ h1 h2 => k9 k h1 h2) xs evs hevs
    have e10 : EvsAt w10 base xs evs := evs_mono (fun a n ys hr => (hr.alloc _).kept hgrow10 (rows_ne hr hrow9 (by decide))) xs evs e9
    have e11 : EvsAt w11 base xs evs := evs_mono (fun a n ys hr => row_just hr hb10 hT.n1 hk) xs evs e10
    refine ⟨rfl, .slice (some ⟨g, 0, none⟩) (evs.length + 1) cap, ⟨.slice (some ⟨g, 0, none⟩) (evs.length + 1) cap, .pointer none, .slice none 0 0, xs ++ [.int .i64 3, .string ⟨#[]⟩, .slice none 0 0, strV pend], ?_, hin11, ?_, evs_snoc xs evs e11⟩, b10.trans (hbx.trans bel11), fun a n ys hr => row_just (((row_keep hr HI.out.at_ hT.n1 HI.out.own (by decide) (fun k _ h1 h2 => k9 k h1 h2)).alloc _).kept hgrow10 (rows_ne (row_keep hr HI.out.at_ hT.n1 HI.out.own (by decide) (fun k _ h1 h2 => k9 k h1 h2)) hrow9 (by decide))) hb10 hT.n1 hk, ?_⟩
    · rw [Array.getElem?_setIfInBounds, if_neg (by omega), Array.getElem?_setIfInBounds, if_neg (by omega), Array.getElem?_setIfInBounds, if_pos rfl, if_pos (Array.getElem?_eq_some_iff.1 hev).1]
    · have := row_just hrow10 hb10 hT.n2 hk
      rw [List.length_append]
      exact this
    · intro ev' v' hev' hv' k hks hkb hke hkv
      rw [hev] at hev'
      obtain rfl := Option.some.inj hev'
      rw [HI.out.cv] at hv'
      obtain rfl := Option.some.inj hv'
      have hk9 : k < w9.heap.size := by omega
      exact (((hk k hkb).trans (hgrow10.block k (by simp; omega) (fun e => hke e.symm))).trans (alloc_old _ _ k (by exact hk9))).trans (k9 k hkb hkv)

set_option maxHeartbeats 1000000 in
theorem endText_none (base b o : Nat) (cs : Array Value) (T : TypeId) (evs : List Ev) (w : World) (h : StreamAt w base b o cs T evs []) :
    Calls Tryd.prog 40 #[.pointer (some ⟨b, o, none⟩)] w fun e w' => e = .returned (.tuple #[]) ∧ w' = w := by
  obtain ⟨ev, p, v, xs, hev, hin, hrow, hevs⟩ := h.it
  have hlen0 : Calls Tryd.prog 62 #[.pointer (some ⟨b, o + 1, none⟩)] w fun e w' => e = .returned (.int .i64 0) ∧ w' = w := len_in base b (o + 1) cs T p v [] w hin
  have HL := hid hlen0
  clear hlen0 hin hrow hevs h
  go_enter Tryd.func40, Tryd.ntmps40
  go_wp2_with (go_at_call 62; refine HL.out.mono ?_; rintro e w1 ⟨rfl, rfl⟩)
  refine bodyPost_ret (v := .tuple #[]) ?_ rfl ⟨rfl, rfl⟩
  simp [results, Tryd.results40]
theorem endText_any (base b o : Nat) (cs : Array Value) (T : TypeId) (evs : List Ev) (pend : List UInt8) (w : World) (h : StreamAt w base b o cs T evs pend) (hT : StreamT T cs o) (hlen : evs.length ≤ 10000000) :
    Calls Tryd.prog 40 #[.pointer (some ⟨b, o, none⟩)] w fun e w' => e = .returned (.tuple #[]) ∧
      ∃ e1 p1 v1, StreamAt w' base b o (((cs.setIfInBounds o e1).setIfInBounds (o + 1) p1).setIfInBounds (o + 2) v1) T (flushE (evs, pend)) [] ∧ Below base w w' ∧ (∀ a n ys, w.ownsRow base 84 2 a n ys → w'.ownsRow base 84 2 a n ys) ∧ KeepF w w' b o cs := by
  by_cases h0 : pend = []
  · subst h0
    refine (endText_none base b o cs T evs w h).mono ?_
    rintro e w' ⟨rfl, rfl⟩
    obtain ⟨ev, p, v, xs, hev, hin, hrow, hevs⟩ := h.it
    refine ⟨rfl, ev, p, v, ?_, Below.refl _ _, fun _ _ _ h => h, fun _ _ _ _ _ _ _ _ _ => rfl⟩
    rw [set_same hev, set_same hin.cp, set_same hin.cv]
    exact h
  · refine (endText_full base b o cs T evs pend w h hT h0 hlen).mono ?_
    rintro e w' ⟨rfl, ev, h1, h2, h3, h4⟩
    refine ⟨rfl, ev, .pointer none, .slice none 0 0, ?_, h2, h3, h4⟩
    unfold flushE
    rw [if_neg h0]
    exact h1

set_option maxHeartbeats 1000000 in
theorem events_any (base b o : Nat) (cs : Array Value) (T : TypeId) (evs : List Ev) (pend : List UInt8) (w : World) (h : StreamAt w base b o cs T evs pend) (hT : StreamT T cs o) (hlen : evs.length ≤ 10000000) :
    Calls Tryd.prog 25 #[.pointer (some ⟨b, o, none⟩)] w fun e w' => ∃ ev xs, e = .returned ev ∧ w'.ownsRow base 44 4 ev (flushE (evs, pend)).length xs ∧ EvsAt w' base xs (flushE (evs, pend)) ∧ Below base w w' := by
  have hend := endText_any base b o cs T evs pend w h hT hlen
  have HE := hid hend
  clear hend
  go_enter Tryd.func25, Tryd.ntmps25
  go_wp2_with fail
  refine HE.out.mono ?_
  rintro e w1 ⟨rfl, e1, p1, v1, hs, hbel, -, -⟩
  obtain ⟨ev, p, v, xs, hev, hin, hrow, hevs⟩ := hs.it
  have c := cell_at hin.at_ hev
  clear HE hin hev
  go_wp2
  go_ret
  exact ⟨_, _, rfl, hrow, hevs, hbel⟩
end Go.Proofs.YtialeicpelehoaaDoor
