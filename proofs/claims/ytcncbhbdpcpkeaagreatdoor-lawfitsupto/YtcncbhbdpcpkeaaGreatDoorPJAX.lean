/-
  Parts of the walk, joined: LinkCode.
-/
import Derived.Test.YtcncbhbdpcpkeaaGreatDoorPJAW
import Derived.Test.YtcncbhbdpcpkeaaGreatDoorPJAE
import Derived.Test.YtcncbhbdpcpkeaaGreatDoorPJAG
/-
  sieve.CleanURL: its walk.
-/
namespace Go.Proofs.YtcncbhbdpcpkeaaGreatDoor
open Go.RowKit Go.Lib Own

set_option maxRecDepth 100000 in
theorem idxAny_any (s : ByteArray) (w : World) (hs : s.size ≤ 1000000000) :
    Calls Tryz.prog 292 #[.string s, .string marksB] w fun e w' => e = .returned (.int .i64 (markIx s.data.toList)) ∧ Below w.heap.size w w' := by
  by_cases h8 : s.size ≤ 8
  · exact idxAny_short s w h8
  · have h116 : (Tryz.prog.info? 233).map (fun i => (i.zero, i.size)) = some (some (.agg (Array.replicate 256 (.bool false))), 256) := by kernel_rfl
    refine (Tryz.strings_IndexAny_long (zero_of_info h116).1 s marksB w (by decide) (by omega) (by omega) (by decide) (fun j b hb => ?_)).mono ?_
    · have := List.mem_of_getElem? hb
      rw [show marksB.data.toList = [58, 47, 63, 35] from rfl] at this
      simp only [List.mem_cons, List.not_mem_nil, or_false] at this
      rcases this with rfl | rfl | rfl | rfl <;> decide
    · rintro e w' ⟨rfl, rfl⟩
      rw [indexAny_mark]
      exact ⟨rfl, ((Below.refl _ w).alloc (Nat.le_refl _) _).alloc (by simp) _⟩

/-! ## stripped -/

theorem rtrim_cons (c : UInt8) (r : List UInt8) : rtrim (c :: r) = if c = 32 ∧ rtrim r = [] then [] else c :: rtrim r := by
  unfold rtrim
  rw [List.reverse_cons, List.dropWhile_append]
  by_cases h : (r.reverse.dropWhile fun c => c == 32) = []
  · rw [h]
    simp only [List.isEmpty_nil, if_true, List.reverse_nil, and_true]
    by_cases hc : c = 32
    · subst hc; simp
    · rw [if_neg hc, List.dropWhile_cons, if_neg (by simpa using hc)]
      simp
  · rw [if_neg (by simpa using h), if_neg (by rintro ⟨_, h2⟩; exact h (by simpa using h2))]
    simp
theorem trim_comm : ∀ L : List UInt8, (rtrim L).dropWhile (fun c => c == 32) = rtrim (L.dropWhile fun c => c == 32)
  | [] => rfl
  | c :: r => by
    have ih := trim_comm r
    by_cases hc : c = 32
    · subst hc
      have e1 : (32 :: r).dropWhile (fun c => c == 32) = r.dropWhile (fun c => c == 32) := rfl
      have e2 : (32 :: rtrim r).dropWhile (fun c => c == 32) = (rtrim r).dropWhile (fun c => c == 32) := rfl
      rw [e1, ← ih, rtrim_cons]
      by_cases hr : rtrim r = []
      · rw [if_pos ⟨rfl, hr⟩, hr]
      · rw [if_neg (fun h => hr h.2), e2]
    · have e1 : (c == 32) = false := beq_eq_false_iff_ne.2 hc
      have e2 : ∀ l : List UInt8, (c :: l).dropWhile (fun c => c == 32) = c :: l := fun l => by
        rw [List.dropWhile_cons, e1]
        rfl
      rw [e2, rtrim_cons, if_neg (fun h => hc h.1), e2]
theorem drop_while : ∀ L : List UInt8, L.drop (L.takeWhile [32].contains).length = L.dropWhile fun c => c == 32
  | [] => rfl
  | c :: r => by
    have ih := drop_while r
    rw [List.takeWhile_cons, List.dropWhile_cons]
    have e : [32].contains c = (c == 32) := by
      rw [List.contains_cons, List.contains_nil, Bool.or_false]
    rw [e]
    cases h : (c == 32) with
    | true =>
      simp only [if_true, List.length_cons, List.drop_succ_cons]
      exact ih
    | false => simp
theorem strip_trim (v : List UInt8) : Lib.trimB (v.filter seenB) 32 = stripL v := by
  unfold Lib.trimB Lib.trimLeftB Lib.trimRightB stripL
  rw [drop_while]
  exact trim_comm _

set_option maxHeartbeats 2000000 in
set_option maxRecDepth 100000 in
theorem strip_any (v : ByteArray) (w : World) (hv : v.size ≤ 1000000000) :
    Calls Tryz.prog 290 #[.string v] w fun e w' => e = .returned (.string (bs (stripL v.data.toList))) ∧ Below w.heap.size w w' := by
  have hz := size_eq v
  have HZ := hid hz
  have H0 : Hid (Lib.IsBuilderF 67 5 w.heap.size w.heap.size (Lib.byteCells []) (w.alloc (.cells #[.pointer none, .slice none 0 0] 67)) ∧ Below w.heap.size w (w.alloc (.cells #[.pointer none, .slice none 0 0] 67)) ∧ w.heap.size < (w.alloc (.cells #[.pointer none, .slice none 0 0] 67)).heap.size) :=
    ⟨Lib.IsBuilderF.of (Or.inl ⟨Nat.le_refl _, .slice none 0 0, heap_alloc_new w _, World.ownsRow_nil _ _ _ _, by simp [Value.ownBlock]⟩), (Below.refl _ w).alloc (Nat.le_refl _) _, by simp⟩
  clear hz
  go_enter Tryz.func290, Tryz.ntmps290
  go_wp2_with fail
  go_loopw [4, 5, 8] (fun _ _ iv wr => ∃ k : Nat, iv = .int .i64 k ∧ k ≤ v.size ∧ Hid (Lib.IsBuilderF 67 5 w.heap.size w.heap.size (Lib.byteCells ((v.data.toList.take k).filter seenB)) wr ∧ Below w.heap.size w wr ∧ w.heap.size < wr.heap.size)) (fun _ _ iv _ => v.size - (RowKit.intOf iv).toNat)
  case atStart => exact ⟨0, rfl, Nat.zero_le _, H0⟩
  case round =>
    obtain ⟨k, rfl, hk, HX⟩ := hrel
    by_cases hkl : k < v.size
    · obtain ⟨c, hc⟩ : ∃ c, v[k]'hkl = c := ⟨_, rfl⟩
      have hcl := getElem_list hkl hc
      have hst := filter_step (p := seenB) hcl
      have hln : ((v.data.toList.take k).filter seenB).length ≤ k := Nat.le_trans (List.length_filter_le _ _) (by rw [List.length_take]; omega)
      have hu := UInt8.toNat_lt c
      have hsb : seenB c = (decide (32 ≤ (c.toNat : Int)) && ((c.toNat : Int) != 127)) := by
        unfold seenB
        rw [decide_eq_decide.2 (show (31 < (c.toNat : Int)) ↔ (32 ≤ (c.toNat : Int)) by omega)]
      rw [hsb] at hst
      have HST := hid (fun (_ : True) => hst)
      have HLN := hid hln
      clear hcl hst hsb hln
      by_cases z1 : (32 : Int) ≤ (c.toNat : Int)
      · by_cases z2 : (c.toNat : Int) = 127
        · have q2 : ((c.toNat : Int) != 127) = false := by rw [z2]; rfl
          have HE := hid (fun (_ : True) => (by have := HST.out trivial; rwa [q2, Bool.and_false, if_neg (by simp), List.append_nil] at this : (v.data.toList.take (k + 1)).filter seenB = (v.data.toList.take k).filter seenB))
          clear z2 HST
          go_wp2_with fail
          go_roundw
          case rel => exact ⟨k + 1, rfl, by omega, by rw [HE.out trivial]; exact HX⟩
          case measure => simp [RowKit.intOf]; omega
        · have q2 : ((c.toNat : Int) != 127) = true := bne_iff_ne.2 z2
          have HE := hid (fun (_ : True) => (by have := HST.out trivial; rwa [q2, decide_eq_true z1, Bool.and_self, if_pos rfl] at this : (v.data.toList.take (k + 1)).filter seenB = (v.data.toList.take k).filter seenB ++ [c]))
          clear z2 HST
          go_wp2_with fail
          refine (Tryz.Builder_WriteByte_k w.heap.size w.heap.size (Lib.byteCells ((v.data.toList.take k).filter seenB)) (c.toNat : Int) _ HX.out.1 (by rw [Lib.byteCells_length]; have := HLN.out; omega) (by have := HX.out.2.2; omega)).mono ?_
          rintro e w2 ⟨rfl, g1, g2, g3⟩
          have HZ2 : Hid (Lib.IsBuilderF 67 5 w.heap.size w.heap.size (Lib.byteCells ((v.data.toList.take (k + 1)).filter seenB)) w2 ∧ Below w.heap.size w w2 ∧ w.heap.size < w2.heap.size) :=
            ⟨by rw [HE.out trivial, Lib.byteCells_append]; exact Or.inr g1, HX.out.2.1.trans g2, by have := g2.size; have := HX.out.2.2; omega⟩
          clear g1 g2 g3 HX HE HLN
          go_wp2_with fail
          go_roundw
          case rel => exact ⟨k + 1, rfl, by omega, HZ2⟩
          case measure => simp [RowKit.intOf]; omega
      · have HE := hid (fun (_ : True) => (by have := HST.out trivial; rwa [decide_eq_false z1, Bool.false_and, if_neg (by simp), List.append_nil] at this : (v.data.toList.take (k + 1)).filter seenB = (v.data.toList.take k).filter seenB))
        clear HST
        go_wp2_with fail
        go_roundw
        case rel => exact ⟨k + 1, rfl, by omega, by rw [HE.out trivial]; exact HX⟩
        case measure => simp [RowKit.intOf]; omega
    · have hall : (v.data.toList.take k).filter seenB = v.data.toList.filter seenB := by rw [List.take_of_length_le (by rw [← HZ.out]; omega)]
      have HX2 := HX.out
      rw [hall] at HX2
      obtain ⟨F, hF⟩ : ∃ F, v.data.toList.filter seenB = F := ⟨_, rfl⟩
      have hFl : F.length ≤ 1000000000 := by rw [← hF]; exact Nat.le_trans (List.length_filter_le _ _) (by rw [← HZ.out]; omega)
      have hst := strip_trim v.data.toList
      rw [hF] at HX2 hst
      have hrw : bs (stripL v.data.toList) = bs (Lib.trimB F 32) := by rw [hst]
      have HRW := hid (fun (_ : True) => hrw)
      have HY := hid HX2
      have htr := fun W => Tryz.strings_Trim_one (bs F) 32 (by decide) W (by rw [bs_size]; omega)
      rw [bs_data] at htr
      unfold bs at htr
      have HTR := hid htr
      clear HX HX2 hall hF hst hrw HZ htr H0
      go_wp2_with fail
      refine (Tryz.Builder_String_any_k w.heap.size w.heap.size F _ HY.out.1 (by have := HY.out.2.2; omega)).mono ?_
      rintro e w2 ⟨rfl, _, g2, _⟩
      go_wp2_with fail
      refine (HTR.out _).mono ?_
      rintro e w3 ⟨rfl, h3⟩
      have hb3 : Below w.heap.size w w3 := by
        have := HY.out.2.1.trans g2
        rcases h3 with h3 | h3 <;> rw [h3]
        · exact this
        · exact this.drew
      clear g2 h3
      go_wp2_with fail
      go_ret
      exact ⟨by rw [HRW.out trivial]; rfl, hb3⟩
/-- the scheme of a link in lower case, if it has one -/
def schemeP (L : List UInt8) : List UInt8 × Bool := if L[markN L]? = some 58 then ((L.take (markN L)).map lowC, true) else ([], false)
theorem link_eq (schemes : List (List UInt8)) (v : List UInt8) : linkL schemes v = if (stripL v)[markN (stripL v)]? = some 58 ∧ schemes.contains (((stripL v).take (markN (stripL v))).map lowC) = false then ([], false) else (stripL v, true) := rfl
theorem link_scheme (schemes : List (List UInt8)) (v : List UInt8) : linkL schemes v = if (schemeP (stripL v)).2 = true ∧ schemes.contains (schemeP (stripL v)).1 = false then ([], false) else (stripL v, true) := by
  rw [link_eq]
  unfold schemeP
  by_cases h : (stripL v)[markN (stripL v)]? = some 58
  · rw [if_pos h]
    simp only [h, true_and]
  · rw [if_neg h, if_neg (fun h2 => h h2.1), if_neg (fun h2 => by simp at h2)]

set_option maxHeartbeats 2000000 in
set_option maxRecDepth 100000 in
theorem schemeOf_any (s : ByteArray) (w : World) (hs : s.size ≤ 10000000) :
    Calls Tryz.prog 291 #[.string s] w fun e w' => e = .returned (.tuple #[.string (bs (schemeP s.data.toList).1), .bool (schemeP s.data.toList).2]) ∧ Below w.heap.size w w' := by
  have hz := size_eq s
  have hix := idxAny_any s w (by omega)
  have hml := markN_le s.data.toList
  rw [← hz] at hml
  unfold marksB at hix
  unfold markIx at hix
  rw [← hz] at hix
  unfold schemeP
  by_cases hlt : markN s.data.toList < s.size
  · rw [if_pos hlt] at hix
    obtain ⟨n, hn⟩ : ∃ n, markN s.data.toList = n := ⟨_, rfl⟩
    rw [hn] at hix hlt ⊢
    obtain ⟨c, hc⟩ : ∃ c, s[n]'hlt = c := ⟨_, rfl⟩
    have hcl := getElem_list hlt hc
    have q0 : ¬ (n : Int) < 0 := by omega
    rw [hcl]
    have HIX := hid hix
    by_cases h58 : c = 58
    · subst h58
      rw [if_pos rfl]
      have q2 : (((58 : UInt8).toNat : Int) != 58) = false := rfl
      have hlo := fun W => lower_any (s.extract 0 n) W (by rw [size_eq, extract_list]; simp; omega)
      rw [show (s.extract 0 n).data.toList = s.data.toList.take n from by rw [extract_list]; simp] at hlo
      obtain ⟨X, hX⟩ : ∃ X, bs ((s.data.toList.take n).map lowC) = X := ⟨_, rfl⟩
      simp only
      rw [hX]
      have HLO : Hid (∀ W, Calls Tryz.prog 293 #[.string (s.extract 0 n)] W fun e w' => e = .returned (.string X) ∧ Below W.heap.size W w') := by rw [← hX]; exact hlo
      clear hix hcl hlo hml hn hz hX
      go_enter Tryz.func291, Tryz.ntmps291
      go_wp2_with (first | (go_at_call 292; refine HIX.out.mono ?_; rintro e w1 ⟨rfl, b1⟩) | (go_at_call 293; refine (HLO.out _).mono ?_; rintro e w2 ⟨rfl, b2⟩))
      go_ret2
      exact ⟨rfl, b1.trans (b2.mono b1.size)⟩
    · rw [if_neg (by simpa using h58)]
      have hne : c.toNat ≠ 58 := fun e => h58 (UInt8.toNat_inj.1 (e.trans rfl))
      have q2 : ((c.toNat : Int) != 58) = true := bne_iff_ne.2 (by omega)
      clear hix hcl hml hn hz h58 hne
      go_enter Tryz.func291, Tryz.ntmps291
      go_wp2_with (go_at_call 292; refine HIX.out.mono ?_; rintro e w1 ⟨rfl, b1⟩)
      go_ret2
      exact ⟨rfl, b1⟩
  · rw [if_neg hlt] at hix
    rw [if_neg (fun h => hlt (by have := (List.getElem?_eq_some_iff.1 h).1; rw [hz]; exact this))]
    have HIX := hid hix
    clear hix hml hz
    go_enter Tryz.func291, Tryz.ntmps291
    go_wp2_with (go_at_call 292; refine HIX.out.mono ?_; rintro e w1 ⟨rfl, b1⟩)
    go_ret2
    exact ⟨rfl, b1⟩

set_option maxHeartbeats 2000000 in
set_option maxRecDepth 100000 in
theorem cleanURL_any (sv : Value) (schemes : List (List UInt8)) (v : ByteArray) (w : World) (h : Words w sv schemes) (hv : v.size ≤ 10000000) :
    Calls Tryz.prog 289 #[sv, .string v] w fun e w' => e = .returned (.tuple #[.string (bs (linkL schemes v.data.toList).1), .bool (linkL schemes v.data.toList).2]) ∧ Below w.heap.size w w' := by
  have hsl : (stripL v.data.toList).length ≤ v.size := by
    rw [← strip_trim, size_eq]
    unfold Lib.trimB Lib.trimLeftB Lib.trimRightB
    have h1 : ∀ (p : UInt8 → Bool) (l : List UInt8), (l.dropWhile p).length ≤ l.length := fun p l => (List.dropWhile_suffix p).length_le
    have h2 := h1 (fun c => c == 32) ((List.filter seenB v.data.toList).reverse.dropWhile fun c => c == 32).reverse
    have h3 := h1 (fun c => c == 32) (List.filter seenB v.data.toList).reverse
    have h4 := List.length_filter_le seenB v.data.toList
    rw [List.length_reverse] at h2
    rw [List.length_reverse] at h3
    omega
  have hst := strip_any v w (by omega)
  have hsc := fun W => schemeOf_any (bs (stripL v.data.toList)) W (by rw [bs_size]; omega)
  rw [bs_data] at hsc
  rw [link_scheme]
  generalize stripL v.data.toList = L at hsl hst hsc ⊢
  obtain ⟨S, hS⟩ : ∃ S, bs L = S := ⟨_, rfl⟩
  have hz : L.length ≤ 10000000 := by omega
  obtain ⟨q, hq⟩ : ∃ q, schemeP L = q := ⟨_, rfl⟩
  obtain ⟨sch, fnd⟩ := q
  rw [hq] at hsc ⊢
  rw [hS] at hst hsc
  simp only at hsc ⊢
  obtain ⟨X, hX⟩ : ∃ X, bs sch = X := ⟨_, rfl⟩
  rw [hX] at hsc
  have hct := fun W hW => slContains_any sv schemes X W hW
  rw [← hX, bs_toList, hX] at hct
  have HW := hid h
  obtain ⟨sp, sc, rfl, _⟩ := h.len
  have HST := hid hst
  have HSC := hid hsc
  clear hst hsc hsl hq h hX
  cases fnd
  · rw [if_neg (fun h => by simp at h), hS]
    clear hct hS
    go_enter Tryz.func289, Tryz.ntmps289
    go_wp2_with (first | (go_at_call 290; refine HST.out.mono ?_; rintro e w1 ⟨rfl, b1⟩) | (go_at_call 291; refine (HSC.out _).mono ?_; rintro e w2 ⟨rfl, b2⟩))
    go_ret2
    exact ⟨rfl, b1.trans (b2.mono b1.size)⟩
  · obtain ⟨B, hB⟩ : ∃ B, schemes.contains sch = B := ⟨_, rfl⟩
    rw [hB] at hct ⊢
    have HCT := hid hct
    clear hct hB
    cases B
    · rw [if_pos ⟨rfl, rfl⟩]
      clear hS
      go_enter Tryz.func289, Tryz.ntmps289
      go_wp2_with (first | (go_at_call 290; refine HST.out.mono ?_; rintro e w1 ⟨rfl, b1⟩) | (go_at_call 291; refine (HSC.out _).mono ?_; rintro e w2 ⟨rfl, b2⟩; have HB := hid (b1.trans (b2.mono b1.size)); clear b1 b2) | (go_at_call 162; refine (HCT.out _ (HW.out.below HB.out)).mono ?_; rintro e w3 ⟨rfl, rfl⟩))
      go_ret2
      exact ⟨rfl, HB.out⟩
    · rw [if_neg (fun h => by simp at h), hS]
      clear hS
      go_enter Tryz.func289, Tryz.ntmps289
      go_wp2_with (first | (go_at_call 290; refine HST.out.mono ?_; rintro e w1 ⟨rfl, b1⟩) | (go_at_call 291; refine (HSC.out _).mono ?_; rintro e w2 ⟨rfl, b2⟩; have HB := hid (b1.trans (b2.mono b1.size)); clear b1 b2) | (go_at_call 162; refine (HCT.out _ (HW.out.below HB.out)).mono ?_; rintro e w3 ⟨rfl, rfl⟩))
      go_ret2
      exact ⟨rfl, HB.out⟩
end Go.Proofs.YtcncbhbdpcpkeaaGreatDoor
