/-
  Parts of the walk, joined: PolLink, PolRef, LinkIx.
-/
import Derived.Test.YtkcgmimldjeaiaaGreatDoorJoinA
import Derived.Laws.RangeAny
import Derived.Laws.RangeString
import Derived.Lib.OthersKept
import Derived.Lib.QuoteLoop
import Derived.Lib.TrimU
import Derived.Shelf.Strings.IndexAny
import Derived.WalkMore
import Derived.Deep.QuietTactic
import Derived.BigQuiet
import Derived.BigCall
/-
  The reference's CleanURL: its walk.
-/
namespace Go.Proofs.YtkcgmimldjeaiaaGreatDoor
open Go.RowKit Go.Lib Own

def seenB (c : UInt8) : Bool := decide (31 < (c.toNat : Int)) && ((c.toNat : Int) != 127)
def rtrim (L : List UInt8) : List UInt8 := (L.reverse.dropWhile fun c => c == 32).reverse
theorem rtrim_sp (L : List UInt8) : rtrim (L ++ [32]) = rtrim L := by
  unfold rtrim
  rw [List.reverse_append]
  rfl
theorem rtrim_ne (L : List UInt8) (c : UInt8) (h : c ≠ 32) : rtrim (L ++ [c]) = L ++ [c] := by
  unfold rtrim
  rw [List.reverse_append]
  show (List.dropWhile (fun c => c == 32) (c :: L.reverse)).reverse = _
  rw [List.dropWhile_cons, if_neg (by simpa using h)]
  simp
/-- a link that is stripped -/
def stripL (v : List UInt8) : List UInt8 := rtrim ((v.filter seenB).drop ((v.filter seenB).takeWhile [32].contains).length)
def markT : List UInt8 := [58, 47, 63, 35]
/-- a stripped link, and whether it may stay -/
def linkL (schemes : List (List UInt8)) (v : List UInt8) : List UInt8 × Bool :=
  if (stripL v)[((stripL v).takeWhile fun c => !markT.contains c).length]? = some 58 ∧ schemes.contains (((stripL v).take ((stripL v).takeWhile fun c => !markT.contains c).length).map lowC) = false then ([], false) else (stripL v, true)

theorem filter_step {p : UInt8 → Bool} {l : List UInt8} {k : Nat} {x : UInt8} (h : l[k]? = some x) : (l.take (k + 1)).filter p = (l.take k).filter p ++ (if p x = true then [x] else []) := by
  rw [List.take_add_one, h, List.filter_append]
  congr 1
  show List.filter p [x] = _
  rw [List.filter_cons, List.filter_nil]
theorem extract_list (s : ByteArray) (i j : Nat) : (s.extract i j).data.toList = (s.data.toList.drop i).take (j - i) := by
  rw [ByteArray.data_extract, Array.toList_extract]
theorem while_len {p : UInt8 → Bool} (l : List UInt8) : (l.takeWhile p).length ≤ l.length := by
  induction l with
  | nil => simp
  | cons a l ih =>
    rw [List.takeWhile_cons]
    split
    · simp; omega
    · simp

set_option maxHeartbeats 4000000 in
set_option maxRecDepth 100000 in
theorem refClean_any (sv : Value) (schemes : List (List UInt8)) (v : ByteArray) (w : World) (h : Words w sv schemes) (hl : schemes.length ≤ 2000000) (hv : v.size ≤ 4000000) :
    Calls Tryz.prog 30 #[sv, .string v] w fun e w' => e = .returned (.tuple #[.string (bs (linkL schemes v.data.toList).1), .bool (linkL schemes v.data.toList).2]) ∧ Below w.heap.size w w' := by
  obtain ⟨i0, hi, hz0, hz1, hz2⟩ := info_parts info_u8
  obtain ⟨R, hR⟩ : ∃ R, linkL schemes v.data.toList = R := ⟨_, rfl⟩
  rw [hR]
  have HR := hid (fun (_ : True) => hR)
  have HW := hid h
  obtain ⟨sp, sc, rfl, _⟩ := h.len
  clear h hR
  go_enter Tryz.func30, Tryz.ntmps30
  go_wp2
  go_loopw [6, 7] (fun bv iv wr => ∃ k : Nat, iv = .int .i64 k ∧ k ≤ v.size ∧ Below w.heap.size w wr ∧ Hid (wr.ownsRow w.heap.size 5 1 bv ((v.data.toList.take k).filter seenB).length (byteCells ((v.data.toList.take k).filter seenB))) ∧ ((v.data.toList.take k).filter seenB).length ≤ k) (fun _ iv _ => v.size - (RowKit.intOf iv).toNat)
  case atStart => exact ⟨0, rfl, Nat.zero_le _, Below.refl _ _, World.ownsRow_nil _ _ _ _, by simp⟩
  case round =>
    obtain ⟨k, rfl, hk, hbw, HO, hlz⟩ := hrel
    by_cases hp : k < v.size
    · obtain ⟨x, hx⟩ : ∃ x, v[k]'hp = x := ⟨_, rfl⟩
      have hxl := getElem_list hp hx
      have hst := filter_step (p := seenB) hxl
      obtain ⟨acc, hacc⟩ : ∃ acc, (v.data.toList.take k).filter seenB = acc := ⟨_, rfl⟩
      rw [hacc] at HO hst hlz
      have hbs := hbw.size
      have hown := HO.out
      obtain ⟨bp, bc, rfl⟩ := row_shape hown
      have hx0 := x.toNat_lt
      have hsb : seenB x = (decide (31 < (x.toNat : Int)) && ((x.toNat : Int) != 127)) := rfl
      by_cases q1 : 31 < (x.toNat : Int)
      case' pos => obtain ⟨q2, hq2⟩ : ∃ q2, ((x.toNat : Int) != 127) = q2 := ⟨_, rfl⟩
      case' pos => cases q2
      case' neg => have hs2 : seenB x = false := by rw [hsb, decide_eq_false q1, Bool.false_and]
      case' pos.false => have hs2 : seenB x = false := by rw [hsb, hq2, Bool.and_false]
      case neg | pos.false =>
        rw [hs2, if_neg (by decide), List.append_nil] at hst
        have HST := hid (fun (_ : True) => hst)
        clear hxl hst hacc hown hsb hs2
        go_wp2
        go_roundw
        case rel =>
          have hl2 : ((v.data.toList.take (k + 1)).filter seenB).length ≤ k + 1 := by rw [HST.out trivial]; omega
          have HO2 : Hid (wr.ownsRow w.heap.size 5 1 (.slice bp acc.length bc) ((v.data.toList.take (k + 1)).filter seenB).length (byteCells ((v.data.toList.take (k + 1)).filter seenB))) := by rw [HST.out trivial]; exact HO.out
          exact ⟨k + 1, rfl, by omega, hbw, HO2, hl2⟩
        case measure => simp [RowKit.intOf]; omega
      case pos.true =>
        have hs2 : seenB x = true := by rw [hsb, hq2, decide_eq_true q1]; rfl
        rw [hs2, if_pos rfl] at hst
        have HST := hid (fun (_ : True) => hst)
        have hA1 := hid (cells_len [x])
        have hA2 := hid (cells_new [x])
        have hA3 := hid (byteCells_one [x])
        clear hxl hst hacc hsb hs2
        go_wp2_with (at_builtin; refine wpList_append_own _ rfl (.tmp 29) (.tmp 33) 85 rfl w.heap.size 5 i0 (.int .u8 0) 1 1 Tryz.underlying85 hi hz0 hz1 hz2 rfl (by decide) _ _ _ rfl (hown.alloc _) ⟨_, 0, none⟩ 1 1 (byteCells [x]) rfl hA1.out (by have := hA2.out wr; exact this) hA3.out (by unfold maxLen; omega) (by omega) (by simp; omega) ?_)
        intro v' w2 hown2 hgrow _
        have hlt := hown.lt
        have hbw2 := (hbw.alloc hbs _).grown hgrow (by simp; omega) (fun k hk => (hlt k hk).1)
        have hown3 := hid (own_cat (a := acc) (L := [x]) hown2)
        clear hown2 hgrow hbw hown hlt hbs HO
        go_wp2
        go_roundw
        case rel =>
          have hl2 : ((v.data.toList.take (k + 1)).filter seenB).length ≤ k + 1 := by rw [HST.out trivial, List.length_append, List.length_singleton]; omega
          have HO2 : Hid (w2.ownsRow w.heap.size 5 1 v' ((v.data.toList.take (k + 1)).filter seenB).length (byteCells ((v.data.toList.take (k + 1)).filter seenB))) := by rw [HST.out trivial]; exact hown3.out
          exact ⟨k + 1, rfl, by omega, hbw2, HO2, hl2⟩
        case measure => simp [RowKit.intOf]; omega
    · have hk1 : k = v.size := by omega
      subst hk1
      obtain ⟨F, hF⟩ : ∃ F, v.data.toList.filter seenB = F := ⟨_, rfl⟩
      have hall : v.data.toList.take v.size = v.data.toList := List.take_of_length_le (by rw [← size_eq]; omega)
      rw [hall, hF] at HO hlz
      have ht := own_text wr _ _ F HO.out
      obtain ⟨S, hS⟩ : ∃ S : ByteArray, (⟨F.toArray⟩ : ByteArray) = S := ⟨_, rfl⟩
      have hSF : S.data.toList = F := by rw [← hS]
      have hSz : S.size = F.length := by rw [size_eq, hSF]
      rw [hS] at ht
      have hpa := fun W => past_any S 0 (bs [32]) W (Nat.zero_le _) (by omega) (by rw [bs_size]; decide)
      rw [bs_data, List.drop_zero, Nat.zero_add, hSF] at hpa
      have hwl := while_len (p := [32].contains) F
      obtain ⟨fr, hfr⟩ : ∃ fr, (F.takeWhile [32].contains).length = fr := ⟨_, rfl⟩
      rw [hfr] at hpa hwl
      have hstr : stripL v.data.toList = rtrim (F.drop fr) := by unfold stripL; rw [hF, hfr]
      have HSTR := hid (fun (_ : True) => hstr)
      have HPA := hid hpa
      unfold bs at HPA
      have HSF := hid (And.intro hSF hSz)
      obtain ⟨bp, bc, rfl⟩ := row_shape HO.out
      have hrow := hid (row_shape HO.out)
      clear hall hpa hfr hstr hF hS hSF HO
      rw [← hSz] at hwl hlz
      go_wp2_with (go_at_call 51; refine (HPA.out _).mono ?_; rintro e w2 ⟨rfl, rfl⟩)
      go_loopw [10] (fun iv wr2 => ∃ m : Nat, iv = .int .i64 (fr + m : Nat) ∧ fr + m ≤ S.size ∧ wr2 = w2 ∧ Hid (True → rtrim ((F.drop fr).take m) = rtrim (F.drop fr))) (fun iv _ => (RowKit.intOf iv).toNat)
      case atStart => exact ⟨S.size - fr, by congr 1; omega, by omega, rfl, hid (fun _ => by rw [List.take_of_length_le (by rw [List.length_drop, ← HSF.out.2]; omega)])⟩
      case round =>
        obtain ⟨m, rfl, hm, rfl, HK⟩ := hrel
        by_cases hgo : ∃ j, m = j + 1 ∧ F[fr + j]? = some 32
        · obtain ⟨j, rfl, hf⟩ := hgo
          have hp2 : fr + j < S.size := by omega
          obtain ⟨x, hx⟩ : ∃ x, S[fr + j]'hp2 = x := ⟨_, rfl⟩
          have hxl := getElem_list hp2 hx
          rw [HSF.out.1, hf] at hxl
          obtain rfl : (32 : UInt8) = x := Option.some.inj hxl
          have hs := HK.out trivial
          rw [List.take_add_one, List.getElem?_drop, hf] at hs
          have HS := hid (fun (_ : True) => ((rtrim_sp _).symm.trans hs : rtrim ((F.drop fr).take j) = rtrim (F.drop fr)))
          clear hs hf hxl HK
          go_wp2
          go_roundw
          case rel => exact ⟨j, by congr 1; omega, by omega, by first | rfl | trivial, HS⟩
          case measure => simp [RowKit.intOf]; omega
        · cases m with
          | zero =>
            have hend : rtrim ((F.drop fr).take 0) = (F.drop fr).take 0 := rfl
            have hTl : (S.extract fr (fr + 0)).data.toList = stripL v.data.toList := by
              rw [HSTR.out trivial, extract_list, HSF.out.1, Nat.add_sub_cancel_left, ← HK.out trivial, hend]
            obtain ⟨T, hT⟩ : ∃ T, S.extract fr (fr + 0) = T := ⟨_, rfl⟩
            rw [hT] at hTl
            have hTz : T.size ≤ S.size := by rw [← hT, ByteArray.size_extract]; omega
            have hun := fun W => until_any T 0 (bs markT) W (Nat.zero_le _) (by omega) (by rw [bs_size]; decide)
            rw [bs_data, List.drop_zero, Nat.zero_add, hTl] at hun
            obtain ⟨at_, hat⟩ : ∃ at_, ((stripL v.data.toList).takeWhile fun c => !markT.contains c).length = at_ := ⟨_, rfl⟩
            rw [hat] at hun
            have HUN := hid hun
            unfold bs markT at HUN
            have HTL := hid (And.intro hTl hat)
            clear hun hat hTl HK
            rw [Nat.add_zero] at hT
            clear hgo hend
            have hTe : T = ByteArray.empty := by rw [← hT]; simp
            subst hTe
            have hst0 : stripL v.data.toList = [] := by rw [← HTL.out.1]; rfl
            have hat0 : at_ = 0 := by rw [← HTL.out.2, hst0]; rfl
            subst hat0
            have hlk : linkL schemes v.data.toList = ([], true) := by
              unfold linkL
              rw [hst0]
              rfl
            have HLK := hid (fun (_ : True) => (HR.out trivial).symm.trans hlk)
            have HB := hid hbw
            clear hst0 hlk hT hTz hbw
            have hgt : ¬ ((fr : Int) < (fr : Int)) := by omega
            go_wp2_with (go_at_call 52; refine (HUN.out _).mono ?_; rintro e w3 ⟨rfl, rfl⟩)
            go_ret2
            exact ⟨by rw [HLK.out trivial]; rfl, HB.out⟩
          | succ j =>
            have hp2 : fr + j < S.size := by omega
            obtain ⟨x, hx⟩ : ∃ x, S[fr + j]'hp2 = x := ⟨_, rfl⟩
            have hxl := getElem_list hp2 hx
            rw [HSF.out.1] at hxl
            have hx32 : x ≠ 32 := fun e => hgo ⟨j, rfl, by rw [hxl, e]⟩
            have q3 : ((x.toNat : Int) == 32) = false := by
              rw [beq_eq_false_iff_ne]
              intro e
              exact hx32 (UInt8.toNat_inj.1 (by rw [show (32 : UInt8).toNat = 32 from rfl]; omega))
            have hend : rtrim ((F.drop fr).take (j + 1)) = (F.drop fr).take (j + 1) := by
              rw [List.take_add_one, List.getElem?_drop, hxl]
              exact rtrim_ne _ x hx32
            have hTl : (S.extract fr (fr + (j + 1))).data.toList = stripL v.data.toList := by
              rw [HSTR.out trivial, extract_list, HSF.out.1, Nat.add_sub_cancel_left, ← HK.out trivial, hend]
            obtain ⟨T, hT⟩ : ∃ T, S.extract fr (fr + (j + 1)) = T := ⟨_, rfl⟩
            rw [hT] at hTl
            have hTz : T.size ≤ S.size := by rw [← hT, ByteArray.size_extract]; omega
            have hun := fun W => until_any T 0 (bs markT) W (Nat.zero_le _) (by omega) (by rw [bs_size]; decide)
            rw [bs_data, List.drop_zero, Nat.zero_add, hTl] at hun
            obtain ⟨at_, hat⟩ : ∃ at_, ((stripL v.data.toList).takeWhile fun c => !markT.contains c).length = at_ := ⟨_, rfl⟩
            rw [hat] at hun
            have HUN := hid hun
            unfold bs markT at HUN
            have HTL := hid (And.intro hTl hat)
            clear hun hat hTl HK
            clear hend hxl hx32
            have HB := hid hbw
            obtain ⟨L, hL⟩ : ∃ L, stripL v.data.toList = L := ⟨_, rfl⟩
            have hTL : T.data.toList = L := by rw [HTL.out.1, hL]
            have hat2 : (L.takeWhile fun c => !markT.contains c).length = at_ := by rw [← hL]; exact HTL.out.2
            have hTs : T.size = L.length := by rw [size_eq, hTL]
            have hTbs : T = bs L := by rw [← hTL]; rfl
            have hlk : linkL schemes v.data.toList = if L[at_]? = some 58 ∧ schemes.contains ((L.take at_).map lowC) = false then ([], false) else (L, true) := by
              unfold linkL
              rw [hL, hat2]
            rw [HR.out trivial] at hlk
            have HLK := hid (fun (_ : True) => hlk)
            have HTB := hid (fun (_ : True) => hTbs)
            have hale : at_ ≤ L.length := by rw [← hat2]; exact while_len L
            clear hL hat2 hlk hTbs hbw
            by_cases hal : at_ < T.size
            · obtain ⟨y, hy⟩ : ∃ y, T[at_]'hal = y := ⟨_, rfl⟩
              have hyl := getElem_list hal hy
              rw [hTL] at hyl
              by_cases hy58 : y = 58
              · subst hy58
                have hsl : (T.extract 0 at_).data.toList = L.take at_ := by rw [extract_list, hTL, List.drop_zero, Nat.sub_zero]
                have hlow := fun W => lowered_any (T.extract 0 at_) W (by rw [ByteArray.size_extract]; omega)
                rw [hsl] at hlow
                obtain ⟨X, hX⟩ : ∃ X, (L.take at_).map lowC = X := ⟨_, rfl⟩
                rw [hX] at hlow
                have hho := fun W hW => holds_any (.slice sp schemes.length sc) schemes (bs X) W hW (by omega)
                rw [bs_toList] at hho
                obtain ⟨C, hC⟩ : ∃ C, schemes.contains X = C := ⟨_, rfl⟩
                rw [hC] at hho
                have HEND := hid (fun (_ : True) => (by have := HLK.out trivial; rw [hyl, hX, hC] at this; simpa using this : R = if C = false then ([], false) else (L, true)))
                have HLO := hid hlow
                have HHO := hid hho
                obtain ⟨XB, hXB⟩ : ∃ XB : ByteArray, (⟨X.toArray⟩ : ByteArray) = XB := ⟨_, rfl⟩
                rw [hXB] at HLO
                unfold bs at HHO
                rw [hXB] at HHO
                clear hyl hsl hlow hho hX hC hXB HLK hTL hgo
                have q4 : (((58 : UInt8).toNat : Int) == 58) = true := rfl
                cases C
                · go_wp2_with (first | (go_at_call 52; refine (HUN.out _).mono ?_; rintro e w3 ⟨rfl, rfl⟩) | (go_at_call 53; refine (HLO.out _).mono ?_; rintro e w4 ⟨rfl, b4⟩) | (go_at_call 14; refine (HHO.out _ ((HW.out.below HB.out).below b4)).mono ?_; rintro e w5 ⟨rfl, rfl⟩))
                  go_ret2
                  exact ⟨by rw [HEND.out trivial]; rfl, HB.out.trans (b4.mono HB.out.size)⟩
                · go_wp2_with (first | (go_at_call 52; refine (HUN.out _).mono ?_; rintro e w3 ⟨rfl, rfl⟩) | (go_at_call 53; refine (HLO.out _).mono ?_; rintro e w4 ⟨rfl, b4⟩) | (go_at_call 14; refine (HHO.out _ ((HW.out.below HB.out).below b4)).mono ?_; rintro e w5 ⟨rfl, rfl⟩))
                  go_ret2
                  exact ⟨by rw [HEND.out trivial, HTB.out trivial]; rfl, HB.out.trans (b4.mono HB.out.size)⟩
              · have q4 : ((y.toNat : Int) == 58) = false := by
                  rw [beq_eq_false_iff_ne]
                  intro e
                  exact hy58 (UInt8.toNat_inj.1 (by rw [show (58 : UInt8).toNat = 58 from rfl]; omega))
                have HEND := hid (fun (_ : True) => (by have := HLK.out trivial; rw [hyl, if_neg (by simp [hy58])] at this; exact this : R = (L, true)))
                clear hyl hy58 HLK hTL hgo
                go_wp2_with (go_at_call 52; refine (HUN.out _).mono ?_; rintro e w3 ⟨rfl, rfl⟩)
                go_ret2
                exact ⟨by rw [HEND.out trivial, HTB.out trivial]; rfl, HB.out⟩
            · have HEND := hid (fun (_ : True) => (by have := HLK.out trivial; rw [List.getElem?_eq_none (by omega), if_neg (by simp)] at this; exact this : R = (L, true)))
              clear HLK hTL hgo
              go_wp2_with (go_at_call 52; refine (HUN.out _).mono ?_; rintro e w3 ⟨rfl, rfl⟩)
              go_ret2
              exact ⟨by rw [HEND.out trivial, HTB.out trivial]; rfl, HB.out⟩
end Go.Proofs.YtkcgmimldjeaiaaGreatDoor

/-
  The reference's Check: the walks of what it calls.
-/
namespace Go.Proofs.YtkcgmimldjeaiaaGreatDoor
open Go.RowKit Go.Lib Own

/-- the elements by their class: 1 phrasing, 2 flow, 3 item, 4 section, 5 row, 6 cell -/
def classT : List (List UInt8 × Nat) := [([97], 1), ([98], 1), ([99, 111, 100, 101], 1), ([101, 109], 1), ([105], 1), ([113], 1), ([115], 1), ([115, 109, 97, 108, 108], 1), ([115, 112, 97, 110], 1), ([115, 116, 114, 111, 110, 103], 1), ([115, 117, 98], 1), ([115, 117, 112], 1), ([117], 1), ([98, 114], 1), ([105, 109, 103], 1), ([116, 101, 120, 116, 97, 114, 101, 97], 1),
  ([104, 49], 2), ([104, 50], 2), ([104, 51], 2), ([104, 52], 2), ([104, 53], 2), ([104, 54], 2), ([112], 2), ([112, 114, 101], 2), ([98, 108, 111, 99, 107, 113, 117, 111, 116, 101], 2), ([100, 105, 118], 2), ([104, 114], 2), ([111, 108], 2), ([117, 108], 2), ([116, 97, 98, 108, 101], 2),
  ([108, 105], 3), ([116, 98, 111, 100, 121], 4), ([116, 102, 111, 111, 116], 4), ([116, 104, 101, 97, 100], 4), ([116, 114], 5), ([116, 100], 6), ([116, 104], 6)]
def findT : List (List UInt8 × Nat) → List UInt8 → Nat
  | [], _ => 0
  | e :: r, x => if (x == e.1) = true then e.2 else findT r x
def classL (x : List UInt8) : Nat := findT classT x
/-- the class's word -/
def classW : Nat → List UInt8
  | 1 => [112, 104, 114, 97, 115, 105, 110, 103]
  | 2 => [102, 108, 111, 119]
  | 3 => [105, 116, 101, 109]
  | 4 => [115, 101, 99, 116, 105, 111, 110]
  | 5 => [114, 111, 119]
  | 6 => [99, 101, 108, 108]
  | _ => []
theorem ret_str {a b : ByteArray} (h : a = b) : Ending.returned (.string a) = .returned (.string b) := by rw [h]

theorem bs_toList2 (x : ByteArray) : bs x.toList = x := by rw [Lib.toList_data]; rfl
theorem ne_beq {x : ByteArray} {L : List UInt8} (h : x.toList ≠ L) : (x.toList == L) = false := beq_eq_false_iff_ne.2 h
set_option maxHeartbeats 4000000 in
set_option maxRecDepth 100000 in
theorem classOf_k0 (L : List UInt8) (w : World) (hk : L ∈ (([[97], [98], [99, 111, 100, 101], [101, 109], [105], [113], [115], [115, 109, 97, 108, 108], [115, 112, 97, 110], [115, 116, 114, 111, 110, 103]] : List (List UInt8)))) :
    Calls Tryz.prog 85 #[.string (bs L)] w fun e w' => e = .returned (.string (bs (classW (classL L)))) ∧ w' = w := by
  simp only [List.mem_cons, List.not_mem_nil, or_false] at hk
  rcases hk with rfl | rfl | rfl | rfl | rfl | rfl | rfl | rfl | rfl | rfl
  all_goals unfold bs
  all_goals go_enter Tryz.func85, Tryz.ntmps85
  all_goals go_wp2
  all_goals go_ret
  all_goals exact ⟨rfl, rfl⟩
set_option maxHeartbeats 4000000 in
set_option maxRecDepth 100000 in
theorem classOf_k1 (L : List UInt8) (w : World) (hk : L ∈ (([[115, 117, 98], [115, 117, 112], [117], [98, 114], [105, 109, 103], [116, 101, 120, 116, 97, 114, 101, 97], [104, 49], [104, 50], [104, 51]] : List (List UInt8)))) :
    Calls Tryz.prog 85 #[.string (bs L)] w fun e w' => e = .returned (.string (bs (classW (classL L)))) ∧ w' = w := by
  simp only [List.mem_cons, List.not_mem_nil, or_false] at hk
  rcases hk with rfl | rfl | rfl | rfl | rfl | rfl | rfl | rfl | rfl
  all_goals unfold bs
  all_goals go_enter Tryz.func85, Tryz.ntmps85
  all_goals go_wp2
  all_goals go_ret
  all_goals exact ⟨rfl, rfl⟩
set_option maxHeartbeats 4000000 in
set_option maxRecDepth 100000 in
theorem classOf_k2 (L : List UInt8) (w : World) (hk : L ∈ (([[104, 52], [104, 53], [104, 54], [112], [112, 114, 101], [98, 108, 111, 99, 107, 113, 117, 111, 116, 101], [100, 105, 118], [104, 114], [111, 108]] : List (List UInt8)))) :
    Calls Tryz.prog 85 #[.string (bs L)] w fun e w' => e = .returned (.string (bs (classW (classL L)))) ∧ w' = w := by
  simp only [List.mem_cons, List.not_mem_nil, or_false] at hk
  rcases hk with rfl | rfl | rfl | rfl | rfl | rfl | rfl | rfl | rfl
  all_goals unfold bs
  all_goals go_enter Tryz.func85, Tryz.ntmps85
  all_goals go_wp2
  all_goals go_ret
  all_goals exact ⟨rfl, rfl⟩
set_option maxHeartbeats 4000000 in
set_option maxRecDepth 100000 in
theorem classOf_k3 (L : List UInt8) (w : World) (hk : L ∈ (([[117, 108], [116, 97, 98, 108, 101], [108, 105], [116, 98, 111, 100, 121], [116, 102, 111, 111, 116], [116, 104, 101, 97, 100], [116, 114], [116, 100], [116, 104]] : List (List UInt8)))) :
    Calls Tryz.prog 85 #[.string (bs L)] w fun e w' => e = .returned (.string (bs (classW (classL L)))) ∧ w' = w := by
  simp only [List.mem_cons, List.not_mem_nil, or_false] at hk
  rcases hk with rfl | rfl | rfl | rfl | rfl | rfl | rfl | rfl | rfl
  all_goals unfold bs
  all_goals go_enter Tryz.func85, Tryz.ntmps85
  all_goals go_wp2
  all_goals go_ret
  all_goals exact ⟨rfl, rfl⟩
set_option maxHeartbeats 4000000 in
set_option maxRecDepth 100000 in
theorem classOf_none (x : ByteArray) (w : World) (hk : x.toList ∉ classT.map Prod.fst) :
    Calls Tryz.prog 85 #[.string x] w fun e w' => e = .returned (.string ⟨#[]⟩) ∧ w' = w := by
  simp only [classT, List.map_cons, List.map_nil, List.mem_cons, List.not_mem_nil, or_false, not_or] at hk
  obtain ⟨h0, h1, h2, h3, h4, h5, h6, h7, h8, h9, h10, h11, h12, h13, h14, h15, h16, h17, h18, h19, h20, h21, h22, h23, h24, h25, h26, h27, h28, h29, h30, h31, h32, h33, h34, h35, h36⟩ := hk
  replace h0 := ne_beq h0
  replace h1 := ne_beq h1
  replace h2 := ne_beq h2
  replace h3 := ne_beq h3
  replace h4 := ne_beq h4
  replace h5 := ne_beq h5
  replace h6 := ne_beq h6
  replace h7 := ne_beq h7
  replace h8 := ne_beq h8
  replace h9 := ne_beq h9
  replace h10 := ne_beq h10
  replace h11 := ne_beq h11
  replace h12 := ne_beq h12
  replace h13 := ne_beq h13
  replace h14 := ne_beq h14
  replace h15 := ne_beq h15
  replace h16 := ne_beq h16
  replace h17 := ne_beq h17
  replace h18 := ne_beq h18
  replace h19 := ne_beq h19
  replace h20 := ne_beq h20
  replace h21 := ne_beq h21
  replace h22 := ne_beq h22
  replace h23 := ne_beq h23
  replace h24 := ne_beq h24
  replace h25 := ne_beq h25
  replace h26 := ne_beq h26
  replace h27 := ne_beq h27
  replace h28 := ne_beq h28
  replace h29 := ne_beq h29
  replace h30 := ne_beq h30
  replace h31 := ne_beq h31
  replace h32 := ne_beq h32
  replace h33 := ne_beq h33
  replace h34 := ne_beq h34
  replace h35 := ne_beq h35
  replace h36 := ne_beq h36
  go_enter Tryz.func85, Tryz.ntmps85
  go_wp2
  go_ret
  exact ⟨rfl, rfl⟩
theorem find_none : ∀ (T : List (List UInt8 × Nat)) (x : List UInt8), x ∉ T.map Prod.fst → findT T x = 0
  | [], _, _ => rfl
  | e :: r, x, h => by
    simp only [List.map_cons, List.mem_cons, not_or] at h
    unfold findT
    rw [if_neg (by rw [beq_iff_eq]; exact h.1)]
    exact find_none r x h.2
theorem classOf_any (x : ByteArray) (w : World) :
    Calls Tryz.prog 85 #[.string x] w fun e w' => e = .returned (.string (bs (classW (classL x.toList)))) ∧ w' = w := by
  by_cases hk : x.toList ∈ classT.map Prod.fst
  · have hx := bs_toList2 x
    generalize x.toList = L at hk hx
    subst hx
    have h4 : L ∈ ((classT.map Prod.fst).take 10) ∨ L ∈ (((classT.map Prod.fst).drop 10).take 9) ∨ L ∈ (((classT.map Prod.fst).drop 19).take 9) ∨ L ∈ ((classT.map Prod.fst).drop 28) := by
      simp only [classT, List.map_cons, List.map_nil, List.mem_cons, List.not_mem_nil, or_false] at hk
      rcases hk with rfl | rfl | rfl | rfl | rfl | rfl | rfl | rfl | rfl | rfl | rfl | rfl | rfl | rfl | rfl | rfl | rfl | rfl | rfl | rfl | rfl | rfl | rfl | rfl | rfl | rfl | rfl | rfl | rfl | rfl | rfl | rfl | rfl | rfl | rfl | rfl | rfl
      all_goals decide
    rcases h4 with h | h | h | h
    · exact classOf_k0 L w h
    · exact classOf_k1 L w h
    · exact classOf_k2 L w h
    · exact classOf_k3 L w h
  · have := classOf_none x w hk
    rw [show classL x.toList = 0 from find_none _ _ hk]
    exact this
end Go.Proofs.YtkcgmimldjeaiaaGreatDoor

/-
  strings.IndexRune and IndexAny, of the four marks of a link: their walks at every text.
-/
namespace Go.Proofs.YtkcgmimldjeaiaaGreatDoor
open Go.RowKit Go.Lib Own

theorem decode_cont (s : ByteArray) (pos : Nat) (h : pos < s.size) (ha : 128 ≤ (s[pos]'h).toNat) : ∀ k, k < (Utf8.decode s pos).2 → ∃ hk : pos + k < s.size, 128 ≤ (s[pos + k]'hk).toNat := by
  have hg : ∀ j (hj : j < s.size), s.get! j = s[j]'hj := fun j hj => by
    show s.data[j]! = s.data[j]
    simp [getElem!_pos, hj]
  have zero : ∃ hk : pos + 0 < s.size, 128 ≤ (s[pos + 0]'hk).toNat := ⟨h, ha⟩
  have cont : ∀ k, (decide (pos + k < s.size) && ((s.get! (pos + k)).toNat / 64 == 2)) = true → ∃ hk : pos + k < s.size, 128 ≤ (s[pos + k]'hk).toNat := fun k hc => by
    rw [Bool.and_eq_true, decide_eq_true_eq, beq_iff_eq] at hc
    refine ⟨hc.1, ?_⟩
    rw [← hg _ hc.1]
    omega
  intro k hk
  have one : (k < 1) → ∃ hk : pos + k < s.size, 128 ≤ (s[pos + k]'hk).toNat := fun h1 => by
    obtain rfl : k = 0 := by omega
    exact zero
  unfold Utf8.decode at hk
  simp only [Nat.add_zero] at hk
  split at hk
  · exact one hk
  · split at hk
    · rename_i _ h2
      simp only [Bool.and_eq_true] at h2
      split at hk
      · simp only at hk
        match k, hk with
        | 0, _ => exact zero
        | 1, _ => exact cont 1 (by simpa using h2.2)
        | k + 2, hk => omega
      · exact one hk
    · split at hk
      · rename_i _ _ h3
        simp only [Bool.and_eq_true] at h3
        split at hk
        · simp only at hk
          match k, hk with
          | 0, _ => exact zero
          | 1, _ => exact cont 1 (by simpa using h3.1.2)
          | 2, _ => exact cont 2 (by simpa using h3.2)
          | k + 3, hk => omega
        · exact one hk
      · split at hk
        · rename_i _ _ _ h4
          simp only [Bool.and_eq_true] at h4
          split at hk
          · simp only at hk
            match k, hk with
            | 0, _ => exact zero
            | 1, _ => exact cont 1 (by simpa using h4.1.1.2)
            | 2, _ => exact cont 2 (by simpa using h4.1.2)
            | 3, _ => exact cont 3 (by simpa using h4.2)
            | k + 4, hk => omega
          · exact one hk
        · exact one hk

/-- a rune as it is encoded: two bytes to four, the last of 128 on -/
theorem enc_high (r : Int) (h : 128 ≤ r) (h1 : r ≤ 1114111) (h2 : ¬ (55296 ≤ r ∧ r ≤ 57343)) : ∃ l, (l = 1 ∨ l = 2 ∨ l = 3) ∧ (Utf8.encode r).size = l + 1 ∧ ∃ (hl : l < (Utf8.encode r).size), 128 ≤ ((Utf8.encode r)[l]'hl).toNat := by
  have hv : Utf8.valid r = true := by
    unfold Utf8.valid
    simp
    omega
  have h8 : ∀ n : Nat, (UInt8.ofNat (128 + n % 64)).toNat = 128 + n % 64 := fun n => by
    rw [UInt8.toNat_ofNat']
    omega
  obtain ⟨n, rfl⟩ : ∃ n : Nat, r = n := ⟨r.toNat, by omega⟩
  unfold Utf8.encode
  rw [hv]
  simp only [if_true, Int.toNat_natCast]
  split
  · omega
  · split
    · exact ⟨1, .inl rfl, rfl, Nat.lt_succ_self _, by show 128 ≤ (UInt8.ofNat (128 + n % 64)).toNat; rw [h8]; omega⟩
    · split
      · exact ⟨2, .inr (.inl rfl), rfl, Nat.lt_succ_self _, by show 128 ≤ (UInt8.ofNat (128 + n % 64)).toNat; rw [h8]; omega⟩
      · exact ⟨3, .inr (.inr rfl), rfl, Nat.lt_succ_self _, by show 128 ≤ (UInt8.ofNat (128 + n % 64)).toNat; rw [h8]; omega⟩
def marksB : ByteArray := ⟨#[58, 47, 63, 35]⟩
set_option maxHeartbeats 2000000 in
set_option maxRecDepth 100000 in
theorem idxRune_high (r : Int) (w : World) (h0 : 128 ≤ r) (h1 : r ≤ 1114111) (h2 : ¬ (55296 ≤ r ∧ r ≤ 57343)) (h3 : r ≠ 65533) :
    Calls Tryz.prog 130 #[.string marksB, .int .i32 r] w fun e w' => e = .returned (.int .i64 (-1)) ∧ Below w.heap.size w w' := by
  have q1 : ¬ r < 128 := by omega
  have q2 : (0 : Int) ≤ r := by omega
  have q3 : (r == 65533) = false := beq_eq_false_iff_ne.2 h3
  have hvr : ∀ W, Calls Tryz.prog 140 #[.int .i32 r] W fun e w' => e = .returned (.bool true) ∧ w' = W := by
    intro W
    by_cases h4 : r < 55296
    · clear h2 h3 q3
      go_enter Tryz.func140, Tryz.ntmps140
      go_wp2_with fail
      go_ret
      exact ⟨rfl, rfl⟩
    · have h5 : 57343 < r := by omega
      clear h2 h3 q3
      go_enter Tryz.func140, Tryz.ntmps140
      go_wp2_with fail
      go_ret
      exact ⟨rfl, rfl⟩
  have HVR := hid hvr
  obtain ⟨l, hl, hsz, hlt, hb⟩ := enc_high r h0 h1 h2
  obtain ⟨E, hE⟩ : ∃ E, Utf8.encode r = E := ⟨_, rfl⟩
  have hbE : ∃ (hl : l < E.size), 128 ≤ (E[l]'hl).toNat := by subst hE; exact ⟨hlt, hb⟩
  have hszE : E.size = l + 1 := by rw [← hE]; exact hsz
  clear hvr h2 h3 hsz hb hlt
  obtain ⟨hlt, hb⟩ := hbE
  obtain ⟨c, hc⟩ : ∃ c, E[l]'hlt = c := ⟨_, rfl⟩
  rw [hc] at hb
  have hcu := UInt8.toNat_lt c
  have d1 : ((((⟨#[58, 47, 63, 35]⟩ : ByteArray)[1]'(by decide)).toNat : Int) != (c.toNat : Int)) = true := bne_iff_ne.2 (by show (47 : Int) ≠ _; omega)
  have d2 : ((((⟨#[58, 47, 63, 35]⟩ : ByteArray)[2]'(by decide)).toNat : Int) != (c.toNat : Int)) = true := bne_iff_ne.2 (by show (63 : Int) ≠ _; omega)
  have d3 : ((((⟨#[58, 47, 63, 35]⟩ : ByteArray)[3]'(by decide)).toNat : Int) != (c.toNat : Int)) = true := bne_iff_ne.2 (by show (35 : Int) ≠ _; omega)
  have hib : ∀ s W, 128 ≤ c.toNat → s.data.toList.contains c = false → Calls Tryz.prog 89 #[.string s, .int .u8 (c.toNat : Int)] W fun e w' => e = .returned (.int .i64 (-1)) ∧ w' = W := by
    intro s W _ h
    have h1 := Tryz.strings_IndexByte s (c.toNat : Int) W
    have hback : ((c.toNat : Int)).toNat.toUInt8 = c := by simp
    rw [hback] at h1
    have h2 := Lib.contains_iff_indexByte s.data.toList c
    rw [h] at h2
    have h3 := Lib.indexByte_ge s.data.toList c
    have h4 : Lib.indexByte s.data.toList c = -1 := by have := of_decide_eq_false h2.symm; omega
    rw [h4] at h1
    exact h1
  have hno : ∀ L : List UInt8, (∀ x ∈ L, x.toNat < 128) → L.contains c = false := fun L h => by
    rw [Bool.eq_false_iff]
    intro h2
    have := h c (List.contains_iff_mem.1 h2)
    omega
  have HIB := hid hib
  have HNO := hid hno
  have y2 : IntKind.i64.wrap 2 = 2 := by decide
  have y3 : IntKind.i64.wrap 3 = 3 := by decide
  have y4 : IntKind.i64.wrap 4 = 4 := by decide
  clear hib hno
  unfold marksB
  rcases hl with rfl | rfl | rfl
  · go_enter Tryz.func130, Tryz.ntmps130
    go_wp2_with fail
    refine (HVR.out _).mono ?_
    rintro e w1 ⟨rfl, rfl⟩
    go_wp2_with fail
    go_step3
    go_wp2_with fail
    go_loopw [4, 9, 10, 11, 12] (fun _ a _ _ _ wr => a = .int .i64 1 ∧ wr = w1) (fun _ _ _ _ _ _ => 0)
    case atStart => exact ⟨rfl, rfl⟩
    case round =>
      obtain ⟨rfl, rfl⟩ := hrel
      go_wp2_with fail
      go_step3
      go_wp2_with fail
      go_quiet (fail)
      go_wp2_with fail
      obtain ⟨w5, hw5⟩ : ∃ W, wr.drewN nq = W := ⟨_, rfl⟩
      have hb5 : Below wr.heap.size wr w5 := by rw [← hw5]; exact below_drewN (Below.refl _ _) nq
      simp only [hw5]
      clear hw5
      go_quiet (first | (go_at_call 89; refine Calls.quiet_of_same (HIB.out _ _ hb (HNO.out _ ?_)); decide +kernel))
      go_wp2_with fail
      simp (config := { zetaDelta := true }) only [Exit.noGoto_ret, Exit.inBlock, Exit.then]
      go_ret
      exact ⟨rfl, below_drewN hb5 _⟩
  · go_enter Tryz.func130, Tryz.ntmps130
    go_wp2_with fail
    refine (HVR.out _).mono ?_
    rintro e w1 ⟨rfl, rfl⟩
    go_wp2_with fail
    go_step3
    go_wp2_with fail
    go_loopw [4, 9, 10, 11, 12] (fun _ a _ _ _ wr => a = .int .i64 2 ∧ wr = w1) (fun _ _ _ _ _ _ => 0)
    case atStart => exact ⟨rfl, rfl⟩
    case round =>
      obtain ⟨rfl, rfl⟩ := hrel
      go_wp2_with fail
      go_step3
      go_wp2_with fail
      go_quiet (fail)
      go_wp2_with fail
      obtain ⟨w5, hw5⟩ : ∃ W, wr.drewN nq = W := ⟨_, rfl⟩
      have hb5 : Below wr.heap.size wr w5 := by rw [← hw5]; exact below_drewN (Below.refl _ _) nq
      simp only [hw5]
      clear hw5
      go_quiet (first | (go_at_call 89; refine Calls.quiet_of_same (HIB.out _ _ hb (HNO.out _ ?_)); decide +kernel))
      go_wp2_with fail
      simp (config := { zetaDelta := true }) only [Exit.noGoto_ret, Exit.inBlock, Exit.then]
      go_ret
      exact ⟨rfl, below_drewN hb5 _⟩
  · go_enter Tryz.func130, Tryz.ntmps130
    go_wp2_with fail
    refine (HVR.out _).mono ?_
    rintro e w1 ⟨rfl, rfl⟩
    go_wp2_with fail
    go_step3
    go_wp2_with fail
    go_loopw [4, 9, 10, 11, 12] (fun _ a _ _ _ wr => a = .int .i64 3 ∧ wr = w1) (fun _ _ _ _ _ _ => 0)
    case atStart => exact ⟨rfl, rfl⟩
    case round =>
      obtain ⟨rfl, rfl⟩ := hrel
      go_wp2_with fail
      go_step3
      go_wp2_with fail
      go_quiet (fail)
      go_wp2_with fail
      obtain ⟨w5, hw5⟩ : ∃ W, wr.drewN nq = W := ⟨_, rfl⟩
      have hb5 : Below wr.heap.size wr w5 := by rw [← hw5]; exact below_drewN (Below.refl _ _) nq
      simp only [hw5]
      clear hw5
      go_quiet (first | (go_at_call 89; refine Calls.quiet_of_same (HIB.out _ _ hb (HNO.out _ ?_)); decide +kernel))
      go_wp2_with fail
      simp (config := { zetaDelta := true }) only [Exit.noGoto_ret, Exit.inBlock, Exit.then]
      go_ret
      exact ⟨rfl, below_drewN hb5 _⟩
set_option maxHeartbeats 2000000 in
set_option maxRecDepth 100000 in
theorem idxRune_bad (w : World) :
    Calls Tryz.prog 130 #[.string marksB, .int .i32 65533] w fun e w' => e = .returned (.int .i64 (-1)) ∧ Below w.heap.size w w' := by
  unfold marksB
  have y2 : IntKind.i64.wrap 2 = 2 := by decide
  go_enter Tryz.func130, Tryz.ntmps130
  go_wp2_with fail
  go_loopg [4, 5, 6] 4 (fun g _ _ _ wx => ∃ i : Nat, i + g = 4 ∧ wx = w.iter ⟨#[58, 47, 63, 35]⟩ i)
  case atStart => exact ⟨0, rfl, rfl⟩
  case round =>
    obtain ⟨i, hig, rfl⟩ := hrel
    cases gk with
    | zero =>
      obtain rfl : i = 4 := by omega
      have hnx := run_next_end (P := Tryz.prog) w ⟨#[58, 47, 63, 35]⟩ 4
      go_wp2
      go_ret
      exact ⟨rfl, (Below.refl _ w).alloc (Nat.le_refl _) _⟩
    | succ g =>
      have hi : i < (⟨#[58, 47, 63, 35]⟩ : ByteArray).size := by show i < 4; omega
      have h128 : ((⟨#[58, 47, 63, 35]⟩ : ByteArray)[i]'hi).toNat < 128 := by
        match i, hi with
        | 0, _ => show (58 : Nat) < 128; decide
        | 1, _ => show (47 : Nat) < 128; decide
        | 2, _ => show (63 : Nat) < 128; decide
        | 3, _ => show (35 : Nat) < 128; decide
        | k + 4, h => exact absurd h (by show ¬ k + 4 < 4; omega)
      have hnx := fun ty => run_next_ascii (P := Tryz.prog) w ⟨#[58, 47, 63, 35]⟩ i ty hi h128
      obtain ⟨x, hx⟩ : ∃ x : Nat, ((⟨#[58, 47, 63, 35]⟩ : ByteArray)[i]'hi).toNat = x := ⟨_, rfl⟩
      rw [hx] at hnx h128
      have q : ((x : Int) == 65533) = false := beq_eq_false_iff_ne.2 (by omega)
      clear hx
      go_wp2
      go_roundg g
      case measure => omega
      case rel => exact ⟨i + 1, by omega, rfl⟩
end Go.Proofs.YtkcgmimldjeaiaaGreatDoor
