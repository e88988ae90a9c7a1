/-
  Parts of the walk, joined: PolLink.
-/
import Derived.Test.YtcncbhbdpcpkeaaGreatDoorPJAH
/-
  The reference's CleanURL: its walk.
-/
namespace Go.Proofs.YtcncbhbdpcpkeaaGreatDoor
open Go.RowKit Go.Lib Own

def seenB (c : UInt8) : Bool := decide (31 < (c.toNat : Int)) && ((c.toNat : Int) != 127)
def rtrim (L : List UInt8) : List UInt8 := (L.reverse.dropWhile fun c => c == 32).reverse
theorem rtrim_sp (L : List UInt8) : rtrim (L ++ [32]) = rtrim L := by
  unfold rtrim
  rw [List.reverse_append]
  rfl
theorem rtrim_ne (L : List UInt8) (c : UInt8) (h : c ≠ 32) : rtrim (L ++ [c]) = L ++ [c] := by
  unfold rtrim
  rw [List.reverse_append]
  show (List.dropWhile (fun c => c == 32) (c :: L.reverse)).reverse = _
  rw [List.dropWhile_cons, if_neg (by simpa using h)]
  simp
/-- a link that is stripped -/
def stripL (v : List UInt8) : List UInt8 := rtrim ((v.filter seenB).drop ((v.filter seenB).takeWhile [32].contains).length)
def markT : List UInt8 := [58, 47, 63, 35]
/-- a stripped link, and whether it may stay -/
def linkL (schemes : List (List UInt8)) (v : List UInt8) : List UInt8 × Bool :=
  if (stripL v)[((stripL v).takeWhile fun c => !markT.contains c).length]? = some 58 ∧ schemes.contains (((stripL v).take ((stripL v).takeWhile fun c => !markT.contains c).length).map lowC) = false then ([], false) else (stripL v, true)

theorem filter_step {p : UInt8 → Bool} {l : List UInt8} {k : Nat} {x : UInt8} (h : l[k]? = some x) : (l.take (k + 1)).filter p = (l.take k).filter p ++ (if p x = true then [x] else []) := by
  rw [List.take_add_one, h, List.filter_append]
  congr 1
  show List.filter p [x] = _
  rw [List.filter_cons, List.filter_nil]
theorem extract_list (s : ByteArray) (i j : Nat) : (s.extract i j).data.toList = (s.data.toList.drop i).take (j - i) := by
  rw [ByteArray.data_extract, Array.toList_extract]
theorem while_len {p : UInt8 → Bool} (l : List UInt8) : (l.takeWhile p).length ≤ l.length := by
  induction l with
  | nil => simp
  | cons a l ih =>
    rw [List.takeWhile_cons]
    split
    · simp; omega
    · simp

set_option maxHeartbeats 4000000 in
set_option maxRecDepth 100000 in
theorem refClean_any (sv : Value) (schemes : List (List UInt8)) (v : ByteArray) (w : World) (h : Words w sv schemes) (hl : schemes.length ≤ 2000000) (hv : v.size ≤ 4000000) :
    Calls Tryz.prog 159 #[sv, .string v] w fun e w' => e = .returned (.tuple #[.string (bs (linkL schemes v.data.toList).1), .bool (linkL schemes v.data.toList).2]) ∧ Below w.heap.size w w' := by
  obtain ⟨i0, hi, hz0, hz1, hz2⟩ := info_parts info_u8
  obtain ⟨R, hR⟩ : ∃ R, linkL schemes v.data.toList = R := ⟨_, rfl⟩
  rw [hR]
  have HR := hid (fun (_ : True) => hR)
  have HW := hid h
  obtain ⟨sp, sc, rfl, _⟩ := h.len
  clear h hR
  go_enter Tryz.func159, Tryz.ntmps159
  go_wp2
  go_loopw [6, 7] (fun bv iv wr => ∃ k : Nat, iv = .int .i64 k ∧ k ≤ v.size ∧ Below w.heap.size w wr ∧ Hid (wr.ownsRow w.heap.size 5 1 bv ((v.data.toList.take k).filter seenB).length (byteCells ((v.data.toList.take k).filter seenB))) ∧ ((v.data.toList.take k).filter seenB).length ≤ k) (fun _ iv _ => v.size - (RowKit.intOf iv).toNat)
  case atStart => exact ⟨0, rfl, Nat.zero_le _, Below.refl _ _, World.ownsRow_nil _ _ _ _, by simp⟩
  case round =>
    obtain ⟨k, rfl, hk, hbw, HO, hlz⟩ := hrel
    by_cases hp : k < v.size
    · obtain ⟨x, hx⟩ : ∃ x, v[k]'hp = x := ⟨_, rfl⟩
      have hxl := getElem_list hp hx
      have hst := filter_step (p := seenB) hxl
      obtain ⟨acc, hacc⟩ : ∃ acc, (v.data.toList.take k).filter seenB = acc := ⟨_, rfl⟩
      rw [hacc] at HO hst hlz
      have hbs := hbw.size
      have hown := HO.out
      obtain ⟨bp, bc, rfl⟩ := row_shape hown
      have hx0 := x.toNat_lt
      have hsb : seenB x = (decide (31 < (x.toNat : Int)) && ((x.toNat : Int) != 127)) := rfl
      by_cases q1 : 31 < (x.toNat : Int)
      case' pos => obtain ⟨q2, hq2⟩ : ∃ q2, ((x.toNat : Int) != 127) = q2 := ⟨_, rfl⟩
      case' pos => cases q2
      case' neg => have hs2 : seenB x = false := by rw [hsb, decide_eq_false q1, Bool.false_and]
      case' pos.false => have hs2 : seenB x = false := by rw [hsb, hq2, Bool.and_false]
      case neg | pos.false =>
        rw [hs2, if_neg (by decide), List.append_nil] at hst
        have HST := hid (fun (_ : True) => hst)
        clear hxl hst hacc hown hsb hs2
        go_wp2
        go_roundw
        case rel =>
          have hl2 : ((v.data.toList.take (k + 1)).filter seenB).length ≤ k + 1 := by rw [HST.out trivial]; omega
          have HO2 : Hid (wr.ownsRow w.heap.size 5 1 (.slice bp acc.length bc) ((v.data.toList.take (k + 1)).filter seenB).length (byteCells ((v.data.toList.take (k + 1)).filter seenB))) := by rw [HST.out trivial]; exact HO.out
          exact ⟨k + 1, rfl, by omega, hbw, HO2, hl2⟩
        case measure => simp [RowKit.intOf]; omega
      case pos.true =>
        have hs2 : seenB x = true := by rw [hsb, hq2, decide_eq_true q1]; rfl
        rw [hs2, if_pos rfl] at hst
        have HST := hid (fun (_ : True) => hst)
        have hA1 := hid (cells_len [x])
        have hA2 := hid (cells_new [x])
        have hA3 := hid (byteCells_one [x])
        clear hxl hst hacc hsb hs2
        go_wp2_with (at_builtin; refine wpList_append_own _ rfl (.tmp 29) (.tmp 33) 65 rfl w.heap.size 5 i0 (.int .u8 0) 1 1 Tryz.underlying65 hi hz0 hz1 hz2 rfl (by decide) _ _ _ rfl (hown.alloc _) ⟨_, 0, none⟩ 1 1 (byteCells [x]) rfl hA1.out (by have := hA2.out wr; exact this) hA3.out (by unfold maxLen; omega) (by omega) (by simp; omega) ?_)
        intro v' w2 hown2 hgrow _
        have hlt := hown.lt
        have hbw2 := (hbw.alloc hbs _).grown hgrow (by simp; omega) (fun k hk => (hlt k hk).1)
        have hown3 := hid (own_cat (a := acc) (L := [x]) hown2)
        clear hown2 hgrow hbw hown hlt hbs HO
        go_wp2
        go_roundw
        case rel =>
          have hl2 : ((v.data.toList.take (k + 1)).filter seenB).length ≤ k + 1 := by rw [HST.out trivial, List.length_append, List.length_singleton]; omega
          have HO2 : Hid (w2.ownsRow w.heap.size 5 1 v' ((v.data.toList.take (k + 1)).filter seenB).length (byteCells ((v.data.toList.take (k + 1)).filter seenB))) := by rw [HST.out trivial]; exact hown3.out
          exact ⟨k + 1, rfl, by omega, hbw2, HO2, hl2⟩
        case measure => simp [RowKit.intOf]; omega
    · have hk1 : k = v.size := by omega
      subst hk1
      obtain ⟨F, hF⟩ : ∃ F, v.data.toList.filter seenB = F := ⟨_, rfl⟩
      have hall : v.data.toList.take v.size = v.data.toList := List.take_of_length_le (by rw [← size_eq]; omega)
      rw [hall, hF] at HO hlz
      have ht := own_text wr _ _ F HO.out
      obtain ⟨S, hS⟩ : ∃ S : ByteArray, (⟨F.toArray⟩ : ByteArray) = S := ⟨_, rfl⟩
      have hSF : S.data.toList = F := by rw [← hS]
      have hSz : S.size = F.length := by rw [size_eq, hSF]
      rw [hS] at ht
      have hpa := fun W => past_any S 0 (bs [32]) W (Nat.zero_le _) (by omega) (by rw [bs_size]; decide)
      rw [bs_data, List.drop_zero, Nat.zero_add, hSF] at hpa
      have hwl := while_len (p := [32].contains) F
      obtain ⟨fr, hfr⟩ : ∃ fr, (F.takeWhile [32].contains).length = fr := ⟨_, rfl⟩
      rw [hfr] at hpa hwl
      have hstr : stripL v.data.toList = rtrim (F.drop fr) := by unfold stripL; rw [hF, hfr]
      have HSTR := hid (fun (_ : True) => hstr)
      have HPA := hid hpa
      unfold bs at HPA
      have HSF := hid (And.intro hSF hSz)
      obtain ⟨bp, bc, rfl⟩ := row_shape HO.out
      have hrow := hid (row_shape HO.out)
      clear hall hpa hfr hstr hF hS hSF HO
      rw [← hSz] at hwl hlz
      go_wp2_with (go_at_call 175; refine (HPA.out _).mono ?_; rintro e w2 ⟨rfl, rfl⟩)
      go_loopw [10] (fun iv wr2 => ∃ m : Nat, iv = .int .i64 (fr + m : Nat) ∧ fr + m ≤ S.size ∧ wr2 = w2 ∧ Hid (True → rtrim ((F.drop fr).take m) = rtrim (F.drop fr))) (fun iv _ => (RowKit.intOf iv).toNat)
      case atStart => exact ⟨S.size - fr, by congr 1; omega, by omega, rfl, hid (fun _ => by rw [List.take_of_length_le (by rw [List.length_drop, ← HSF.out.2]; omega)])⟩
      case round =>
        obtain ⟨m, rfl, hm, rfl, HK⟩ := hrel
        by_cases hgo : ∃ j, m = j + 1 ∧ F[fr + j]? = some 32
        · obtain ⟨j, rfl, hf⟩ := hgo
          have hp2 : fr + j < S.size := by omega
          obtain ⟨x, hx⟩ : ∃ x, S[fr + j]'hp2 = x := ⟨_, rfl⟩
          have hxl := getElem_list hp2 hx
          rw [HSF.out.1, hf] at hxl
          obtain rfl : (32 : UInt8) = x := Option.some.inj hxl
          have hs := HK.out trivial
          rw [List.take_add_one, List.getElem?_drop, hf] at hs
          have HS := hid (fun (_ : True) => ((rtrim_sp _).symm.trans hs : rtrim ((F.drop fr).take j) = rtrim (F.drop fr)))
          clear hs hf hxl HK
          go_wp2
          go_roundw
          case rel => exact ⟨j, by congr 1; omega, by omega, by first | rfl | trivial, HS⟩
          case measure => simp [RowKit.intOf]; omega
        · cases m with
          | zero =>
            have hend : rtrim ((F.drop fr).take 0) = (F.drop fr).take 0 := rfl
            have hTl : (S.extract fr (fr + 0)).data.toList = stripL v.data.toList := by
              rw [HSTR.out trivial, extract_list, HSF.out.1, Nat.add_sub_cancel_left, ← HK.out trivial, hend]
            obtain ⟨T, hT⟩ : ∃ T, S.extract fr (fr + 0) = T := ⟨_, rfl⟩
            rw [hT] at hTl
            have hTz : T.size ≤ S.size := by rw [← hT, ByteArray.size_extract]; omega
            have hun := fun W => until_any T 0 (bs markT) W (Nat.zero_le _) (by omega) (by rw [bs_size]; decide)
            rw [bs_data, List.drop_zero, Nat.zero_add, hTl] at hun
            obtain ⟨at_, hat⟩ : ∃ at_, ((stripL v.data.toList).takeWhile fun c => !markT.contains c).length = at_ := ⟨_, rfl⟩
            rw [hat] at hun
            have HUN := hid hun
            unfold bs markT at HUN
            have HTL := hid (And.intro hTl hat)
            clear hun hat hTl HK
            rw [Nat.add_zero] at hT
            clear hgo hend
            have hTe : T = ByteArray.empty := by rw [← hT]; simp
            subst hTe
            have hst0 : stripL v.data.toList = [] := by rw [← HTL.out.1]; rfl
            have hat0 : at_ = 0 := by rw [← HTL.out.2, hst0]; rfl
            subst hat0
            have hlk : linkL schemes v.data.toList = ([], true) := by
              unfold linkL
              rw [hst0]
              rfl
            have HLK := hid (fun (_ : True) => (HR.out trivial).symm.trans hlk)
            have HB := hid hbw
            clear hst0 hlk hT hTz hbw
            have hgt : ¬ ((fr : Int) < (fr : Int)) := by omega
            go_wp2_with (go_at_call 111; refine (HUN.out _).mono ?_; rintro e w3 ⟨rfl, rfl⟩)
            go_ret2
            exact ⟨by rw [HLK.out trivial]; rfl, HB.out⟩
          | succ j =>
            have hp2 : fr + j < S.size := by omega
            obtain ⟨x, hx⟩ : ∃ x, S[fr + j]'hp2 = x := ⟨_, rfl⟩
            have hxl := getElem_list hp2 hx
            rw [HSF.out.1] at hxl
            have hx32 : x ≠ 32 := fun e => hgo ⟨j, rfl, by rw [hxl, e]⟩
            have q3 : ((x.toNat : Int) == 32) = false := by
              rw [beq_eq_false_iff_ne]
              intro e
              exact hx32 (UInt8.toNat_inj.1 (by rw [show (32 : UInt8).toNat = 32 from rfl]; omega))
            have hend : rtrim ((F.drop fr).take (j + 1)) = (F.drop fr).take (j + 1) := by
              rw [List.take_add_one, List.getElem?_drop, hxl]
              exact rtrim_ne _ x hx32
            have hTl : (S.extract fr (fr + (j + 1))).data.toList = stripL v.data.toList := by
              rw [HSTR.out trivial, extract_list, HSF.out.1, Nat.add_sub_cancel_left, ← HK.out trivial, hend]
            obtain ⟨T, hT⟩ : ∃ T, S.extract fr (fr + (j + 1)) = T := ⟨_, rfl⟩
            rw [hT] at hTl
            have hTz : T.size ≤ S.size := by rw [← hT, ByteArray.size_extract]; omega
            have hun := fun W => until_any T 0 (bs markT) W (Nat.zero_le _) (by omega) (by rw [bs_size]; decide)
            rw [bs_data, List.drop_zero, Nat.zero_add, hTl] at hun
            obtain ⟨at_, hat⟩ : ∃ at_, ((stripL v.data.toList).takeWhile fun c => !markT.contains c).length = at_ := ⟨_, rfl⟩
            rw [hat] at hun
            have HUN := hid hun
            unfold bs markT at HUN
            have HTL := hid (And.intro hTl hat)
            clear hun hat hTl HK
            clear hend hxl hx32
            have HB := hid hbw
            obtain ⟨L, hL⟩ : ∃ L, stripL v.data.toList = L := ⟨_, rfl⟩
            have hTL : T.data.toList = L := by rw [HTL.out.1, hL]
            have hat2 : (L.takeWhile fun c => !markT.contains c).length = at_ := by rw [← hL]; exact HTL.out.2
            have hTs : T.size = L.length := by rw [size_eq, hTL]
            have hTbs : T = bs L := by rw [← hTL]; rfl
            have hlk : linkL schemes v.data.toList = if L[at_]? = some 58 ∧ schemes.contains ((L.take at_).map lowC) = false then ([], false) else (L, true) := by
              unfold linkL
              rw [hL, hat2]
            rw [HR.out trivial] at hlk
            have HLK := hid (fun (_ : True) => hlk)
            have HTB := hid (fun (_ : True) => hTbs)
            have hale : at_ ≤ L.length := by rw [← hat2]; exact while_len L
            clear hL hat2 hlk hTbs hbw
            by_cases hal : at_ < T.size
            · obtain ⟨y, hy⟩ : ∃ y, T[at_]'hal = y := ⟨_, rfl⟩
              have hyl := getElem_list hal hy
              rw [hTL] at hyl
              by_cases hy58 : y = 58
              · subst hy58
                have hsl : (T.extract 0 at_).data.toList = L.take at_ := by rw [extract_list, hTL, List.drop_zero, Nat.sub_zero]
                have hlow := fun W => lowered_any (T.extract 0 at_) W (by rw [ByteArray.size_extract]; omega)
                rw [hsl] at hlow
                obtain ⟨X, hX⟩ : ∃ X, (L.take at_).map lowC = X := ⟨_, rfl⟩
                rw [hX] at hlow
                have hho := fun W hW => holds_any (.slice sp schemes.length sc) schemes (bs X) W hW (by omega)
                rw [bs_toList] at hho
                obtain ⟨C, hC⟩ : ∃ C, schemes.contains X = C := ⟨_, rfl⟩
                rw [hC] at hho
                have HEND := hid (fun (_ : True) => (by have := HLK.out trivial; rw [hyl, hX, hC] at this; simpa using this : R = if C = false then ([], false) else (L, true)))
                have HLO := hid hlow
                have HHO := hid hho
                obtain ⟨XB, hXB⟩ : ∃ XB : ByteArray, (⟨X.toArray⟩ : ByteArray) = XB := ⟨_, rfl⟩
                rw [hXB] at HLO
                unfold bs at HHO
                rw [hXB] at HHO
                clear hyl hsl hlow hho hX hC hXB HLK hTL hgo
                have q4 : (((58 : UInt8).toNat : Int) == 58) = true := rfl
                cases C
                · go_wp2_with (first | (go_at_call 111; refine (HUN.out _).mono ?_; rintro e w3 ⟨rfl, rfl⟩) | (go_at_call 213; refine (HLO.out _).mono ?_; rintro e w4 ⟨rfl, b4⟩) | (go_at_call 45; refine (HHO.out _ ((HW.out.below HB.out).below b4)).mono ?_; rintro e w5 ⟨rfl, rfl⟩))
                  go_ret2
                  exact ⟨by rw [HEND.out trivial]; rfl, HB.out.trans (b4.mono HB.out.size)⟩
                · go_wp2_with (first | (go_at_call 111; refine (HUN.out _).mono ?_; rintro e w3 ⟨rfl, rfl⟩) | (go_at_call 213; refine (HLO.out _).mono ?_; rintro e w4 ⟨rfl, b4⟩) | (go_at_call 45; refine (HHO.out _ ((HW.out.below HB.out).below b4)).mono ?_; rintro e w5 ⟨rfl, rfl⟩))
                  go_ret2
                  exact ⟨by rw [HEND.out trivial, HTB.out trivial]; rfl, HB.out.trans (b4.mono HB.out.size)⟩
              · have q4 : ((y.toNat : Int) == 58) = false := by
                  rw [beq_eq_false_iff_ne]
                  intro e
                  exact hy58 (UInt8.toNat_inj.1 (by rw [show (58 : UInt8).toNat = 58 from rfl]; omega))
                have HEND := hid (fun (_ : True) => (by have := HLK.out trivial; rw [hyl, if_neg (by simp [hy58])] at this; exact this : R = (L, true)))
                clear hyl hy58 HLK hTL hgo
                go_wp2_with (go_at_call 111; refine (HUN.out _).mono ?_; rintro e w3 ⟨rfl, rfl⟩)
                go_ret2
                exact ⟨by rw [HEND.out trivial, HTB.out trivial]; rfl, HB.out⟩
            · have HEND := hid (fun (_ : True) => (by have := HLK.out trivial; rw [List.getElem?_eq_none (by omega), if_neg (by simp)] at this; exact this : R = (L, true)))
              clear HLK hTL hgo
              go_wp2_with (go_at_call 111; refine (HUN.out _).mono ?_; rintro e w3 ⟨rfl, rfl⟩)
              go_ret2
              exact ⟨by rw [HEND.out trivial, HTB.out trivial]; rfl, HB.out⟩
end Go.Proofs.YtcncbhbdpcpkeaaGreatDoor
