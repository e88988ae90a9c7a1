/-
  Parts of the walk, joined: PolRefD.
-/
import Derived.Test.YtcncbhbdpcpkeaaGreatDoorPJAJ
/-
  The reference's Check: schemes, drops, all of them, Check: their walks.
-/
namespace Go.Proofs.YtcncbhbdpcpkeaaGreatDoor
open Go.RowKit Go.Lib Own

def schemeL : List UInt8 := [97, 98, 99, 100, 101, 102, 103, 104, 105, 106, 107, 108, 109, 110, 111, 112, 113, 114, 115, 116, 117, 118, 119, 120, 121, 122, 48, 49, 50, 51, 52, 53, 54, 55, 56, 57, 43, 45, 46]
def dropL : List UInt8 := [97, 98, 99, 100, 101, 102, 103, 104, 105, 106, 107, 108, 109, 110, 111, 112, 113, 114, 115, 116, 117, 118, 119, 120, 121, 122, 48, 49, 50, 51, 52, 53, 54, 55, 56, 57, 45]
def wrongSchemeP (L : List UInt8) : Bool := !isWordL schemeL L || (L == [106, 97, 118, 97, 115, 99, 114, 105, 112, 116] || (L == [118, 98, 115, 99, 114, 105, 112, 116] || L == [100, 97, 116, 97]))
def voidT : List (List UInt8) := [[97, 114, 101, 97], [98, 97, 115, 101], [98, 114], [99, 111, 108], [101, 109, 98, 101, 100], [104, 114], [105, 109, 103], [105, 110, 112, 117, 116], [108, 105, 110, 107], [109, 101, 116, 97], [115, 111, 117, 114, 99, 101], [116, 114, 97, 99, 107], [119, 98, 114]]
def wrongDropP (names : List (List UInt8)) (L : List UInt8) : Bool := voidT.contains L || (!isWordL dropL L || names.contains L)

set_option maxHeartbeats 2000000 in
set_option maxRecDepth 100000 in
theorem wrongScheme_any (x : ByteArray) (w : World) (hx : x.size ≤ 100000000) :
    Calls Tryz.prog 211 #[.string x] w fun e w' => e = .returned (.bool (wrongSchemeP x.toList)) ∧ w' = w := by
  have hw := fun W => refWord_any x (bs schemeL) W hx (by rw [bs_size]; decide)
  rw [bs_toList] at hw
  unfold wrongSchemeP
  obtain ⟨B, hB⟩ : ∃ B, isWordL schemeL x.toList = B := ⟨_, rfl⟩
  rw [hB] at hw ⊢
  have HW := hid hw
  unfold bs at HW
  clear hw hB
  cases B
  · go_enter Tryz.func211, Tryz.ntmps211
    go_wp2_with (go_at_call 244; refine (HW.out _).mono ?_; rintro e w' ⟨rfl, rfl⟩)
    go_ret
    exact ⟨rfl, rfl⟩
  · obtain ⟨b1, h1⟩ : ∃ b1, (x.toList == [106, 97, 118, 97, 115, 99, 114, 105, 112, 116]) = b1 := ⟨_, rfl⟩
    obtain ⟨b2, h2⟩ : ∃ b2, (x.toList == [118, 98, 115, 99, 114, 105, 112, 116]) = b2 := ⟨_, rfl⟩
    obtain ⟨b3, h3⟩ : ∃ b3, (x.toList == [100, 97, 116, 97]) = b3 := ⟨_, rfl⟩
    rw [h1, h2, h3]
    cases b1
    · cases b2
      · go_enter Tryz.func211, Tryz.ntmps211
        go_wp2_with (go_at_call 244; refine (HW.out _).mono ?_; rintro e w' ⟨rfl, rfl⟩)
        go_ret
        exact ⟨ret_bool (by simp), rfl⟩
      · go_enter Tryz.func211, Tryz.ntmps211
        go_wp2_with (go_at_call 244; refine (HW.out _).mono ?_; rintro e w' ⟨rfl, rfl⟩)
        go_ret
        exact ⟨rfl, rfl⟩
    · go_enter Tryz.func211, Tryz.ntmps211
      go_wp2_with (go_at_call 244; refine (HW.out _).mono ?_; rintro e w' ⟨rfl, rfl⟩)
      go_ret
      exact ⟨rfl, rfl⟩

set_option maxHeartbeats 4000000 in
set_option maxRecDepth 100000 in
theorem wrongDrop_void (X : List UInt8) (rv : Value) (w : World) (hk : X ∈ voidT) :
    Calls Tryz.prog 212 #[.string (bs X), rv] w fun e w' => e = .returned (.bool true) ∧ w' = w := by
  simp only [voidT, List.mem_cons, List.not_mem_nil, or_false] at hk
  rcases hk with rfl | rfl | rfl | rfl | rfl | rfl | rfl | rfl | rfl | rfl | rfl | rfl | rfl
  all_goals unfold bs
  all_goals go_enter Tryz.func212, Tryz.ntmps212
  all_goals go_wp2
  all_goals go_ret
  all_goals exact ⟨rfl, rfl⟩
set_option maxHeartbeats 4000000 in
set_option maxRecDepth 100000 in
theorem wrongDrop_else (x : ByteArray) (rv : Value) (names : List (List UInt8)) (w : World) (hk : x.toList ∉ voidT) (hx : x.size ≤ 100000000) (h : Words w rv names) (hl : names.length ≤ 100000000) :
    Calls Tryz.prog 212 #[.string x, rv] w fun e w' => e = .returned (.bool (!isWordL dropL x.toList || names.contains x.toList)) ∧ w' = w := by
  simp only [voidT, List.mem_cons, List.not_mem_nil, or_false, not_or] at hk
  obtain ⟨h0, h1, h2, h3, h4, h5, h6, h7, h8, h9, h10, h11, h12⟩ := hk
  replace h0 := ne_beq h0
  replace h1 := ne_beq h1
  replace h2 := ne_beq h2
  replace h3 := ne_beq h3
  replace h4 := ne_beq h4
  replace h5 := ne_beq h5
  replace h6 := ne_beq h6
  replace h7 := ne_beq h7
  replace h8 := ne_beq h8
  replace h9 := ne_beq h9
  replace h10 := ne_beq h10
  replace h11 := ne_beq h11
  replace h12 := ne_beq h12
  have hw := fun W => refWord_any x (bs dropL) W hx (by rw [bs_size]; decide)
  rw [bs_toList] at hw
  obtain ⟨B, hB⟩ : ∃ B, isWordL dropL x.toList = B := ⟨_, rfl⟩
  rw [hB] at hw ⊢
  have hho := holds_any rv names x w h hl
  obtain ⟨p, c, rfl, _⟩ := h.len
  obtain ⟨C, hC⟩ : ∃ C, names.contains x.toList = C := ⟨_, rfl⟩
  rw [hC] at hho ⊢
  have HW := hid hw
  have HH := hid hho
  unfold bs at HW
  clear hw hB hho hC h
  cases B
  · go_enter Tryz.func212, Tryz.ntmps212
    go_wp2_with (go_at_call 244; refine (HW.out _).mono ?_; rintro e w' ⟨rfl, rfl⟩)
    go_ret
    exact ⟨rfl, rfl⟩
  · go_enter Tryz.func212, Tryz.ntmps212
    go_wp2_with (first | (go_at_call 244; refine (HW.out _).mono ?_; rintro e w' ⟨rfl, rfl⟩) | (go_at_call 45; refine HH.out.mono ?_; rintro e w' ⟨rfl, rfl⟩))
    go_ret
    exact ⟨rfl, rfl⟩
theorem wrongDrop_any (x : ByteArray) (rv : Value) (names : List (List UInt8)) (w : World) (hx : x.size ≤ 100000000) (h : Words w rv names) (hl : names.length ≤ 100000000) :
    Calls Tryz.prog 212 #[.string x, rv] w fun e w' => e = .returned (.bool (wrongDropP names x.toList)) ∧ w' = w := by
  unfold wrongDropP
  by_cases hk : x.toList ∈ voidT
  · have h2 := wrongDrop_void x.toList rv w hk
    rw [bs_toList2] at h2
    rw [show voidT.contains x.toList = true by simpa using hk, Bool.true_or]
    exact h2
  · rw [show voidT.contains x.toList = false by simpa using hk, Bool.false_or]
    exact wrongDrop_else x rv names w hk hx h hl

def anyWrongP (n : Nat) (P : PolP) : Bool := P.rules.any (wrongRuleP n) || ((decide (n = 7) && P.schemes.any wrongSchemeP) || (decide (n = 9) && P.drop.any (wrongDropP (P.rules.map Prod.fst))))
theorem any_step {α : Type} {p : α → Bool} {l : List α} {k : Nat} {x : α} (h : l[k]? = some x) : (l.drop k).any p = (p x || (l.drop (k + 1)).any p) := by rw [drop_at h]; rfl
theorem any_done {α : Type} {p : α → Bool} {l : List α} {k : Nat} (h : l.length ≤ k) : (l.drop k).any p = false := by rw [List.drop_of_length_le h]; rfl

set_option maxHeartbeats 4000000 in
set_option maxRecDepth 100000 in
theorem anyWrong_any (n : Nat) (hn : n ≤ 10) (vr vs vd : Value) (P : PolP) (w : World) (h : PolR w vr vs vd P) (hF : P.Few) (hT : AttrTab w) :
    Calls Tryz.prog 154 #[.int .i64 n, .agg (polC vr vs vd P)] w fun e w' => e = .returned (.bool (anyWrongP n P)) ∧ Below w.heap.size w w' := by
  have f1 := hF.rules
  have f2 := hF.schemes
  have f3 := hF.drop
  have hb0 := heap_alloc_new w (.cells (polC vr vs vd P) 43)
  have hbel0 : Below w.heap.size w (w.alloc (.cells (polC vr vs vd P) 43)) := (Below.refl w.heap.size w).alloc (Nat.le_refl _) _
  have hna := fun W hW => refNames_any vr vs vd P W hW f1
  have hru := fun W k r u hr hW hTW => wrongRule_any n hn r u W hW (hF.attrs r (List.mem_of_getElem? (i := k) hr)) hTW
  have HRU := hid hru
  have HNA := hid hna
  obtain ⟨rp, rc, rfl, _, _, hr3⟩ := h.rules
  obtain ⟨sp, sc, rfl, _, _, hs3, _⟩ := h.schemes
  obtain ⟨dp, dc, rfl, _, _, hd3, _⟩ := h.drop
  have HP := hid h
  have HR3 := hid hr3
  have HS3 := hid hs3
  have HD3 := hid hd3
  have HF := hid hF
  have HT := hid hT
  obtain ⟨W1, hW1⟩ : ∃ W1, w.alloc (.cells (polC (.slice rp P.rules.length rc) (.slice sp P.schemes.length sc) (.slice dp P.drop.length dc) P) 43) = W1 := ⟨_, rfl⟩
  have H0 : Hid (Below w.heap.size w W1 ∧ W1.heap[w.heap.size]? = some (.cells (polC (.slice rp P.rules.length rc) (.slice sp P.schemes.length sc) (.slice dp P.drop.length dc) P) 43 (0, 0))) := by rw [← hW1]; exact ⟨hbel0, hb0⟩
  have HW1 := hid (fun (_ : True) => hW1)
  obtain ⟨R1, hR1⟩ : ∃ R1, P.rules.any (wrongRuleP n) = R1 := ⟨_, rfl⟩
  obtain ⟨R2, hR2⟩ : ∃ R2, P.schemes.any wrongSchemeP = R2 := ⟨_, rfl⟩
  obtain ⟨R3, hR3⟩ : ∃ R3, P.drop.any (wrongDropP (P.rules.map Prod.fst)) = R3 := ⟨_, rfl⟩
  have e0 : anyWrongP n P = (R1 || ((decide (n = 7) && R2) || (decide (n = 9) && R3))) := by rw [← hR1, ← hR2, ← hR3]; rfl
  obtain ⟨RT, hRT⟩ : ∃ RT, anyWrongP n P = RT := ⟨_, rfl⟩
  rw [hRT]
  rw [hRT] at e0
  have HRR := hid (And.intro hR1 (And.intro hR2 hR3))
  have HRT := hid (fun (_ : True) => e0)
  clear hru hna hr3 hs3 hd3 hF hT hb0 hbel0 h hR1 hR2 hR3 e0 hRT
  unfold polC at H0 HNA hW1 ⊢
  go_enter Tryz.func154, Tryz.ntmps154
  go_wp2_with fail
  go_loopw [5] (fun iv wr => ∃ k : Nat, iv = .int .i64 k ∧ k ≤ P.rules.length ∧ Hid (Below w.heap.size w wr ∧ wr.heap[w.heap.size]? = some (.cells #[.slice rp P.rules.length rc, .slice sp P.schemes.length sc, .slice dp P.drop.length dc, .int .i64 P.depth, .int .i64 P.window] 43 (0, 0))) ∧ Hid (True → (P.rules.drop k).any (wrongRuleP n) = R1)) (fun iv _ => P.rules.length - (RowKit.intOf iv).toNat)
  case atStart => exact ⟨0, rfl, Nat.zero_le _, H0, hid (fun _ => HRR.out.1)⟩
  case round =>
    obtain ⟨k, rfl, hk, HX, HK⟩ := hrel
    obtain ⟨c0, c1, c2, c3, c4⟩ := polC_at (P := P) HX.out.2
    by_cases hkl : k < P.rules.length
    · obtain ⟨r, hr⟩ : ∃ r, P.rules[k]? = some r := ⟨_, List.getElem?_eq_getElem hkl⟩
      obtain ⟨b, o, u, rfl, hc1, hc2, hwu⟩ := HR3.out k r hr
      replace hc1 := cell_low hc1 HX.out.1 (cell_block hc1)
      replace hc2 := cell_low hc2 HX.out.1 (cell_block hc2)
      have hcall := HRU.out wr k r u hr (hwu.below HX.out.1) (HT.out.below HX.out.1)
      have hd := HK.out trivial
      rw [any_step hr] at hd
      obtain ⟨up, uc, hu, _⟩ := hwu.len
      subst hu
      obtain ⟨K, hK⟩ : ∃ K, wrongRuleP n r = K := ⟨_, rfl⟩
      rw [hK] at hcall hd
      obtain ⟨S, hS⟩ : ∃ S, bs r.1 = S := ⟨_, rfl⟩
      rw [hS] at hc1 hcall
      have HC := hid hcall
      have HD := hid (fun (_ : True) => hd)
      clear hr hcall hd hK hS HK hwu H0 HRU HNA c1 c2 c3 c4 hW1
      cases K
      · go_wp2_with (go_at_call 210; refine HC.out.mono ?_; rintro e w2 ⟨rfl, b2⟩)
        have HZ := hid (And.intro (HX.out.1.trans (b2.mono HX.out.1.size)) ((b2.block _ (block_lt HX.out.2)).trans HX.out.2))
        have HE := hid (fun (_ : True) => (by have := HD.out trivial; rwa [Bool.false_or] at this : (P.rules.drop (k + 1)).any (wrongRuleP n) = R1))
        clear b2 HX HC HD c0 hc1 hc2
        go_wp2
        go_roundw
        case rel => first | exact ⟨k + 1, rfl, by omega, HZ, HE⟩ | ((repeat apply Exists.intro); exact ⟨⟨k + 1, rfl, by omega, HZ, HE⟩, rfl⟩)
        case measure => simp [RowKit.intOf]; omega
      · obtain rfl : R1 = true := by have := HD.out trivial; rw [Bool.true_or] at this; exact this.symm
        go_wp2_with (go_at_call 210; refine HC.out.mono ?_; rintro e w2 ⟨rfl, b2⟩)
        have HZ := hid (HX.out.1.trans (b2.mono HX.out.1.size))
        clear b2 HX HC HD c0 hc1 hc2
        go_wp2
        go_ret
        exact ⟨ret_bool (by rw [HRT.out trivial]; rfl), HZ.out⟩
    · obtain rfl : R1 = false := by have := HK.out trivial; rw [any_done (by omega)] at this; exact this.symm
      clear HK H0 HRU
      go_wp2_with fail
      go_loopw [6] (fun iv wr2 => ∃ j : Nat, iv = .int .i64 j ∧ j ≤ P.schemes.length ∧ wr2 = wr ∧ Hid (True → (P.schemes.drop j).any wrongSchemeP = R2)) (fun iv _ => P.schemes.length - (RowKit.intOf iv).toNat)
      case atStart => exact ⟨0, rfl, Nat.zero_le _, rfl, hid (fun _ => HRR.out.2.1)⟩
      case round =>
        obtain ⟨j, rfl, hj, rfl, HK⟩ := hrel
        by_cases h7 : n = 7 ∧ j < P.schemes.length
        · obtain ⟨rfl, hjl⟩ := h7
          obtain ⟨x, hx⟩ : ∃ x, P.schemes[j]? = some x := ⟨_, List.getElem?_eq_getElem hjl⟩
          obtain ⟨b, o, rfl, hc1⟩ := HS3.out j x hx
          replace hc1 := cell_low hc1 HX.out.1 (cell_block hc1)
          have hcall := fun W => wrongScheme_any (bs x) W (by rw [bs_size]; have := HF.out.slen x (List.mem_of_getElem? hx); omega)
          rw [bs_toList] at hcall
          have hd := HK.out trivial
          rw [any_step hx] at hd
          obtain ⟨K, hK⟩ : ∃ K, wrongSchemeP x = K := ⟨_, rfl⟩
          rw [hK] at hcall hd
          obtain ⟨S, hS⟩ : ∃ S, bs x = S := ⟨_, rfl⟩
          rw [hS] at hc1 hcall
          have HC := hid hcall
          have HD := hid (fun (_ : True) => hd)
          clear hx hcall hd hK hS HK HNA hW1
          cases K
          · go_wp2_with (go_at_call 211; refine (HC.out _).mono ?_; rintro e w2 ⟨rfl, rfl⟩)
            have HE := hid (fun (_ : True) => (by have := HD.out trivial; rwa [Bool.false_or] at this : (P.schemes.drop (j + 1)).any wrongSchemeP = R2))
            go_roundw
            case rel => first | exact ⟨j + 1, rfl, by omega, by first | rfl | trivial, HE⟩ | ((repeat apply Exists.intro); exact ⟨⟨j + 1, rfl, by omega, by first | rfl | trivial, HE⟩, rfl⟩)
            case measure => simp [RowKit.intOf]; omega
          · obtain rfl : R2 = true := by have := HD.out trivial; rw [Bool.true_or] at this; exact this.symm
            go_wp2_with (go_at_call 211; refine (HC.out _).mono ?_; rintro e w2 ⟨rfl, rfl⟩)
            go_ret
            exact ⟨ret_bool (by rw [HRT.out trivial]; rfl), HX.out.1⟩
        · have hmid : (decide (n = 7) && R2) = false := by
            by_cases h : n = 7
            · have := HK.out trivial
              rw [any_done (by have : ¬ j < P.schemes.length := fun h2 => h7 ⟨h, h2⟩; omega)] at this
              rw [← this, Bool.and_false]
            · rw [decide_eq_false h, Bool.false_and]
          have hlast := HRT.out trivial
          rw [hmid, Bool.false_or, Bool.false_or] at hlast
          have HL := hid (fun (_ : True) => hlast)
          have q7 : ((n : Int) == 7 && decide ((j : Int) < (P.schemes.length : Int))) = false := by
            rw [Bool.and_eq_false_iff, beq_eq_false_iff_ne, decide_eq_false_iff_not]
            by_cases h : n = 7
            · exact .inr (fun h2 => h7 ⟨h, by omega⟩)
            · exact .inl (by omega)
          have hnames := HNA.out wr (HP.out.rules.below HX.out.1)
          have HNM := hid hnames
          clear HK h7 hmid hlast hnames HNA hW1 HRT
          have finish : ∀ W2, Below w.heap.size w W2 → (decide (n = 9) && R3) = false → (Ending.returned (.bool false) = Ending.returned (.bool RT) ∧ Below w.heap.size w W2) := fun W2 hb hf => ⟨ret_bool (by rw [HL.out trivial, hf]), hb⟩
          have HFIN := hid finish
          clear finish
          by_cases hn7 : n = 7
          · have q9 : ((n : Int) == 7) = true := by rw [beq_iff_eq]; omega
            have q8 : ¬ ((j : Int) < (P.schemes.length : Int)) := by rw [q9, Bool.true_and] at q7; exact of_decide_eq_false q7
            have q1 : ((n : Int) == 9) = false := by rw [beq_eq_false_iff_ne]; omega
            have HN9 := hid (fun (_ : True) => (by rw [decide_eq_false (by omega), Bool.false_and] : (decide (n = 9) && R3) = false))
            clear q7 hn7
            go_wp2_with (go_at_call 152; refine HNM.out.mono ?_; rintro e w2 ⟨nv, rfl, hnw, b2⟩)
            have HZ := hid (And.intro (HX.out.1.trans (b2.mono HX.out.1.size)) ((b2.block _ (block_lt HX.out.2)).trans HX.out.2))
            clear hnw b2 HNM HX c0 c1 c2 c3 c4 q9 q8
            go_loopw [8] (fun iv wr3 => iv = .int .i64 0 ∧ wr3 = w2) (fun iv _ => 0)
            case atStart => exact ⟨rfl, rfl⟩
            case round =>
              obtain ⟨rfl, rfl⟩ := hrel
              go_wp2
              go_ret
              exact HFIN.out _ HZ.out.1 (HN9.out trivial)
          · have q8 : ((n : Int) == 7) = false := by rw [beq_eq_false_iff_ne]; omega
            clear q7
            go_wp2_with (go_at_call 152; refine HNM.out.mono ?_; rintro e w2 ⟨nv, rfl, hnw, b2⟩)
            have HZ := hid (And.intro (HX.out.1.trans (b2.mono HX.out.1.size)) ((b2.block _ (block_lt HX.out.2)).trans HX.out.2))
            obtain ⟨np, nc, hnv, _⟩ := hnw.len
            rw [List.length_map] at hnv
            subst hnv
            have HNW := hid hnw
            clear hnw b2 HNM HX c0 c1 c2 c3 c4
            clear q8
            obtain ⟨c0, c1, c2, c3, c4⟩ := polC_at (P := P) HZ.out.2
            go_loopw [8] (fun iv wr3 => ∃ i : Nat, iv = .int .i64 i ∧ i ≤ P.drop.length ∧ wr3 = w2 ∧ Hid (True → (P.drop.drop i).any (wrongDropP (P.rules.map Prod.fst)) = R3)) (fun iv _ => P.drop.length - (RowKit.intOf iv).toNat)
            case atStart => exact ⟨0, rfl, Nat.zero_le _, rfl, hid (fun _ => HRR.out.2.2)⟩
            case round =>
              obtain ⟨i, rfl, hi, rfl, HK⟩ := hrel
              by_cases h9 : n = 9 ∧ i < P.drop.length
              · obtain ⟨h9, hil⟩ := h9
                have q1 : ((n : Int) == 9) = true := by rw [beq_iff_eq]; omega
                obtain ⟨x, hx⟩ : ∃ x, P.drop[i]? = some x := ⟨_, List.getElem?_eq_getElem hil⟩
                obtain ⟨b, o, rfl, hc1⟩ := HD3.out i x hx
                replace hc1 := cell_low hc1 HZ.out.1 (cell_block hc1)
                have hcall := wrongDrop_any (bs x) _ _ _ (by rw [bs_size]; have := HF.out.dlen x (List.mem_of_getElem? hx); omega) HNW.out (by rw [List.length_map]; omega)
                rw [bs_toList] at hcall
                have hd := HK.out trivial
                rw [any_step hx] at hd
                obtain ⟨K, hK⟩ : ∃ K, wrongDropP (P.rules.map Prod.fst) x = K := ⟨_, rfl⟩
                rw [hK] at hcall hd
                obtain ⟨S, hS⟩ : ∃ S, bs x = S := ⟨_, rfl⟩
                rw [hS] at hc1 hcall
                have HC := hid hcall
                have HD := hid (fun (_ : True) => hd)
                clear hx hcall hd hK hS HK h9
                cases K
                · go_wp2_with (go_at_call 212; refine HC.out.mono ?_; rintro e w4 ⟨rfl, rfl⟩)
                  have HE := hid (fun (_ : True) => (by have := HD.out trivial; rwa [Bool.false_or] at this : (P.drop.drop (i + 1)).any (wrongDropP (P.rules.map Prod.fst)) = R3))
                  go_roundw
                  case rel => first | exact ⟨i + 1, rfl, by omega, by first | rfl | trivial, HE⟩ | ((repeat apply Exists.intro); exact ⟨⟨i + 1, rfl, by omega, by first | rfl | trivial, HE⟩, rfl⟩)
                  case measure => simp [RowKit.intOf]; omega
                · obtain rfl : R3 = true := by have := HD.out trivial; rw [Bool.true_or] at this; exact this.symm
                  have n9 : n = 9 := by have := of_decide_eq_true q1; omega
                  go_wp2_with (go_at_call 212; refine HC.out.mono ?_; rintro e w4 ⟨rfl, rfl⟩)
                  go_ret
                  exact ⟨ret_bool (by rw [HL.out trivial, decide_eq_true n9]; rfl), HZ.out.1⟩
              · have hfin : (decide (n = 9) && R3) = false := by
                  by_cases h : n = 9
                  · have := HK.out trivial
                    rw [any_done (by have : ¬ i < P.drop.length := fun h2 => h9 ⟨h, h2⟩; omega)] at this
                    rw [← this, Bool.and_false]
                  · rw [decide_eq_false h, Bool.false_and]
                have HFI := hid (fun (_ : True) => hfin)
                by_cases hn9 : n = 9
                · have q1 : ((n : Int) == 9) = true := by rw [beq_iff_eq]; omega
                  have q2 : ¬ ((i : Int) < (P.drop.length : Int)) := fun h2 => h9 ⟨hn9, by omega⟩
                  clear HK h9 hfin hn9
                  go_wp2
                  go_ret
                  exact ⟨ret_bool (by rw [HL.out trivial, HFI.out trivial]), HZ.out.1⟩
                · have q1 : ((n : Int) == 9) = false := by rw [beq_eq_false_iff_ne]; omega
                  clear HK h9 hfin hn9
                  go_wp2
                  go_ret
                  exact ⟨ret_bool (by rw [HL.out trivial, HFI.out trivial]), HZ.out.1⟩
end Go.Proofs.YtcncbhbdpcpkeaaGreatDoor
