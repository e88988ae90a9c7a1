/-
  Parts of the walk, joined: PolRefD, PolRefE.
-/
import Derived.Test.YtkcgmimldjeaiaaGreatDoorJoinD
/-
  The reference's Check: schemes, drops, all of them, Check: their walks.
-/
namespace Go.Proofs.YtkcgmimldjeaiaaGreatDoor
open Go.RowKit Go.Lib Own

def schemeL : List UInt8 := [97, 98, 99, 100, 101, 102, 103, 104, 105, 106, 107, 108, 109, 110, 111, 112, 113, 114, 115, 116, 117, 118, 119, 120, 121, 122, 48, 49, 50, 51, 52, 53, 54, 55, 56, 57, 43, 45, 46]
def dropL : List UInt8 := [97, 98, 99, 100, 101, 102, 103, 104, 105, 106, 107, 108, 109, 110, 111, 112, 113, 114, 115, 116, 117, 118, 119, 120, 121, 122, 48, 49, 50, 51, 52, 53, 54, 55, 56, 57, 45]
def wrongSchemeP (L : List UInt8) : Bool := !isWordL schemeL L || (L == [106, 97, 118, 97, 115, 99, 114, 105, 112, 116] || (L == [118, 98, 115, 99, 114, 105, 112, 116] || L == [100, 97, 116, 97]))
def voidT : List (List UInt8) := [[97, 114, 101, 97], [98, 97, 115, 101], [98, 114], [99, 111, 108], [101, 109, 98, 101, 100], [104, 114], [105, 109, 103], [105, 110, 112, 117, 116], [108, 105, 110, 107], [109, 101, 116, 97], [115, 111, 117, 114, 99, 101], [116, 114, 97, 99, 107], [119, 98, 114]]
def wrongDropP (names : List (List UInt8)) (L : List UInt8) : Bool := voidT.contains L || (!isWordL dropL L || names.contains L)

set_option maxHeartbeats 2000000 in
set_option maxRecDepth 100000 in
theorem wrongScheme_any (x : ByteArray) (w : World) (hx : x.size ≤ 100000000) :
    Calls Tryz.prog 72 #[.string x] w fun e w' => e = .returned (.bool (wrongSchemeP x.toList)) ∧ w' = w := by
  have hw := fun W => refWord_any x (bs schemeL) W hx (by rw [bs_size]; decide)
  rw [bs_toList] at hw
  unfold wrongSchemeP
  obtain ⟨B, hB⟩ : ∃ B, isWordL schemeL x.toList = B := ⟨_, rfl⟩
  rw [hB] at hw ⊢
  have HW := hid hw
  unfold bs at HW
  clear hw hB
  cases B
  · go_enter Tryz.func72, Tryz.ntmps72
    go_wp2_with (go_at_call 87; refine (HW.out _).mono ?_; rintro e w' ⟨rfl, rfl⟩)
    go_ret
    exact ⟨rfl, rfl⟩
  · obtain ⟨b1, h1⟩ : ∃ b1, (x.toList == [106, 97, 118, 97, 115, 99, 114, 105, 112, 116]) = b1 := ⟨_, rfl⟩
    obtain ⟨b2, h2⟩ : ∃ b2, (x.toList == [118, 98, 115, 99, 114, 105, 112, 116]) = b2 := ⟨_, rfl⟩
    obtain ⟨b3, h3⟩ : ∃ b3, (x.toList == [100, 97, 116, 97]) = b3 := ⟨_, rfl⟩
    rw [h1, h2, h3]
    cases b1
    · cases b2
      · go_enter Tryz.func72, Tryz.ntmps72
        go_wp2_with (go_at_call 87; refine (HW.out _).mono ?_; rintro e w' ⟨rfl, rfl⟩)
        go_ret
        exact ⟨ret_bool (by simp), rfl⟩
      · go_enter Tryz.func72, Tryz.ntmps72
        go_wp2_with (go_at_call 87; refine (HW.out _).mono ?_; rintro e w' ⟨rfl, rfl⟩)
        go_ret
        exact ⟨rfl, rfl⟩
    · go_enter Tryz.func72, Tryz.ntmps72
      go_wp2_with (go_at_call 87; refine (HW.out _).mono ?_; rintro e w' ⟨rfl, rfl⟩)
      go_ret
      exact ⟨rfl, rfl⟩

set_option maxHeartbeats 4000000 in
set_option maxRecDepth 100000 in
theorem wrongDrop_void (X : List UInt8) (rv : Value) (w : World) (hk : X ∈ voidT) :
    Calls Tryz.prog 73 #[.string (bs X), rv] w fun e w' => e = .returned (.bool true) ∧ w' = w := by
  simp only [voidT, List.mem_cons, List.not_mem_nil, or_false] at hk
  rcases hk with rfl | rfl | rfl | rfl | rfl | rfl | rfl | rfl | rfl | rfl | rfl | rfl | rfl
  all_goals unfold bs
  all_goals go_enter Tryz.func73, Tryz.ntmps73
  all_goals go_wp2
  all_goals go_ret
  all_goals exact ⟨rfl, rfl⟩
set_option maxHeartbeats 4000000 in
set_option maxRecDepth 100000 in
theorem wrongDrop_else (x : ByteArray) (rv : Value) (names : List (List UInt8)) (w : World) (hk : x.toList ∉ voidT) (hx : x.size ≤ 100000000) (h : Words w rv names) (hl : names.length ≤ 100000000) :
    Calls Tryz.prog 73 #[.string x, rv] w fun e w' => e = .returned (.bool (!isWordL dropL x.toList || names.contains x.toList)) ∧ w' = w := by
  simp only [voidT, List.mem_cons, List.not_mem_nil, or_false, not_or] at hk
  obtain ⟨h0, h1, h2, h3, h4, h5, h6, h7, h8, h9, h10, h11, h12⟩ := hk
  replace h0 := ne_beq h0
  replace h1 := ne_beq h1
  replace h2 := ne_beq h2
  replace h3 := ne_beq h3
  replace h4 := ne_beq h4
  replace h5 := ne_beq h5
  replace h6 := ne_beq h6
  replace h7 := ne_beq h7
  replace h8 := ne_beq h8
  replace h9 := ne_beq h9
  replace h10 := ne_beq h10
  replace h11 := ne_beq h11
  replace h12 := ne_beq h12
  have hw := fun W => refWord_any x (bs dropL) W hx (by rw [bs_size]; decide)
  rw [bs_toList] at hw
  obtain ⟨B, hB⟩ : ∃ B, isWordL dropL x.toList = B := ⟨_, rfl⟩
  rw [hB] at hw ⊢
  have hho := holds_any rv names x w h hl
  obtain ⟨p, c, rfl, _⟩ := h.len
  obtain ⟨C, hC⟩ : ∃ C, names.contains x.toList = C := ⟨_, rfl⟩
  rw [hC] at hho ⊢
  have HW := hid hw
  have HH := hid hho
  unfold bs at HW
  clear hw hB hho hC h
  cases B
  · go_enter Tryz.func73, Tryz.ntmps73
    go_wp2_with (go_at_call 87; refine (HW.out _).mono ?_; rintro e w' ⟨rfl, rfl⟩)
    go_ret
    exact ⟨rfl, rfl⟩
  · go_enter Tryz.func73, Tryz.ntmps73
    go_wp2_with (first | (go_at_call 87; refine (HW.out _).mono ?_; rintro e w' ⟨rfl, rfl⟩) | (go_at_call 14; refine HH.out.mono ?_; rintro e w' ⟨rfl, rfl⟩))
    go_ret
    exact ⟨rfl, rfl⟩
theorem wrongDrop_any (x : ByteArray) (rv : Value) (names : List (List UInt8)) (w : World) (hx : x.size ≤ 100000000) (h : Words w rv names) (hl : names.length ≤ 100000000) :
    Calls Tryz.prog 73 #[.string x, rv] w fun e w' => e = .returned (.bool (wrongDropP names x.toList)) ∧ w' = w := by
  unfold wrongDropP
  by_cases hk : x.toList ∈ voidT
  · have h2 := wrongDrop_void x.toList rv w hk
    rw [bs_toList2] at h2
    rw [show voidT.contains x.toList = true by simpa using hk, Bool.true_or]
    exact h2
  · rw [show voidT.contains x.toList = false by simpa using hk, Bool.false_or]
    exact wrongDrop_else x rv names w hk hx h hl

def anyWrongP (n : Nat) (P : PolP) : Bool := P.rules.any (wrongRuleP n) || ((decide (n = 7) && P.schemes.any wrongSchemeP) || (decide (n = 9) && P.drop.any (wrongDropP (P.rules.map Prod.fst))))
theorem any_step {α : Type} {p : α → Bool} {l : List α} {k : Nat} {x : α} (h : l[k]? = some x) : (l.drop k).any p = (p x || (l.drop (k + 1)).any p) := by rw [drop_at h]; rfl
theorem any_done {α : Type} {p : α → Bool} {l : List α} {k : Nat} (h : l.length ≤ k) : (l.drop k).any p = false := by rw [List.drop_of_length_le h]; rfl

set_option maxHeartbeats 4000000 in
set_option maxRecDepth 100000 in
theorem anyWrong_any (n : Nat) (hn : n ≤ 10) (vr vs vd : Value) (P : PolP) (w : World) (h : PolR w vr vs vd P) (hF : P.Few) (hT : AttrTab w) :
    Calls Tryz.prog 50 #[.int .i64 n, .agg (polC vr vs vd P)] w fun e w' => e = .returned (.bool (anyWrongP n P)) ∧ Below w.heap.size w w' := by
  have f1 := hF.rules
  have f2 := hF.schemes
  have f3 := hF.drop
  have hb0 := heap_alloc_new w (.cells (polC vr vs vd P) 25)
  have hbel0 : Below w.heap.size w (w.alloc (.cells (polC vr vs vd P) 25)) := (Below.refl w.heap.size w).alloc (Nat.le_refl _) _
  have hna := fun W hW => refNames_any vr vs vd P W hW f1
  have hru := fun W k r u hr hW hTW => wrongRule_any n hn r u W hW (hF.attrs r (List.mem_of_getElem? (i := k) hr)) hTW
  have HRU := hid hru
  have HNA := hid hna
  obtain ⟨rp, rc, rfl, _, _, hr3⟩ := h.rules
  obtain ⟨sp, sc, rfl, _, _, hs3, _⟩ := h.schemes
  obtain ⟨dp, dc, rfl, _, _, hd3, _⟩ := h.drop
  have HP := hid h
  have HR3 := hid hr3
  have HS3 := hid hs3
  have HD3 := hid hd3
  have HF := hid hF
  have HT := hid hT
  obtain ⟨W1, hW1⟩ : ∃ W1, w.alloc (.cells (polC (.slice rp P.rules.length rc) (.slice sp P.schemes.length sc) (.slice dp P.drop.length dc) P) 25) = W1 := ⟨_, rfl⟩
  have H0 : Hid (Below w.heap.size w W1 ∧ W1.heap[w.heap.size]? = some (.cells (polC (.slice rp P.rules.length rc) (.slice sp P.schemes.length sc) (.slice dp P.drop.length dc) P) 25 (0, 0))) := by rw [← hW1]; exact ⟨hbel0, hb0⟩
  have HW1 := hid (fun (_ : True) => hW1)
  obtain ⟨R1, hR1⟩ : ∃ R1, P.rules.any (wrongRuleP n) = R1 := ⟨_, rfl⟩
  obtain ⟨R2, hR2⟩ : ∃ R2, P.schemes.any wrongSchemeP = R2 := ⟨_, rfl⟩
  obtain ⟨R3, hR3⟩ : ∃ R3, P.drop.any (wrongDropP (P.rules.map Prod.fst)) = R3 := ⟨_, rfl⟩
  have e0 : anyWrongP n P = (R1 || ((decide (n = 7) && R2) || (decide (n = 9) && R3))) := by rw [← hR1, ← hR2, ← hR3]; rfl
  obtain ⟨RT, hRT⟩ : ∃ RT, anyWrongP n P = RT := ⟨_, rfl⟩
  rw [hRT]
  rw [hRT] at e0
  have HRR := hid (And.intro hR1 (And.intro hR2 hR3))
  have HRT := hid (fun (_ : True) => e0)
  clear hru hna hr3 hs3 hd3 hF hT hb0 hbel0 h hR1 hR2 hR3 e0 hRT
  unfold polC at H0 HNA hW1 ⊢
  go_enter Tryz.func50, Tryz.ntmps50
  go_wp2_with fail
  go_loopw [5] (fun iv wr => ∃ k : Nat, iv = .int .i64 k ∧ k ≤ P.rules.length ∧ Hid (Below w.heap.size w wr ∧ wr.heap[w.heap.size]? = some (.cells #[.slice rp P.rules.length rc, .slice sp P.schemes.length sc, .slice dp P.drop.length dc, .int .i64 P.depth, .int .i64 P.window] 25 (0, 0))) ∧ Hid (True → (P.rules.drop k).any (wrongRuleP n) = R1)) (fun iv _ => P.rules.length - (RowKit.intOf iv).toNat)
  case atStart => exact ⟨0, rfl, Nat.zero_le _, H0, hid (fun _ => HRR.out.1)⟩
  case round =>
    obtain ⟨k, rfl, hk, HX, HK⟩ := hrel
    obtain ⟨c0, c1, c2, c3, c4⟩ := polC_at (P := P) HX.out.2
    by_cases hkl : k < P.rules.length
    · obtain ⟨r, hr⟩ : ∃ r, P.rules[k]? = some r := ⟨_, List.getElem?_eq_getElem hkl⟩
      obtain ⟨b, o, u, rfl, hc1, hc2, hwu⟩ := HR3.out k r hr
      replace hc1 := cell_low hc1 HX.out.1 (cell_block hc1)
      replace hc2 := cell_low hc2 HX.out.1 (cell_block hc2)
      have hcall := HRU.out wr k r u hr (hwu.below HX.out.1) (HT.out.below HX.out.1)
      have hd := HK.out trivial
      rw [any_step hr] at hd
      obtain ⟨up, uc, hu, _⟩ := hwu.len
      subst hu
      obtain ⟨K, hK⟩ : ∃ K, wrongRuleP n r = K := ⟨_, rfl⟩
      rw [hK] at hcall hd
      obtain ⟨S, hS⟩ : ∃ S, bs r.1 = S := ⟨_, rfl⟩
      rw [hS] at hc1 hcall
      have HC := hid hcall
      have HD := hid (fun (_ : True) => hd)
      clear hr hcall hd hK hS HK hwu H0 HRU HNA c1 c2 c3 c4 hW1
      cases K
      · go_wp2_with (go_at_call 71; refine HC.out.mono ?_; rintro e w2 ⟨rfl, b2⟩)
        have HZ := hid (And.intro (HX.out.1.trans (b2.mono HX.out.1.size)) ((b2.block _ (block_lt HX.out.2)).trans HX.out.2))
        have HE := hid (fun (_ : True) => (by have := HD.out trivial; rwa [Bool.false_or] at this : (P.rules.drop (k + 1)).any (wrongRuleP n) = R1))
        clear b2 HX HC HD c0 hc1 hc2
        go_wp2
        go_roundw
        case rel => first | exact ⟨k + 1, rfl, by omega, HZ, HE⟩ | ((repeat apply Exists.intro); exact ⟨⟨k + 1, rfl, by omega, HZ, HE⟩, rfl⟩)
        case measure => simp [RowKit.intOf]; omega
      · obtain rfl : R1 = true := by have := HD.out trivial; rw [Bool.true_or] at this; exact this.symm
        go_wp2_with (go_at_call 71; refine HC.out.mono ?_; rintro e w2 ⟨rfl, b2⟩)
        have HZ := hid (HX.out.1.trans (b2.mono HX.out.1.size))
        clear b2 HX HC HD c0 hc1 hc2
        go_wp2
        go_ret
        exact ⟨ret_bool (by rw [HRT.out trivial]; rfl), HZ.out⟩
    · obtain rfl : R1 = false := by have := HK.out trivial; rw [any_done (by omega)] at this; exact this.symm
      clear HK H0 HRU
      go_wp2_with fail
      go_loopw [6] (fun iv wr2 => ∃ j : Nat, iv = .int .i64 j ∧ j ≤ P.schemes.length ∧ wr2 = wr ∧ Hid (True → (P.schemes.drop j).any wrongSchemeP = R2)) (fun iv _ => P.schemes.length - (RowKit.intOf iv).toNat)
      case atStart => exact ⟨0, rfl, Nat.zero_le _, rfl, hid (fun _ => HRR.out.2.1)⟩
      case round =>
        obtain ⟨j, rfl, hj, rfl, HK⟩ := hrel
        by_cases h7 : n = 7 ∧ j < P.schemes.length
        · obtain ⟨rfl, hjl⟩ := h7
          obtain ⟨x, hx⟩ : ∃ x, P.schemes[j]? = some x := ⟨_, List.getElem?_eq_getElem hjl⟩
          obtain ⟨b, o, rfl, hc1⟩ := HS3.out j x hx
          replace hc1 := cell_low hc1 HX.out.1 (cell_block hc1)
          have hcall := fun W => wrongScheme_any (bs x) W (by rw [bs_size]; have := HF.out.slen x (List.mem_of_getElem? hx); omega)
          rw [bs_toList] at hcall
          have hd := HK.out trivial
          rw [any_step hx] at hd
          obtain ⟨K, hK⟩ : ∃ K, wrongSchemeP x = K := ⟨_, rfl⟩
          rw [hK] at hcall hd
          obtain ⟨S, hS⟩ : ∃ S, bs x = S := ⟨_, rfl⟩
          rw [hS] at hc1 hcall
          have HC := hid hcall
          have HD := hid (fun (_ : True) => hd)
          clear hx hcall hd hK hS HK HNA hW1
          cases K
          · go_wp2_with (go_at_call 72; refine (HC.out _).mono ?_; rintro e w2 ⟨rfl, rfl⟩)
            have HE := hid (fun (_ : True) => (by have := HD.out trivial; rwa [Bool.false_or] at this : (P.schemes.drop (j + 1)).any wrongSchemeP = R2))
            go_roundw
            case rel => first | exact ⟨j + 1, rfl, by omega, by first | rfl | trivial, HE⟩ | ((repeat apply Exists.intro); exact ⟨⟨j + 1, rfl, by omega, by first | rfl | trivial, HE⟩, rfl⟩)
            case measure => simp [RowKit.intOf]; omega
          · obtain rfl : R2 = true := by have := HD.out trivial; rw [Bool.true_or] at this; exact this.symm
            go_wp2_with (go_at_call 72; refine (HC.out _).mono ?_; rintro e w2 ⟨rfl, rfl⟩)
            go_ret
            exact ⟨ret_bool (by rw [HRT.out trivial]; rfl), HX.out.1⟩
        · have hmid : (decide (n = 7) && R2) = false := by
            by_cases h : n = 7
            · have := HK.out trivial
              rw [any_done (by have : ¬ j < P.schemes.length := fun h2 => h7 ⟨h, h2⟩; omega)] at this
              rw [← this, Bool.and_false]
            · rw [decide_eq_false h, Bool.false_and]
          have hlast := HRT.out trivial
          rw [hmid, Bool.false_or, Bool.false_or] at hlast
          have HL := hid (fun (_ : True) => hlast)
          have q7 : ((n : Int) == 7 && decide ((j : Int) < (P.schemes.length : Int))) = false := by
            rw [Bool.and_eq_false_iff, beq_eq_false_iff_ne, decide_eq_false_iff_not]
            by_cases h : n = 7
            · exact .inr (fun h2 => h7 ⟨h, by omega⟩)
            · exact .inl (by omega)
          have hnames := HNA.out wr (HP.out.rules.below HX.out.1)
          have HNM := hid hnames
          clear HK h7 hmid hlast hnames HNA hW1 HRT
          have finish : ∀ W2, Below w.heap.size w W2 → (decide (n = 9) && R3) = false → (Ending.returned (.bool false) = Ending.returned (.bool RT) ∧ Below w.heap.size w W2) := fun W2 hb hf => ⟨ret_bool (by rw [HL.out trivial, hf]), hb⟩
          have HFIN := hid finish
          clear finish
          by_cases hn7 : n = 7
          · have q9 : ((n : Int) == 7) = true := by rw [beq_iff_eq]; omega
            have q8 : ¬ ((j : Int) < (P.schemes.length : Int)) := by rw [q9, Bool.true_and] at q7; exact of_decide_eq_false q7
            have q1 : ((n : Int) == 9) = false := by rw [beq_eq_false_iff_ne]; omega
            have HN9 := hid (fun (_ : True) => (by rw [decide_eq_false (by omega), Bool.false_and] : (decide (n = 9) && R3) = false))
            clear q7 hn7
            go_wp2_with (go_at_call 48; refine HNM.out.mono ?_; rintro e w2 ⟨nv, rfl, hnw, b2⟩)
            have HZ := hid (And.intro (HX.out.1.trans (b2.mono HX.out.1.size)) ((b2.block _ (block_lt HX.out.2)).trans HX.out.2))
            clear hnw b2 HNM HX c0 c1 c2 c3 c4 q9 q8
            go_loopw [8] (fun iv wr3 => iv = .int .i64 0 ∧ wr3 = w2) (fun iv _ => 0)
            case atStart => exact ⟨rfl, rfl⟩
            case round =>
              obtain ⟨rfl, rfl⟩ := hrel
              go_wp2
              go_ret
              exact HFIN.out _ HZ.out.1 (HN9.out trivial)
          · have q8 : ((n : Int) == 7) = false := by rw [beq_eq_false_iff_ne]; omega
            clear q7
            go_wp2_with (go_at_call 48; refine HNM.out.mono ?_; rintro e w2 ⟨nv, rfl, hnw, b2⟩)
            have HZ := hid (And.intro (HX.out.1.trans (b2.mono HX.out.1.size)) ((b2.block _ (block_lt HX.out.2)).trans HX.out.2))
            obtain ⟨np, nc, hnv, _⟩ := hnw.len
            rw [List.length_map] at hnv
            subst hnv
            have HNW := hid hnw
            clear hnw b2 HNM HX c0 c1 c2 c3 c4
            clear q8
            obtain ⟨c0, c1, c2, c3, c4⟩ := polC_at (P := P) HZ.out.2
            go_loopw [8] (fun iv wr3 => ∃ i : Nat, iv = .int .i64 i ∧ i ≤ P.drop.length ∧ wr3 = w2 ∧ Hid (True → (P.drop.drop i).any (wrongDropP (P.rules.map Prod.fst)) = R3)) (fun iv _ => P.drop.length - (RowKit.intOf iv).toNat)
            case atStart => exact ⟨0, rfl, Nat.zero_le _, rfl, hid (fun _ => HRR.out.2.2)⟩
            case round =>
              obtain ⟨i, rfl, hi, rfl, HK⟩ := hrel
              by_cases h9 : n = 9 ∧ i < P.drop.length
              · obtain ⟨h9, hil⟩ := h9
                have q1 : ((n : Int) == 9) = true := by rw [beq_iff_eq]; omega
                obtain ⟨x, hx⟩ : ∃ x, P.drop[i]? = some x := ⟨_, List.getElem?_eq_getElem hil⟩
                obtain ⟨b, o, rfl, hc1⟩ := HD3.out i x hx
                replace hc1 := cell_low hc1 HZ.out.1 (cell_block hc1)
                have hcall := wrongDrop_any (bs x) _ _ _ (by rw [bs_size]; have := HF.out.dlen x (List.mem_of_getElem? hx); omega) HNW.out (by rw [List.length_map]; omega)
                rw [bs_toList] at hcall
                have hd := HK.out trivial
                rw [any_step hx] at hd
                obtain ⟨K, hK⟩ : ∃ K, wrongDropP (P.rules.map Prod.fst) x = K := ⟨_, rfl⟩
                rw [hK] at hcall hd
                obtain ⟨S, hS⟩ : ∃ S, bs x = S := ⟨_, rfl⟩
                rw [hS] at hc1 hcall
                have HC := hid hcall
                have HD := hid (fun (_ : True) => hd)
                clear hx hcall hd hK hS HK h9
                cases K
                · go_wp2_with (go_at_call 73; refine HC.out.mono ?_; rintro e w4 ⟨rfl, rfl⟩)
                  have HE := hid (fun (_ : True) => (by have := HD.out trivial; rwa [Bool.false_or] at this : (P.drop.drop (i + 1)).any (wrongDropP (P.rules.map Prod.fst)) = R3))
                  go_roundw
                  case rel => first | exact ⟨i + 1, rfl, by omega, by first | rfl | trivial, HE⟩ | ((repeat apply Exists.intro); exact ⟨⟨i + 1, rfl, by omega, by first | rfl | trivial, HE⟩, rfl⟩)
                  case measure => simp [RowKit.intOf]; omega
                · obtain rfl : R3 = true := by have := HD.out trivial; rw [Bool.true_or] at this; exact this.symm
                  have n9 : n = 9 := by have := of_decide_eq_true q1; omega
                  go_wp2_with (go_at_call 73; refine HC.out.mono ?_; rintro e w4 ⟨rfl, rfl⟩)
                  go_ret
                  exact ⟨ret_bool (by rw [HL.out trivial, decide_eq_true n9]; rfl), HZ.out.1⟩
              · have hfin : (decide (n = 9) && R3) = false := by
                  by_cases h : n = 9
                  · have := HK.out trivial
                    rw [any_done (by have : ¬ i < P.drop.length := fun h2 => h9 ⟨h, h2⟩; omega)] at this
                    rw [← this, Bool.and_false]
                  · rw [decide_eq_false h, Bool.false_and]
                have HFI := hid (fun (_ : True) => hfin)
                by_cases hn9 : n = 9
                · have q1 : ((n : Int) == 9) = true := by rw [beq_iff_eq]; omega
                  have q2 : ¬ ((i : Int) < (P.drop.length : Int)) := fun h2 => h9 ⟨hn9, by omega⟩
                  clear HK h9 hfin hn9
                  go_wp2
                  go_ret
                  exact ⟨ret_bool (by rw [HL.out trivial, HFI.out trivial]), HZ.out.1⟩
                · have q1 : ((n : Int) == 9) = false := by rw [beq_eq_false_iff_ne]; omega
                  clear HK h9 hfin hn9
                  go_wp2
                  go_ret
                  exact ⟨ret_bool (by rw [HL.out trivial, HFI.out trivial]), HZ.out.1⟩
end Go.Proofs.YtkcgmimldjeaiaaGreatDoor

/-
  The reference's wrong and Check: their walks.
-/
namespace Go.Proofs.YtkcgmimldjeaiaaGreatDoor
open Go.RowKit Go.Lib Own

def partsP (N : List (List UInt8)) : Bool := ((N.contains [117, 108] || N.contains [111, 108]) && !N.contains [108, 105]) || (N.contains [116, 97, 98, 108, 101] && !(N.contains [116, 98, 111, 100, 121] && (N.contains [116, 114] && N.contains [116, 100])))
def wrongP (n : Nat) (P : PolP) : Bool :=
  if n = 1 then decide (P.depth < 1 ∨ 256 < P.depth) else if n = 2 then decide (P.window < 32 ∨ 4096 < P.window) else if n = 4 then twiceL (P.rules.map Prod.fst)
  else if n = 7 then decide (32 < P.schemes.length) || anyWrongP 7 P else if n = 8 then twiceL P.schemes else if n = 9 then (decide (64 < P.drop.length) || twiceL P.drop) || anyWrongP 9 P
  else if n = 10 then partsP (P.rules.map Prod.fst) else anyWrongP n P

set_option maxHeartbeats 4000000 in
set_option maxRecDepth 100000 in
theorem wrong_1 (vr vs vd : Value) (P : PolP) (w : World) (h : PolR w vr vs vd P) (hF : P.Few) (hT : AttrTab w) :
    Calls Tryz.prog 28 #[.int .i64 1, .agg (polC vr vs vd P)] w fun e w' => e = .returned (.bool (decide (P.depth < 1 ∨ 256 < P.depth))) ∧ Below w.heap.size w w' := by
  have f1 := hF.rules
  have f2 := hF.schemes
  have f3 := hF.drop
  have g0 := hF.d0
  have g1 := hF.d1
  have g2 := hF.w0
  have g3 := hF.w1
  have hb0 := heap_alloc_new w (.cells (polC vr vs vd P) 25)
  have hbel0 : Below w.heap.size w (w.alloc (.cells (polC vr vs vd P) 25)) := (Below.refl w.heap.size w).alloc (Nat.le_refl _) _
  have hna := fun W hW => refNames_any vr vs vd P W hW f1
  have HNA := hid hna
  have HP := hid h
  have HF := hid hF
  have HT := hid hT
  obtain ⟨W1, hW1⟩ : ∃ W1, w.alloc (.cells (polC vr vs vd P) 25) = W1 := ⟨_, rfl⟩
  rw [hW1] at hb0 hbel0
  obtain ⟨rp, rc, hvr, _⟩ := h.rules
  obtain ⟨sp, sc, hvs, _⟩ := h.schemes
  obtain ⟨dp, dc, hvd, _⟩ := h.drop
  subst hvr hvs hvd
  obtain ⟨c0, c1, c2, c3, c4⟩ := polC_at (P := P) hb0
  have H0 := hid (And.intro hbel0 hb0)
  have HNM := hid (HNA.out W1 (HP.out.rules.below H0.out.1))
  clear h hF hT hna hb0 hbel0
  unfold polC at HNM hW1 ⊢
  go_enter Tryz.func28, Tryz.ntmps28
  go_wp2_with (go_at_call 48; refine HNM.out.mono ?_; rintro e w2 ⟨nv, rfl, hnw, b2⟩; have HZ := hid (And.intro (H0.out.1.trans (b2.mono H0.out.1.size)) ((b2.block _ (block_lt H0.out.2)).trans H0.out.2)); obtain ⟨c0, c1, c2, c3, c4⟩ := polC_at (P := P) HZ.out.2; have HNW := hid hnw; clear hnw b2)
  all_goals go_ret
  all_goals exact ⟨ret_bool (by first | rfl | (symm; apply decide_eq_true; omega) | (symm; apply decide_eq_false; omega) | (rw [Bool.eq_iff_iff]; simp <;> omega)), HZ.out.1⟩
set_option maxHeartbeats 4000000 in
set_option maxRecDepth 100000 in
theorem wrong_2 (vr vs vd : Value) (P : PolP) (w : World) (h : PolR w vr vs vd P) (hF : P.Few) (hT : AttrTab w) :
    Calls Tryz.prog 28 #[.int .i64 2, .agg (polC vr vs vd P)] w fun e w' => e = .returned (.bool (decide (P.window < 32 ∨ 4096 < P.window))) ∧ Below w.heap.size w w' := by
  have f1 := hF.rules
  have f2 := hF.schemes
  have f3 := hF.drop
  have g0 := hF.d0
  have g1 := hF.d1
  have g2 := hF.w0
  have g3 := hF.w1
  have hb0 := heap_alloc_new w (.cells (polC vr vs vd P) 25)
  have hbel0 : Below w.heap.size w (w.alloc (.cells (polC vr vs vd P) 25)) := (Below.refl w.heap.size w).alloc (Nat.le_refl _) _
  have hna := fun W hW => refNames_any vr vs vd P W hW f1
  have HNA := hid hna
  have HP := hid h
  have HF := hid hF
  have HT := hid hT
  obtain ⟨W1, hW1⟩ : ∃ W1, w.alloc (.cells (polC vr vs vd P) 25) = W1 := ⟨_, rfl⟩
  rw [hW1] at hb0 hbel0
  obtain ⟨rp, rc, hvr, _⟩ := h.rules
  obtain ⟨sp, sc, hvs, _⟩ := h.schemes
  obtain ⟨dp, dc, hvd, _⟩ := h.drop
  subst hvr hvs hvd
  obtain ⟨c0, c1, c2, c3, c4⟩ := polC_at (P := P) hb0
  have H0 := hid (And.intro hbel0 hb0)
  have HNM := hid (HNA.out W1 (HP.out.rules.below H0.out.1))
  clear h hF hT hna hb0 hbel0
  unfold polC at HNM hW1 ⊢
  go_enter Tryz.func28, Tryz.ntmps28
  go_wp2_with (go_at_call 48; refine HNM.out.mono ?_; rintro e w2 ⟨nv, rfl, hnw, b2⟩; have HZ := hid (And.intro (H0.out.1.trans (b2.mono H0.out.1.size)) ((b2.block _ (block_lt H0.out.2)).trans H0.out.2)); obtain ⟨c0, c1, c2, c3, c4⟩ := polC_at (P := P) HZ.out.2; have HNW := hid hnw; clear hnw b2)
  all_goals go_ret
  all_goals exact ⟨ret_bool (by first | rfl | (symm; apply decide_eq_true; omega) | (symm; apply decide_eq_false; omega) | (rw [Bool.eq_iff_iff]; simp <;> omega)), HZ.out.1⟩
set_option maxHeartbeats 4000000 in
set_option maxRecDepth 100000 in
theorem wrong_4 (vr vs vd : Value) (P : PolP) (w : World) (h : PolR w vr vs vd P) (hF : P.Few) (hT : AttrTab w) :
    Calls Tryz.prog 28 #[.int .i64 4, .agg (polC vr vs vd P)] w fun e w' => e = .returned (.bool (twiceL (P.rules.map Prod.fst))) ∧ Below w.heap.size w w' := by
  have f1 := hF.rules
  have f2 := hF.schemes
  have f3 := hF.drop
  have g0 := hF.d0
  have g1 := hF.d1
  have g2 := hF.w0
  have g3 := hF.w1
  have hb0 := heap_alloc_new w (.cells (polC vr vs vd P) 25)
  have hbel0 : Below w.heap.size w (w.alloc (.cells (polC vr vs vd P) 25)) := (Below.refl w.heap.size w).alloc (Nat.le_refl _) _
  have hna := fun W hW => refNames_any vr vs vd P W hW f1
  have HNA := hid hna
  have HP := hid h
  have HF := hid hF
  have HT := hid hT
  obtain ⟨W1, hW1⟩ : ∃ W1, w.alloc (.cells (polC vr vs vd P) 25) = W1 := ⟨_, rfl⟩
  rw [hW1] at hb0 hbel0
  obtain ⟨rp, rc, hvr, _⟩ := h.rules
  obtain ⟨sp, sc, hvs, _⟩ := h.schemes
  obtain ⟨dp, dc, hvd, _⟩ := h.drop
  subst hvr hvs hvd
  obtain ⟨c0, c1, c2, c3, c4⟩ := polC_at (P := P) hb0
  have H0 := hid (And.intro hbel0 hb0)
  have HNM := hid (HNA.out W1 (HP.out.rules.below H0.out.1))
  clear h hF hT hna hb0 hbel0
  unfold polC at HNM hW1 ⊢
  go_enter Tryz.func28, Tryz.ntmps28
  go_wp2_with (first | (go_at_call 48; refine HNM.out.mono ?_; rintro e w2 ⟨nv, rfl, hnw, b2⟩; have HZ := hid (And.intro (H0.out.1.trans (b2.mono H0.out.1.size)) ((b2.block _ (block_lt H0.out.2)).trans H0.out.2)); obtain ⟨c0, c1, c2, c3, c4⟩ := polC_at (P := P) HZ.out.2; have HTW := hid (refTwice_any _ _ w2 hnw (by rw [List.length_map]; omega)); clear hnw b2) | (go_at_call 49; refine HTW.out.mono ?_; rintro e w3 ⟨rfl, nd, rfl⟩))
  go_ret
  exact ⟨rfl, below_drewN HZ.out.1 nd⟩
set_option maxHeartbeats 4000000 in
set_option maxRecDepth 100000 in
theorem wrong_8 (vr vs vd : Value) (P : PolP) (w : World) (h : PolR w vr vs vd P) (hF : P.Few) (hT : AttrTab w) :
    Calls Tryz.prog 28 #[.int .i64 8, .agg (polC vr vs vd P)] w fun e w' => e = .returned (.bool (twiceL P.schemes)) ∧ Below w.heap.size w w' := by
  have f1 := hF.rules
  have f2 := hF.schemes
  have f3 := hF.drop
  have g0 := hF.d0
  have g1 := hF.d1
  have g2 := hF.w0
  have g3 := hF.w1
  have hb0 := heap_alloc_new w (.cells (polC vr vs vd P) 25)
  have hbel0 : Below w.heap.size w (w.alloc (.cells (polC vr vs vd P) 25)) := (Below.refl w.heap.size w).alloc (Nat.le_refl _) _
  have hna := fun W hW => refNames_any vr vs vd P W hW f1
  have HNA := hid hna
  have HP := hid h
  have HF := hid hF
  have HT := hid hT
  obtain ⟨W1, hW1⟩ : ∃ W1, w.alloc (.cells (polC vr vs vd P) 25) = W1 := ⟨_, rfl⟩
  rw [hW1] at hb0 hbel0
  obtain ⟨rp, rc, hvr, _⟩ := h.rules
  obtain ⟨sp, sc, hvs, _⟩ := h.schemes
  obtain ⟨dp, dc, hvd, _⟩ := h.drop
  subst hvr hvs hvd
  obtain ⟨c0, c1, c2, c3, c4⟩ := polC_at (P := P) hb0
  have H0 := hid (And.intro hbel0 hb0)
  have HNM := hid (HNA.out W1 (HP.out.rules.below H0.out.1))
  clear h hF hT hna hb0 hbel0
  unfold polC at HNM hW1 ⊢
  go_enter Tryz.func28, Tryz.ntmps28
  go_wp2_with (first | (go_at_call 48; refine HNM.out.mono ?_; rintro e w2 ⟨nv, rfl, hnw, b2⟩; have HZ := hid (And.intro (H0.out.1.trans (b2.mono H0.out.1.size)) ((b2.block _ (block_lt H0.out.2)).trans H0.out.2)); obtain ⟨c0, c1, c2, c3, c4⟩ := polC_at (P := P) HZ.out.2; have HTW := hid (refTwice_any _ _ w2 (HP.out.schemes.below HZ.out.1) (by omega)); clear hnw b2) | (go_at_call 49; refine HTW.out.mono ?_; rintro e w3 ⟨rfl, nd, rfl⟩))
  go_ret
  exact ⟨rfl, below_drewN HZ.out.1 nd⟩
set_option maxHeartbeats 4000000 in
set_option maxRecDepth 100000 in
theorem wrong_any0 (vr vs vd : Value) (P : PolP) (w : World) (h : PolR w vr vs vd P) (hF : P.Few) (hT : AttrTab w) (n : Nat) (hn : n = 3 ∨ n = 5 ∨ n = 6) :
    Calls Tryz.prog 28 #[.int .i64 n, .agg (polC vr vs vd P)] w fun e w' => e = .returned (.bool (anyWrongP n P)) ∧ Below w.heap.size w w' := by
  have f1 := hF.rules
  have f2 := hF.schemes
  have f3 := hF.drop
  have g0 := hF.d0
  have g1 := hF.d1
  have g2 := hF.w0
  have g3 := hF.w1
  have hb0 := heap_alloc_new w (.cells (polC vr vs vd P) 25)
  have hbel0 : Below w.heap.size w (w.alloc (.cells (polC vr vs vd P) 25)) := (Below.refl w.heap.size w).alloc (Nat.le_refl _) _
  have hna := fun W hW => refNames_any vr vs vd P W hW f1
  have HNA := hid hna
  have HP := hid h
  have HF := hid hF
  have HT := hid hT
  obtain ⟨W1, hW1⟩ : ∃ W1, w.alloc (.cells (polC vr vs vd P) 25) = W1 := ⟨_, rfl⟩
  rw [hW1] at hb0 hbel0
  obtain ⟨rp, rc, hvr, _⟩ := h.rules
  obtain ⟨sp, sc, hvs, _⟩ := h.schemes
  obtain ⟨dp, dc, hvd, _⟩ := h.drop
  subst hvr hvs hvd
  obtain ⟨c0, c1, c2, c3, c4⟩ := polC_at (P := P) hb0
  have H0 := hid (And.intro hbel0 hb0)
  have HNM := hid (HNA.out W1 (HP.out.rules.below H0.out.1))
  have haw := fun W hW hTW => anyWrong_any n (by omega) (.slice rp P.rules.length rc) (.slice sp P.schemes.length sc) (.slice dp P.drop.length dc) P W hW hF hTW
  have HAW := hid haw
  clear haw
  unfold polC at HAW
  clear h hF hT hna hb0 hbel0
  unfold polC at HNM hW1 ⊢
  go_enter Tryz.func28, Tryz.ntmps28
  rcases hn with rfl | rfl | rfl
  all_goals go_wp2_with (first | (go_at_call 48; refine HNM.out.mono ?_; rintro e w2 ⟨nv, rfl, hnw, b2⟩; have HZ := hid (And.intro (H0.out.1.trans (b2.mono H0.out.1.size)) ((b2.block _ (block_lt H0.out.2)).trans H0.out.2)); obtain ⟨c0, c1, c2, c3, c4⟩ := polC_at (P := P) HZ.out.2; clear hnw b2) | (go_at_call 50; refine (HAW.out _ (HP.out.below HZ.out.1) (HT.out.below HZ.out.1)).mono ?_; rintro e w3 ⟨rfl, b3⟩))
  all_goals go_ret
  all_goals exact ⟨rfl, HZ.out.1.trans (b3.mono HZ.out.1.size)⟩
set_option maxHeartbeats 4000000 in
set_option maxRecDepth 100000 in
theorem wrong_7 (vr vs vd : Value) (P : PolP) (w : World) (h : PolR w vr vs vd P) (hF : P.Few) (hT : AttrTab w) :
    Calls Tryz.prog 28 #[.int .i64 7, .agg (polC vr vs vd P)] w fun e w' => e = .returned (.bool (decide (32 < P.schemes.length) || anyWrongP 7 P)) ∧ Below w.heap.size w w' := by
  have f1 := hF.rules
  have f2 := hF.schemes
  have f3 := hF.drop
  have g0 := hF.d0
  have g1 := hF.d1
  have g2 := hF.w0
  have g3 := hF.w1
  have hb0 := heap_alloc_new w (.cells (polC vr vs vd P) 25)
  have hbel0 : Below w.heap.size w (w.alloc (.cells (polC vr vs vd P) 25)) := (Below.refl w.heap.size w).alloc (Nat.le_refl _) _
  have hna := fun W hW => refNames_any vr vs vd P W hW f1
  have HNA := hid hna
  have HP := hid h
  have HF := hid hF
  have HT := hid hT
  obtain ⟨W1, hW1⟩ : ∃ W1, w.alloc (.cells (polC vr vs vd P) 25) = W1 := ⟨_, rfl⟩
  rw [hW1] at hb0 hbel0
  obtain ⟨rp, rc, hvr, _⟩ := h.rules
  obtain ⟨sp, sc, hvs, _⟩ := h.schemes
  obtain ⟨dp, dc, hvd, _⟩ := h.drop
  subst hvr hvs hvd
  obtain ⟨c0, c1, c2, c3, c4⟩ := polC_at (P := P) hb0
  have H0 := hid (And.intro hbel0 hb0)
  have HNM := hid (HNA.out W1 (HP.out.rules.below H0.out.1))
  have haw : ∀ W, PolR W (.slice rp P.rules.length rc) (.slice sp P.schemes.length sc) (.slice dp P.drop.length dc) P → AttrTab W → Calls Tryz.prog 50 #[.int .i64 7, .agg (polC (.slice rp P.rules.length rc) (.slice sp P.schemes.length sc) (.slice dp P.drop.length dc) P)] W fun e w' => e = .returned (.bool (anyWrongP 7 P)) ∧ Below W.heap.size W w' := fun W hW hTW => anyWrong_any 7 (by omega) (.slice rp P.rules.length rc) (.slice sp P.schemes.length sc) (.slice dp P.drop.length dc) P W hW hF hTW
  have HAW := hid haw
  clear haw
  unfold polC at HAW
  clear h hF hT hna hb0 hbel0
  unfold polC at HNM hW1 ⊢
  by_cases hl : 32 < P.schemes.length
  · rw [decide_eq_true hl, Bool.true_or]
    go_enter Tryz.func28, Tryz.ntmps28
    go_wp2_with (go_at_call 48; refine HNM.out.mono ?_; rintro e w2 ⟨nv, rfl, hnw, b2⟩; have HZ := hid (And.intro (H0.out.1.trans (b2.mono H0.out.1.size)) ((b2.block _ (block_lt H0.out.2)).trans H0.out.2)); obtain ⟨c0, c1, c2, c3, c4⟩ := polC_at (P := P) HZ.out.2; clear hnw b2)
    go_ret
    exact ⟨rfl, HZ.out.1⟩
  · rw [decide_eq_false hl, Bool.false_or]
    go_enter Tryz.func28, Tryz.ntmps28
    go_wp2_with (first | (go_at_call 48; refine HNM.out.mono ?_; rintro e w2 ⟨nv, rfl, hnw, b2⟩; have HZ := hid (And.intro (H0.out.1.trans (b2.mono H0.out.1.size)) ((b2.block _ (block_lt H0.out.2)).trans H0.out.2)); obtain ⟨c0, c1, c2, c3, c4⟩ := polC_at (P := P) HZ.out.2; clear hnw b2) | (go_at_call 50; refine (HAW.out _ (HP.out.below HZ.out.1) (HT.out.below HZ.out.1)).mono ?_; rintro e w3 ⟨rfl, b3⟩))
    go_ret
    exact ⟨rfl, HZ.out.1.trans (b3.mono HZ.out.1.size)⟩
set_option maxHeartbeats 4000000 in
set_option maxRecDepth 100000 in
theorem wrong_9 (vr vs vd : Value) (P : PolP) (w : World) (h : PolR w vr vs vd P) (hF : P.Few) (hT : AttrTab w) :
    Calls Tryz.prog 28 #[.int .i64 9, .agg (polC vr vs vd P)] w fun e w' => e = .returned (.bool ((decide (64 < P.drop.length) || twiceL P.drop) || anyWrongP 9 P)) ∧ Below w.heap.size w w' := by
  have f1 := hF.rules
  have f2 := hF.schemes
  have f3 := hF.drop
  have g0 := hF.d0
  have g1 := hF.d1
  have g2 := hF.w0
  have g3 := hF.w1
  have hb0 := heap_alloc_new w (.cells (polC vr vs vd P) 25)
  have hbel0 : Below w.heap.size w (w.alloc (.cells (polC vr vs vd P) 25)) := (Below.refl w.heap.size w).alloc (Nat.le_refl _) _
  have hna := fun W hW => refNames_any vr vs vd P W hW f1
  have HNA := hid hna
  have HP := hid h
  have HF := hid hF
  have HT := hid hT
  obtain ⟨W1, hW1⟩ : ∃ W1, w.alloc (.cells (polC vr vs vd P) 25) = W1 := ⟨_, rfl⟩
  rw [hW1] at hb0 hbel0
  obtain ⟨rp, rc, hvr, _⟩ := h.rules
  obtain ⟨sp, sc, hvs, _⟩ := h.schemes
  obtain ⟨dp, dc, hvd, _⟩ := h.drop
  subst hvr hvs hvd
  obtain ⟨c0, c1, c2, c3, c4⟩ := polC_at (P := P) hb0
  have H0 := hid (And.intro hbel0 hb0)
  have HNM := hid (HNA.out W1 (HP.out.rules.below H0.out.1))
  have haw : ∀ W, PolR W (.slice rp P.rules.length rc) (.slice sp P.schemes.length sc) (.slice dp P.drop.length dc) P → AttrTab W → Calls Tryz.prog 50 #[.int .i64 9, .agg (polC (.slice rp P.rules.length rc) (.slice sp P.schemes.length sc) (.slice dp P.drop.length dc) P)] W fun e w' => e = .returned (.bool (anyWrongP 9 P)) ∧ Below W.heap.size W w' := fun W hW hTW => anyWrong_any 9 (by omega) (.slice rp P.rules.length rc) (.slice sp P.schemes.length sc) (.slice dp P.drop.length dc) P W hW hF hTW
  have HAW := hid haw
  clear haw
  unfold polC at HAW
  clear h hF hT hna hb0 hbel0
  unfold polC at HNM hW1 ⊢
  by_cases hl : 64 < P.drop.length
  · rw [decide_eq_true hl, Bool.true_or, Bool.true_or]
    go_enter Tryz.func28, Tryz.ntmps28
    go_wp2_with (go_at_call 48; refine HNM.out.mono ?_; rintro e w2 ⟨nv, rfl, hnw, b2⟩; have HZ := hid (And.intro (H0.out.1.trans (b2.mono H0.out.1.size)) ((b2.block _ (block_lt H0.out.2)).trans H0.out.2)); obtain ⟨c0, c1, c2, c3, c4⟩ := polC_at (P := P) HZ.out.2; clear hnw b2)
    go_ret
    exact ⟨rfl, HZ.out.1⟩
  · rw [decide_eq_false hl, Bool.false_or]
    have htw := fun W hW => refTwice_any (.slice dp P.drop.length dc) P.drop W hW (by omega)
    obtain ⟨TW, hTW⟩ : ∃ TW, twiceL P.drop = TW := ⟨_, rfl⟩
    rw [hTW] at htw ⊢
    have HTW := hid htw
    clear htw hTW
    cases TW
    · rw [Bool.false_or]
      go_enter Tryz.func28, Tryz.ntmps28
      go_wp2_with (first | (go_at_call 48; refine HNM.out.mono ?_; rintro e w2 ⟨nv, rfl, hnw, b2⟩; have HZ := hid (And.intro (H0.out.1.trans (b2.mono H0.out.1.size)) ((b2.block _ (block_lt H0.out.2)).trans H0.out.2)); obtain ⟨c0, c1, c2, c3, c4⟩ := polC_at (P := P) HZ.out.2; clear hnw b2) | (go_at_call 49; refine (HTW.out _ (HP.out.drop.below HZ.out.1)).mono ?_; rintro e w3 ⟨rfl, nd, rfl⟩; have HY := hid (And.intro (below_drewN HZ.out.1 nd) HZ.out.2)) | (go_at_call 50; refine (HAW.out _ (HP.out.below HY.out.1) (HT.out.below HY.out.1)).mono ?_; rintro e w3 ⟨rfl, b3⟩))
      go_ret
      exact ⟨rfl, HY.out.1.trans (b3.mono HY.out.1.size)⟩
    · rw [Bool.true_or]
      go_enter Tryz.func28, Tryz.ntmps28
      go_wp2_with (first | (go_at_call 48; refine HNM.out.mono ?_; rintro e w2 ⟨nv, rfl, hnw, b2⟩; have HZ := hid (And.intro (H0.out.1.trans (b2.mono H0.out.1.size)) ((b2.block _ (block_lt H0.out.2)).trans H0.out.2)); obtain ⟨c0, c1, c2, c3, c4⟩ := polC_at (P := P) HZ.out.2; clear hnw b2) | (go_at_call 49; refine (HTW.out _ (HP.out.drop.below HZ.out.1)).mono ?_; rintro e w3 ⟨rfl, nd, rfl⟩; have HY := hid (And.intro (below_drewN HZ.out.1 nd) HZ.out.2)))
      go_ret
      exact ⟨rfl, HY.out.1⟩
set_option maxHeartbeats 4000000 in
set_option maxRecDepth 100000 in
theorem wrong_10 (vr vs vd : Value) (P : PolP) (w : World) (h : PolR w vr vs vd P) (hF : P.Few) (hT : AttrTab w) :
    Calls Tryz.prog 28 #[.int .i64 10, .agg (polC vr vs vd P)] w fun e w' => e = .returned (.bool (partsP (P.rules.map Prod.fst))) ∧ Below w.heap.size w w' := by
  have f1 := hF.rules
  have f2 := hF.schemes
  have f3 := hF.drop
  have g0 := hF.d0
  have g1 := hF.d1
  have g2 := hF.w0
  have g3 := hF.w1
  have hb0 := heap_alloc_new w (.cells (polC vr vs vd P) 25)
  have hbel0 : Below w.heap.size w (w.alloc (.cells (polC vr vs vd P) 25)) := (Below.refl w.heap.size w).alloc (Nat.le_refl _) _
  have hna := fun W hW => refNames_any vr vs vd P W hW f1
  have HNA := hid hna
  have HP := hid h
  have HF := hid hF
  have HT := hid hT
  obtain ⟨W1, hW1⟩ : ∃ W1, w.alloc (.cells (polC vr vs vd P) 25) = W1 := ⟨_, rfl⟩
  rw [hW1] at hb0 hbel0
  obtain ⟨rp, rc, hvr, _⟩ := h.rules
  obtain ⟨sp, sc, hvs, _⟩ := h.schemes
  obtain ⟨dp, dc, hvd, _⟩ := h.drop
  subst hvr hvs hvd
  obtain ⟨c0, c1, c2, c3, c4⟩ := polC_at (P := P) hb0
  have H0 := hid (And.intro hbel0 hb0)
  have HNM := hid (HNA.out W1 (HP.out.rules.below H0.out.1))
  obtain ⟨NMS, hNMS⟩ : ∃ NMS, P.rules.map Prod.fst = NMS := ⟨_, rfl⟩
  have hnl : NMS.length ≤ 100000000 := by rw [← hNMS, List.length_map]; omega
  rw [hNMS] at HNM ⊢
  have hU : ∀ nv W, Words W nv NMS → Calls Tryz.prog 14 #[nv, .string ⟨#[117, 108]⟩] W fun e w' => e = .returned (.bool (NMS.contains [117, 108])) ∧ w' = W := fun nv W hW => by
    have := holds_any nv NMS (bs [117, 108]) W hW hnl
    rw [bs_toList] at this
    exact this
  have hO : ∀ nv W, Words W nv NMS → Calls Tryz.prog 14 #[nv, .string ⟨#[111, 108]⟩] W fun e w' => e = .returned (.bool (NMS.contains [111, 108])) ∧ w' = W := fun nv W hW => by
    have := holds_any nv NMS (bs [111, 108]) W hW hnl
    rw [bs_toList] at this
    exact this
  have hL : ∀ nv W, Words W nv NMS → Calls Tryz.prog 14 #[nv, .string ⟨#[108, 105]⟩] W fun e w' => e = .returned (.bool (NMS.contains [108, 105])) ∧ w' = W := fun nv W hW => by
    have := holds_any nv NMS (bs [108, 105]) W hW hnl
    rw [bs_toList] at this
    exact this
  have hT : ∀ nv W, Words W nv NMS → Calls Tryz.prog 14 #[nv, .string ⟨#[116, 97, 98, 108, 101]⟩] W fun e w' => e = .returned (.bool (NMS.contains [116, 97, 98, 108, 101])) ∧ w' = W := fun nv W hW => by
    have := holds_any nv NMS (bs [116, 97, 98, 108, 101]) W hW hnl
    rw [bs_toList] at this
    exact this
  have hB : ∀ nv W, Words W nv NMS → Calls Tryz.prog 14 #[nv, .string ⟨#[116, 98, 111, 100, 121]⟩] W fun e w' => e = .returned (.bool (NMS.contains [116, 98, 111, 100, 121])) ∧ w' = W := fun nv W hW => by
    have := holds_any nv NMS (bs [116, 98, 111, 100, 121]) W hW hnl
    rw [bs_toList] at this
    exact this
  have hR : ∀ nv W, Words W nv NMS → Calls Tryz.prog 14 #[nv, .string ⟨#[116, 114]⟩] W fun e w' => e = .returned (.bool (NMS.contains [116, 114])) ∧ w' = W := fun nv W hW => by
    have := holds_any nv NMS (bs [116, 114]) W hW hnl
    rw [bs_toList] at this
    exact this
  have hD : ∀ nv W, Words W nv NMS → Calls Tryz.prog 14 #[nv, .string ⟨#[116, 100]⟩] W fun e w' => e = .returned (.bool (NMS.contains [116, 100])) ∧ w' = W := fun nv W hW => by
    have := holds_any nv NMS (bs [116, 100]) W hW hnl
    rw [bs_toList] at this
    exact this
  unfold partsP
  obtain ⟨U, eU⟩ : ∃ U, NMS.contains [117, 108] = U := ⟨_, rfl⟩
  rw [eU] at hU ⊢
  clear eU
  have HU := hid hU
  clear hU
  obtain ⟨O, eO⟩ : ∃ O, NMS.contains [111, 108] = O := ⟨_, rfl⟩
  rw [eO] at hO ⊢
  clear eO
  have HO := hid hO
  clear hO
  obtain ⟨L, eL⟩ : ∃ L, NMS.contains [108, 105] = L := ⟨_, rfl⟩
  rw [eL] at hL ⊢
  clear eL
  have HL := hid hL
  clear hL
  obtain ⟨T, eT⟩ : ∃ T, NMS.contains [116, 97, 98, 108, 101] = T := ⟨_, rfl⟩
  rw [eT] at hT ⊢
  clear eT
  have HT := hid hT
  clear hT
  obtain ⟨B, eB⟩ : ∃ B, NMS.contains [116, 98, 111, 100, 121] = B := ⟨_, rfl⟩
  rw [eB] at hB ⊢
  clear eB
  have HB := hid hB
  clear hB
  obtain ⟨R, eR⟩ : ∃ R, NMS.contains [116, 114] = R := ⟨_, rfl⟩
  rw [eR] at hR ⊢
  clear eR
  have HR := hid hR
  clear hR
  obtain ⟨D, eD⟩ : ∃ D, NMS.contains [116, 100] = D := ⟨_, rfl⟩
  rw [eD] at hD ⊢
  clear eD
  have HD := hid hD
  clear hD
  clear hNMS hnl h hF hT hna hb0 hbel0
  unfold polC at HNM hW1 ⊢
  cases U
  · skip
    cases O
    · skip
      cases B
      · skip
        cases T
        · skip
          go_enter Tryz.func28, Tryz.ntmps28
          go_wp2_with (first | (go_at_call 48; refine HNM.out.mono ?_; rintro e w2 ⟨nv, rfl, hnw, b2⟩; have HZ := hid (And.intro (H0.out.1.trans (b2.mono H0.out.1.size)) ((b2.block _ (block_lt H0.out.2)).trans H0.out.2)); obtain ⟨c0, c1, c2, c3, c4⟩ := polC_at (P := P) HZ.out.2; obtain ⟨np, nc, hnv, _⟩ := hnw.len; subst hnv; have HNW := hid hnw; clear hnw b2) | (go_at_call 14; with_reducible refine (HU.out _ _ HNW.out).mono ?_; rintro e w3 ⟨rfl, rfl⟩) | (go_at_call 14; with_reducible refine (HO.out _ _ HNW.out).mono ?_; rintro e w3 ⟨rfl, rfl⟩) | (go_at_call 14; with_reducible refine (HL.out _ _ HNW.out).mono ?_; rintro e w3 ⟨rfl, rfl⟩) | (go_at_call 14; with_reducible refine (HT.out _ _ HNW.out).mono ?_; rintro e w3 ⟨rfl, rfl⟩) | (go_at_call 14; with_reducible refine (HB.out _ _ HNW.out).mono ?_; rintro e w3 ⟨rfl, rfl⟩) | (go_at_call 14; with_reducible refine (HR.out _ _ HNW.out).mono ?_; rintro e w3 ⟨rfl, rfl⟩) | (go_at_call 14; with_reducible refine (HD.out _ _ HNW.out).mono ?_; rintro e w3 ⟨rfl, rfl⟩))
          go_ret
          exact ⟨ret_bool (by simp), HZ.out.1⟩
        · skip
          go_enter Tryz.func28, Tryz.ntmps28
          go_wp2_with (first | (go_at_call 48; refine HNM.out.mono ?_; rintro e w2 ⟨nv, rfl, hnw, b2⟩; have HZ := hid (And.intro (H0.out.1.trans (b2.mono H0.out.1.size)) ((b2.block _ (block_lt H0.out.2)).trans H0.out.2)); obtain ⟨c0, c1, c2, c3, c4⟩ := polC_at (P := P) HZ.out.2; obtain ⟨np, nc, hnv, _⟩ := hnw.len; subst hnv; have HNW := hid hnw; clear hnw b2) | (go_at_call 14; with_reducible refine (HU.out _ _ HNW.out).mono ?_; rintro e w3 ⟨rfl, rfl⟩) | (go_at_call 14; with_reducible refine (HO.out _ _ HNW.out).mono ?_; rintro e w3 ⟨rfl, rfl⟩) | (go_at_call 14; with_reducible refine (HL.out _ _ HNW.out).mono ?_; rintro e w3 ⟨rfl, rfl⟩) | (go_at_call 14; with_reducible refine (HT.out _ _ HNW.out).mono ?_; rintro e w3 ⟨rfl, rfl⟩) | (go_at_call 14; with_reducible refine (HB.out _ _ HNW.out).mono ?_; rintro e w3 ⟨rfl, rfl⟩) | (go_at_call 14; with_reducible refine (HR.out _ _ HNW.out).mono ?_; rintro e w3 ⟨rfl, rfl⟩) | (go_at_call 14; with_reducible refine (HD.out _ _ HNW.out).mono ?_; rintro e w3 ⟨rfl, rfl⟩))
          go_ret
          exact ⟨ret_bool (by simp), HZ.out.1⟩
      · skip
        cases R
        · skip
          cases T
          · skip
            go_enter Tryz.func28, Tryz.ntmps28
            go_wp2_with (first | (go_at_call 48; refine HNM.out.mono ?_; rintro e w2 ⟨nv, rfl, hnw, b2⟩; have HZ := hid (And.intro (H0.out.1.trans (b2.mono H0.out.1.size)) ((b2.block _ (block_lt H0.out.2)).trans H0.out.2)); obtain ⟨c0, c1, c2, c3, c4⟩ := polC_at (P := P) HZ.out.2; obtain ⟨np, nc, hnv, _⟩ := hnw.len; subst hnv; have HNW := hid hnw; clear hnw b2) | (go_at_call 14; with_reducible refine (HU.out _ _ HNW.out).mono ?_; rintro e w3 ⟨rfl, rfl⟩) | (go_at_call 14; with_reducible refine (HO.out _ _ HNW.out).mono ?_; rintro e w3 ⟨rfl, rfl⟩) | (go_at_call 14; with_reducible refine (HL.out _ _ HNW.out).mono ?_; rintro e w3 ⟨rfl, rfl⟩) | (go_at_call 14; with_reducible refine (HT.out _ _ HNW.out).mono ?_; rintro e w3 ⟨rfl, rfl⟩) | (go_at_call 14; with_reducible refine (HB.out _ _ HNW.out).mono ?_; rintro e w3 ⟨rfl, rfl⟩) | (go_at_call 14; with_reducible refine (HR.out _ _ HNW.out).mono ?_; rintro e w3 ⟨rfl, rfl⟩) | (go_at_call 14; with_reducible refine (HD.out _ _ HNW.out).mono ?_; rintro e w3 ⟨rfl, rfl⟩))
            go_ret
            exact ⟨ret_bool (by simp), HZ.out.1⟩
          · skip
            go_enter Tryz.func28, Tryz.ntmps28
            go_wp2_with (first | (go_at_call 48; refine HNM.out.mono ?_; rintro e w2 ⟨nv, rfl, hnw, b2⟩; have HZ := hid (And.intro (H0.out.1.trans (b2.mono H0.out.1.size)) ((b2.block _ (block_lt H0.out.2)).trans H0.out.2)); obtain ⟨c0, c1, c2, c3, c4⟩ := polC_at (P := P) HZ.out.2; obtain ⟨np, nc, hnv, _⟩ := hnw.len; subst hnv; have HNW := hid hnw; clear hnw b2) | (go_at_call 14; with_reducible refine (HU.out _ _ HNW.out).mono ?_; rintro e w3 ⟨rfl, rfl⟩) | (go_at_call 14; with_reducible refine (HO.out _ _ HNW.out).mono ?_; rintro e w3 ⟨rfl, rfl⟩) | (go_at_call 14; with_reducible refine (HL.out _ _ HNW.out).mono ?_; rintro e w3 ⟨rfl, rfl⟩) | (go_at_call 14; with_reducible refine (HT.out _ _ HNW.out).mono ?_; rintro e w3 ⟨rfl, rfl⟩) | (go_at_call 14; with_reducible refine (HB.out _ _ HNW.out).mono ?_; rintro e w3 ⟨rfl, rfl⟩) | (go_at_call 14; with_reducible refine (HR.out _ _ HNW.out).mono ?_; rintro e w3 ⟨rfl, rfl⟩) | (go_at_call 14; with_reducible refine (HD.out _ _ HNW.out).mono ?_; rintro e w3 ⟨rfl, rfl⟩))
            go_ret
            exact ⟨ret_bool (by simp), HZ.out.1⟩
        · skip
          cases D
          · skip
            cases T
            · skip
              go_enter Tryz.func28, Tryz.ntmps28
              go_wp2_with (first | (go_at_call 48; refine HNM.out.mono ?_; rintro e w2 ⟨nv, rfl, hnw, b2⟩; have HZ := hid (And.intro (H0.out.1.trans (b2.mono H0.out.1.size)) ((b2.block _ (block_lt H0.out.2)).trans H0.out.2)); obtain ⟨c0, c1, c2, c3, c4⟩ := polC_at (P := P) HZ.out.2; obtain ⟨np, nc, hnv, _⟩ := hnw.len; subst hnv; have HNW := hid hnw; clear hnw b2) | (go_at_call 14; with_reducible refine (HU.out _ _ HNW.out).mono ?_; rintro e w3 ⟨rfl, rfl⟩) | (go_at_call 14; with_reducible refine (HO.out _ _ HNW.out).mono ?_; rintro e w3 ⟨rfl, rfl⟩) | (go_at_call 14; with_reducible refine (HL.out _ _ HNW.out).mono ?_; rintro e w3 ⟨rfl, rfl⟩) | (go_at_call 14; with_reducible refine (HT.out _ _ HNW.out).mono ?_; rintro e w3 ⟨rfl, rfl⟩) | (go_at_call 14; with_reducible refine (HB.out _ _ HNW.out).mono ?_; rintro e w3 ⟨rfl, rfl⟩) | (go_at_call 14; with_reducible refine (HR.out _ _ HNW.out).mono ?_; rintro e w3 ⟨rfl, rfl⟩) | (go_at_call 14; with_reducible refine (HD.out _ _ HNW.out).mono ?_; rintro e w3 ⟨rfl, rfl⟩))
              go_ret
              exact ⟨ret_bool (by simp), HZ.out.1⟩
            · skip
              go_enter Tryz.func28, Tryz.ntmps28
              go_wp2_with (first | (go_at_call 48; refine HNM.out.mono ?_; rintro e w2 ⟨nv, rfl, hnw, b2⟩; have HZ := hid (And.intro (H0.out.1.trans (b2.mono H0.out.1.size)) ((b2.block _ (block_lt H0.out.2)).trans H0.out.2)); obtain ⟨c0, c1, c2, c3, c4⟩ := polC_at (P := P) HZ.out.2; obtain ⟨np, nc, hnv, _⟩ := hnw.len; subst hnv; have HNW := hid hnw; clear hnw b2) | (go_at_call 14; with_reducible refine (HU.out _ _ HNW.out).mono ?_; rintro e w3 ⟨rfl, rfl⟩) | (go_at_call 14; with_reducible refine (HO.out _ _ HNW.out).mono ?_; rintro e w3 ⟨rfl, rfl⟩) | (go_at_call 14; with_reducible refine (HL.out _ _ HNW.out).mono ?_; rintro e w3 ⟨rfl, rfl⟩) | (go_at_call 14; with_reducible refine (HT.out _ _ HNW.out).mono ?_; rintro e w3 ⟨rfl, rfl⟩) | (go_at_call 14; with_reducible refine (HB.out _ _ HNW.out).mono ?_; rintro e w3 ⟨rfl, rfl⟩) | (go_at_call 14; with_reducible refine (HR.out _ _ HNW.out).mono ?_; rintro e w3 ⟨rfl, rfl⟩) | (go_at_call 14; with_reducible refine (HD.out _ _ HNW.out).mono ?_; rintro e w3 ⟨rfl, rfl⟩))
              go_ret
              exact ⟨ret_bool (by simp), HZ.out.1⟩
          · skip
            cases T
            · skip
              go_enter Tryz.func28, Tryz.ntmps28
              go_wp2_with (first | (go_at_call 48; refine HNM.out.mono ?_; rintro e w2 ⟨nv, rfl, hnw, b2⟩; have HZ := hid (And.intro (H0.out.1.trans (b2.mono H0.out.1.size)) ((b2.block _ (block_lt H0.out.2)).trans H0.out.2)); obtain ⟨c0, c1, c2, c3, c4⟩ := polC_at (P := P) HZ.out.2; obtain ⟨np, nc, hnv, _⟩ := hnw.len; subst hnv; have HNW := hid hnw; clear hnw b2) | (go_at_call 14; with_reducible refine (HU.out _ _ HNW.out).mono ?_; rintro e w3 ⟨rfl, rfl⟩) | (go_at_call 14; with_reducible refine (HO.out _ _ HNW.out).mono ?_; rintro e w3 ⟨rfl, rfl⟩) | (go_at_call 14; with_reducible refine (HL.out _ _ HNW.out).mono ?_; rintro e w3 ⟨rfl, rfl⟩) | (go_at_call 14; with_reducible refine (HT.out _ _ HNW.out).mono ?_; rintro e w3 ⟨rfl, rfl⟩) | (go_at_call 14; with_reducible refine (HB.out _ _ HNW.out).mono ?_; rintro e w3 ⟨rfl, rfl⟩) | (go_at_call 14; with_reducible refine (HR.out _ _ HNW.out).mono ?_; rintro e w3 ⟨rfl, rfl⟩) | (go_at_call 14; with_reducible refine (HD.out _ _ HNW.out).mono ?_; rintro e w3 ⟨rfl, rfl⟩))
              go_ret
              exact ⟨ret_bool (by simp), HZ.out.1⟩
            · skip
              go_enter Tryz.func28, Tryz.ntmps28
              go_wp2_with (first | (go_at_call 48; refine HNM.out.mono ?_; rintro e w2 ⟨nv, rfl, hnw, b2⟩; have HZ := hid (And.intro (H0.out.1.trans (b2.mono H0.out.1.size)) ((b2.block _ (block_lt H0.out.2)).trans H0.out.2)); obtain ⟨c0, c1, c2, c3, c4⟩ := polC_at (P := P) HZ.out.2; obtain ⟨np, nc, hnv, _⟩ := hnw.len; subst hnv; have HNW := hid hnw; clear hnw b2) | (go_at_call 14; with_reducible refine (HU.out _ _ HNW.out).mono ?_; rintro e w3 ⟨rfl, rfl⟩) | (go_at_call 14; with_reducible refine (HO.out _ _ HNW.out).mono ?_; rintro e w3 ⟨rfl, rfl⟩) | (go_at_call 14; with_reducible refine (HL.out _ _ HNW.out).mono ?_; rintro e w3 ⟨rfl, rfl⟩) | (go_at_call 14; with_reducible refine (HT.out _ _ HNW.out).mono ?_; rintro e w3 ⟨rfl, rfl⟩) | (go_at_call 14; with_reducible refine (HB.out _ _ HNW.out).mono ?_; rintro e w3 ⟨rfl, rfl⟩) | (go_at_call 14; with_reducible refine (HR.out _ _ HNW.out).mono ?_; rintro e w3 ⟨rfl, rfl⟩) | (go_at_call 14; with_reducible refine (HD.out _ _ HNW.out).mono ?_; rintro e w3 ⟨rfl, rfl⟩))
              go_ret
              exact ⟨ret_bool (by simp), HZ.out.1⟩
    · skip
      cases B
      · skip
        cases L
        · skip
          go_enter Tryz.func28, Tryz.ntmps28
          go_wp2_with (first | (go_at_call 48; refine HNM.out.mono ?_; rintro e w2 ⟨nv, rfl, hnw, b2⟩; have HZ := hid (And.intro (H0.out.1.trans (b2.mono H0.out.1.size)) ((b2.block _ (block_lt H0.out.2)).trans H0.out.2)); obtain ⟨c0, c1, c2, c3, c4⟩ := polC_at (P := P) HZ.out.2; obtain ⟨np, nc, hnv, _⟩ := hnw.len; subst hnv; have HNW := hid hnw; clear hnw b2) | (go_at_call 14; with_reducible refine (HU.out _ _ HNW.out).mono ?_; rintro e w3 ⟨rfl, rfl⟩) | (go_at_call 14; with_reducible refine (HO.out _ _ HNW.out).mono ?_; rintro e w3 ⟨rfl, rfl⟩) | (go_at_call 14; with_reducible refine (HL.out _ _ HNW.out).mono ?_; rintro e w3 ⟨rfl, rfl⟩) | (go_at_call 14; with_reducible refine (HT.out _ _ HNW.out).mono ?_; rintro e w3 ⟨rfl, rfl⟩) | (go_at_call 14; with_reducible refine (HB.out _ _ HNW.out).mono ?_; rintro e w3 ⟨rfl, rfl⟩) | (go_at_call 14; with_reducible refine (HR.out _ _ HNW.out).mono ?_; rintro e w3 ⟨rfl, rfl⟩) | (go_at_call 14; with_reducible refine (HD.out _ _ HNW.out).mono ?_; rintro e w3 ⟨rfl, rfl⟩))
          go_ret
          exact ⟨ret_bool (by simp), HZ.out.1⟩
        · skip
          cases T
          · skip
            go_enter Tryz.func28, Tryz.ntmps28
            go_wp2_with (first | (go_at_call 48; refine HNM.out.mono ?_; rintro e w2 ⟨nv, rfl, hnw, b2⟩; have HZ := hid (And.intro (H0.out.1.trans (b2.mono H0.out.1.size)) ((b2.block _ (block_lt H0.out.2)).trans H0.out.2)); obtain ⟨c0, c1, c2, c3, c4⟩ := polC_at (P := P) HZ.out.2; obtain ⟨np, nc, hnv, _⟩ := hnw.len; subst hnv; have HNW := hid hnw; clear hnw b2) | (go_at_call 14; with_reducible refine (HU.out _ _ HNW.out).mono ?_; rintro e w3 ⟨rfl, rfl⟩) | (go_at_call 14; with_reducible refine (HO.out _ _ HNW.out).mono ?_; rintro e w3 ⟨rfl, rfl⟩) | (go_at_call 14; with_reducible refine (HL.out _ _ HNW.out).mono ?_; rintro e w3 ⟨rfl, rfl⟩) | (go_at_call 14; with_reducible refine (HT.out _ _ HNW.out).mono ?_; rintro e w3 ⟨rfl, rfl⟩) | (go_at_call 14; with_reducible refine (HB.out _ _ HNW.out).mono ?_; rintro e w3 ⟨rfl, rfl⟩) | (go_at_call 14; with_reducible refine (HR.out _ _ HNW.out).mono ?_; rintro e w3 ⟨rfl, rfl⟩) | (go_at_call 14; with_reducible refine (HD.out _ _ HNW.out).mono ?_; rintro e w3 ⟨rfl, rfl⟩))
            go_ret
            exact ⟨ret_bool (by simp), HZ.out.1⟩
          · skip
            go_enter Tryz.func28, Tryz.ntmps28
            go_wp2_with (first | (go_at_call 48; refine HNM.out.mono ?_; rintro e w2 ⟨nv, rfl, hnw, b2⟩; have HZ := hid (And.intro (H0.out.1.trans (b2.mono H0.out.1.size)) ((b2.block _ (block_lt H0.out.2)).trans H0.out.2)); obtain ⟨c0, c1, c2, c3, c4⟩ := polC_at (P := P) HZ.out.2; obtain ⟨np, nc, hnv, _⟩ := hnw.len; subst hnv; have HNW := hid hnw; clear hnw b2) | (go_at_call 14; with_reducible refine (HU.out _ _ HNW.out).mono ?_; rintro e w3 ⟨rfl, rfl⟩) | (go_at_call 14; with_reducible refine (HO.out _ _ HNW.out).mono ?_; rintro e w3 ⟨rfl, rfl⟩) | (go_at_call 14; with_reducible refine (HL.out _ _ HNW.out).mono ?_; rintro e w3 ⟨rfl, rfl⟩) | (go_at_call 14; with_reducible refine (HT.out _ _ HNW.out).mono ?_; rintro e w3 ⟨rfl, rfl⟩) | (go_at_call 14; with_reducible refine (HB.out _ _ HNW.out).mono ?_; rintro e w3 ⟨rfl, rfl⟩) | (go_at_call 14; with_reducible refine (HR.out _ _ HNW.out).mono ?_; rintro e w3 ⟨rfl, rfl⟩) | (go_at_call 14; with_reducible refine (HD.out _ _ HNW.out).mono ?_; rintro e w3 ⟨rfl, rfl⟩))
            go_ret
            exact ⟨ret_bool (by simp), HZ.out.1⟩
      · skip
        cases R
        · skip
          cases L
          · skip
            go_enter Tryz.func28, Tryz.ntmps28
            go_wp2_with (first | (go_at_call 48; refine HNM.out.mono ?_; rintro e w2 ⟨nv, rfl, hnw, b2⟩; have HZ := hid (And.intro (H0.out.1.trans (b2.mono H0.out.1.size)) ((b2.block _ (block_lt H0.out.2)).trans H0.out.2)); obtain ⟨c0, c1, c2, c3, c4⟩ := polC_at (P := P) HZ.out.2; obtain ⟨np, nc, hnv, _⟩ := hnw.len; subst hnv; have HNW := hid hnw; clear hnw b2) | (go_at_call 14; with_reducible refine (HU.out _ _ HNW.out).mono ?_; rintro e w3 ⟨rfl, rfl⟩) | (go_at_call 14; with_reducible refine (HO.out _ _ HNW.out).mono ?_; rintro e w3 ⟨rfl, rfl⟩) | (go_at_call 14; with_reducible refine (HL.out _ _ HNW.out).mono ?_; rintro e w3 ⟨rfl, rfl⟩) | (go_at_call 14; with_reducible refine (HT.out _ _ HNW.out).mono ?_; rintro e w3 ⟨rfl, rfl⟩) | (go_at_call 14; with_reducible refine (HB.out _ _ HNW.out).mono ?_; rintro e w3 ⟨rfl, rfl⟩) | (go_at_call 14; with_reducible refine (HR.out _ _ HNW.out).mono ?_; rintro e w3 ⟨rfl, rfl⟩) | (go_at_call 14; with_reducible refine (HD.out _ _ HNW.out).mono ?_; rintro e w3 ⟨rfl, rfl⟩))
            go_ret
            exact ⟨ret_bool (by simp), HZ.out.1⟩
          · skip
            cases T
            · skip
              go_enter Tryz.func28, Tryz.ntmps28
              go_wp2_with (first | (go_at_call 48; refine HNM.out.mono ?_; rintro e w2 ⟨nv, rfl, hnw, b2⟩; have HZ := hid (And.intro (H0.out.1.trans (b2.mono H0.out.1.size)) ((b2.block _ (block_lt H0.out.2)).trans H0.out.2)); obtain ⟨c0, c1, c2, c3, c4⟩ := polC_at (P := P) HZ.out.2; obtain ⟨np, nc, hnv, _⟩ := hnw.len; subst hnv; have HNW := hid hnw; clear hnw b2) | (go_at_call 14; with_reducible refine (HU.out _ _ HNW.out).mono ?_; rintro e w3 ⟨rfl, rfl⟩) | (go_at_call 14; with_reducible refine (HO.out _ _ HNW.out).mono ?_; rintro e w3 ⟨rfl, rfl⟩) | (go_at_call 14; with_reducible refine (HL.out _ _ HNW.out).mono ?_; rintro e w3 ⟨rfl, rfl⟩) | (go_at_call 14; with_reducible refine (HT.out _ _ HNW.out).mono ?_; rintro e w3 ⟨rfl, rfl⟩) | (go_at_call 14; with_reducible refine (HB.out _ _ HNW.out).mono ?_; rintro e w3 ⟨rfl, rfl⟩) | (go_at_call 14; with_reducible refine (HR.out _ _ HNW.out).mono ?_; rintro e w3 ⟨rfl, rfl⟩) | (go_at_call 14; with_reducible refine (HD.out _ _ HNW.out).mono ?_; rintro e w3 ⟨rfl, rfl⟩))
              go_ret
              exact ⟨ret_bool (by simp), HZ.out.1⟩
            · skip
              go_enter Tryz.func28, Tryz.ntmps28
              go_wp2_with (first | (go_at_call 48; refine HNM.out.mono ?_; rintro e w2 ⟨nv, rfl, hnw, b2⟩; have HZ := hid (And.intro (H0.out.1.trans (b2.mono H0.out.1.size)) ((b2.block _ (block_lt H0.out.2)).trans H0.out.2)); obtain ⟨c0, c1, c2, c3, c4⟩ := polC_at (P := P) HZ.out.2; obtain ⟨np, nc, hnv, _⟩ := hnw.len; subst hnv; have HNW := hid hnw; clear hnw b2) | (go_at_call 14; with_reducible refine (HU.out _ _ HNW.out).mono ?_; rintro e w3 ⟨rfl, rfl⟩) | (go_at_call 14; with_reducible refine (HO.out _ _ HNW.out).mono ?_; rintro e w3 ⟨rfl, rfl⟩) | (go_at_call 14; with_reducible refine (HL.out _ _ HNW.out).mono ?_; rintro e w3 ⟨rfl, rfl⟩) | (go_at_call 14; with_reducible refine (HT.out _ _ HNW.out).mono ?_; rintro e w3 ⟨rfl, rfl⟩) | (go_at_call 14; with_reducible refine (HB.out _ _ HNW.out).mono ?_; rintro e w3 ⟨rfl, rfl⟩) | (go_at_call 14; with_reducible refine (HR.out _ _ HNW.out).mono ?_; rintro e w3 ⟨rfl, rfl⟩) | (go_at_call 14; with_reducible refine (HD.out _ _ HNW.out).mono ?_; rintro e w3 ⟨rfl, rfl⟩))
              go_ret
              exact ⟨ret_bool (by simp), HZ.out.1⟩
        · skip
          cases D
          · skip
            cases L
            · skip
              go_enter Tryz.func28, Tryz.ntmps28
              go_wp2_with (first | (go_at_call 48; refine HNM.out.mono ?_; rintro e w2 ⟨nv, rfl, hnw, b2⟩; have HZ := hid (And.intro (H0.out.1.trans (b2.mono H0.out.1.size)) ((b2.block _ (block_lt H0.out.2)).trans H0.out.2)); obtain ⟨c0, c1, c2, c3, c4⟩ := polC_at (P := P) HZ.out.2; obtain ⟨np, nc, hnv, _⟩ := hnw.len; subst hnv; have HNW := hid hnw; clear hnw b2) | (go_at_call 14; with_reducible refine (HU.out _ _ HNW.out).mono ?_; rintro e w3 ⟨rfl, rfl⟩) | (go_at_call 14; with_reducible refine (HO.out _ _ HNW.out).mono ?_; rintro e w3 ⟨rfl, rfl⟩) | (go_at_call 14; with_reducible refine (HL.out _ _ HNW.out).mono ?_; rintro e w3 ⟨rfl, rfl⟩) | (go_at_call 14; with_reducible refine (HT.out _ _ HNW.out).mono ?_; rintro e w3 ⟨rfl, rfl⟩) | (go_at_call 14; with_reducible refine (HB.out _ _ HNW.out).mono ?_; rintro e w3 ⟨rfl, rfl⟩) | (go_at_call 14; with_reducible refine (HR.out _ _ HNW.out).mono ?_; rintro e w3 ⟨rfl, rfl⟩) | (go_at_call 14; with_reducible refine (HD.out _ _ HNW.out).mono ?_; rintro e w3 ⟨rfl, rfl⟩))
              go_ret
              exact ⟨ret_bool (by simp), HZ.out.1⟩
            · skip
              cases T
              · skip
                go_enter Tryz.func28, Tryz.ntmps28
                go_wp2_with (first | (go_at_call 48; refine HNM.out.mono ?_; rintro e w2 ⟨nv, rfl, hnw, b2⟩; have HZ := hid (And.intro (H0.out.1.trans (b2.mono H0.out.1.size)) ((b2.block _ (block_lt H0.out.2)).trans H0.out.2)); obtain ⟨c0, c1, c2, c3, c4⟩ := polC_at (P := P) HZ.out.2; obtain ⟨np, nc, hnv, _⟩ := hnw.len; subst hnv; have HNW := hid hnw; clear hnw b2) | (go_at_call 14; with_reducible refine (HU.out _ _ HNW.out).mono ?_; rintro e w3 ⟨rfl, rfl⟩) | (go_at_call 14; with_reducible refine (HO.out _ _ HNW.out).mono ?_; rintro e w3 ⟨rfl, rfl⟩) | (go_at_call 14; with_reducible refine (HL.out _ _ HNW.out).mono ?_; rintro e w3 ⟨rfl, rfl⟩) | (go_at_call 14; with_reducible refine (HT.out _ _ HNW.out).mono ?_; rintro e w3 ⟨rfl, rfl⟩) | (go_at_call 14; with_reducible refine (HB.out _ _ HNW.out).mono ?_; rintro e w3 ⟨rfl, rfl⟩) | (go_at_call 14; with_reducible refine (HR.out _ _ HNW.out).mono ?_; rintro e w3 ⟨rfl, rfl⟩) | (go_at_call 14; with_reducible refine (HD.out _ _ HNW.out).mono ?_; rintro e w3 ⟨rfl, rfl⟩))
                go_ret
                exact ⟨ret_bool (by simp), HZ.out.1⟩
              · skip
                go_enter Tryz.func28, Tryz.ntmps28
                go_wp2_with (first | (go_at_call 48; refine HNM.out.mono ?_; rintro e w2 ⟨nv, rfl, hnw, b2⟩; have HZ := hid (And.intro (H0.out.1.trans (b2.mono H0.out.1.size)) ((b2.block _ (block_lt H0.out.2)).trans H0.out.2)); obtain ⟨c0, c1, c2, c3, c4⟩ := polC_at (P := P) HZ.out.2; obtain ⟨np, nc, hnv, _⟩ := hnw.len; subst hnv; have HNW := hid hnw; clear hnw b2) | (go_at_call 14; with_reducible refine (HU.out _ _ HNW.out).mono ?_; rintro e w3 ⟨rfl, rfl⟩) | (go_at_call 14; with_reducible refine (HO.out _ _ HNW.out).mono ?_; rintro e w3 ⟨rfl, rfl⟩) | (go_at_call 14; with_reducible refine (HL.out _ _ HNW.out).mono ?_; rintro e w3 ⟨rfl, rfl⟩) | (go_at_call 14; with_reducible refine (HT.out _ _ HNW.out).mono ?_; rintro e w3 ⟨rfl, rfl⟩) | (go_at_call 14; with_reducible refine (HB.out _ _ HNW.out).mono ?_; rintro e w3 ⟨rfl, rfl⟩) | (go_at_call 14; with_reducible refine (HR.out _ _ HNW.out).mono ?_; rintro e w3 ⟨rfl, rfl⟩) | (go_at_call 14; with_reducible refine (HD.out _ _ HNW.out).mono ?_; rintro e w3 ⟨rfl, rfl⟩))
                go_ret
                exact ⟨ret_bool (by simp), HZ.out.1⟩
          · skip
            cases L
            · skip
              go_enter Tryz.func28, Tryz.ntmps28
              go_wp2_with (first | (go_at_call 48; refine HNM.out.mono ?_; rintro e w2 ⟨nv, rfl, hnw, b2⟩; have HZ := hid (And.intro (H0.out.1.trans (b2.mono H0.out.1.size)) ((b2.block _ (block_lt H0.out.2)).trans H0.out.2)); obtain ⟨c0, c1, c2, c3, c4⟩ := polC_at (P := P) HZ.out.2; obtain ⟨np, nc, hnv, _⟩ := hnw.len; subst hnv; have HNW := hid hnw; clear hnw b2) | (go_at_call 14; with_reducible refine (HU.out _ _ HNW.out).mono ?_; rintro e w3 ⟨rfl, rfl⟩) | (go_at_call 14; with_reducible refine (HO.out _ _ HNW.out).mono ?_; rintro e w3 ⟨rfl, rfl⟩) | (go_at_call 14; with_reducible refine (HL.out _ _ HNW.out).mono ?_; rintro e w3 ⟨rfl, rfl⟩) | (go_at_call 14; with_reducible refine (HT.out _ _ HNW.out).mono ?_; rintro e w3 ⟨rfl, rfl⟩) | (go_at_call 14; with_reducible refine (HB.out _ _ HNW.out).mono ?_; rintro e w3 ⟨rfl, rfl⟩) | (go_at_call 14; with_reducible refine (HR.out _ _ HNW.out).mono ?_; rintro e w3 ⟨rfl, rfl⟩) | (go_at_call 14; with_reducible refine (HD.out _ _ HNW.out).mono ?_; rintro e w3 ⟨rfl, rfl⟩))
              go_ret
              exact ⟨ret_bool (by simp), HZ.out.1⟩
            · skip
              cases T
              · skip
                go_enter Tryz.func28, Tryz.ntmps28
                go_wp2_with (first | (go_at_call 48; refine HNM.out.mono ?_; rintro e w2 ⟨nv, rfl, hnw, b2⟩; have HZ := hid (And.intro (H0.out.1.trans (b2.mono H0.out.1.size)) ((b2.block _ (block_lt H0.out.2)).trans H0.out.2)); obtain ⟨c0, c1, c2, c3, c4⟩ := polC_at (P := P) HZ.out.2; obtain ⟨np, nc, hnv, _⟩ := hnw.len; subst hnv; have HNW := hid hnw; clear hnw b2) | (go_at_call 14; with_reducible refine (HU.out _ _ HNW.out).mono ?_; rintro e w3 ⟨rfl, rfl⟩) | (go_at_call 14; with_reducible refine (HO.out _ _ HNW.out).mono ?_; rintro e w3 ⟨rfl, rfl⟩) | (go_at_call 14; with_reducible refine (HL.out _ _ HNW.out).mono ?_; rintro e w3 ⟨rfl, rfl⟩) | (go_at_call 14; with_reducible refine (HT.out _ _ HNW.out).mono ?_; rintro e w3 ⟨rfl, rfl⟩) | (go_at_call 14; with_reducible refine (HB.out _ _ HNW.out).mono ?_; rintro e w3 ⟨rfl, rfl⟩) | (go_at_call 14; with_reducible refine (HR.out _ _ HNW.out).mono ?_; rintro e w3 ⟨rfl, rfl⟩) | (go_at_call 14; with_reducible refine (HD.out _ _ HNW.out).mono ?_; rintro e w3 ⟨rfl, rfl⟩))
                go_ret
                exact ⟨ret_bool (by simp), HZ.out.1⟩
              · skip
                go_enter Tryz.func28, Tryz.ntmps28
                go_wp2_with (first | (go_at_call 48; refine HNM.out.mono ?_; rintro e w2 ⟨nv, rfl, hnw, b2⟩; have HZ := hid (And.intro (H0.out.1.trans (b2.mono H0.out.1.size)) ((b2.block _ (block_lt H0.out.2)).trans H0.out.2)); obtain ⟨c0, c1, c2, c3, c4⟩ := polC_at (P := P) HZ.out.2; obtain ⟨np, nc, hnv, _⟩ := hnw.len; subst hnv; have HNW := hid hnw; clear hnw b2) | (go_at_call 14; with_reducible refine (HU.out _ _ HNW.out).mono ?_; rintro e w3 ⟨rfl, rfl⟩) | (go_at_call 14; with_reducible refine (HO.out _ _ HNW.out).mono ?_; rintro e w3 ⟨rfl, rfl⟩) | (go_at_call 14; with_reducible refine (HL.out _ _ HNW.out).mono ?_; rintro e w3 ⟨rfl, rfl⟩) | (go_at_call 14; with_reducible refine (HT.out _ _ HNW.out).mono ?_; rintro e w3 ⟨rfl, rfl⟩) | (go_at_call 14; with_reducible refine (HB.out _ _ HNW.out).mono ?_; rintro e w3 ⟨rfl, rfl⟩) | (go_at_call 14; with_reducible refine (HR.out _ _ HNW.out).mono ?_; rintro e w3 ⟨rfl, rfl⟩) | (go_at_call 14; with_reducible refine (HD.out _ _ HNW.out).mono ?_; rintro e w3 ⟨rfl, rfl⟩))
                go_ret
                exact ⟨ret_bool (by simp), HZ.out.1⟩
  · skip
    cases B
    · skip
      cases L
      · skip
        go_enter Tryz.func28, Tryz.ntmps28
        go_wp2_with (first | (go_at_call 48; refine HNM.out.mono ?_; rintro e w2 ⟨nv, rfl, hnw, b2⟩; have HZ := hid (And.intro (H0.out.1.trans (b2.mono H0.out.1.size)) ((b2.block _ (block_lt H0.out.2)).trans H0.out.2)); obtain ⟨c0, c1, c2, c3, c4⟩ := polC_at (P := P) HZ.out.2; obtain ⟨np, nc, hnv, _⟩ := hnw.len; subst hnv; have HNW := hid hnw; clear hnw b2) | (go_at_call 14; with_reducible refine (HU.out _ _ HNW.out).mono ?_; rintro e w3 ⟨rfl, rfl⟩) | (go_at_call 14; with_reducible refine (HO.out _ _ HNW.out).mono ?_; rintro e w3 ⟨rfl, rfl⟩) | (go_at_call 14; with_reducible refine (HL.out _ _ HNW.out).mono ?_; rintro e w3 ⟨rfl, rfl⟩) | (go_at_call 14; with_reducible refine (HT.out _ _ HNW.out).mono ?_; rintro e w3 ⟨rfl, rfl⟩) | (go_at_call 14; with_reducible refine (HB.out _ _ HNW.out).mono ?_; rintro e w3 ⟨rfl, rfl⟩) | (go_at_call 14; with_reducible refine (HR.out _ _ HNW.out).mono ?_; rintro e w3 ⟨rfl, rfl⟩) | (go_at_call 14; with_reducible refine (HD.out _ _ HNW.out).mono ?_; rintro e w3 ⟨rfl, rfl⟩))
        go_ret
        exact ⟨ret_bool (by simp), HZ.out.1⟩
      · skip
        cases T
        · skip
          go_enter Tryz.func28, Tryz.ntmps28
          go_wp2_with (first | (go_at_call 48; refine HNM.out.mono ?_; rintro e w2 ⟨nv, rfl, hnw, b2⟩; have HZ := hid (And.intro (H0.out.1.trans (b2.mono H0.out.1.size)) ((b2.block _ (block_lt H0.out.2)).trans H0.out.2)); obtain ⟨c0, c1, c2, c3, c4⟩ := polC_at (P := P) HZ.out.2; obtain ⟨np, nc, hnv, _⟩ := hnw.len; subst hnv; have HNW := hid hnw; clear hnw b2) | (go_at_call 14; with_reducible refine (HU.out _ _ HNW.out).mono ?_; rintro e w3 ⟨rfl, rfl⟩) | (go_at_call 14; with_reducible refine (HO.out _ _ HNW.out).mono ?_; rintro e w3 ⟨rfl, rfl⟩) | (go_at_call 14; with_reducible refine (HL.out _ _ HNW.out).mono ?_; rintro e w3 ⟨rfl, rfl⟩) | (go_at_call 14; with_reducible refine (HT.out _ _ HNW.out).mono ?_; rintro e w3 ⟨rfl, rfl⟩) | (go_at_call 14; with_reducible refine (HB.out _ _ HNW.out).mono ?_; rintro e w3 ⟨rfl, rfl⟩) | (go_at_call 14; with_reducible refine (HR.out _ _ HNW.out).mono ?_; rintro e w3 ⟨rfl, rfl⟩) | (go_at_call 14; with_reducible refine (HD.out _ _ HNW.out).mono ?_; rintro e w3 ⟨rfl, rfl⟩))
          go_ret
          exact ⟨ret_bool (by simp), HZ.out.1⟩
        · skip
          go_enter Tryz.func28, Tryz.ntmps28
          go_wp2_with (first | (go_at_call 48; refine HNM.out.mono ?_; rintro e w2 ⟨nv, rfl, hnw, b2⟩; have HZ := hid (And.intro (H0.out.1.trans (b2.mono H0.out.1.size)) ((b2.block _ (block_lt H0.out.2)).trans H0.out.2)); obtain ⟨c0, c1, c2, c3, c4⟩ := polC_at (P := P) HZ.out.2; obtain ⟨np, nc, hnv, _⟩ := hnw.len; subst hnv; have HNW := hid hnw; clear hnw b2) | (go_at_call 14; with_reducible refine (HU.out _ _ HNW.out).mono ?_; rintro e w3 ⟨rfl, rfl⟩) | (go_at_call 14; with_reducible refine (HO.out _ _ HNW.out).mono ?_; rintro e w3 ⟨rfl, rfl⟩) | (go_at_call 14; with_reducible refine (HL.out _ _ HNW.out).mono ?_; rintro e w3 ⟨rfl, rfl⟩) | (go_at_call 14; with_reducible refine (HT.out _ _ HNW.out).mono ?_; rintro e w3 ⟨rfl, rfl⟩) | (go_at_call 14; with_reducible refine (HB.out _ _ HNW.out).mono ?_; rintro e w3 ⟨rfl, rfl⟩) | (go_at_call 14; with_reducible refine (HR.out _ _ HNW.out).mono ?_; rintro e w3 ⟨rfl, rfl⟩) | (go_at_call 14; with_reducible refine (HD.out _ _ HNW.out).mono ?_; rintro e w3 ⟨rfl, rfl⟩))
          go_ret
          exact ⟨ret_bool (by simp), HZ.out.1⟩
    · skip
      cases R
      · skip
        cases L
        · skip
          go_enter Tryz.func28, Tryz.ntmps28
          go_wp2_with (first | (go_at_call 48; refine HNM.out.mono ?_; rintro e w2 ⟨nv, rfl, hnw, b2⟩; have HZ := hid (And.intro (H0.out.1.trans (b2.mono H0.out.1.size)) ((b2.block _ (block_lt H0.out.2)).trans H0.out.2)); obtain ⟨c0, c1, c2, c3, c4⟩ := polC_at (P := P) HZ.out.2; obtain ⟨np, nc, hnv, _⟩ := hnw.len; subst hnv; have HNW := hid hnw; clear hnw b2) | (go_at_call 14; with_reducible refine (HU.out _ _ HNW.out).mono ?_; rintro e w3 ⟨rfl, rfl⟩) | (go_at_call 14; with_reducible refine (HO.out _ _ HNW.out).mono ?_; rintro e w3 ⟨rfl, rfl⟩) | (go_at_call 14; with_reducible refine (HL.out _ _ HNW.out).mono ?_; rintro e w3 ⟨rfl, rfl⟩) | (go_at_call 14; with_reducible refine (HT.out _ _ HNW.out).mono ?_; rintro e w3 ⟨rfl, rfl⟩) | (go_at_call 14; with_reducible refine (HB.out _ _ HNW.out).mono ?_; rintro e w3 ⟨rfl, rfl⟩) | (go_at_call 14; with_reducible refine (HR.out _ _ HNW.out).mono ?_; rintro e w3 ⟨rfl, rfl⟩) | (go_at_call 14; with_reducible refine (HD.out _ _ HNW.out).mono ?_; rintro e w3 ⟨rfl, rfl⟩))
          go_ret
          exact ⟨ret_bool (by simp), HZ.out.1⟩
        · skip
          cases T
          · skip
            go_enter Tryz.func28, Tryz.ntmps28
            go_wp2_with (first | (go_at_call 48; refine HNM.out.mono ?_; rintro e w2 ⟨nv, rfl, hnw, b2⟩; have HZ := hid (And.intro (H0.out.1.trans (b2.mono H0.out.1.size)) ((b2.block _ (block_lt H0.out.2)).trans H0.out.2)); obtain ⟨c0, c1, c2, c3, c4⟩ := polC_at (P := P) HZ.out.2; obtain ⟨np, nc, hnv, _⟩ := hnw.len; subst hnv; have HNW := hid hnw; clear hnw b2) | (go_at_call 14; with_reducible refine (HU.out _ _ HNW.out).mono ?_; rintro e w3 ⟨rfl, rfl⟩) | (go_at_call 14; with_reducible refine (HO.out _ _ HNW.out).mono ?_; rintro e w3 ⟨rfl, rfl⟩) | (go_at_call 14; with_reducible refine (HL.out _ _ HNW.out).mono ?_; rintro e w3 ⟨rfl, rfl⟩) | (go_at_call 14; with_reducible refine (HT.out _ _ HNW.out).mono ?_; rintro e w3 ⟨rfl, rfl⟩) | (go_at_call 14; with_reducible refine (HB.out _ _ HNW.out).mono ?_; rintro e w3 ⟨rfl, rfl⟩) | (go_at_call 14; with_reducible refine (HR.out _ _ HNW.out).mono ?_; rintro e w3 ⟨rfl, rfl⟩) | (go_at_call 14; with_reducible refine (HD.out _ _ HNW.out).mono ?_; rintro e w3 ⟨rfl, rfl⟩))
            go_ret
            exact ⟨ret_bool (by simp), HZ.out.1⟩
          · skip
            go_enter Tryz.func28, Tryz.ntmps28
            go_wp2_with (first | (go_at_call 48; refine HNM.out.mono ?_; rintro e w2 ⟨nv, rfl, hnw, b2⟩; have HZ := hid (And.intro (H0.out.1.trans (b2.mono H0.out.1.size)) ((b2.block _ (block_lt H0.out.2)).trans H0.out.2)); obtain ⟨c0, c1, c2, c3, c4⟩ := polC_at (P := P) HZ.out.2; obtain ⟨np, nc, hnv, _⟩ := hnw.len; subst hnv; have HNW := hid hnw; clear hnw b2) | (go_at_call 14; with_reducible refine (HU.out _ _ HNW.out).mono ?_; rintro e w3 ⟨rfl, rfl⟩) | (go_at_call 14; with_reducible refine (HO.out _ _ HNW.out).mono ?_; rintro e w3 ⟨rfl, rfl⟩) | (go_at_call 14; with_reducible refine (HL.out _ _ HNW.out).mono ?_; rintro e w3 ⟨rfl, rfl⟩) | (go_at_call 14; with_reducible refine (HT.out _ _ HNW.out).mono ?_; rintro e w3 ⟨rfl, rfl⟩) | (go_at_call 14; with_reducible refine (HB.out _ _ HNW.out).mono ?_; rintro e w3 ⟨rfl, rfl⟩) | (go_at_call 14; with_reducible refine (HR.out _ _ HNW.out).mono ?_; rintro e w3 ⟨rfl, rfl⟩) | (go_at_call 14; with_reducible refine (HD.out _ _ HNW.out).mono ?_; rintro e w3 ⟨rfl, rfl⟩))
            go_ret
            exact ⟨ret_bool (by simp), HZ.out.1⟩
      · skip
        cases D
        · skip
          cases L
          · skip
            go_enter Tryz.func28, Tryz.ntmps28
            go_wp2_with (first | (go_at_call 48; refine HNM.out.mono ?_; rintro e w2 ⟨nv, rfl, hnw, b2⟩; have HZ := hid (And.intro (H0.out.1.trans (b2.mono H0.out.1.size)) ((b2.block _ (block_lt H0.out.2)).trans H0.out.2)); obtain ⟨c0, c1, c2, c3, c4⟩ := polC_at (P := P) HZ.out.2; obtain ⟨np, nc, hnv, _⟩ := hnw.len; subst hnv; have HNW := hid hnw; clear hnw b2) | (go_at_call 14; with_reducible refine (HU.out _ _ HNW.out).mono ?_; rintro e w3 ⟨rfl, rfl⟩) | (go_at_call 14; with_reducible refine (HO.out _ _ HNW.out).mono ?_; rintro e w3 ⟨rfl, rfl⟩) | (go_at_call 14; with_reducible refine (HL.out _ _ HNW.out).mono ?_; rintro e w3 ⟨rfl, rfl⟩) | (go_at_call 14; with_reducible refine (HT.out _ _ HNW.out).mono ?_; rintro e w3 ⟨rfl, rfl⟩) | (go_at_call 14; with_reducible refine (HB.out _ _ HNW.out).mono ?_; rintro e w3 ⟨rfl, rfl⟩) | (go_at_call 14; with_reducible refine (HR.out _ _ HNW.out).mono ?_; rintro e w3 ⟨rfl, rfl⟩) | (go_at_call 14; with_reducible refine (HD.out _ _ HNW.out).mono ?_; rintro e w3 ⟨rfl, rfl⟩))
            go_ret
            exact ⟨ret_bool (by simp), HZ.out.1⟩
          · skip
            cases T
            · skip
              go_enter Tryz.func28, Tryz.ntmps28
              go_wp2_with (first | (go_at_call 48; refine HNM.out.mono ?_; rintro e w2 ⟨nv, rfl, hnw, b2⟩; have HZ := hid (And.intro (H0.out.1.trans (b2.mono H0.out.1.size)) ((b2.block _ (block_lt H0.out.2)).trans H0.out.2)); obtain ⟨c0, c1, c2, c3, c4⟩ := polC_at (P := P) HZ.out.2; obtain ⟨np, nc, hnv, _⟩ := hnw.len; subst hnv; have HNW := hid hnw; clear hnw b2) | (go_at_call 14; with_reducible refine (HU.out _ _ HNW.out).mono ?_; rintro e w3 ⟨rfl, rfl⟩) | (go_at_call 14; with_reducible refine (HO.out _ _ HNW.out).mono ?_; rintro e w3 ⟨rfl, rfl⟩) | (go_at_call 14; with_reducible refine (HL.out _ _ HNW.out).mono ?_; rintro e w3 ⟨rfl, rfl⟩) | (go_at_call 14; with_reducible refine (HT.out _ _ HNW.out).mono ?_; rintro e w3 ⟨rfl, rfl⟩) | (go_at_call 14; with_reducible refine (HB.out _ _ HNW.out).mono ?_; rintro e w3 ⟨rfl, rfl⟩) | (go_at_call 14; with_reducible refine (HR.out _ _ HNW.out).mono ?_; rintro e w3 ⟨rfl, rfl⟩) | (go_at_call 14; with_reducible refine (HD.out _ _ HNW.out).mono ?_; rintro e w3 ⟨rfl, rfl⟩))
              go_ret
              exact ⟨ret_bool (by simp), HZ.out.1⟩
            · skip
              go_enter Tryz.func28, Tryz.ntmps28
              go_wp2_with (first | (go_at_call 48; refine HNM.out.mono ?_; rintro e w2 ⟨nv, rfl, hnw, b2⟩; have HZ := hid (And.intro (H0.out.1.trans (b2.mono H0.out.1.size)) ((b2.block _ (block_lt H0.out.2)).trans H0.out.2)); obtain ⟨c0, c1, c2, c3, c4⟩ := polC_at (P := P) HZ.out.2; obtain ⟨np, nc, hnv, _⟩ := hnw.len; subst hnv; have HNW := hid hnw; clear hnw b2) | (go_at_call 14; with_reducible refine (HU.out _ _ HNW.out).mono ?_; rintro e w3 ⟨rfl, rfl⟩) | (go_at_call 14; with_reducible refine (HO.out _ _ HNW.out).mono ?_; rintro e w3 ⟨rfl, rfl⟩) | (go_at_call 14; with_reducible refine (HL.out _ _ HNW.out).mono ?_; rintro e w3 ⟨rfl, rfl⟩) | (go_at_call 14; with_reducible refine (HT.out _ _ HNW.out).mono ?_; rintro e w3 ⟨rfl, rfl⟩) | (go_at_call 14; with_reducible refine (HB.out _ _ HNW.out).mono ?_; rintro e w3 ⟨rfl, rfl⟩) | (go_at_call 14; with_reducible refine (HR.out _ _ HNW.out).mono ?_; rintro e w3 ⟨rfl, rfl⟩) | (go_at_call 14; with_reducible refine (HD.out _ _ HNW.out).mono ?_; rintro e w3 ⟨rfl, rfl⟩))
              go_ret
              exact ⟨ret_bool (by simp), HZ.out.1⟩
        · skip
          cases L
          · skip
            go_enter Tryz.func28, Tryz.ntmps28
            go_wp2_with (first | (go_at_call 48; refine HNM.out.mono ?_; rintro e w2 ⟨nv, rfl, hnw, b2⟩; have HZ := hid (And.intro (H0.out.1.trans (b2.mono H0.out.1.size)) ((b2.block _ (block_lt H0.out.2)).trans H0.out.2)); obtain ⟨c0, c1, c2, c3, c4⟩ := polC_at (P := P) HZ.out.2; obtain ⟨np, nc, hnv, _⟩ := hnw.len; subst hnv; have HNW := hid hnw; clear hnw b2) | (go_at_call 14; with_reducible refine (HU.out _ _ HNW.out).mono ?_; rintro e w3 ⟨rfl, rfl⟩) | (go_at_call 14; with_reducible refine (HO.out _ _ HNW.out).mono ?_; rintro e w3 ⟨rfl, rfl⟩) | (go_at_call 14; with_reducible refine (HL.out _ _ HNW.out).mono ?_; rintro e w3 ⟨rfl, rfl⟩) | (go_at_call 14; with_reducible refine (HT.out _ _ HNW.out).mono ?_; rintro e w3 ⟨rfl, rfl⟩) | (go_at_call 14; with_reducible refine (HB.out _ _ HNW.out).mono ?_; rintro e w3 ⟨rfl, rfl⟩) | (go_at_call 14; with_reducible refine (HR.out _ _ HNW.out).mono ?_; rintro e w3 ⟨rfl, rfl⟩) | (go_at_call 14; with_reducible refine (HD.out _ _ HNW.out).mono ?_; rintro e w3 ⟨rfl, rfl⟩))
            go_ret
            exact ⟨ret_bool (by simp), HZ.out.1⟩
          · skip
            cases T
            · skip
              go_enter Tryz.func28, Tryz.ntmps28
              go_wp2_with (first | (go_at_call 48; refine HNM.out.mono ?_; rintro e w2 ⟨nv, rfl, hnw, b2⟩; have HZ := hid (And.intro (H0.out.1.trans (b2.mono H0.out.1.size)) ((b2.block _ (block_lt H0.out.2)).trans H0.out.2)); obtain ⟨c0, c1, c2, c3, c4⟩ := polC_at (P := P) HZ.out.2; obtain ⟨np, nc, hnv, _⟩ := hnw.len; subst hnv; have HNW := hid hnw; clear hnw b2) | (go_at_call 14; with_reducible refine (HU.out _ _ HNW.out).mono ?_; rintro e w3 ⟨rfl, rfl⟩) | (go_at_call 14; with_reducible refine (HO.out _ _ HNW.out).mono ?_; rintro e w3 ⟨rfl, rfl⟩) | (go_at_call 14; with_reducible refine (HL.out _ _ HNW.out).mono ?_; rintro e w3 ⟨rfl, rfl⟩) | (go_at_call 14; with_reducible refine (HT.out _ _ HNW.out).mono ?_; rintro e w3 ⟨rfl, rfl⟩) | (go_at_call 14; with_reducible refine (HB.out _ _ HNW.out).mono ?_; rintro e w3 ⟨rfl, rfl⟩) | (go_at_call 14; with_reducible refine (HR.out _ _ HNW.out).mono ?_; rintro e w3 ⟨rfl, rfl⟩) | (go_at_call 14; with_reducible refine (HD.out _ _ HNW.out).mono ?_; rintro e w3 ⟨rfl, rfl⟩))
              go_ret
              exact ⟨ret_bool (by simp), HZ.out.1⟩
            · skip
              go_enter Tryz.func28, Tryz.ntmps28
              go_wp2_with (first | (go_at_call 48; refine HNM.out.mono ?_; rintro e w2 ⟨nv, rfl, hnw, b2⟩; have HZ := hid (And.intro (H0.out.1.trans (b2.mono H0.out.1.size)) ((b2.block _ (block_lt H0.out.2)).trans H0.out.2)); obtain ⟨c0, c1, c2, c3, c4⟩ := polC_at (P := P) HZ.out.2; obtain ⟨np, nc, hnv, _⟩ := hnw.len; subst hnv; have HNW := hid hnw; clear hnw b2) | (go_at_call 14; with_reducible refine (HU.out _ _ HNW.out).mono ?_; rintro e w3 ⟨rfl, rfl⟩) | (go_at_call 14; with_reducible refine (HO.out _ _ HNW.out).mono ?_; rintro e w3 ⟨rfl, rfl⟩) | (go_at_call 14; with_reducible refine (HL.out _ _ HNW.out).mono ?_; rintro e w3 ⟨rfl, rfl⟩) | (go_at_call 14; with_reducible refine (HT.out _ _ HNW.out).mono ?_; rintro e w3 ⟨rfl, rfl⟩) | (go_at_call 14; with_reducible refine (HB.out _ _ HNW.out).mono ?_; rintro e w3 ⟨rfl, rfl⟩) | (go_at_call 14; with_reducible refine (HR.out _ _ HNW.out).mono ?_; rintro e w3 ⟨rfl, rfl⟩) | (go_at_call 14; with_reducible refine (HD.out _ _ HNW.out).mono ?_; rintro e w3 ⟨rfl, rfl⟩))
              go_ret
              exact ⟨ret_bool (by simp), HZ.out.1⟩
def checkFrom (P : PolP) : Nat → Nat → Nat
  | _, 0 => 0
  | n, f + 1 => if wrongP n P = true then n else checkFrom P (n + 1) f
/-- the first of the ten lines that is true -/
def checkP (P : PolP) : Nat := checkFrom P 1 10
theorem wrong_all (n : Nat) (h1 : 1 ≤ n) (h10 : n ≤ 10) (vr vs vd : Value) (P : PolP) (w : World) (h : PolR w vr vs vd P) (hF : P.Few) (hT : AttrTab w) :
    Calls Tryz.prog 28 #[.int .i64 n, .agg (polC vr vs vd P)] w fun e w' => e = .returned (.bool (wrongP n P)) ∧ Below w.heap.size w w' := by
  have hc : n = 1 ∨ n = 2 ∨ n = 4 ∨ n = 7 ∨ n = 8 ∨ n = 9 ∨ n = 10 ∨ (n = 3 ∨ n = 5 ∨ n = 6) := by omega
  rcases hc with rfl | rfl | rfl | rfl | rfl | rfl | rfl | hc
  · exact wrong_1 vr vs vd P w h hF hT
  · exact wrong_2 vr vs vd P w h hF hT
  · exact wrong_4 vr vs vd P w h hF hT
  · exact wrong_7 vr vs vd P w h hF hT
  · exact wrong_8 vr vs vd P w h hF hT
  · exact wrong_9 vr vs vd P w h hF hT
  · exact wrong_10 vr vs vd P w h hF hT
  · have he : wrongP n P = anyWrongP n P := by
      unfold wrongP
      rw [if_neg (by omega), if_neg (by omega), if_neg (by omega), if_neg (by omega), if_neg (by omega), if_neg (by omega), if_neg (by omega)]
    rw [he]
    exact wrong_any0 vr vs vd P w h hF hT n hc
end Go.Proofs.YtkcgmimldjeaiaaGreatDoor
