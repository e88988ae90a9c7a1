/-
  Parts of the walk, joined: ParU.
-/
import Derived.BigRegion
import Derived.Test.YtcncbhbdpcpkeaaGreatDoorPJBL
/-
  The parser's start: its walk.
-/
namespace Go.Proofs.YtcncbhbdpcpkeaaGreatDoor
open Go.RowKit Go.Lib Own

/-- what a start tag gives -/
def StartOut (K : Nat → Array Value → Prop) (w0 w' : World) (b : Nat) (op : List (List UInt8)) (eat : Bool) (x : List UInt8) (al : List AttrP) (ns : List EvP) (e : Ending) : Prop :=
  StepOut K w0 w' b (if judgeP op x = 0 ∧ modX x ≠ 9 then op ++ [x] else op) eat (judgeP op x) (if judgeP op x = 0 then ns ++ [⟨op.length, x, al, []⟩] else ns) e
theorem start_no {K : Nat → Array Value → Prop} {w0 w' : World} {b : Nat} {op : List (List UInt8)} {eat : Bool} {x : List UInt8} {al : List AttrP} {ns : List EvP} {v : Nat} (hj : judgeP op x = v) (hv : v ≠ 0) (h : PrTo K w0 w' b op eat ns) : StartOut K w0 w' b op eat x al ns (.returned (.int .i64 v)) := by
  unfold StartOut
  rw [if_neg (fun h => hv (hj ▸ h.1)), if_neg (fun h => hv (hj ▸ h)), hj]
  exact ⟨rfl, h⟩
theorem start_yes {K : Nat → Array Value → Prop} {w0 w' : World} {b : Nat} {op : List (List UInt8)} {eat : Bool} {x : List UInt8} {al : List AttrP} {ns : List EvP} (hj : judgeP op x = 0) (h : PrTo K w0 w' b (if modX x = 9 then op else op ++ [x]) eat (ns ++ [⟨op.length, x, al, []⟩])) : StartOut K w0 w' b op eat x al ns (.returned (.int .i64 0)) := by
  unfold StartOut
  rw [if_pos hj, hj]
  by_cases h9 : modX x = 9
  · rw [if_neg (fun h => h.2 h9)]
    rw [if_pos h9] at h
    exact ⟨rfl, h⟩
  · rw [if_pos ⟨rfl, h9⟩]
    rw [if_neg h9] at h
    exact ⟨rfl, h⟩
theorem judge_in {op : List (List UInt8)} {x : List UInt8} (h : (modI op == 3) = true) : judgeP op x = 1 := if_pos (beq_iff_eq.1 h)
theorem judge_un {op : List (List UInt8)} {x : List UInt8} (h : (modI op == 3) = false) (h2 : elemL x = none) : judgeP op x = 3 := (if_neg (beq_eq_false_iff_ne.1 h)).trans (if_pos h2)
theorem judge_deep {op : List (List UInt8)} {x : List UInt8} (h : (modI op == 3) = false) (h2 : elemL x ≠ none) (h3 : 256 ≤ op.length) : judgeP op x = 4 := (if_neg (beq_eq_false_iff_ne.1 h)).trans ((if_neg h2).trans (if_pos h3))
theorem judge_tab {op : List (List UInt8)} {x : List UInt8} (h : (modI op == 3) = false) (h2 : elemL x ≠ none) (h3 : ¬ 256 ≤ op.length) (h4 : judgeT op x ≠ 0) : judgeP op x = judgeT op x := (if_neg (beq_eq_false_iff_ne.1 h)).trans ((if_neg h2).trans ((if_neg h3).trans (if_pos h4)))
theorem judge_op {op : List (List UInt8)} {x : List UInt8} (h : (modI op == 3) = false) (h2 : elemL x ≠ none) (h3 : ¬ 256 ≤ op.length) (h4 : judgeT op x = 0) : judgeP op x = judgeO op x := (if_neg (beq_eq_false_iff_ne.1 h)).trans ((if_neg h2).trans ((if_neg h3).trans (if_neg (fun h => h h4))))
/-- a block apart from the parser stays where a node comes -/
theorem node_apart {W w10 : World} {b E : Nat} {X o : Obj} {p : Option Nat} {v v1 v2 v3 : Value} {t : TypeId} (hE : W.heap[E]? = some o) (hg : (W.alloc X).grownBy w10 p) (hp : p ≠ some E) (hb : E ≠ b) (hat : w10.heap[b]? = some (.cells #[v1, v2, v3] t (0, 0))) (j : Nat) : (w10.setCell ⟨b, j, none⟩ v).heap[E]? = some o := by
  have h1 := (hg.block E (by have := block_lt hE; have := alloc_lt W X; omega) (fun e => hp e.symm)).trans ((alloc_old W X E (block_lt hE)).trans hE)
  exact ((just_put (j := j) hat v rfl).other E hb).trans h1
/-- a walk in two: what stands between -/
theorem cut_app {P : Program} {c : Code} {a : Act} {w : World} {K : Act → World → Prop} {Q : Exit → Act → World → Prop} {T : Nat → Nat → Act} {R : Nat → Nat → World → Prop} (h : c.wp P (Exit.then (fun a W => ∃ g cap, a = T g cap ∧ R g cap W) Q) a w)
    (hk : ∀ g cap W, R g cap W → K (T g cap) W) : c.wp P (Exit.then K Q) a w :=
  Code.wp_mono (fun e a w hh => by
    cases e with
    | normal => obtain ⟨g, cap, rfl, hr⟩ := hh; exact hk g cap w hr
    | _ => exact hh) h
set_option maxHeartbeats 16000000 in
set_option maxRecDepth 100000 in
theorem prStart_any (K : Nat → Array Value → Prop) (w0 : World) (b : Nat) (op : List (List UInt8)) (prs : List (EvP × Value)) (eat : Bool) (ov nv : Value) (x : List UInt8) (t : ByteArray) (kk : Int) (av : Value) (al : List AttrP) (w : World) (h : PrS K w0 w b op prs eat ov nv)
    (ha : w.ownsRow w0.heap.size 122 2 av al.length (attrsV al)) (hn : ∀ g, av.ownBlock = some g → ∀ (k : Nat) y, prs[k]? = some y → y.2.ownBlock ≠ some g) (hl : prs.length ≤ 90000000) :
    Calls Tryz.prog 77 #[.pointer (some ⟨b, 0, none⟩), .agg #[.int .i64 kk, .string (bs x), av, .string t]] w fun e w' => StartOut K w0 w' b op eat x al (prs.map Prod.fst) e := by
  obtain ⟨i0, hi, hz0, hz1, hz2⟩ := info_parts info_node
  obtain ⟨i1, hi1, hy0, hy1, hy2⟩ := info_parts info_elem
  obtain ⟨ap, ac, rfl⟩ := row_shape ha
  obtain ⟨np, nc, rfl⟩ := row_shape h.nodes.row
  obtain ⟨oq, oc, rfl⟩ := h.row.shape
  obtain ⟨AL, hAL⟩ : ∃ AL, al.length = AL := ⟨_, rfl⟩
  obtain ⟨W1, hW1⟩ : ∃ W1, w.alloc (.cells #[.int .i64 kk, .string (bs x), .slice ap al.length ac, .string t] 60) = W1 := ⟨_, rfl⟩
  have hb1 : Below w.heap.size w W1 := by rw [← hW1]; exact (Below.refl _ _).alloc (Nat.le_refl _) _
  have n1 : W1.heap[w.heap.size]? = some (.cells #[.int .i64 kk, .string (bs x), .slice ap al.length ac, .string t] 60 (0, 0)) := by rw [← hW1]; exact heap_alloc_new _ _
  have h1 := h.below hb1
  have ha1 := row_below ha hb1
  have hfd := find_any (bs x) W1 h1.kinds
  rw [bs_toList] at hfd
  have e1 := cell_at n1 (j := 1) rfl
  have hop := h1.few
  have hbE : b ≠ w.heap.size := fun e => by have := block_lt h.at_; omega
  have H1 := hid (And.intro h1 (And.intro ha1 (And.intro hn n1)))
  have HF := hid hfd
  clear hb1 n1 h1 ha1 hfd h ha hn
  obtain ⟨BX, hBX⟩ : ∃ n, bs x = n := ⟨_, rfl⟩
  have HBX := hid (fun (_ : True) => hBX)
  rw [hAL] at hW1 H1
  rw [hBX] at hW1 e1 H1 HF
  rw [hAL, hBX]
  have HAL := hid (fun (_ : True) => hAL)
  clear hAL hBX
  have hit := fun W (hW : PrS K w0 W b op prs eat (.slice oq op.length oc) (.slice np prs.length nc)) => inText_any w0.heap.size b op _ _ eat W hW.rd
  have HIT := hid hit
  clear hit
  by_cases hk : elemL x = none
  · rw [hk] at HF
    go_enter Tryz.func77, Tryz.ntmps77
    go_wp2_with fail
    refine HF.out.mono ?_
    rintro e W2 ⟨rfl, hb2⟩
    have h2 := H1.out.1.below hb2
    have hb3 := (Below.refl W2.heap.size W2).alloc (Nat.le_refl _) (.cells zeroE 172)
    have H3 := hid (h2.below hb3)
    clear hb2 h2 hb3 e1 hW1 H1 HF
    unfold foundV zeroE at *
    dsimp only
    go_wp2_with fail
    refine (HIT.out _ H3.out).mono ?_
    rintro e W4 ⟨rfl, hb4⟩
    have HZ := hid (H3.out.below hb4).same
    clear hb4 H3 HIT
    cases hm : (modI op == 3) with
    | true =>
      have HJ := hid (judge_in (x := x) hm)
      clear hm hk
      go_wp2_with fail
      go_ret
      exact start_no HJ.out (by decide) HZ.out
    | false =>
      have HJ := hid (judge_un hm hk)
      clear hm hk
      go_wp2_with fail
      go_ret
      exact start_no HJ.out (by decide) HZ.out
  · rw [elem_some hk] at HF
    have hjt := fun W (hW : PrS K w0 W b op prs eat (.slice oq op.length oc) (.slice np prs.length nc)) => judgeTab_any w0.heap.size b op _ _ eat x W hW.rd
    have hjo := fun W (hW : PrS K w0 W b op prs eat (.slice oq op.length oc) (.slice np prs.length nc)) => judgeOpen_any w0.heap.size b op _ _ eat x W hW.rd
    have hvo := fun W => elemVoid_any (.string (bs x)) (clsX x) (modX x) W
    obtain ⟨CX, hCX⟩ : ∃ n, clsX x = n := ⟨_, rfl⟩
    obtain ⟨MX, hMX⟩ : ∃ n, modX x = n := ⟨_, rfl⟩
    obtain ⟨JT, hJT⟩ : ∃ n, judgeT op x = n := ⟨_, rfl⟩
    obtain ⟨JO, hJO⟩ : ∃ n, judgeO op x = n := ⟨_, rfl⟩
    unfold elemV at hjt hjo
    rw [HBX.out trivial, hCX, hMX] at hvo hjt hjo
    rw [hJT] at hjt
    rw [hJO] at hjo
    have HJT := hid hjt
    have HJO := hid hjo
    have HV := hid hvo
    have HX := hid (fun (_ : True) => And.intro hCX (And.intro hMX (And.intro hJT hJO)))
    rw [hCX, hMX] at HF
    have HK := hid (fun (_ : True) => hk)
    have hxx := HBX.out trivial
    have HFF : Hid (Calls Tryz.prog 121 #[.string BX] W1 fun e w' => e = .returned (.tuple #[.agg #[.string BX, .int .i64 CX, .int .i64 MX], .bool true]) ∧ Below W1.heap.size W1 w') := hid (HF.out.mono (fun e w' hh => by rw [← hxx]; exact hh))
    clear hjt hjo hvo hCX hMX hJT hJO hk HF hxx
    go_enter Tryz.func77, Tryz.ntmps77
    go_wp2_with fail
    refine HFF.out.mono ?_
    rintro e W2 ⟨rfl, hb2⟩
    clear hW1
    go_upto_region 2 with fail
    obtain ⟨W3, hW3⟩ : ∃ W3, W2.alloc (.cells #[.string BX, .int .i64 CX, .int .i64 MX] 172) = W3 := ⟨_, rfl⟩
    have hb3 : Below W2.heap.size W2 W3 := by rw [← hW3]; exact (Below.refl _ _).alloc (Nat.le_refl _) _
    have n3 : W3.heap[W2.heap.size]? = some (.cells #[.string BX, .int .i64 CX, .int .i64 MX] 172 (0, 0)) := by rw [← hW3]; exact heap_alloc_new _ _
    simp only [hW3]
    clear hW3
    have hb23 := hb2.trans (hb3.mono hb2.size)
    have hbE3 : W2.heap.size ≠ b := fun e => by have := block_lt H1.out.1.at_; have := hb2.size; omega
    have H3 := hid (And.intro (H1.out.1.below hb23) (And.intro (row_below H1.out.2.1 hb23) (And.intro n3 ((hb23.block _ (block_lt H1.out.2.2.2)).trans H1.out.2.2.2))))
    obtain ⟨EB, hEB⟩ : ∃ n, W2.heap.size = n := ⟨_, rfl⟩
    rw [hEB] at H3 hbE3
    simp only [hEB]
    have HN := hid H1.out.2.2.1
    clear hb2 hb3 n3 hb23 hEB H1 HFF e1
    go_wp2_with fail
    refine (HIT.out _ H3.out.1).mono ?_
    rintro e W4 ⟨rfl, hb4⟩
    have H4 := hid (And.intro (H3.out.1.below hb4) (And.intro (row_below H3.out.2.1 hb4) (And.intro ((hb4.block _ (block_lt H3.out.2.2.1)).trans H3.out.2.2.1) ((hb4.block _ (block_lt H3.out.2.2.2)).trans H3.out.2.2.2))))
    clear hb4 H3 HIT
    cases hm : (modI op == 3) with
    | true =>
      have HJ := hid (judge_in (x := x) hm)
      have HZ := hid H4.out.1.same
      clear hm H4
      go_wp2_with fail
      go_ret
      exact start_no HJ.out (by decide) HZ.out
    | false =>
      have HM := hid (fun (_ : True) => hm)
      clear hm
      have c0 := cell_at H4.out.1.at_ (j := 0) rfl
      by_cases hd : 256 ≤ op.length
      · have HJ := hid (judge_deep (HM.out trivial) (HK.out trivial) hd)
        have d1 : decide ((256 : Int) ≤ (op.length : Int)) = true := decide_eq_true (by omega)
        have d2 : decide ((op.length : Int) ≥ 256) = true := decide_eq_true (by omega)
        have HZ := hid H4.out.1.same
        clear H4 HM
        go_wp2_with fail
        go_ret
        exact start_no HJ.out (by decide) HZ.out
      · have d1 : decide ((256 : Int) ≤ (op.length : Int)) = false := decide_eq_false (by omega)
        have d2 : decide ((op.length : Int) ≥ 256) = false := decide_eq_false (by omega)
        have q0 := cell_at H4.out.2.2.1 (j := 0) rfl
        have q1 := cell_at H4.out.2.2.1 (j := 1) rfl
        have q2 := cell_at H4.out.2.2.1 (j := 2) rfl
        have HD := hid (fun (_ : True) => hd)
        clear hd
        go_wp2_with fail
        refine (HJT.out _ H4.out.1).mono ?_
        rintro e W5 ⟨rfl, hb5⟩
        have H5 := hid (And.intro (H4.out.1.below hb5) (And.intro (row_below H4.out.2.1 hb5) (And.intro ((hb5.block _ (block_lt H4.out.2.2.1)).trans H4.out.2.2.1) ((hb5.block _ (block_lt H4.out.2.2.2)).trans H4.out.2.2.2))))
        clear hb5 H4 HJT c0 q0 q1 q2 d1 d2
        by_cases hj : JT = 0
        case neg =>
          have z1 : ((JT : Int) == 0) = false := beq_eq_false_iff_ne.2 (by omega)
          have z2 : ((JT : Int) != 0) = true := by rw [bne_iff_ne]; omega
          have HJ := hid (And.intro ((judge_tab (HM.out trivial) (HK.out trivial) (HD.out trivial) (by rw [(HX.out trivial).2.2.1]; exact hj)).trans (HX.out trivial).2.2.1) hj)
          have HZ := hid H5.out.1.same
          clear H5 hj
          go_wp2_with fail
          go_ret
          exact start_no HJ.out.1 HJ.out.2 HZ.out
        case pos =>
          have HJ0 := hid (judge_op (HM.out trivial) (HK.out trivial) (HD.out trivial) (by rw [(HX.out trivial).2.2.1]; exact hj))
          have HX2 := hid (fun (_ : True) => And.intro (HX.out trivial).1 (And.intro (HX.out trivial).2.1 (HX.out trivial).2.2.2))
          have hop2 : op.length < 256 := by have := HD.out trivial; omega
          clear HX HM HK HD
          subst hj
          have q0 := cell_at H5.out.2.2.1 (j := 0) rfl
          have q1 := cell_at H5.out.2.2.1 (j := 1) rfl
          have q2 := cell_at H5.out.2.2.1 (j := 2) rfl
          go_wp2_with fail
          refine (HJO.out _ H5.out.1).mono ?_
          rintro e W6 ⟨rfl, hb6⟩
          have H6 := hid (And.intro (H5.out.1.below hb6) (And.intro (row_below H5.out.2.1 hb6) (And.intro ((hb6.block _ (block_lt H5.out.2.2.1)).trans H5.out.2.2.1) ((hb6.block _ (block_lt H5.out.2.2.2)).trans H5.out.2.2.2))))
          clear hb6 H5 HJO q0 q1 q2
          by_cases hj : JO = 0
          case neg =>
            have z1 : ((JO : Int) == 0) = false := beq_eq_false_iff_ne.2 (by omega)
            have z2 : ((JO : Int) != 0) = true := by rw [bne_iff_ne]; omega
            have HJ := hid (And.intro (HJ0.out.trans (HX2.out trivial).2.2) hj)
            have HZ := hid H6.out.1.same
            clear H6 hj
            go_wp2_with fail
            go_ret
            exact start_no HJ.out.1 HJ.out.2 HZ.out
          case pos =>
            have HJ := hid (HJ0.out.trans ((HX2.out trivial).2.2.trans hj))
            have HX3 := hid (fun (_ : True) => And.intro (HX2.out trivial).1 (HX2.out trivial).2.1)
            clear HX2 HJ0
            subst hj
            have q0 := cell_at H6.out.2.2.1 (j := 0) rfl
            have a2 := cell_at H6.out.2.2.2 (j := 2) rfl
            have hrow := H6.out.1.nodes.row
            have hb3 := H6.out.1.at_
            have hbs3 := block_lt hb3
            have hneb : (Value.slice np prs.length nc).ownBlock ≠ some b := row_ne hrow hb3 (by decide)
            have hbase := H6.out.1.base
            have c0 := cell_at hb3 (j := 0) rfl
            have c1 := cell_at hb3 (j := 1) rfl
            have f1 := free_at hb3 1
            have hE6 := block_lt H6.out.2.2.1
            have hT6 := block_lt H6.out.2.2.2
            go_wp2_with fail
            have hx6 : W6.ownsRow w0.heap.size 122 2 (.slice ap AL ac) al.length (attrsV al) := by rw [HAL.out trivial]; exact H6.out.2.1
            have hE := H6.out.2.2.1
            have hEn := row_ne hrow hE (by decide)
            have hbe := HBX.out trivial
            apply cut_app (R := fun g cap W => Hid (PrS K w0 W b op (prs ++ [(⟨op.length, x, al, []⟩, .slice ap AL ac)]) eat (.slice oq op.length oc) (.slice (some ⟨g, 0, none⟩) (prs.length + 1) cap) ∧ W.heap[EB]? = some (.cells #[.string BX, .int .i64 CX, .int .i64 MX] 172 (0, 0))))
            case h =>
              go_region_law (refine step_append_lies _ rfl (.tmp 41) (.tmp 52) 29 rfl w0.heap.size 38 i0 (.agg #[.int .i64 0, .string ⟨#[]⟩, .slice none 0 0, .string ⟨#[]⟩]) 4 64 Tryz.underlying29 hi hz0 hz1 hz2 rfl (by decide) (.slice np prs.length nc) prs.length (ecells prs) (by simp [Act.eval]) (by exact hrow.alloc _) ⟨_, 0, none⟩ 1 1 [.int .i64 op.length, .string BX, .slice ap AL ac, .string ⟨#[]⟩] (by simp [Act.eval]) rfl (cells_newV _ _ _) (by simp [Value.oneCell']) (by omega) (by unfold maxLen; omega) (by omega) (by simp; omega) _ rfl ?_; rintro g cap w10 hrow10 hgrow10 - -; have hb10 : w10.heap[b]? = some (.cells #[.slice oq op.length oc, .slice np prs.length nc, .bool eat] 82 (0, 0)) := ((hgrow10.block b (by simp; omega) (fun e => hneb e.symm)).trans (alloc_old _ _ b (by exact hbs3))).trans (by exact hb3); have ce10 := cell_at hb10 (j := 1) rfl; have fe10 := free_at hb10 1)
              all_goals
                dsimp only [Exit.then]
                refine ⟨g, cap, rfl, hid ⟨?_, ?_⟩⟩
                · exact PrS.node (W := W6.drew) (x := (⟨op.length, x, al, []⟩, .slice ap AL ac)) (H6.out.1.below (below_drewN (Below.refl _ _) 1)) hx6 HN.out hgrow10 (by rw [hbe]; exact hrow10)
                · exact node_apart (W := W6.drew) hE hgrow10 hEn hbE3 hb10 1
            case hk =>
              intro g cap W7 HQ
              clear hrow hb3 hbs3 hneb c0 c1 f1 hE6 hT6 hx6 hE hEn hbe q0 a2 H6 HN
              have q0 := cell_at HQ.out.2 (j := 0) rfl
              have q1 := cell_at HQ.out.2 (j := 1) rfl
              have q2 := cell_at HQ.out.2 (j := 2) rfl
              have hns : (prs ++ [((⟨op.length, x, al, []⟩ : EvP), Value.slice ap AL ac)]).map Prod.fst = prs.map Prod.fst ++ [⟨op.length, x, al, []⟩] := by rw [List.map_append]; rfl
              have HNS := hid hns
              clear hns
              try dsimp only
              go_wp2_with fail
              refine (HV.out _).mono ?_
              rintro e W8 ⟨rfl, hb8⟩
              have H8 := hid (And.intro (HQ.out.1.below hb8) ((hb8.block _ (block_lt HQ.out.2)).trans HQ.out.2))
              clear hb8 HQ HV q0 q1 q2
              by_cases h9 : MX = 9
              · have HZ : Hid (PrTo K w0 W8 b (if modX x = 9 then op else op ++ [x]) eat (prs.map Prod.fst ++ [⟨op.length, x, al, []⟩])) := hid (by
                  rw [if_pos ((HX3.out trivial).2.trans h9), ← HNS.out]
                  exact H8.out.1.same)
                subst h9
                clear H8 HX3
                go_wp2_with fail
                go_ret
                exact start_yes HJ.out HZ.out
              · have q9 : ((MX : Int) == 9) = false := beq_eq_false_iff_ne.2 (by omega)
                have HN9 := hid (fun (_ : True) => h9)
                have hrow := H8.out.1.row
                have hb3 := H8.out.1.at_
                have hbs3 := block_lt hb3
                have hneb : (Value.slice oq op.length oc).ownBlock ≠ some b := row_ne hrow hb3 (by decide)
                have hbase := H8.out.1.base
                have c0 := cell_at hb3 (j := 0) rfl
                have f0 := free_at hb3 0
                have q0 := cell_at H8.out.2 (j := 0) rfl
                have q1 := cell_at H8.out.2 (j := 1) rfl
                have q2 := cell_at H8.out.2 (j := 2) rfl
                clear h9
                go_wp2_with fail
                go_region_law (refine step_append_lies _ rfl (.tmp 63) (.tmp 65) 80 rfl w0.heap.size 172 i1 (.agg #[.string ⟨#[]⟩, .int .i64 0, .int .i64 0]) 3 32 Tryz.underlying80 hi1 hy0 hy1 hy2 rfl (by decide) (.slice oq op.length oc) op.length (elems op) (by simp [Act.eval]) (by exact World.ownsRow.alloc hrow _) ⟨_, 0, none⟩ 1 1 [.string BX, .int .i64 (CX : Nat), .int .i64 (MX : Nat)] (by simp [Act.eval]) rfl (cells_newV _ _ _) (by simp [Value.oneCell']) (by omega) (by unfold maxLen; omega) (by omega) (by simp; omega) _ rfl ?_; rintro g2 cap2 w10 hrow10 hgrow10 - -; have hb10 : w10.heap[b]? = some (.cells #[.slice oq op.length oc, .slice (some ⟨g, 0, none⟩) (prs.length + 1) cap, .bool eat] 82 (0, 0)) := ((hgrow10.block b (by simp; omega) (fun e => hneb e.symm)).trans (alloc_old _ _ b (by exact hbs3))).trans (by exact hb3); have ce10 := cell_at hb10 (j := 0) rfl; have fe10 := free_at hb10 0)
                all_goals
                  have hpn := PrS.push (x := x) (W := W8.drew) (H8.out.1.below (below_drewN (Below.refl _ _) 1)) (by omega) hgrow10 (by rw [HBX.out trivial, (HX3.out trivial).1, (HX3.out trivial).2]; exact hrow10)
                  have HZ : Hid (PrTo K w0 (w10.setCell ⟨b, 0, none⟩ (.slice (some ⟨g2, 0, none⟩) (op.length + 1) cap2)) b (if modX x = 9 then op else op ++ [x]) eat (prs.map Prod.fst ++ [⟨op.length, x, al, []⟩])) := hid (by
                    rw [if_neg (fun e => HN9.out trivial ((HX3.out trivial).2.symm.trans e)), ← HNS.out]
                    exact hpn.same)
                  clear hpn hrow10 hgrow10 hb10 ce10 fe10 H8
                  go_wp2_with fail
                  go_ret
                  exact start_yes HJ.out HZ.out
end Go.Proofs.YtcncbhbdpcpkeaaGreatDoor
