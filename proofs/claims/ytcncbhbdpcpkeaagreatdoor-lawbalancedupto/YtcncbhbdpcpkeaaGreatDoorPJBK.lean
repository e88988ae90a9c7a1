/-
  Parts of the walk, joined: ParT.
-/
import Derived.Test.YtcncbhbdpcpkeaaGreatDoorPJBJ
/-
  The parser's addText: its walk.
-/
namespace Go.Proofs.YtcncbhbdpcpkeaaGreatDoor
open Go.RowKit Go.Lib Own

/-- what a text gives: the verdict and the nodes -/
def textS (op : List (List UInt8)) (ns : List EvP) (T : List UInt8) : Nat × List EvP :=
  if T = [] then (0, ns) else if (innT op = 5 ∨ innT op = 6 ∨ innT op = 7) ∧ T.all wsP = false then (8, ns) else (0, ns ++ [⟨op.length, [], [], T⟩])
/-- what stands behind a step: the nodes are these -/
def PrTo (K : Nat → Array Value → Prop) (w0 w' : World) (b : Nat) (op : List (List UInt8)) (eat : Bool) (ns : List EvP) : Prop := ∃ prs' ov' nv', PrS K w0 w' b op prs' eat ov' nv' ∧ prs'.map Prod.fst = ns
structure StepOut (K : Nat → Array Value → Prop) (w0 w' : World) (b : Nat) (op : List (List UInt8)) (eat : Bool) (v : Nat) (ns : List EvP) (e : Ending) : Prop where
  ans : e = .returned (.int .i64 v)
  prt : PrTo K w0 w' b op eat ns
theorem eaten_trim (t : List UInt8) : Lib.trimPrefix t [10] = eaten true t := by
  unfold Lib.trimPrefix Lib.hasPrefix eaten
  cases t with
  | nil => rfl
  | cons c r =>
    simp only [List.isPrefixOf, Bool.and_true, beq_iff_eq, List.head?_cons, Option.some.injEq, true_and, List.tail_cons]
    by_cases h : c = 10
    · rw [if_pos h.symm, if_pos h]; rfl
    · rw [if_neg (fun e => h e.symm), if_neg h]
set_option maxHeartbeats 16000000 in
set_option maxRecDepth 100000 in
theorem prText_any (K : Nat → Array Value → Prop) (w0 : World) (b : Nat) (op : List (List UInt8)) (prs : List (EvP × Value)) (eat : Bool) (ov nv : Value) (t : List UInt8) (w : World) (h : PrS K w0 w b op prs eat ov nv) (hl : prs.length ≤ 90000000) (ht : t.length ≤ 100000000) :
    Calls Tryz.prog 79 #[.pointer (some ⟨b, 0, none⟩), .string (bs t)] w fun e w' => StepOut K w0 w' b op eat (textS op (prs.map Prod.fst) (eaten eat t)).1 (textS op (prs.map Prod.fst) (eaten eat t)).2 e := by
  obtain ⟨i0, hi, hz0, hz1, hz2⟩ := info_parts info_node
  obtain ⟨np, nc, rfl⟩ := row_shape h.nodes.row
  obtain ⟨oq, oc, rfl⟩ := h.row.shape
  have htp := fun W => Tryz.strings_TrimPrefix (bs t) ⟨#[10]⟩ W
  rw [bs_data, show (⟨#[10]⟩ : ByteArray).data.toList = [10] from rfl, eaten_trim] at htp
  have hel : (eaten eat t).length ≤ t.length := by
    unfold eaten
    split
    · rw [List.length_tail]; omega
    · exact Nat.le_refl _
  have heat : eat = false → eaten eat t = t := fun e => by unfold eaten; rw [e, if_neg (fun h => by cases h.1)]
  have c2 := cell_at h.at_ (j := 2) rfl
  obtain ⟨T, hT⟩ : ∃ T, eaten eat t = T := ⟨_, rfl⟩
  have htp' : ∀ W, eat = true → Calls Tryz.prog 149 #[.string (bs t), .string ⟨#[10]⟩] W fun e w' => e = .returned (.string (bs T)) ∧ w' = W := fun W e => by
    have := htp W
    rw [← e, hT] at this
    exact this
  rw [hT] at hel heat ⊢
  obtain ⟨R, hR⟩ : ∃ R, textS op (prs.map Prod.fst) T = R := ⟨_, rfl⟩
  rw [hR]
  have HR := hid (fun (_ : True) => hR)
  have htt : T.length ≤ 100000000 := by omega
  obtain ⟨BT, hBT⟩ : ∃ BT, bs T = BT := ⟨_, rfl⟩
  obtain ⟨Bt, hBt⟩ : ∃ Bt, bs t = Bt := ⟨_, rfl⟩
  have hsame : eat = false → Bt = BT := fun e => by rw [← hBt, ← hBT, heat e]
  rw [hBT, hBt] at htp'
  rw [hBt]
  have HTP := hid htp'
  have HH := hid h
  have hne : (BT.toList == []) = decide (T = []) := by rw [← hBT, bs_toList, Bool.eq_iff_iff, beq_iff_eq, decide_eq_true_iff]
  have HBT := hid (fun (_ : True) => hBT)
  clear htp htp' hT hR h hel ht heat hBt hBT
  by_cases h0 : T = []
  · rw [decide_eq_true h0] at hne
    have hr := HR.out trivial
    unfold textS at hr
    rw [if_pos h0] at hr
    subst hr
    have HZ : Hid (PrTo K w0 w b op eat (prs.map Prod.fst)) := hid ⟨prs, _, _, HH.out, rfl⟩
    clear HR h0
    cases eat with
    | false =>
      obtain rfl := hsame rfl
      clear HTP HH
      go_enter Tryz.func79, Tryz.ntmps79
      go_wp2_with fail
      go_ret
      exact ⟨rfl, HZ.out⟩
    | true =>
      clear HH hsame
      go_enter Tryz.func79, Tryz.ntmps79
      go_wp2_with fail
      refine (HTP.out _ (by trivial)).mono ?_
      rintro e w' ⟨rfl, rfl⟩
      go_wp2_with fail
      go_ret
      exact ⟨rfl, HZ.out⟩
  · rw [decide_eq_false h0] at hne
    have hne2 : (BT.toList != []) = true := by rw [bne, hne]; rfl
    have hit := fun W (hW : PrS K w0 W b op prs eat (.slice oq op.length oc) (.slice np prs.length nc)) => innTab_any w0.heap.size b op _ _ eat W hW.rd
    have hmi : innT op = modX (innE op.reverse) := by rw [innE_mod]; rfl
    unfold elemV at hit
    have hml := modX_lt (innE op.reverse)
    have hr := HR.out trivial
    unfold textS at hr
    rw [if_neg h0, hmi] at hr
    generalize modX (innE op.reverse) = IT at hit hr hml
    generalize ((clsX (innE op.reverse) : Nat) : Int) = IC at hit
    generalize bs (innE op.reverse) = IB at hit
    have hf2 := fun (mm : Int) W => (field_el (.string IB) (.int .i64 IC) (.int .i64 mm) W).2.2
    have htr := fun W => trim_any T W htt
    rw [HBT.out trivial] at htr
    have hal : ((bs (Lib.trimS T [9, 10, 12, 32])).toList == []) = T.all wsP := by
      rw [bs_toList, Bool.eq_iff_iff, beq_iff_eq]
      exact trim_all T
    have hal2 : ((bs (Lib.trimS T [9, 10, 12, 32])).toList != []) = !T.all wsP := by rw [bne, hal]
    generalize bs (Lib.trimS T [9, 10, 12, 32]) = TR at htr hal hal2
    generalize hAL : T.all wsP = AL at hal hal2 hr
    have HIT := hid hit
    have HTR := hid htr
    have HF8 := hid (fun (_ : True) (h1 : IT = 5 ∨ IT = 6 ∨ IT = 7) (h2 : AL = false) => (show (8, prs.map Prod.fst) = R by rw [← hr, if_pos ⟨h1, h2⟩]))
    have HF0 := hid (fun (_ : True) (h1 : (IT = 5 ∨ IT = 6 ∨ IT = 7) → AL = true) => (show (0, prs.map Prod.fst ++ [⟨op.length, [], [], T⟩]) = R by rw [← hr, if_neg (fun h => by have := h1 h.1; rw [h.2] at this; cases this)]))
    clear hit htr hr hmi HR hAL
    have hop : op.length ≤ 900000 := HH.out.few
    have hcase : (eat = false ∧ BT = Bt) ∨ eat = true := by
      cases eat with
      | false => exact .inl ⟨rfl, (hsame rfl).symm⟩
      | true => exact .inr rfl
    clear hsame
    rcases hcase with ⟨rfl, rfl⟩ | rfl
    case' inl =>
      clear HTP
      go_enter Tryz.func79, Tryz.ntmps79
    case' inr =>
      go_enter Tryz.func79, Tryz.ntmps79
      go_wp2_with fail
      refine (HTP.out _ (by trivial)).mono ?_
      rintro e w' ⟨rfl, rfl⟩
      clear HTP
    all_goals
      go_wp2_with fail
      refine (HIT.out _ HH.out).mono ?_
      rintro e W1 ⟨rfl, hb1⟩
      have H1 := hid (HH.out.below hb1)
      clear hb1 HH HIT c2
      have hk : (IT = 5 ∨ IT = 6 ∨ IT = 7) ∨ ¬ (IT = 5 ∨ IT = 6 ∨ IT = 7) := Classical.em _
      rcases hk with hk | hk
      case' inl =>
        have HKK := hid (fun (_ : True) => hk)
        rcases hk with rfl | rfl | rfl
        all_goals
          go_wp2_with fail
          refine (HTR.out _).mono ?_
          rintro e W2 ⟨rfl, hb2⟩
          have H2 := hid (H1.out.below hb2)
          clear hb2 H1
          by_cases hA : AL = true
          · have hr := HF0.out trivial (fun _ => hA)
            subst hA
            have hrow := H2.out.nodes.row
            have hb3 := H2.out.at_
            have hbs3 := block_lt hb3
            have hneb : (Value.slice np prs.length nc).ownBlock ≠ some b := row_ne hrow hb3 (by decide)
            have hbase := H2.out.base
            have ce0 := cell_at hb3 (j := 0) rfl
            have ce1 := cell_at hb3 (j := 1) rfl
            have fe1 := free_at hb3 1
            subst hr
            clear HF8 HF0
            go_wp2_with fail
            go_region_law (refine step_append_lies _ rfl (.tmp 27) (.tmp 35) 29 rfl w0.heap.size 38 i0 (.agg #[.int .i64 0, .string ⟨#[]⟩, .slice none 0 0, .string ⟨#[]⟩]) 4 64 Tryz.underlying29 hi hz0 hz1 hz2 rfl (by decide) (.slice np prs.length nc) prs.length (ecells prs) (by simp [Act.eval]) (by exact hrow.alloc _) ⟨_, 0, none⟩ 1 1 [.int .i64 op.length, .string ⟨#[]⟩, .slice none 0 0, .string BT] (by simp [Act.eval]) rfl (cells_newV _ _ _) (by simp [Value.oneCell']) (by omega) (by unfold maxLen; omega) (by omega) (by simp; omega) _ rfl ?_; rintro g cap w10 hrow10 hgrow10 - -; have hb10 : w10.heap[b]? = some (.cells #[.slice oq op.length oc, .slice np prs.length nc, .bool _] 82 (0, 0)) := ((hgrow10.block b (by simp; omega) (fun e => hneb e.symm)).trans (alloc_old _ _ b (by exact hbs3))).trans (by exact H2.out.at_); have ce10 := cell_at hb10 (j := 1) rfl; have fe10 := free_at hb10 1)
            all_goals
              have hpn := PrS.node (W := W2.drew) (x := (⟨op.length, [], [], T⟩, .slice none 0 0)) (H2.out.below (below_drewN (Below.refl _ _) 1)) (World.ownsRow_nil _ _ _ _) (fun g e => by cases e) hgrow10 (by rw [HBT.out trivial]; exact hrow10)
              have HZ : Hid (PrTo K w0 (w10.setCell ⟨b, 1, none⟩ (.slice (some ⟨g, 0, none⟩) (prs.length + 1) cap)) b op _ (prs.map Prod.fst ++ [⟨op.length, [], [], T⟩])) := hid ⟨_, _, _, hpn, by rw [List.map_append]; rfl⟩
              clear hpn hrow10 hgrow10 hb10 ce10 fe10
              go_wp2_with fail
              go_ret
              exact ⟨rfl, HZ.out⟩
          · have hA2 : AL = false := by simpa using hA
            have hr := HF8.out trivial (by simp) hA2
            subst hr
            subst hA2
            have HZ : Hid (PrTo K w0 W2 b op _ (prs.map Prod.fst)) := hid ⟨prs, _, _, H2.out, rfl⟩
            clear hA HF8 HF0 H2
            go_wp2_with fail
            go_ret
            exact ⟨rfl, HZ.out⟩
      case' inr =>
        have q5 : ((IT : Int) == 5) = false := beq_eq_false_iff_ne.2 (by omega)
        have q6 : ((IT : Int) == 6) = false := beq_eq_false_iff_ne.2 (by omega)
        have q7 : ((IT : Int) == 7) = false := beq_eq_false_iff_ne.2 (by omega)
        have hr := HF0.out trivial (fun h => absurd h hk)
        clear hk
        have hrow := H1.out.nodes.row
        have hb3 := H1.out.at_
        have hbs3 := block_lt hb3
        have hneb : (Value.slice np prs.length nc).ownBlock ≠ some b := row_ne hrow hb3 (by decide)
        have hbase := H1.out.base
        have ce0 := cell_at hb3 (j := 0) rfl
        have ce1 := cell_at hb3 (j := 1) rfl
        have fe1 := free_at hb3 1
        subst hr
        clear HF8 HF0
        go_wp2_with fail
        go_region_law (refine step_append_lies _ rfl (.tmp 27) (.tmp 35) 29 rfl w0.heap.size 38 i0 (.agg #[.int .i64 0, .string ⟨#[]⟩, .slice none 0 0, .string ⟨#[]⟩]) 4 64 Tryz.underlying29 hi hz0 hz1 hz2 rfl (by decide) (.slice np prs.length nc) prs.length (ecells prs) (by simp [Act.eval]) (by exact hrow.alloc _) ⟨_, 0, none⟩ 1 1 [.int .i64 op.length, .string ⟨#[]⟩, .slice none 0 0, .string BT] (by simp [Act.eval]) rfl (cells_newV _ _ _) (by simp [Value.oneCell']) (by omega) (by unfold maxLen; omega) (by omega) (by simp; omega) _ rfl ?_; rintro g cap w10 hrow10 hgrow10 - -; have hb10 : w10.heap[b]? = some (.cells #[.slice oq op.length oc, .slice np prs.length nc, .bool _] 82 (0, 0)) := ((hgrow10.block b (by simp; omega) (fun e => hneb e.symm)).trans (alloc_old _ _ b (by exact hbs3))).trans (by exact H1.out.at_); have ce10 := cell_at hb10 (j := 1) rfl; have fe10 := free_at hb10 1)
        all_goals
          have hpn := PrS.node (W := W1.drew) (x := (⟨op.length, [], [], T⟩, .slice none 0 0)) (H1.out.below (below_drewN (Below.refl _ _) 1)) (World.ownsRow_nil _ _ _ _) (fun g e => by cases e) hgrow10 (by rw [HBT.out trivial]; exact hrow10)
          have HZ : Hid (PrTo K w0 (w10.setCell ⟨b, 1, none⟩ (.slice (some ⟨g, 0, none⟩) (prs.length + 1) cap)) b op _ (prs.map Prod.fst ++ [⟨op.length, [], [], T⟩])) := hid ⟨_, _, _, hpn, by rw [List.map_append]; rfl⟩
          clear hpn hrow10 hgrow10 hb10 ce10 fe10
          go_wp2_with fail
          go_ret
          exact ⟨rfl, HZ.out⟩
end Go.Proofs.YtcncbhbdpcpkeaaGreatDoor
