/-
  Parts of the walk, joined: StepC, StepAll, ReadAll, EndAll.
-/
import Derived.Test.YtialeicpelehoaaDoorPartH
import Derived.Test.YtialeicpelehoaaDoorPartI
/-
  The reader's skipComment: its walk.
-/
namespace Go.Proofs.YtialeicpelehoaaDoor
open Go.RowKit Go.Lib Own

theorem suffix_of (L X : List UInt8) : Lib.hasSuffix L X = decide (X <:+ L) := by
  rw [Bool.eq_iff_iff, decide_eq_true_iff]
  exact List.isSuffixOf_iff_suffix
theorem dash_cases (L : List UInt8) : ([45, 45] <:+ L ∧ dashes L = 2) ∨ (¬ [45, 45] <:+ L ∧ [45] <:+ L ∧ dashes L = 1) ∨ (¬ [45, 45] <:+ L ∧ ¬ [45] <:+ L ∧ dashes L = 0) := by
  unfold dashes
  by_cases h : [45, 45] <:+ L
  · exact .inl ⟨h, by rw [if_pos h]⟩
  · by_cases h2 : [45] <:+ L
    · exact .inr (.inl ⟨h, h2, by rw [if_neg h, if_pos h2]⟩)
    · exact .inr (.inr ⟨h, h2, by rw [if_neg h, if_neg h2]⟩)
theorem dash_len (L : List UInt8) : dashes L ≤ L.length := by
  rcases dash_cases L with ⟨h, e⟩ | ⟨_, h, e⟩ | ⟨_, _, e⟩
  · rw [e]; exact h.length_le
  · rw [e]; exact h.length_le
  · rw [e]; exact Nat.zero_le _

set_option maxHeartbeats 2000000 in
set_option maxRecDepth 10000 in
theorem skipComment_any (base b : Nat) (win : Int) (data : ByteArray) (pos mode : Nat) (eat : Bool) (evs : List Ev) (pend : List UInt8) (m : Int) (w : World) (h : Rdr w base b win data pos mode 1 eat evs pend) (hd : data.size ≤ 10000000) (hp : pos ≤ data.size)
    (hm : w.cell? ⟨7, 0, none⟩ = some (.int .i64 m)) :
    Calls Tryd.prog 56 #[.pointer (some ⟨b, 0, none⟩)] w fun e w' => StepAt w w' base b win data pos evs pend e (commentRes ⟨mode, 1, eat⟩ (data.data.toList.drop pos)) := by
  have hll : (data.data.toList.drop pos).length = data.size - pos := by rw [List.length_drop, ← size_eq]
  have hdl := dash_len (data.data.toList.drop pos)
  have hle := com_append (data.data.toList.drop pos) [] 0
  obtain ⟨⟨c0, c1, c2, c3, c4, c5⟩, hf, _⟩ := h.cells
  have f2 := hf 2
  have f4 := hf 4
  obtain ⟨t, ht⟩ : ∃ t : ByteArray, data.extract pos data.size = t := ⟨_, rfl⟩
  have htl : t.data.toList = data.data.toList.drop pos := by rw [← ht]; exact extract_to_end data pos
  have htz : t.size ≤ 10000000 := by rw [← ht, ByteArray.size_extract]; omega
  have hcall := fun W hmW => Tryd.strings_Index t ⟨#[45, 45, 62]⟩ m W (by omega) hmW
  have hix := index_com (data.data.toList.drop pos) 0 (by omega)
  rw [List.replicate_zero, List.nil_append] at hix
  rw [htl, show (⟨#[45, 45, 62]⟩ : ByteArray).data.toList = [45, 45, 62] from rfl, hix] at hcall
  have hsuf := fun p W => Tryd.strings_HasSuffix t p W (by omega)
  rw [htl] at hsuf
  have HR := hid h
  have HM := hid hm
  unfold commentRes
  cases hi : (comL 0 (data.data.toList.drop pos)).1 with
  | some n =>
    have hn3 := com_ge (data.data.toList.drop pos) 0 n (by omega) hi
    have hnl : n ≤ data.size - pos := by
      rcases hle with ⟨n', h1, -, h3, -⟩ | ⟨h1, -⟩
      · rw [hi] at h1; cases h1; omega
      · rw [hi] at h1; cases h1
    obtain ⟨f, rfl⟩ : ∃ f, n = f + 3 := ⟨n - 3, by omega⟩
    rw [hi, show comI 0 (some (f + 3)) = (f : Int) from (by unfold comI; simp only; omega)] at hcall
    have w1 : IntKind.i64.wrap ((f : Int) + 3) = (f : Int) + 3 := by rw [IntKind.wrap_i64]; omega
    have w2 : IntKind.i64.wrap ((pos : Int) + ((f : Int) + 3)) = ((pos + (f + 3) : Nat) : Int) := by rw [IntKind.wrap_i64]; omega
    have hng : (0 : Int) ≤ (f : Int) := by omega
    have HC := hid hcall
    unfold StepAt
    simp only
    generalize ((pos + (f + 3) : Nat) : Int) = q at *
    clear hcall hi h hf htl hll hsuf hdl hle hix hn3 hnl hm
    go_enter Tryd.func56, Tryd.ntmps56
    go_wp2_with fail
    go_quiet (fail)
    go_wp2_with (go_at_call 81; refine (HC.out _ (by exact HM.out)).mono ?_; rintro e w' ⟨rfl, rfl⟩)
    go_ret
    exact ⟨rfl, (((HR.out.drewN _).setPos _).1.setScan _).1, ((below_drewN (Below.refl base w) _).trans ((HR.out.drewN _).setPos _).2).trans (((HR.out.drewN _).setPos _).1.setScan _).2⟩
  | none =>
    rw [hi] at hcall
    have hcom := com_dash (data.data.toList.drop pos) 0 (by omega) hi
    rw [List.replicate_zero, List.nil_append] at hcom
    simp only
    rw [hcom]
    have hcases := dash_cases (data.data.toList.drop pos)
    have hs2 := fun W => hsuf ((⟨#[45, 45, 62]⟩ : ByteArray).extract 0 2) W
    have hs1 := fun W => hsuf ((⟨#[45, 45, 62]⟩ : ByteArray).extract 0 1) W
    rw [show ((⟨#[45, 45, 62]⟩ : ByteArray).extract 0 2).data.toList = [45, 45] from rfl, suffix_of] at hs2
    rw [show ((⟨#[45, 45, 62]⟩ : ByteArray).extract 0 1).data.toList = [45] from rfl, suffix_of] at hs1
    obtain ⟨l2, hl2⟩ : ∃ l2 : ByteArray, (⟨#[45, 45, 62]⟩ : ByteArray).extract 0 2 = l2 := ⟨_, rfl⟩
    obtain ⟨l1, hl1⟩ : ∃ l1 : ByteArray, (⟨#[45, 45, 62]⟩ : ByteArray).extract 0 1 = l1 := ⟨_, rfl⟩
    rw [hl2] at hs2
    rw [hl1] at hs1
    rw [show comI 0 none = -1 from rfl] at hcall
    have HC := hid hcall
    unfold StepAt
    simp only
    clear hle
    have fin : ∀ (n : Nat) (W : World) (q : Int), Below base w W → Rdr W base b win data data.size mode 1 eat evs pend → Rdr (W.setCell ⟨b, 2, none⟩ (.int .i64 q)) base b win data q mode 1 eat evs pend ∧ Below base w (W.setCell ⟨b, 2, none⟩ (.int .i64 q)) := fun n W q hb hr => ⟨(hr.setPos q).1, hb.trans (hr.setPos q).2⟩
    rcases hcases with ⟨e1, e2⟩ | ⟨e1, e3, e2⟩ | ⟨e1, e3, e2⟩
    · rw [decide_eq_true e1] at hs2
      rw [e2] at hdl ⊢
      have hwr : IntKind.i64.wrap ((data.size : Int) - 2) = ((pos + ((data.data.toList.drop pos).length - 2) : Nat) : Int) := by rw [IntKind.wrap_i64]; omega
      have hS2 := hid hs2
      clear hcall hi h hf htl hll hsuf hdl hix hm hcom e1 e2 hs1 hs2 hl1
      generalize ((pos + ((data.data.toList.drop pos).length - 2) : Nat) : Int) = q at *
      go_enter Tryd.func56, Tryd.ntmps56
      go_wp2_with fail
      go_quiet (fail)
      go_wp2_with (go_at_call 81; refine (HC.out _ (by exact HM.out)).mono ?_; rintro e w' ⟨rfl, rfl⟩)
      obtain ⟨r1, b1⟩ := (HR.out.drewN nq).setPos (data.size : Int)
      obtain ⟨⟨k0, k1, k2, k3, k4, k5⟩, kf, _⟩ := r1.cells
      have b2 := (below_drewN (Below.refl base w) nq).trans b1
      generalize (w.drewN nq).setCell ⟨b, 2, none⟩ (.int .i64 (data.size : Int)) = W1 at *
      have kf2 := kf 2
      have FIN := hid (fin 0 W1 q b2 r1)
      clear c0 c1 c2 c3 c4 c5 f2 f4 fin r1 b1 b2 kf
      go_loopw [5] (fun iv wr => iv = .int .i64 2 ∧ wr = W1) (fun iv _ => (RowKit.intOf iv).toNat)
      case atStart => exact ⟨rfl, rfl⟩
      case round =>
        obtain ⟨rfl, rfl⟩ := hrel
        go_wp2_with (go_at_call 82; refine (hS2.out _).mono ?_; rintro e w' ⟨rfl, rfl⟩)
        go_ret
        exact ⟨rfl, FIN.out⟩
    · rw [decide_eq_false e1] at hs2
      rw [decide_eq_true e3] at hs1
      rw [e2] at hdl ⊢
      have hwr : IntKind.i64.wrap ((data.size : Int) - 1) = ((pos + ((data.data.toList.drop pos).length - 1) : Nat) : Int) := by rw [IntKind.wrap_i64]; omega
      have hS2 := hid hs2
      have hS1 := hid hs1
      clear hcall hi h hf htl hll hsuf hdl hix hm hcom e1 e2 e3 hs1 hs2
      generalize ((pos + ((data.data.toList.drop pos).length - 1) : Nat) : Int) = q at *
      go_enter Tryd.func56, Tryd.ntmps56
      go_wp2_with fail
      go_quiet (fail)
      go_wp2_with (go_at_call 81; refine (HC.out _ (by exact HM.out)).mono ?_; rintro e w' ⟨rfl, rfl⟩)
      obtain ⟨r1, b1⟩ := (HR.out.drewN nq).setPos (data.size : Int)
      obtain ⟨⟨k0, k1, k2, k3, k4, k5⟩, kf, _⟩ := r1.cells
      have b2 := (below_drewN (Below.refl base w) nq).trans b1
      generalize (w.drewN nq).setCell ⟨b, 2, none⟩ (.int .i64 (data.size : Int)) = W1 at *
      have kf2 := kf 2
      have FIN := hid (fin 0 W1 q b2 r1)
      clear c0 c1 c2 c3 c4 c5 f2 f4 fin r1 b1 b2 kf
      go_loopw [5] (fun iv wr => (iv = .int .i64 2 ∨ iv = .int .i64 1) ∧ wr = W1) (fun iv _ => (RowKit.intOf iv).toNat)
      case atStart => exact ⟨.inl rfl, rfl⟩
      case round =>
        obtain ⟨rfl | rfl, rfl⟩ := hrel
        · go_wp2_with (go_at_call 82; refine (hS2.out _).mono ?_; rintro e w' ⟨rfl, rfl⟩)
          go_roundw
          case rel => exact ⟨.inr rfl, (by trivial)⟩
          case measure => simp [RowKit.intOf]
        · go_wp2_with (go_at_call 82; refine (hS1.out _).mono ?_; rintro e w' ⟨rfl, rfl⟩)
          go_ret
          exact ⟨rfl, FIN.out⟩
    · rw [decide_eq_false e1] at hs2
      rw [decide_eq_false e3] at hs1
      rw [e2] at hdl ⊢
      have hq : ((pos + ((data.data.toList.drop pos).length - 0) : Nat) : Int) = (data.size : Int) := by omega
      rw [hq]
      have hS2 := hid hs2
      have hS1 := hid hs1
      clear hcall hi h hf htl hll hsuf hdl hix hm hcom e1 e2 e3 hs1 hs2 hq
      go_enter Tryd.func56, Tryd.ntmps56
      go_wp2_with fail
      go_quiet (fail)
      go_wp2_with (go_at_call 81; refine (HC.out _ (by exact HM.out)).mono ?_; rintro e w' ⟨rfl, rfl⟩)
      obtain ⟨r1, b1⟩ := (HR.out.drewN nq).setPos (data.size : Int)
      have b2 := (below_drewN (Below.refl base w) nq).trans b1
      generalize (w.drewN nq).setCell ⟨b, 2, none⟩ (.int .i64 (data.size : Int)) = W1 at *
      have FIN := hid (And.intro r1 b2)
      clear c0 c1 c2 c3 c4 c5 f2 f4 fin r1 b1 b2
      go_loopw [5] (fun iv wr => (iv = .int .i64 2 ∨ iv = .int .i64 1 ∨ iv = .int .i64 0) ∧ wr = W1) (fun iv _ => (RowKit.intOf iv).toNat)
      case atStart => exact ⟨.inl rfl, rfl⟩
      case round =>
        obtain ⟨rfl | rfl | rfl, rfl⟩ := hrel
        · go_wp2_with (go_at_call 82; refine (hS2.out _).mono ?_; rintro e w' ⟨rfl, rfl⟩)
          go_roundw
          case rel => exact ⟨.inr (.inl rfl), (by trivial)⟩
          case measure => simp [RowKit.intOf]
        · go_wp2_with (go_at_call 82; refine (hS1.out _).mono ?_; rintro e w' ⟨rfl, rfl⟩)
          go_roundw
          case rel => exact ⟨.inr (.inr rfl), (by trivial)⟩
          case measure => simp [RowKit.intOf]
        · go_wp2
          go_ret
          exact ⟨rfl, FIN.out⟩
end Go.Proofs.YtialeicpelehoaaDoor

/-
  The reader's readData, readTextarea, skipRaw, step: their walks.
-/
namespace Go.Proofs.YtialeicpelehoaaDoor
open Go.RowKit Go.Lib Own

theorem head_at {L : List UInt8} {pos : Nat} {x : UInt8} (h : L[pos]? = some x) : (L.drop pos).getD 0 0 = x := by
  rw [List.getD_eq_getElem?_getD, List.getElem?_drop, Nat.add_zero, h]
  rfl

set_option maxHeartbeats 4000000 in
set_option maxRecDepth 100000 in
theorem readData_any (base b win : Nat) (data : ByteArray) (pos mode : Nat) (eat : Bool) (evs : List Ev) (pend : List UInt8) (m : Int) (w : World) (H : StepPre base b win data pos ⟨mode, 0, eat⟩ evs pend m w) :
    Calls Tryd.prog 59 #[.pointer (some ⟨b, 0, none⟩)] w fun e w' => StepAt w w' base b win data pos evs pend e (dataRes win ⟨mode, 0, eat⟩ (data.data.toList.drop pos)) := by
  have hp := H.hp
  have hd := H.hd
  obtain ⟨x, hx⟩ : ∃ x, data[pos]'hp = x := ⟨_, rfl⟩
  have hlx := getElem_list hp hx
  have hmk := fun W hW => readMarkup_any base b win data pos mode eat evs pend m W hW
  have href := fun W hW hTW hmW => readRef_any base b win data pos mode eat evs pend m W hW hd hp H.hpl hTW hmW
  have hby := fun W hW => byte_told base b win data pos mode eat evs pend W hW H.hpl hd hp x hlx
  obtain ⟨⟨c0, c1, c2, c3, c4, c5⟩, _, _⟩ := H.h.cells
  unfold dataRes
  rw [head_at hlx]
  have HH := hid H
  have HMK := hid hmk
  have HRF := hid href
  have HBY := hid hby
  clear hmk href hby
  by_cases h60 : x = 60
  · rw [if_pos h60]
    have hl60 : data.data.toList[pos]? = some 60 := by rw [hlx, h60]
    have r1 : ((x.toNat : Int) == 60) = true := by rw [h60]; rfl
    have HL := hid hl60
    clear h60 hl60 hlx HRF HBY H
    go_enter Tryd.func59, Tryd.ntmps59
    go_wp2_with fail
    go_quiet (fail)
    go_wp2_with (go_at_call 85; refine (HMK.out _ (by exact ⟨HH.out.h.drewN nq, HH.out.hd, HH.out.hp, HH.out.hwin, HH.out.hel, HH.out.hpl, HH.out.hT.drewN nq⟩) HL.out).mono ?_; rintro e w3 h3; obtain ⟨c, rfl⟩ := h3.bool)
    go_ret
    exact StepAt.after h3 (below_drewN (Below.refl base w) nq)
  · rw [if_neg h60]
    have r1 : ((x.toNat : Int) == 60) = false := beq_eq_false_iff_ne.2 (fun e => h60 (UInt8.toNat_inj.1 (by simp; omega)))
    by_cases h38 : x = 38
    · rw [if_pos h38]
      have r2 : ((x.toNat : Int) == 38) = true := by rw [h38]; rfl
      clear h60 h38 hlx HMK HBY H
      go_enter Tryd.func59, Tryd.ntmps59
      go_wp2_with fail
      go_quiet (fail)
      go_wp2_with (go_at_call 86; refine (HRF.out _ (by exact HH.out.h.drewN nq) (by exact (HH.out.hT.drewN nq).ch) (by exact HH.out.hT.max)).mono ?_; rintro e w3 h3; obtain ⟨c, rfl⟩ := h3.bool)
      go_ret
      exact StepAt.after h3 (below_drewN (Below.refl base w) nq)
    · rw [if_neg h38]
      have r2 : ((x.toNat : Int) == 38) = false := beq_eq_false_iff_ne.2 (fun e => h38 (UInt8.toNat_inj.1 (by simp; omega)))
      clear h60 h38 hlx HMK HRF H
      go_enter Tryd.func59, Tryd.ntmps59
      go_wp2_with fail
      go_quiet (fail)
      go_wp2_with (go_at_call 43; refine (HBY.out _ (by exact HH.out.h.drewN nq)).mono ?_; rintro e w3 ⟨rfl, h3⟩)
      go_ret
      exact StepAt.after h3 (below_drewN (Below.refl base w) nq)

set_option maxHeartbeats 4000000 in
set_option maxRecDepth 100000 in
theorem readTextarea_any (base b win : Nat) (data : ByteArray) (pos : Nat) (eat : Bool) (evs : List Ev) (pend : List UInt8) (m : Int) (w : World) (H : StepPre base b win data pos ⟨1, 0, eat⟩ evs pend m w) :
    Calls Tryd.prog 60 #[.pointer (some ⟨b, 0, none⟩)] w fun e w' => StepAt w w' base b win data pos evs pend e (areaRes win ⟨1, 0, eat⟩ (data.data.toList.drop pos)) := by
  have hp := H.hp
  have hd := H.hd
  obtain ⟨x, hx⟩ : ∃ x, data[pos]'hp = x := ⟨_, rfl⟩
  have hlx := getElem_list hp hx
  have hown := fun W hW => ownEnd_any b win data pos 1 0 eat W hW (by omega) (by omega) hd (by omega)
  have htg := fun hpk W hW hTW => readTag_any base b win data pos 2 1 eat evs pend m W hW hd (.inr rfl) hpk H.hwin H.hel hTW
  have href := fun W hW hTW hmW => readRef_any base b win data pos 1 eat evs pend m W hW hd hp H.hpl hTW hmW
  have hby := fun W hW => byte_told base b win data pos 1 eat evs pend W hW H.hpl hd hp x hlx
  obtain ⟨⟨c0, c1, c2, c3, c4, c5⟩, _, _⟩ := H.h.cells
  have hw2 : IntKind.i64.wrap ((pos : Int) + 2) = ((pos + 2 : Nat) : Int) := by rw [IntKind.wrap_i64]; omega
  unfold areaRes
  rw [head_at hlx]
  have htwo := own_two (60 :: 47 :: rawL 1) (data.data.toList.drop pos)
  have hll : (data.data.toList.drop pos).length = data.size - pos := by rw [List.length_drop, ← size_eq]
  generalize ownL (60 :: 47 :: rawL 1) (data.data.toList.drop pos) = O at hown htwo ⊢
  have HH := hid H
  have HOW := hid hown
  have HTG := hid htg
  have HRF := hid href
  have HBY := hid hby
  clear htg href hby hown
  by_cases h60 : x = 60
  · rw [if_pos h60]
    have r1 : ((x.toNat : Int) == 60) = true := by rw [h60]; rfl
    have r2 : ((x.toNat : Int) == 38) = false := by rw [h60]; rfl
    rw [h60] at HBY
    clear HRF hlx h60 H
    by_cases h1 : O = 1
    · subst h1
      simp only [if_true]
      clear HTG HBY htwo
      go_enter Tryd.func60, Tryd.ntmps60
      go_wp2_with fail
      go_quiet (fail)
      go_wp2_with (go_at_call 42; refine (HOW.out _ (by exact (HH.out.h.drewN nq).cells.1)).mono ?_; rintro e w3 ⟨rfl, nd, rfl⟩)
      go_ret
      exact ⟨rfl, HH.out.h.drewN _, below_drewN (Below.refl base w) _⟩
    · by_cases h2 : O = 2
      · subst h2
        have hsz : pos + 2 ≤ data.size := by have := htwo rfl; simp only [List.length_cons] at this; omega
        simp only [if_neg h1, if_true]
        clear HBY htwo h1 hll
        have HZ := hid hsz
        clear hsz
        go_enter Tryd.func60, Tryd.ntmps60
        go_wp2_with fail
        go_quiet (fail)
        go_wp2_with (first | (go_at_call 42; refine (HOW.out _ (by exact (HH.out.h.drewN nq).cells.1)).mono ?_; rintro e w3 ⟨rfl, nd, rfl⟩) | (go_at_call 87; refine (HTG.out HZ.out _ (by exact HH.out.h.drewN _) (by exact HH.out.hT.drewN _)).mono ?_; rintro e w4 h4; obtain ⟨c, rfl⟩ := h4.bool))
        go_ret
        exact StepAt.after h4 (below_drewN (Below.refl base w) _)
      · simp only [if_neg h1, if_neg h2]
        have q1 : ((O : Int) == 1) = false := beq_eq_false_iff_ne.2 (by omega)
        have q2 : ((O : Int) == 2) = false := beq_eq_false_iff_ne.2 (by omega)
        clear HTG htwo h1 h2 hll
        go_enter Tryd.func60, Tryd.ntmps60
        go_wp2_with fail
        go_quiet (fail)
        go_wp2_with (first | (go_at_call 42; refine (HOW.out _ (by exact (HH.out.h.drewN nq).cells.1)).mono ?_; rintro e w3 ⟨rfl, nd, rfl⟩) | (go_at_call 43; refine (HBY.out _ (by exact HH.out.h.drewN _)).mono ?_; rintro e w4 ⟨rfl, h4⟩))
        go_ret
        exact StepAt.after h4 (below_drewN (Below.refl base w) _)
  · rw [if_neg h60]
    have r1 : ((x.toNat : Int) == 60) = false := beq_eq_false_iff_ne.2 (fun e => h60 (UInt8.toNat_inj.1 (by simp; omega)))
    clear HOW HTG htwo
    by_cases h38 : x = 38
    · rw [if_pos h38]
      have r2 : ((x.toNat : Int) == 38) = true := by rw [h38]; rfl
      clear h60 h38 hlx HBY H
      go_enter Tryd.func60, Tryd.ntmps60
      go_wp2_with fail
      go_quiet (fail)
      go_wp2_with (go_at_call 86; refine (HRF.out _ (by exact HH.out.h.drewN nq) (by exact (HH.out.hT.drewN nq).ch) (by exact HH.out.hT.max)).mono ?_; rintro e w3 h3; obtain ⟨c, rfl⟩ := h3.bool)
      go_ret
      exact StepAt.after h3 (below_drewN (Below.refl base w) nq)
    · rw [if_neg h38]
      have r2 : ((x.toNat : Int) == 38) = false := beq_eq_false_iff_ne.2 (fun e => h38 (UInt8.toNat_inj.1 (by simp; omega)))
      clear h60 h38 hlx HRF H
      go_enter Tryd.func60, Tryd.ntmps60
      go_wp2_with fail
      go_quiet (fail)
      go_wp2_with (go_at_call 43; refine (HBY.out _ (by exact HH.out.h.drewN nq)).mono ?_; rintro e w3 ⟨rfl, h3⟩)
      go_ret
      exact StepAt.after h3 (below_drewN (Below.refl base w) nq)

set_option maxHeartbeats 4000000 in
set_option maxRecDepth 100000 in
theorem skipRaw_any (base b win : Nat) (data : ByteArray) (pos mode : Nat) (eat : Bool) (evs : List Ev) (pend : List UInt8) (m : Int) (w : World) (H : StepPre base b win data pos ⟨mode, 0, eat⟩ evs pend m w) (hm1 : 2 ≤ mode) (hm2 : mode ≤ 10) :
    Calls Tryd.prog 61 #[.pointer (some ⟨b, 0, none⟩)] w fun e w' => StepAt w w' base b win data pos evs pend e (rawRes win ⟨mode, 0, eat⟩ (data.data.toList.drop pos)) := by
  have hp := H.hp
  have hd := H.hd
  have hll : (data.data.toList.drop pos).length = data.size - pos := by rw [List.length_drop, ← size_eq]
  have hsum : pos + (data.data.toList.drop pos).length = data.size := by omega
  have hlt := byte_append 60 (data.data.toList.drop pos) []
  obtain ⟨t, ht⟩ : ∃ t : ByteArray, data.extract pos data.size = t := ⟨_, rfl⟩
  have htl : t.data.toList = data.data.toList.drop pos := by rw [← ht]; exact extract_to_end data pos
  have hcall := fun W => Tryd.strings_IndexByte t 60 W
  rw [htl, show (60 : Int).toNat.toUInt8 = 60 from rfl, indexByte_idx] at hcall
  obtain ⟨⟨c0, c1, c2, c3, c4, c5⟩, hf, _⟩ := H.h.cells
  have f2 := hf 2
  have HH := hid H
  unfold rawRes
  cases hi : byteIdx 60 (data.data.toList.drop pos) with
  | none =>
    rw [hi] at hcall
    have HC := hid hcall
    simp only
    unfold StepAt
    simp only
    rw [hsum]
    clear hcall hlt hi H hf htl hsum hll
    go_enter Tryd.func61, Tryd.ntmps61
    go_wp2_with fail
    go_quiet (first | (go_at_call 83; refine Calls.quiet_of_same (HC.out _)))
    go_wp2
    go_ret
    exact ⟨rfl, ((HH.out.h.drewN _).setPos _).1, (below_drewN (Below.refl base w) _).trans ((HH.out.h.drewN _).setPos _).2⟩
  | some i =>
    rw [hi] at hcall
    have hil : i < data.size - pos := by
      rcases hlt with ⟨j, h1, h2, -⟩ | ⟨h1, -⟩
      · rw [hi] at h1; cases h1; omega
      · rw [hi] at h1; cases h1
    clear hlt
    have HC := hid hcall
    have hng : ¬ (i : Int) < 0 := by omega
    simp only
    by_cases h10 : mode = 10
    · subst h10
      simp only [if_true]
      unfold StepAt
      simp only
      rw [hsum]
      have q10 : (((10 : Nat) : Int) == 10) = true := rfl
      clear hcall hi H hf htl hsum hll
      go_enter Tryd.func61, Tryd.ntmps61
      go_wp2_with fail
      go_quiet (first | (go_at_call 83; refine Calls.quiet_of_same (HC.out _)))
      go_wp2
      go_ret
      exact ⟨rfl, ((HH.out.h.drewN _).setPos _).1, (below_drewN (Below.refl base w) _).trans ((HH.out.h.drewN _).setPos _).2⟩
    · simp only [if_neg h10]
      have q10 : ((mode : Int) == 10) = false := beq_eq_false_iff_ne.2 (by omega)
      have hdr : (data.data.toList.drop pos).drop i = data.data.toList.drop (pos + i) := by rw [List.drop_drop]
      rw [hdr]
      have htwo := own_two (60 :: 47 :: rawL mode) (data.data.toList.drop (pos + i))
      have hll2 : (data.data.toList.drop (pos + i)).length = data.size - (pos + i) := by rw [List.length_drop, ← size_eq]
      rw [hll2] at htwo
      have hpi : pos + i ≤ data.size := by omega
      have hpi2 : pos + i < data.size := by omega
      have w1 : IntKind.i64.wrap ((pos : Int) + (i : Int)) = ((pos + i : Nat) : Int) := by rw [IntKind.wrap_i64]; omega
      obtain ⟨P, hP⟩ : ∃ P, pos + i = P := ⟨_, rfl⟩
      rw [hP] at htwo w1 hpi hpi2 ⊢
      have w2 : IntKind.i64.wrap ((P : Int) + 2) = ((P + 2 : Nat) : Int) := by rw [IntKind.wrap_i64]; omega
      have w3 : IntKind.i64.wrap ((P : Int) + 1) = ((P + 1 : Nat) : Int) := by rw [IntKind.wrap_i64]; omega
      have hown := fun W hW => ownEnd_any b win data P mode 0 eat W hW (by omega) hm2 hd hpi
      have htg := fun hpk W hW hTW => readTag_any base b win data P 2 mode eat evs pend m W hW hd (.inr rfl) hpk H.hwin H.hel hTW
      generalize hO : ownL (60 :: 47 :: rawL mode) (data.data.toList.drop P) = O at hown htwo ⊢
      have HOW := hid hown
      have HTG := hid htg
      clear hcall hi H hf htl hsum hll hown htg hdr hll2 hO hpi
      by_cases h1 : O = 1
      · subst h1
        simp only [if_true]
        unfold StepAt
        simp only
        rw [hP]
        clear HTG htwo
        go_enter Tryd.func61, Tryd.ntmps61
        go_wp2_with fail
        go_quiet (first | (go_at_call 83; refine Calls.quiet_of_same (HC.out _)))
        go_wp2_with (go_at_call 42; refine (HOW.out _ (by exact ((HH.out.h.drewN nq).setPos _).1.cells.1)).mono ?_; rintro e w3 ⟨rfl, nd, rfl⟩)
        go_ret
        exact ⟨rfl, ((HH.out.h.drewN _).setPos _).1.drewN _, below_drewN ((below_drewN (Below.refl base w) _).trans ((HH.out.h.drewN _).setPos _).2) _⟩
      · by_cases h2 : O = 2
        · subst h2
          have hsz : P + 2 ≤ data.size := by have := htwo rfl; simp only [List.length_cons] at this; omega
          have HZ := hid hsz
          simp only [if_neg h1, if_true]
          clear htwo h1 hsz
          go_enter Tryd.func61, Tryd.ntmps61
          go_wp2_with fail
          go_quiet (first | (go_at_call 83; refine Calls.quiet_of_same (HC.out _)))
          go_wp2_with (first | (go_at_call 42; refine (HOW.out _ (by exact ((HH.out.h.drewN nq).setPos _).1.cells.1)).mono ?_; rintro e w3 ⟨rfl, nd, rfl⟩) | (go_at_call 87; refine (HTG.out HZ.out _ (by exact (((HH.out.h.drewN nq).setPos P).1.drewN nd)) (by exact (((HH.out.hT.drewN nq).below ((HH.out.h.drewN nq).setPos P).2).drewN nd))).mono ?_; rintro e w4 h4; obtain ⟨c, rfl⟩ := h4.bool))
          go_ret
          subst hP
          exact StepAt.shift h4 (below_drewN ((below_drewN (Below.refl base w) _).trans ((HH.out.h.drewN _).setPos _).2) _)
        · simp only [if_neg h1, if_neg h2]
          have q1 : ((O : Int) == 1) = false := beq_eq_false_iff_ne.2 (by omega)
          have q2 : ((O : Int) == 2) = false := beq_eq_false_iff_ne.2 (by omega)
          unfold StepAt
          simp only
          rw [show pos + (i + 1) = P + 1 by omega]
          clear HTG htwo h1 h2
          go_enter Tryd.func61, Tryd.ntmps61
          go_wp2_with fail
          go_quiet (first | (go_at_call 83; refine Calls.quiet_of_same (HC.out _)))
          go_wp2_with (go_at_call 42; refine (HOW.out _ (by exact ((HH.out.h.drewN nq).setPos _).1.cells.1)).mono ?_; rintro e w3 ⟨rfl, nd, rfl⟩)
          go_ret
          have hr := ((HH.out.h.drewN nq).setPos (P : Int)).1.drewN nd
          have hb := below_drewN ((below_drewN (Below.refl base w) nq).trans ((HH.out.h.drewN nq).setPos (P : Int)).2) nd
          exact ⟨rfl, (hr.setPos _).1, hb.trans (hr.setPos _).2⟩

set_option maxHeartbeats 4000000 in
set_option maxRecDepth 100000 in
theorem step_any (base b win : Nat) (data : ByteArray) (pos : Nat) (st : LS) (evs : List Ev) (pend : List UInt8) (m : Int) (w : World) (H : StepPre base b win data pos st evs pend m w) (hs : st.scan ≤ 10) (hm : st.mode ≤ 10) :
    Calls Tryd.prog 39 #[.pointer (some ⟨b, 0, none⟩)] w fun e w' => StepAt w w' base b win data pos evs pend e (stepL win st (data.data.toList.drop pos)) := by
  obtain ⟨mode, scan, eat⟩ := st
  simp only at hs hm
  obtain ⟨⟨c0, c1, c2, c3, c4, c5⟩, _, _⟩ := H.h.cells
  have hd := H.hd
  have hp := H.hp
  simp only at c3 c4 c5
  unfold stepL
  simp only
  by_cases h1 : scan = 1
  · subst h1
    simp only [if_true]
    have hc := skipComment_any base b win data pos mode eat evs pend m w H.h hd (by omega) H.hT.max
    have HC := hid hc
    have q1 : (((1 : Nat) : Int) == 1) = true := rfl
    clear hc H
    go_enter Tryd.func39, Tryd.ntmps39
    go_wp2_with (go_at_call 56; refine HC.out.mono ?_; rintro e w3 h3; obtain ⟨c, rfl⟩ := h3.bool)
    go_ret
    exact h3
  · by_cases h2 : scan = 2
    · subst h2
      simp only [if_neg h1, if_true]
      have hc := skipBogus_any base b win data pos mode eat evs pend w H.h hd (by omega)
      have HC := hid hc
      have q1 : (((2 : Nat) : Int) == 1) = false := rfl
      have q2 : (((2 : Nat) : Int) == 2) = true := rfl
      clear hc H h1
      go_enter Tryd.func39, Tryd.ntmps39
      go_wp2_with (go_at_call 57; refine HC.out.mono ?_; rintro e w3 h3; obtain ⟨c, rfl⟩ := h3.bool)
      go_ret
      exact h3
    · by_cases h0 : scan = 0
      · subst h0
        simp only [if_neg h1, if_neg h2, ne_eq, not_true, if_false]
        have q1 : (((0 : Nat) : Int) == 1) = false := rfl
        have q2 : (((0 : Nat) : Int) == 2) = false := rfl
        have q3 : (((0 : Nat) : Int) != 0) = false := rfl
        by_cases m0 : mode = 0
        · subst m0
          simp only [if_true]
          have hc := readData_any base b win data pos 0 eat evs pend m w H
          have HC := hid hc
          clear hc H h1 h2
          go_enter Tryd.func39, Tryd.ntmps39
          go_wp2_with (go_at_call 59; refine HC.out.mono ?_; rintro e w3 h3; obtain ⟨c, rfl⟩ := h3.bool)
          go_ret
          exact h3
        · by_cases m1 : mode = 1
          · subst m1
            simp only [if_neg m0, if_true]
            have hc := readTextarea_any base b win data pos eat evs pend m w H
            have HC := hid hc
            clear hc H h1 h2 m0
            go_enter Tryd.func39, Tryd.ntmps39
            go_wp2_with (go_at_call 60; refine HC.out.mono ?_; rintro e w3 h3; obtain ⟨c, rfl⟩ := h3.bool)
            go_ret
            exact h3
          · simp only [if_neg m0, if_neg m1]
            have hc := skipRaw_any base b win data pos mode eat evs pend m w H (by omega) hm
            have r0 : ((mode : Int) == 0) = false := beq_eq_false_iff_ne.2 (by omega)
            have r1 : ((mode : Int) == 1) = false := beq_eq_false_iff_ne.2 (by omega)
            have HC := hid hc
            clear hc H h1 h2 m0 m1
            go_enter Tryd.func39, Tryd.ntmps39
            go_wp2_with (go_at_call 61; refine HC.out.mono ?_; rintro e w3 h3; obtain ⟨c, rfl⟩ := h3.bool)
            go_ret
            exact h3
      · simp only [if_neg h1, if_neg h2, ne_eq, h0, not_false_eq_true, if_true]
        have hc := skipTag_any base b win data pos scan mode eat evs pend w H.h H.hT.tag hd (by omega) (by omega)
        have q1 : ((scan : Int) == 1) = false := beq_eq_false_iff_ne.2 (by omega)
        have q2 : ((scan : Int) == 2) = false := beq_eq_false_iff_ne.2 (by omega)
        have q3 : ((scan : Int) != 0) = true := by rw [bne, beq_eq_false_iff_ne.2 (by omega)]; rfl
        have HC := hid hc
        clear hc H h1 h2 h0
        go_enter Tryd.func39, Tryd.ntmps39
        go_wp2_with (go_at_call 58; refine HC.out.mono ?_; rintro e w3 ⟨rfl, h3, b3⟩)
        go_ret
        exact ⟨rfl, h3, b3⟩
end Go.Proofs.YtialeicpelehoaaDoor

/-
  The reader's read: its walk.
-/
namespace Go.Proofs.YtialeicpelehoaaDoor
open Go.RowKit Go.Lib Own

def posOf (W : World) (b : Nat) : Nat := match W.cell? ⟨b, 2, none⟩ with
  | some v => (RowKit.intOf v).toNat
  | none => 0
theorem pos_of {W : World} {base b : Nat} {win : Int} {data : ByteArray} {k : Nat} {mode scan : Int} {eat : Bool} {evs : List Ev} {pend : List UInt8} (h : Rdr W base b win data k mode scan eat evs pend) : posOf W b = k := by
  unfold posOf
  rw [h.cells.1.c2]
  simp [RowKit.intOf]
/-- a run on its way -/
def ReadAt (win : Nat) (L : List UInt8) (k : Nat) (st : LS) (E : List Ev) (P : List UInt8) (sF : LS) (rest : List UInt8) (EF : List Ev) (PF : List UInt8) : Prop := ∃ it, runL win st (L.drop k) = (sF, rest, it) ∧ putAll (E, P) it = (EF, PF)
theorem ReadAt.done {win : Nat} {L : List UInt8} {k : Nat} {st : LS} {E : List Ev} {P : List UInt8} {sF : LS} {rest : List UInt8} {EF : List Ev} {PF : List UInt8} (h : ReadAt win L k st E P sF rest EF PF) (hW : 32 ≤ win) (h0 : st.scan ≤ 10) (hL : L.drop k ≠ []) {n : Nat} {st2 : LS} {it : List Item} (hs : stepL win st (L.drop k) = .done n st2 it) :
    ReadAt win L (k + n) st2 (putAll (E, P) it).1 (putAll (E, P) it).2 sF rest EF PF := by
  obtain ⟨it2, h1, h2⟩ := h
  rw [run_done hW h0 hL hs, List.drop_drop] at h1
  simp only [Prod.mk.injEq] at h1
  obtain ⟨rfl, rfl, rfl⟩ := h1
  refine ⟨_, rfl, ?_⟩
  rw [putAll_app] at h2
  exact h2
theorem ReadAt.more {win : Nat} {L : List UInt8} {k : Nat} {st : LS} {E : List Ev} {P : List UInt8} {sF : LS} {rest : List UInt8} {EF : List Ev} {PF : List UInt8} (h : ReadAt win L k st E P sF rest EF PF) (hL : L.drop k ≠ []) {n : Nat} {st2 : LS} (hs : stepL win st (L.drop k) = .more n st2) :
    sF = st2 ∧ rest = L.drop (k + n) ∧ E = EF ∧ P = PF := by
  obtain ⟨it2, h1, h2⟩ := h
  rw [run_more hL hs, List.drop_drop] at h1
  simp only [Prod.mk.injEq] at h1
  obtain ⟨rfl, rfl, rfl⟩ := h1
  have h3 : (E, P) = (EF, PF) := h2
  simp only [Prod.mk.injEq] at h3
  exact ⟨rfl, rfl, h3.1, h3.2⟩
theorem ReadAt.over {win : Nat} {L : List UInt8} {k : Nat} {st : LS} {E : List Ev} {P : List UInt8} {sF : LS} {rest : List UInt8} {EF : List Ev} {PF : List UInt8} (h : ReadAt win L k st E P sF rest EF PF) (hk : L.length ≤ k) :
    sF = st ∧ rest = [] ∧ E = EF ∧ P = PF := by
  obtain ⟨it2, h1, h2⟩ := h
  rw [List.drop_of_length_le hk, run_nil] at h1
  simp only [Prod.mk.injEq] at h1
  obtain ⟨rfl, rfl, rfl⟩ := h1
  have h3 : (E, P) = (EF, PF) := h2
  simp only [Prod.mk.injEq] at h3
  exact ⟨rfl, rfl, h3.1, h3.2⟩

set_option maxHeartbeats 4000000 in
set_option maxRecDepth 100000 in
theorem read_any (base b win : Nat) (data : ByteArray) (st : LS) (m : Int) (w : World) (h : Rdr w base b win data 0 st.mode st.scan st.eat [] []) (hd : data.size ≤ 4000000) (hW : 32 ≤ win) (hwin : win ≤ 4096) (hs : st.scan ≤ 10) (hm : st.mode ≤ 10) (hT : LexTabs base w m)
    (sF : LS) (rest : List UInt8) (EF : List Ev) (PF : List UInt8) (hR : ReadAt win data.data.toList 0 st [] [] sF rest EF PF) :
    Calls Tryd.prog 23 #[.pointer (some ⟨b, 0, none⟩)] w fun e w' => e = .returned (.tuple #[]) ∧
      Rdr w' base b win data ((data.size - rest.length : Nat) : Int) sF.mode sF.scan sF.eat EF PF ∧ Below base w w' := by
  have HH := hid h
  have HT := hid hT
  have HRA := hid hR
  clear h hT hR
  go_enter Tryd.func23, Tryd.ntmps23
  go_wp2_with fail
  go_loopw [] (fun wr => ∃ (k : Nat) (st1 : LS) (E : List Ev) (P : List UInt8), Hid (Rdr wr base b win data k st1.mode st1.scan st1.eat E P ∧ Below base w wr ∧ ReadAt win data.data.toList k st1 E P sF rest EF PF) ∧ k ≤ data.size ∧ st1.scan ≤ 10 ∧ st1.mode ≤ 10 ∧ E.length ≤ 2 * k ∧ P.length ≤ 4 * k) (fun wr => data.size - posOf wr b)
  case atStart => exact ⟨0, st, [], [], hid ⟨HH.out, Below.refl _ _, HRA.out⟩, Nat.zero_le _, hs, hm, Nat.zero_le _, Nat.zero_le _⟩
  case round =>
    obtain ⟨k, st1, E, P, HX, hk, hs1, hm1, hE, hP⟩ := hrel
    obtain ⟨⟨c0, c1, c2, c3, c4, c5⟩, _, _⟩ := HX.out.1.cells
    by_cases hlt : k < data.size
    · have hne : data.data.toList.drop k ≠ [] := fun e => by
        have := congrArg List.length e
        rw [List.length_drop, ← size_eq] at this
        simp at this
        omega
      have hstep := fun W hW1 hT1 => step_any base b win data k st1 E P m W ⟨hW1, by omega, hlt, hwin, by omega, by omega, hT1⟩ hs1 hm1
      have hpos := fun n st' it => step_pos (W := win) hW hs1 hne (n := n) (st' := st') (it := it)
      have hmore := fun n st' => step_more (W := win) hW hs1 hne (n := n) (st' := st')
      have hsm := fun n st' it => step_small (W := win) (st := st1) (L := data.data.toList.drop k) (n := n) (st' := st') (it := it)
      have hmo := step_mode (W := win) (L := data.data.toList.drop k) hm1
      have hdone := fun n st2 it => ReadAt.done HX.out.2.2 hW hs1 hne (n := n) (st2 := st2) (it := it)
      have hmo2 := fun n st2 => ReadAt.more HX.out.2.2 hne (n := n) (st2 := st2)
      cases hres : stepL win st1 (data.data.toList.drop k) with
      | more n st2 =>
        rw [hres] at hstep
        obtain ⟨rfl, hr2, rfl, rfl⟩ := hmo2 n st2 hres
        have hn := (hmore n sF hres).1
        have hrl : data.size - rest.length = k + n := by
          rw [hr2, List.length_drop, ← size_eq]
          rw [List.length_drop, ← size_eq] at hn
          omega
        have HRL := hid (fun (_ : True) => hrl)
        have HST := hid hstep
        clear hstep hpos hmore hsm hmo hdone hmo2 hres hne hn hrl hr2
        go_wp2_with fail
        go_region_law (go_simp; go_at_call 39; refine (HST.out _ (by exact HX.out.1.drew) (by exact (HT.out.below HX.out.2.1).drewN 1)).mono ?_; rintro e w3 ⟨rfl, h3, b3⟩)
        all_goals
          go_wp2
          go_end0
          exact ⟨rfl, by rw [HRL.out trivial]; exact h3, HX.out.2.1.trans ⟨b3.os, b3.tape, b3.output, b3.size, b3.block⟩⟩
      | done n st2 it =>
        rw [hres] at hstep
        obtain ⟨p1, p2, p3⟩ := hpos n st2 it hres
        rw [List.length_drop, ← size_eq] at p2
        have hsm2 := small_put (hsm n st2 it hres) p1 (E, P)
        have hmd := hmo.2 n st2 it hres
        have hdn := hdone n st2 it hres
        simp only at hsm2
        have HST := hid hstep
        have HDN := hid hdn
        clear hstep hpos hmore hsm hmo hdone hmo2 hres hne hdn
        go_wp2_with fail
        go_region_law (go_simp; go_at_call 39; refine (HST.out _ (by exact HX.out.1.drew) (by exact (HT.out.below HX.out.2.1).drewN 1)).mono ?_; rintro e w3 ⟨rfl, h3, b3⟩)
        all_goals
          have hp1 := pos_of HX.out.1
          have hp2 := pos_of h3
          have HX3 := hid (And.intro h3 (And.intro (HX.out.2.1.trans ⟨b3.os, b3.tape, b3.output, b3.size, b3.block⟩) HDN.out))
          clear h3 b3
          go_wp2
          go_roundw
          case rel =>
            have g1 : k + n ≤ data.size := by omega
            have g2 : (putAll (E, P) it).1.length ≤ 2 * (k + n) := by omega
            have g3 : (putAll (E, P) it).2.length ≤ 4 * (k + n) := by omega
            (repeat apply Exists.intro)
            exact ⟨⟨_, _, _, _, HX3, g1, p3, hmd, g2, g3⟩, rfl⟩
          case measure => omega
    · have hk' : k = data.size := by omega
      obtain ⟨rfl, rfl, rfl, rfl⟩ := HX.out.2.2.over (by rw [← size_eq]; omega)
      have HRL : Hid (True → data.size - ([] : List UInt8).length = k) := hid (fun _ => by rw [List.length_nil]; omega)
      have hnl : ¬ (k : Int) < (data.size : Int) := by omega
      go_wp2_with fail
      go_quiet (fail)
      go_wp2
      go_end0
      exact ⟨rfl, by rw [HRL.out trivial]; exact HX.out.1.drewN _, HX.out.2.1.trans (below_drewN (Below.refl base wr) _)⟩
end Go.Proofs.YtialeicpelehoaaDoor

/-
  The reader's end: its walk.
-/
namespace Go.Proofs.YtialeicpelehoaaDoor
open Go.RowKit Go.Lib Own

theorem below_drew2 {base : Nat} {w w' : World} (n : Nat) (h : Below base (w.drewN n) w') : Below base w w' := (below_drewN (Below.refl base w) n).trans h
/-- the bytes from k on, each a unit -/
def BytesAt (L : List UInt8) (k : Nat) (st : LS) (E : List Ev) (P PF : List UInt8) : Prop := putAll (E, P) (bytesL st (L.drop k)) = (E, PF)
theorem BytesAt.next {L : List UInt8} {k : Nat} {st : LS} {E : List Ev} {P PF : List UInt8} (h : BytesAt L k st E P PF) {x : UInt8} (hx : L[k]? = some x) : BytesAt L (k + 1) ⟨st.mode, st.scan, false⟩ E (if st.eat = true ∧ [x] = [10] then P else P ++ [x]) PF := by
  obtain ⟨h1, h2⟩ := List.getElem?_eq_some_iff.1 hx
  unfold BytesAt at h ⊢
  rw [List.drop_eq_getElem_cons h1, h2, bytesL, putAll_app, put_unit] at h
  exact h
theorem BytesAt.over {L : List UInt8} {k : Nat} {st : LS} {E : List Ev} {P PF : List UInt8} (h : BytesAt L k st E P PF) (hk : L.length ≤ k) : P = PF := by
  unfold BytesAt at h
  rw [List.drop_of_length_le hk, bytesL] at h
  have h3 : (E, P) = (E, PF) := h
  simpa using h3
theorem bytes_put (E : List Ev) : ∀ (L : List UInt8) (st : LS) (P : List UInt8), ∃ PF, putAll (E, P) (bytesL st L) = (E, PF)
  | [], st, P => ⟨P, rfl⟩
  | c :: r, st, P => by
    rw [bytesL, putAll_app, put_unit]
    exact bytes_put E r _ _

set_option maxHeartbeats 8000000 in
set_option maxRecDepth 100000 in
theorem end_any (base b win : Nat) (data : ByteArray) (pos : Nat) (st : LS) (evs : List Ev) (pend : List UInt8) (m : Int) (w : World) (h : Rdr w base b win data pos st.mode st.scan st.eat evs pend) (hd : data.size ≤ 4000000) (hp : pos ≤ data.size) (hs : st.scan ≤ 10) (hm : st.mode ≤ 10) (hpl : pend.length ≤ 17000000) (hT : LexTabs base w m) :
    Calls Tryd.prog 26 #[.pointer (some ⟨b, 0, none⟩)] w fun e w' => e = .returned (.tuple #[]) ∧
      (∃ (pos' mode' scan' : Int) (eat' : Bool) (PF : List UInt8), Rdr w' base b win data pos' mode' scan' eat' evs PF ∧ putAll (evs, pend) (endL st (data.data.toList.drop pos)) = (evs, PF)) ∧ Below base w w' := by
  obtain ⟨mode, scan, eat⟩ := st
  simp only at h hs hm
  have hll : (data.data.toList.drop pos).length = data.size - pos := by rw [List.length_drop, ← size_eq]
  obtain ⟨⟨c0, c1, c2, c3, c4, c5⟩, _, _⟩ := h.cells
  have HH := hid h
  have HT := hid hT
  by_cases hp0 : pos = data.size
  · have hnil : data.data.toList.drop pos = [] := List.drop_of_length_le (by rw [← size_eq]; omega)
    have hE : endL ⟨mode, scan, eat⟩ (data.data.toList.drop pos) = [] := by rw [hnil]; rfl
    rw [hE]
    have q1 : ((pos : Int) == (data.size : Int)) = true := beq_iff_eq.2 (by omega)
    clear hE hnil hll h hT hp0
    go_enter Tryd.func26, Tryd.ntmps26
    go_wp2_with fail
    go_quiet (fail)
    go_wp2
    refine bodyPost_ret (v := .tuple #[]) ?_ rfl ⟨rfl, ⟨_, _, _, _, pend, HH.out.drewN _, rfl⟩, below_drewN (Below.refl base w) _⟩
    simp [results, Tryd.results26]
  · have hne : data.data.toList.drop pos ≠ [] := fun e => by rw [e] at hll; simp at hll; omega
    have q1 : ((pos : Int) == (data.size : Int)) = false := beq_eq_false_iff_ne.2 (by omega)
    have hlt : pos < data.size := by omega
    by_cases hsc : scan = 0
    · subst hsc
      have q2 : (((0 : Nat) : Int) != 0) = false := rfl
      obtain ⟨t, ht⟩ : ∃ t : ByteArray, data.extract pos data.size = t := ⟨_, rfl⟩
      have htl : t.data.toList = data.data.toList.drop pos := by rw [← ht]; exact extract_to_end data pos
      have htz : t.size = data.size - pos := by rw [← ht, ByteArray.size_extract]; omega
      have h0s : 0 < t.size := by omega
      obtain ⟨x, hx⟩ : ∃ x, t[0]'h0s = x := ⟨_, rfl⟩
      have hlx := getElem_list h0s hx
      have hg0 : (data.data.toList.drop pos).getD 0 0 = x := by rw [← htl, List.getD_eq_getElem?_getD, hlx]; rfl
      have hTL : t.toList = t.data.toList := Lib.toList_data t
      by_cases h38 : x = 38
      · have hE : endL ⟨mode, 0, eat⟩ (data.data.toList.drop pos) = unitL2 ⟨mode, 0, eat⟩ (unr false (data.data.toList.drop pos)) := by
          unfold endL
          rw [if_neg (fun h => h.elim hne (fun h => h rfl)), hg0, if_pos h38]
        rw [hE, put_unit]
        have r1 : ((x.toNat : Int) == 38) = true := by rw [h38]; rfl
        have hun := fun W hTW hmW => unref_any t false m W (by omega) hTW hmW
        rw [htl] at hun
        obtain ⟨U, hU⟩ : ∃ U, unr false (data.data.toList.drop pos) = U := ⟨_, rfl⟩
        have hul : U.length ≤ 4 * (data.data.toList.drop pos).length := by rw [← hU]; exact unr_len false _ _ (Nat.le_refl _)
        rw [hU] at hun ⊢
        obtain ⟨ub, hub⟩ : ∃ ub : ByteArray, (⟨U.toArray⟩ : ByteArray) = ub := ⟨_, rfl⟩
        have hubl : ub.data.toList = U := by rw [← hub]
        have hubz : ub.size ≤ 40000000 := by rw [size_eq, hubl]; omega
        rw [hub] at hun
        have hunit := fun W hW => unit_any base b win data pos mode 0 eat evs pend ub W hW (by omega)
        rw [hubl] at hunit
        simp only
        generalize (if eat = true ∧ U = [10] then pend else pend ++ U) = P at hunit ⊢
        have HU := hid hun
        have HN := hid hunit
        clear hun hunit hE hU hul hub hubl hubz hll h hT hne hTL hg0 hlx htl h38
        go_enter Tryd.func26, Tryd.ntmps26
        go_wp2_with fail
        go_quiet (fail)
        go_wp2_with fail
        go_quiet (fail)
        go_wp2_with (first | (go_at_call 17; refine (HU.out _ (by exact (HT.out.drewN _).ch) (by exact HT.out.max)).mono ?_; rintro e w1 ⟨rfl, b1⟩) | (go_at_call 41; refine (HN.out _ (by exact (HH.out.drewN _).below b1)).mono ?_; rintro e w2 ⟨rfl, r2, b2⟩))
        go_end0
        exact ⟨rfl, ⟨_, _, _, _, P, r2, rfl⟩, below_drew2 _ ((b1.mono HH.out.size).trans b2)⟩
      · have r1 : ((x.toNat : Int) == 38) = false := beq_eq_false_iff_ne.2 (fun e => h38 (UInt8.toNat_inj.1 (by simp; omega)))
        by_cases hm0 : mode = 0
        · subst hm0
          have q3 : (((0 : Nat) : Int) == 0) = true := rfl
          have q4 : (((0 : Nat) : Int) == 1) = false := rfl
          by_cases hin : data.data.toList.drop pos = [60] ∨ data.data.toList.drop pos = [60, 47]
          · have hE : endL ⟨0, 0, eat⟩ (data.data.toList.drop pos) = bytesL ⟨0, 0, eat⟩ (data.data.toList.drop pos) := by
              unfold endL
              rw [if_neg (fun h => h.elim hne (fun h => h rfl)), hg0, if_neg h38, if_pos (.inl ⟨rfl, hin⟩)]
            obtain ⟨PF, hPF⟩ := bytes_put evs (data.data.toList.drop pos) ⟨0, 0, eat⟩ pend
            have HBY : Hid (BytesAt data.data.toList pos ⟨0, 0, eat⟩ evs pend PF) := hid hPF
            have HBF : Hid (putAll (evs, pend) (endL ⟨0, 0, eat⟩ (data.data.toList.drop pos)) = (evs, PF)) := hid (by rw [hE]; exact hPF)
            have hor : (t.toList == [60]) = true ∨ (t.toList == [60]) = false ∧ (t.toList == [60, 47]) = true := by
              rw [hTL, htl]
              rcases hin with e | e <;> rw [e] <;> decide
            clear hE hPF hin hTL hg0 hlx htl hne hll h hT
            rcases hor with q5 | ⟨q5, q6⟩
            all_goals
              go_enter Tryd.func26, Tryd.ntmps26
              go_wp2_with fail
              go_quiet (fail)
              go_wp2_with fail
              go_quiet (fail)
              go_wp2_with fail
              go_loopw [] (fun wr => ∃ (k : Nat) (eat1 : Bool) (P : List UInt8), Hid (Rdr wr base b win data k ((0 : Nat) : Int) 0 eat1 evs P ∧ Below base w wr ∧ BytesAt data.data.toList k ⟨0, 0, eat1⟩ evs P PF) ∧ pos ≤ k ∧ k ≤ data.size ∧ P.length ≤ pend.length + (k - pos)) (fun wr => data.size - posOf wr b)
              case atStart => exact ⟨pos, eat, pend, hid ⟨HH.out.drewN _, below_drewN (Below.refl base w) _, HBY.out⟩, Nat.le_refl _, hp, by omega⟩
              case round =>
                obtain ⟨k, eat1, P, HX, hk1, hk2, hPl⟩ := hrel
                obtain ⟨⟨d0, d1, d2, d3, d4, d5⟩, _, _⟩ := HX.out.1.cells
                by_cases hk : k < data.size
                · obtain ⟨y, hy⟩ : ∃ y, data[k]'hk = y := ⟨_, rfl⟩
                  have hly := getElem_list hk hy
                  have hrb := fun W hW => readByte_any base b win data k ((0 : Nat) : Int) 0 eat1 evs P W hW (by omega) (by omega) hk y hly
                  have hnx := HX.out.2.2.next hly
                  have HRB := hid hrb
                  have HNX := hid hnx
                  clear hrb hnx hy hly
                  go_wp2_with fail
                  go_quiet (fail)
                  go_wp2_with (go_at_call 43; refine (HRB.out _ (by exact HX.out.1.drewN nq)).mono ?_; rintro e w3 ⟨rfl, h3, b3⟩)
                  have hp1 := pos_of HX.out.1
                  have hp2 := pos_of (k := k + 1) h3
                  have hl3 : (if eat1 = true ∧ [y] = [10] then P else P ++ [y]).length ≤ P.length + 1 := by split <;> simp
                  have HX3 := hid (And.intro h3 (And.intro (HX.out.2.1.trans (below_drew2 _ b3)) HNX.out))
                  clear h3 b3
                  go_roundw
                  case rel =>
                    first
                      | exact ⟨k + 1, false, _, HX3, by omega, by omega, by omega⟩
                      | ((repeat apply Exists.intro); exact ⟨⟨k + 1, false, _, HX3, by omega, by omega, by omega⟩, rfl⟩)
                  case measure => omega
                · have hPP := HX.out.2.2.over (by rw [← size_eq]; omega)
                  subst hPP
                  go_wp2_with fail
                  go_quiet (fail)
                  go_wp2
                  go_end0
                  exact ⟨rfl, ⟨_, _, _, _, _, HX.out.1.drewN _, HBF.out⟩, HX.out.2.1.trans (below_drewN (Below.refl base wr) _)⟩
          · have hE : endL ⟨0, 0, eat⟩ (data.data.toList.drop pos) = [] := by
              unfold endL
              rw [if_neg (fun h => h.elim hne (fun h => h rfl)), hg0, if_neg h38, if_neg]
              rintro (h | h)
              · exact hin h.2
              · exact absurd h.1 (by simp)
            rw [hE]
            have q5 : (t.toList == [60]) = false := by rw [hTL, htl]; exact beq_eq_false_iff_ne.2 (fun e => hin (.inl e))
            have q6 : (t.toList == [60, 47]) = false := by rw [hTL, htl]; exact beq_eq_false_iff_ne.2 (fun e => hin (.inr e))
            clear hE hin hTL hg0 hlx htl hne hll h hT
            go_enter Tryd.func26, Tryd.ntmps26
            go_wp2_with fail
            go_quiet (fail)
            go_wp2_with fail
            go_quiet (fail)
            go_wp2
            go_end0
            exact ⟨rfl, ⟨_, _, _, _, pend, HH.out.drewN _, rfl⟩, below_drewN (Below.refl base w) _⟩
        · have q3 : ((mode : Int) == 0) = false := beq_eq_false_iff_ne.2 (by omega)
          by_cases hm1 : mode = 1
          · subst hm1
            have q4 : (((1 : Nat) : Int) == 1) = true := rfl
            have hown := fun W hW => ownEnd_any b win data pos 1 0 eat W hW (by omega) (by omega) (by omega) hp
            by_cases hO : ownL (60 :: 47 :: rawL 1) (data.data.toList.drop pos) = 1
            · have hE : endL ⟨1, 0, eat⟩ (data.data.toList.drop pos) = bytesL ⟨1, 0, eat⟩ (data.data.toList.drop pos) := by
                unfold endL
                rw [if_neg (fun h => h.elim hne (fun h => h rfl)), hg0, if_neg h38, if_pos (.inr ⟨rfl, hO⟩)]
              obtain ⟨PF, hPF⟩ := bytes_put evs (data.data.toList.drop pos) ⟨1, 0, eat⟩ pend
              have HBY : Hid (BytesAt data.data.toList pos ⟨1, 0, eat⟩ evs pend PF) := hid hPF
              have HBF : Hid (putAll (evs, pend) (endL ⟨1, 0, eat⟩ (data.data.toList.drop pos)) = (evs, PF)) := hid (by rw [hE]; exact hPF)
              rw [hO] at hown
              have HOW := hid hown
              clear hE hPF hTL hg0 hlx htl hne hll h hT hown hO hm0
              go_enter Tryd.func26, Tryd.ntmps26
              go_wp2_with fail
              go_quiet (fail)
              go_wp2_with fail
              go_quiet (fail)
              go_wp2_with (go_at_call 42; refine (HOW.out _ (by exact (HH.out.drewN _).cells.1)).mono ?_; rintro e w3 ⟨rfl, nd, rfl⟩)
              go_loopw [] (fun wr => ∃ (k : Nat) (eat1 : Bool) (P : List UInt8), Hid (Rdr wr base b win data k ((1 : Nat) : Int) 0 eat1 evs P ∧ Below base w wr ∧ BytesAt data.data.toList k ⟨1, 0, eat1⟩ evs P PF) ∧ pos ≤ k ∧ k ≤ data.size ∧ P.length ≤ pend.length + (k - pos)) (fun wr => data.size - posOf wr b)
              case atStart => exact ⟨pos, eat, pend, hid ⟨HH.out.drewN _, below_drewN (Below.refl base w) _, HBY.out⟩, Nat.le_refl _, hp, by omega⟩
              case round =>
                obtain ⟨k, eat1, P, HX, hk1, hk2, hPl⟩ := hrel
                obtain ⟨⟨d0, d1, d2, d3, d4, d5⟩, _, _⟩ := HX.out.1.cells
                by_cases hk : k < data.size
                · obtain ⟨y, hy⟩ : ∃ y, data[k]'hk = y := ⟨_, rfl⟩
                  have hly := getElem_list hk hy
                  have hrb := fun W hW => readByte_any base b win data k ((1 : Nat) : Int) 0 eat1 evs P W hW (by omega) (by omega) hk y hly
                  have hnx := HX.out.2.2.next hly
                  have HRB := hid hrb
                  have HNX := hid hnx
                  clear hrb hnx hy hly
                  go_wp2_with fail
                  go_quiet (fail)
                  go_wp2_with (go_at_call 43; refine (HRB.out _ (by exact HX.out.1.drewN nq)).mono ?_; rintro e w3 ⟨rfl, h3, b3⟩)
                  have hp1 := pos_of HX.out.1
                  have hp2 := pos_of (k := k + 1) h3
                  have hl3 : (if eat1 = true ∧ [y] = [10] then P else P ++ [y]).length ≤ P.length + 1 := by split <;> simp
                  have HX3 := hid (And.intro h3 (And.intro (HX.out.2.1.trans (below_drew2 _ b3)) HNX.out))
                  clear h3 b3
                  go_roundw
                  case rel =>
                    first
                      | exact ⟨k + 1, false, _, HX3, by omega, by omega, by omega⟩
                      | ((repeat apply Exists.intro); exact ⟨⟨k + 1, false, _, HX3, by omega, by omega, by omega⟩, rfl⟩)
                  case measure => omega
                · have hPP := HX.out.2.2.over (by rw [← size_eq]; omega)
                  subst hPP
                  go_wp2_with fail
                  go_quiet (fail)
                  go_wp2
                  go_end0
                  exact ⟨rfl, ⟨_, _, _, _, _, HX.out.1.drewN _, HBF.out⟩, HX.out.2.1.trans (below_drewN (Below.refl base wr) _)⟩
            · have hE : endL ⟨1, 0, eat⟩ (data.data.toList.drop pos) = [] := by
                unfold endL
                rw [if_neg (fun h => h.elim hne (fun h => h rfl)), hg0, if_neg h38, if_neg]
                rintro (h | h)
                · exact absurd h.1 (by simp)
                · exact hO h.2
              rw [hE]
              generalize ownL (60 :: 47 :: rawL 1) (data.data.toList.drop pos) = O at hown hO
              have q5 : ((O : Int) == 1) = false := beq_eq_false_iff_ne.2 (by omega)
              have HOW := hid hown
              clear hE hTL hg0 hlx htl hne hll h hT hown hO hm0
              go_enter Tryd.func26, Tryd.ntmps26
              go_wp2_with fail
              go_quiet (fail)
              go_wp2_with fail
              go_quiet (fail)
              go_wp2_with (go_at_call 42; refine (HOW.out _ (by exact (HH.out.drewN _).cells.1)).mono ?_; rintro e w3 ⟨rfl, nd, rfl⟩)
              go_end0
              exact ⟨rfl, ⟨_, _, _, _, pend, HH.out.drewN _, rfl⟩, below_drewN (Below.refl base w) _⟩
          · have q4 : ((mode : Int) == 1) = false := beq_eq_false_iff_ne.2 (by omega)
            have hE : endL ⟨mode, 0, eat⟩ (data.data.toList.drop pos) = [] := by
              unfold endL
              rw [if_neg (fun h => h.elim hne (fun h => h rfl)), hg0, if_neg h38, if_neg]
              rintro (h | h)
              · exact hm0 h.1
              · exact hm1 h.1
            rw [hE]
            clear hE hTL hg0 hlx htl hne hll h hT hm0 hm1
            go_enter Tryd.func26, Tryd.ntmps26
            go_wp2_with fail
            go_quiet (fail)
            go_wp2_with fail
            go_quiet (fail)
            go_wp2
            go_end0
            exact ⟨rfl, ⟨_, _, _, _, pend, HH.out.drewN _, rfl⟩, below_drewN (Below.refl base w) _⟩
    · have hE : endL ⟨mode, scan, eat⟩ (data.data.toList.drop pos) = [] := by unfold endL; rw [if_pos (.inr hsc)]
      rw [hE]
      have q2 : ((scan : Int) != 0) = true := by rw [bne, beq_eq_false_iff_ne.2 (by omega)]; rfl
      clear hE hne hll h hT hp0 hlt hsc
      go_enter Tryd.func26, Tryd.ntmps26
      go_wp2_with fail
      go_quiet (fail)
      go_wp2
      refine bodyPost_ret (v := .tuple #[]) ?_ rfl ⟨rfl, ⟨_, _, _, _, pend, HH.out.drewN _, rfl⟩, below_drewN (Below.refl base w) _⟩
      simp [results, Tryd.results26]
end Go.Proofs.YtialeicpelehoaaDoor
