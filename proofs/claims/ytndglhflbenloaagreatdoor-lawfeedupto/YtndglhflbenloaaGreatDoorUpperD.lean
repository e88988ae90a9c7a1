/-
  Parts of the walk, joined: StepC, StepAll, ReadAll, RefTextW, RefRead, RefEndW, RefLexA, EndAll, MakeRd, FeedAll.
-/
import Derived.Test.YtndglhflbenloaaGreatDoorUpperC
import Derived.Test.YtndglhflbenloaaGreatDoorLexLaw
import Derived.Deep.CutRange
/-
  The reader's skipComment: its walk.
-/
namespace Go.Proofs.YtndglhflbenloaaGreatDoor
open Go.RowKit Go.Lib Own

theorem suffix_of (L X : List UInt8) : Lib.hasSuffix L X = decide (X <:+ L) := by
  rw [Bool.eq_iff_iff, decide_eq_true_iff]
  exact List.isSuffixOf_iff_suffix
theorem dash_cases (L : List UInt8) : ([45, 45] <:+ L ∧ dashes L = 2) ∨ (¬ [45, 45] <:+ L ∧ [45] <:+ L ∧ dashes L = 1) ∨ (¬ [45, 45] <:+ L ∧ ¬ [45] <:+ L ∧ dashes L = 0) := by
  unfold dashes
  by_cases h : [45, 45] <:+ L
  · exact .inl ⟨h, by rw [if_pos h]⟩
  · by_cases h2 : [45] <:+ L
    · exact .inr (.inl ⟨h, h2, by rw [if_neg h, if_pos h2]⟩)
    · exact .inr (.inr ⟨h, h2, by rw [if_neg h, if_neg h2]⟩)
theorem dash_len (L : List UInt8) : dashes L ≤ L.length := by
  rcases dash_cases L with ⟨h, e⟩ | ⟨_, h, e⟩ | ⟨_, _, e⟩
  · rw [e]; exact h.length_le
  · rw [e]; exact h.length_le
  · rw [e]; exact Nat.zero_le _

set_option maxHeartbeats 2000000 in
set_option maxRecDepth 10000 in
theorem skipComment_any (base b : Nat) (win : Int) (data : ByteArray) (pos mode : Nat) (eat : Bool) (evs : List Ev) (pend : List UInt8) (m : Int) (w : World) (h : Rdr w base b win data pos mode 1 eat evs pend) (hd : data.size ≤ 10000000) (hp : pos ≤ data.size)
    (hm : w.cell? ⟨5, 0, none⟩ = some (.int .i64 m)) :
    Calls Tryz.prog 40 #[.pointer (some ⟨b, 0, none⟩)] w fun e w' => StepAt w w' base b win data pos evs pend e (commentRes ⟨mode, 1, eat⟩ (data.data.toList.drop pos)) := by
  have hll : (data.data.toList.drop pos).length = data.size - pos := by rw [List.length_drop, ← size_eq]
  have hdl := dash_len (data.data.toList.drop pos)
  have hle := com_append (data.data.toList.drop pos) [] 0
  obtain ⟨⟨c0, c1, c2, c3, c4, c5⟩, hf, _⟩ := h.cells
  have f2 := hf 2
  have f4 := hf 4
  obtain ⟨t, ht⟩ : ∃ t : ByteArray, data.extract pos data.size = t := ⟨_, rfl⟩
  have htl : t.data.toList = data.data.toList.drop pos := by rw [← ht]; exact extract_to_end data pos
  have htz : t.size ≤ 10000000 := by rw [← ht, ByteArray.size_extract]; omega
  have hcall := fun W hmW => Tryz.strings_Index t ⟨#[45, 45, 62]⟩ m W (by omega) hmW
  have hix := index_com (data.data.toList.drop pos) 0 (by omega)
  rw [List.replicate_zero, List.nil_append] at hix
  rw [htl, show (⟨#[45, 45, 62]⟩ : ByteArray).data.toList = [45, 45, 62] from rfl, hix] at hcall
  have hsuf := fun p W => Tryz.strings_HasSuffix t p W (by omega)
  rw [htl] at hsuf
  have HR := hid h
  have HM := hid hm
  unfold commentRes
  cases hi : (comL 0 (data.data.toList.drop pos)).1 with
  | some n =>
    have hn3 := com_ge (data.data.toList.drop pos) 0 n (by omega) hi
    have hnl : n ≤ data.size - pos := by
      rcases hle with ⟨n', h1, -, h3, -⟩ | ⟨h1, -⟩
      · rw [hi] at h1; cases h1; omega
      · rw [hi] at h1; cases h1
    obtain ⟨f, rfl⟩ : ∃ f, n = f + 3 := ⟨n - 3, by omega⟩
    rw [hi, show comI 0 (some (f + 3)) = (f : Int) from (by unfold comI; simp only; omega)] at hcall
    have w1 : IntKind.i64.wrap ((f : Int) + 3) = (f : Int) + 3 := by rw [IntKind.wrap_i64]; omega
    have w2 : IntKind.i64.wrap ((pos : Int) + ((f : Int) + 3)) = ((pos + (f + 3) : Nat) : Int) := by rw [IntKind.wrap_i64]; omega
    have hng : (0 : Int) ≤ (f : Int) := by omega
    have HC := hid hcall
    unfold StepAt
    simp only
    generalize ((pos + (f + 3) : Nat) : Int) = q at *
    clear hcall hi h hf htl hll hsuf hdl hle hix hn3 hnl hm
    go_enter Tryz.func40, Tryz.ntmps40
    go_wp2_with fail
    go_quiet (fail)
    go_wp2_with (go_at_call 75; refine (HC.out _ (by exact HM.out)).mono ?_; rintro e w' ⟨rfl, rfl⟩)
    go_ret
    exact ⟨rfl, (((HR.out.drewN _).setPos _).1.setScan _).1, ((below_drewN (Below.refl base w) _).trans ((HR.out.drewN _).setPos _).2).trans (((HR.out.drewN _).setPos _).1.setScan _).2⟩
  | none =>
    rw [hi] at hcall
    have hcom := com_dash (data.data.toList.drop pos) 0 (by omega) hi
    rw [List.replicate_zero, List.nil_append] at hcom
    simp only
    rw [hcom]
    have hcases := dash_cases (data.data.toList.drop pos)
    have hs2 := fun W => hsuf ((⟨#[45, 45, 62]⟩ : ByteArray).extract 0 2) W
    have hs1 := fun W => hsuf ((⟨#[45, 45, 62]⟩ : ByteArray).extract 0 1) W
    rw [show ((⟨#[45, 45, 62]⟩ : ByteArray).extract 0 2).data.toList = [45, 45] from rfl, suffix_of] at hs2
    rw [show ((⟨#[45, 45, 62]⟩ : ByteArray).extract 0 1).data.toList = [45] from rfl, suffix_of] at hs1
    obtain ⟨l2, hl2⟩ : ∃ l2 : ByteArray, (⟨#[45, 45, 62]⟩ : ByteArray).extract 0 2 = l2 := ⟨_, rfl⟩
    obtain ⟨l1, hl1⟩ : ∃ l1 : ByteArray, (⟨#[45, 45, 62]⟩ : ByteArray).extract 0 1 = l1 := ⟨_, rfl⟩
    rw [hl2] at hs2
    rw [hl1] at hs1
    rw [show comI 0 none = -1 from rfl] at hcall
    have HC := hid hcall
    unfold StepAt
    simp only
    clear hle
    have fin : ∀ (n : Nat) (W : World) (q : Int), Below base w W → Rdr W base b win data data.size mode 1 eat evs pend → Rdr (W.setCell ⟨b, 2, none⟩ (.int .i64 q)) base b win data q mode 1 eat evs pend ∧ Below base w (W.setCell ⟨b, 2, none⟩ (.int .i64 q)) := fun n W q hb hr => ⟨(hr.setPos q).1, hb.trans (hr.setPos q).2⟩
    rcases hcases with ⟨e1, e2⟩ | ⟨e1, e3, e2⟩ | ⟨e1, e3, e2⟩
    · rw [decide_eq_true e1] at hs2
      rw [e2] at hdl ⊢
      have hwr : IntKind.i64.wrap ((data.size : Int) - 2) = ((pos + ((data.data.toList.drop pos).length - 2) : Nat) : Int) := by rw [IntKind.wrap_i64]; omega
      have hS2 := hid hs2
      clear hcall hi h hf htl hll hsuf hdl hix hm hcom e1 e2 hs1 hs2 hl1
      generalize ((pos + ((data.data.toList.drop pos).length - 2) : Nat) : Int) = q at *
      go_enter Tryz.func40, Tryz.ntmps40
      go_wp2_with fail
      go_quiet (fail)
      go_wp2_with (go_at_call 75; refine (HC.out _ (by exact HM.out)).mono ?_; rintro e w' ⟨rfl, rfl⟩)
      obtain ⟨r1, b1⟩ := (HR.out.drewN nq).setPos (data.size : Int)
      obtain ⟨⟨k0, k1, k2, k3, k4, k5⟩, kf, _⟩ := r1.cells
      have b2 := (below_drewN (Below.refl base w) nq).trans b1
      generalize (w.drewN nq).setCell ⟨b, 2, none⟩ (.int .i64 (data.size : Int)) = W1 at *
      have kf2 := kf 2
      have FIN := hid (fin 0 W1 q b2 r1)
      clear c0 c1 c2 c3 c4 c5 f2 f4 fin r1 b1 b2 kf
      go_loopw [5] (fun iv wr => iv = .int .i64 2 ∧ wr = W1) (fun iv _ => (RowKit.intOf iv).toNat)
      case atStart => exact ⟨rfl, rfl⟩
      case round =>
        obtain ⟨rfl, rfl⟩ := hrel
        go_wp2_with (go_at_call 76; refine (hS2.out _).mono ?_; rintro e w' ⟨rfl, rfl⟩)
        go_ret
        exact ⟨rfl, FIN.out⟩
    · rw [decide_eq_false e1] at hs2
      rw [decide_eq_true e3] at hs1
      rw [e2] at hdl ⊢
      have hwr : IntKind.i64.wrap ((data.size : Int) - 1) = ((pos + ((data.data.toList.drop pos).length - 1) : Nat) : Int) := by rw [IntKind.wrap_i64]; omega
      have hS2 := hid hs2
      have hS1 := hid hs1
      clear hcall hi h hf htl hll hsuf hdl hix hm hcom e1 e2 e3 hs1 hs2
      generalize ((pos + ((data.data.toList.drop pos).length - 1) : Nat) : Int) = q at *
      go_enter Tryz.func40, Tryz.ntmps40
      go_wp2_with fail
      go_quiet (fail)
      go_wp2_with (go_at_call 75; refine (HC.out _ (by exact HM.out)).mono ?_; rintro e w' ⟨rfl, rfl⟩)
      obtain ⟨r1, b1⟩ := (HR.out.drewN nq).setPos (data.size : Int)
      obtain ⟨⟨k0, k1, k2, k3, k4, k5⟩, kf, _⟩ := r1.cells
      have b2 := (below_drewN (Below.refl base w) nq).trans b1
      generalize (w.drewN nq).setCell ⟨b, 2, none⟩ (.int .i64 (data.size : Int)) = W1 at *
      have kf2 := kf 2
      have FIN := hid (fin 0 W1 q b2 r1)
      clear c0 c1 c2 c3 c4 c5 f2 f4 fin r1 b1 b2 kf
      go_loopw [5] (fun iv wr => (iv = .int .i64 2 ∨ iv = .int .i64 1) ∧ wr = W1) (fun iv _ => (RowKit.intOf iv).toNat)
      case atStart => exact ⟨.inl rfl, rfl⟩
      case round =>
        obtain ⟨rfl | rfl, rfl⟩ := hrel
        · go_wp2_with (go_at_call 76; refine (hS2.out _).mono ?_; rintro e w' ⟨rfl, rfl⟩)
          go_roundw
          case rel => exact ⟨.inr rfl, (by trivial)⟩
          case measure => simp [RowKit.intOf]
        · go_wp2_with (go_at_call 76; refine (hS1.out _).mono ?_; rintro e w' ⟨rfl, rfl⟩)
          go_ret
          exact ⟨rfl, FIN.out⟩
    · rw [decide_eq_false e1] at hs2
      rw [decide_eq_false e3] at hs1
      rw [e2] at hdl ⊢
      have hq : ((pos + ((data.data.toList.drop pos).length - 0) : Nat) : Int) = (data.size : Int) := by omega
      rw [hq]
      have hS2 := hid hs2
      have hS1 := hid hs1
      clear hcall hi h hf htl hll hsuf hdl hix hm hcom e1 e2 e3 hs1 hs2 hq
      go_enter Tryz.func40, Tryz.ntmps40
      go_wp2_with fail
      go_quiet (fail)
      go_wp2_with (go_at_call 75; refine (HC.out _ (by exact HM.out)).mono ?_; rintro e w' ⟨rfl, rfl⟩)
      obtain ⟨r1, b1⟩ := (HR.out.drewN nq).setPos (data.size : Int)
      have b2 := (below_drewN (Below.refl base w) nq).trans b1
      generalize (w.drewN nq).setCell ⟨b, 2, none⟩ (.int .i64 (data.size : Int)) = W1 at *
      have FIN := hid (And.intro r1 b2)
      clear c0 c1 c2 c3 c4 c5 f2 f4 fin r1 b1 b2
      go_loopw [5] (fun iv wr => (iv = .int .i64 2 ∨ iv = .int .i64 1 ∨ iv = .int .i64 0) ∧ wr = W1) (fun iv _ => (RowKit.intOf iv).toNat)
      case atStart => exact ⟨.inl rfl, rfl⟩
      case round =>
        obtain ⟨rfl | rfl | rfl, rfl⟩ := hrel
        · go_wp2_with (go_at_call 76; refine (hS2.out _).mono ?_; rintro e w' ⟨rfl, rfl⟩)
          go_roundw
          case rel => exact ⟨.inr (.inl rfl), (by trivial)⟩
          case measure => simp [RowKit.intOf]
        · go_wp2_with (go_at_call 76; refine (hS1.out _).mono ?_; rintro e w' ⟨rfl, rfl⟩)
          go_roundw
          case rel => exact ⟨.inr (.inr rfl), (by trivial)⟩
          case measure => simp [RowKit.intOf]
        · go_wp2
          go_ret
          exact ⟨rfl, FIN.out⟩
end Go.Proofs.YtndglhflbenloaaGreatDoor

/-
  The reader's readData, readTextarea, skipRaw, step: their walks.
-/
namespace Go.Proofs.YtndglhflbenloaaGreatDoor
open Go.RowKit Go.Lib Own

theorem head_at {L : List UInt8} {pos : Nat} {x : UInt8} (h : L[pos]? = some x) : (L.drop pos).getD 0 0 = x := by
  rw [List.getD_eq_getElem?_getD, List.getElem?_drop, Nat.add_zero, h]
  rfl

set_option maxHeartbeats 4000000 in
set_option maxRecDepth 100000 in
theorem readData_any (base b win : Nat) (data : ByteArray) (pos mode : Nat) (eat : Bool) (evs : List Ev) (pend : List UInt8) (m : Int) (w : World) (H : StepPre base b win data pos ⟨mode, 0, eat⟩ evs pend m w) :
    Calls Tryz.prog 43 #[.pointer (some ⟨b, 0, none⟩)] w fun e w' => StepAt w w' base b win data pos evs pend e (dataRes win ⟨mode, 0, eat⟩ (data.data.toList.drop pos)) := by
  have hp := H.hp
  have hd := H.hd
  obtain ⟨x, hx⟩ : ∃ x, data[pos]'hp = x := ⟨_, rfl⟩
  have hlx := getElem_list hp hx
  have hmk := fun W hW => readMarkup_any base b win data pos mode eat evs pend m W hW
  have href := fun W hW hTW hmW => readRef_any base b win data pos mode eat evs pend m W hW hd hp H.hpl hTW hmW
  have hby := fun W hW => byte_told base b win data pos mode eat evs pend W hW H.hpl hd hp x hlx
  obtain ⟨⟨c0, c1, c2, c3, c4, c5⟩, _, _⟩ := H.h.cells
  unfold dataRes
  rw [head_at hlx]
  have HH := hid H
  have HMK := hid hmk
  have HRF := hid href
  have HBY := hid hby
  clear hmk href hby
  by_cases h60 : x = 60
  · rw [if_pos h60]
    have hl60 : data.data.toList[pos]? = some 60 := by rw [hlx, h60]
    have r1 : ((x.toNat : Int) == 60) = true := by rw [h60]; rfl
    have HL := hid hl60
    clear h60 hl60 hlx HRF HBY H
    go_enter Tryz.func43, Tryz.ntmps43
    go_wp2_with fail
    go_quiet (fail)
    go_wp2_with (go_at_call 79; refine (HMK.out _ (by exact ⟨HH.out.h.drewN nq, HH.out.hd, HH.out.hp, HH.out.hwin, HH.out.hel, HH.out.hpl, HH.out.hT.drewN nq⟩) HL.out).mono ?_; rintro e w3 h3; obtain ⟨c, rfl⟩ := h3.bool)
    go_ret
    exact StepAt.after h3 (below_drewN (Below.refl base w) nq)
  · rw [if_neg h60]
    have r1 : ((x.toNat : Int) == 60) = false := beq_eq_false_iff_ne.2 (fun e => h60 (UInt8.toNat_inj.1 (by simp; omega)))
    by_cases h38 : x = 38
    · rw [if_pos h38]
      have r2 : ((x.toNat : Int) == 38) = true := by rw [h38]; rfl
      clear h60 h38 hlx HMK HBY H
      go_enter Tryz.func43, Tryz.ntmps43
      go_wp2_with fail
      go_quiet (fail)
      go_wp2_with (go_at_call 80; refine (HRF.out _ (by exact HH.out.h.drewN nq) (by exact (HH.out.hT.drewN nq).ch) (by exact HH.out.hT.max)).mono ?_; rintro e w3 h3; obtain ⟨c, rfl⟩ := h3.bool)
      go_ret
      exact StepAt.after h3 (below_drewN (Below.refl base w) nq)
    · rw [if_neg h38]
      have r2 : ((x.toNat : Int) == 38) = false := beq_eq_false_iff_ne.2 (fun e => h38 (UInt8.toNat_inj.1 (by simp; omega)))
      clear h60 h38 hlx HMK HRF H
      go_enter Tryz.func43, Tryz.ntmps43
      go_wp2_with fail
      go_quiet (fail)
      go_wp2_with (go_at_call 36; refine (HBY.out _ (by exact HH.out.h.drewN nq)).mono ?_; rintro e w3 ⟨rfl, h3⟩)
      go_ret
      exact StepAt.after h3 (below_drewN (Below.refl base w) nq)

set_option maxHeartbeats 4000000 in
set_option maxRecDepth 100000 in
theorem readTextarea_any (base b win : Nat) (data : ByteArray) (pos : Nat) (eat : Bool) (evs : List Ev) (pend : List UInt8) (m : Int) (w : World) (H : StepPre base b win data pos ⟨1, 0, eat⟩ evs pend m w) :
    Calls Tryz.prog 44 #[.pointer (some ⟨b, 0, none⟩)] w fun e w' => StepAt w w' base b win data pos evs pend e (areaRes win ⟨1, 0, eat⟩ (data.data.toList.drop pos)) := by
  have hp := H.hp
  have hd := H.hd
  obtain ⟨x, hx⟩ : ∃ x, data[pos]'hp = x := ⟨_, rfl⟩
  have hlx := getElem_list hp hx
  have hown := fun W hW => ownEnd_any b win data pos 1 0 eat W hW (by omega) (by omega) hd (by omega)
  have htg := fun hpk W hW hTW => readTag_any base b win data pos 2 1 eat evs pend m W hW hd (.inr rfl) hpk H.hwin H.hel hTW
  have href := fun W hW hTW hmW => readRef_any base b win data pos 1 eat evs pend m W hW hd hp H.hpl hTW hmW
  have hby := fun W hW => byte_told base b win data pos 1 eat evs pend W hW H.hpl hd hp x hlx
  obtain ⟨⟨c0, c1, c2, c3, c4, c5⟩, _, _⟩ := H.h.cells
  have hw2 : IntKind.i64.wrap ((pos : Int) + 2) = ((pos + 2 : Nat) : Int) := by rw [IntKind.wrap_i64]; omega
  unfold areaRes
  rw [head_at hlx]
  have htwo := own_two (60 :: 47 :: rawL 1) (data.data.toList.drop pos)
  have hll : (data.data.toList.drop pos).length = data.size - pos := by rw [List.length_drop, ← size_eq]
  generalize ownL (60 :: 47 :: rawL 1) (data.data.toList.drop pos) = O at hown htwo ⊢
  have HH := hid H
  have HOW := hid hown
  have HTG := hid htg
  have HRF := hid href
  have HBY := hid hby
  clear htg href hby hown
  by_cases h60 : x = 60
  · rw [if_pos h60]
    have r1 : ((x.toNat : Int) == 60) = true := by rw [h60]; rfl
    have r2 : ((x.toNat : Int) == 38) = false := by rw [h60]; rfl
    rw [h60] at HBY
    clear HRF hlx h60 H
    by_cases h1 : O = 1
    · subst h1
      simp only [if_true]
      clear HTG HBY htwo
      go_enter Tryz.func44, Tryz.ntmps44
      go_wp2_with fail
      go_quiet (fail)
      go_wp2_with (go_at_call 35; refine (HOW.out _ (by exact (HH.out.h.drewN nq).cells.1)).mono ?_; rintro e w3 ⟨rfl, nd, rfl⟩)
      go_ret
      exact ⟨rfl, HH.out.h.drewN _, below_drewN (Below.refl base w) _⟩
    · by_cases h2 : O = 2
      · subst h2
        have hsz : pos + 2 ≤ data.size := by have := htwo rfl; simp only [List.length_cons] at this; omega
        simp only [if_neg h1, if_true]
        clear HBY htwo h1 hll
        have HZ := hid hsz
        clear hsz
        go_enter Tryz.func44, Tryz.ntmps44
        go_wp2_with fail
        go_quiet (fail)
        go_wp2_with (first | (go_at_call 35; refine (HOW.out _ (by exact (HH.out.h.drewN nq).cells.1)).mono ?_; rintro e w3 ⟨rfl, nd, rfl⟩) | (go_at_call 81; refine (HTG.out HZ.out _ (by exact HH.out.h.drewN _) (by exact HH.out.hT.drewN _)).mono ?_; rintro e w4 h4; obtain ⟨c, rfl⟩ := h4.bool))
        go_ret
        exact StepAt.after h4 (below_drewN (Below.refl base w) _)
      · simp only [if_neg h1, if_neg h2]
        have q1 : ((O : Int) == 1) = false := beq_eq_false_iff_ne.2 (by omega)
        have q2 : ((O : Int) == 2) = false := beq_eq_false_iff_ne.2 (by omega)
        clear HTG htwo h1 h2 hll
        go_enter Tryz.func44, Tryz.ntmps44
        go_wp2_with fail
        go_quiet (fail)
        go_wp2_with (first | (go_at_call 35; refine (HOW.out _ (by exact (HH.out.h.drewN nq).cells.1)).mono ?_; rintro e w3 ⟨rfl, nd, rfl⟩) | (go_at_call 36; refine (HBY.out _ (by exact HH.out.h.drewN _)).mono ?_; rintro e w4 ⟨rfl, h4⟩))
        go_ret
        exact StepAt.after h4 (below_drewN (Below.refl base w) _)
  · rw [if_neg h60]
    have r1 : ((x.toNat : Int) == 60) = false := beq_eq_false_iff_ne.2 (fun e => h60 (UInt8.toNat_inj.1 (by simp; omega)))
    clear HOW HTG htwo
    by_cases h38 : x = 38
    · rw [if_pos h38]
      have r2 : ((x.toNat : Int) == 38) = true := by rw [h38]; rfl
      clear h60 h38 hlx HBY H
      go_enter Tryz.func44, Tryz.ntmps44
      go_wp2_with fail
      go_quiet (fail)
      go_wp2_with (go_at_call 80; refine (HRF.out _ (by exact HH.out.h.drewN nq) (by exact (HH.out.hT.drewN nq).ch) (by exact HH.out.hT.max)).mono ?_; rintro e w3 h3; obtain ⟨c, rfl⟩ := h3.bool)
      go_ret
      exact StepAt.after h3 (below_drewN (Below.refl base w) nq)
    · rw [if_neg h38]
      have r2 : ((x.toNat : Int) == 38) = false := beq_eq_false_iff_ne.2 (fun e => h38 (UInt8.toNat_inj.1 (by simp; omega)))
      clear h60 h38 hlx HRF H
      go_enter Tryz.func44, Tryz.ntmps44
      go_wp2_with fail
      go_quiet (fail)
      go_wp2_with (go_at_call 36; refine (HBY.out _ (by exact HH.out.h.drewN nq)).mono ?_; rintro e w3 ⟨rfl, h3⟩)
      go_ret
      exact StepAt.after h3 (below_drewN (Below.refl base w) nq)

set_option maxHeartbeats 4000000 in
set_option maxRecDepth 100000 in
theorem skipRaw_any (base b win : Nat) (data : ByteArray) (pos mode : Nat) (eat : Bool) (evs : List Ev) (pend : List UInt8) (m : Int) (w : World) (H : StepPre base b win data pos ⟨mode, 0, eat⟩ evs pend m w) (hm1 : 2 ≤ mode) (hm2 : mode ≤ 10) :
    Calls Tryz.prog 45 #[.pointer (some ⟨b, 0, none⟩)] w fun e w' => StepAt w w' base b win data pos evs pend e (rawRes win ⟨mode, 0, eat⟩ (data.data.toList.drop pos)) := by
  have hp := H.hp
  have hd := H.hd
  have hll : (data.data.toList.drop pos).length = data.size - pos := by rw [List.length_drop, ← size_eq]
  have hsum : pos + (data.data.toList.drop pos).length = data.size := by omega
  have hlt := byte_append 60 (data.data.toList.drop pos) []
  obtain ⟨t, ht⟩ : ∃ t : ByteArray, data.extract pos data.size = t := ⟨_, rfl⟩
  have htl : t.data.toList = data.data.toList.drop pos := by rw [← ht]; exact extract_to_end data pos
  have hcall := fun W => Tryz.strings_IndexByte t 60 W
  rw [htl, show (60 : Int).toNat.toUInt8 = 60 from rfl, indexByte_idx] at hcall
  obtain ⟨⟨c0, c1, c2, c3, c4, c5⟩, hf, _⟩ := H.h.cells
  have f2 := hf 2
  have HH := hid H
  unfold rawRes
  cases hi : byteIdx 60 (data.data.toList.drop pos) with
  | none =>
    rw [hi] at hcall
    have HC := hid hcall
    simp only
    unfold StepAt
    simp only
    rw [hsum]
    clear hcall hlt hi H hf htl hsum hll
    go_enter Tryz.func45, Tryz.ntmps45
    go_wp2_with fail
    go_quiet (first | (go_at_call 77; refine Calls.quiet_of_same (HC.out _)))
    go_wp2
    go_ret
    exact ⟨rfl, ((HH.out.h.drewN _).setPos _).1, (below_drewN (Below.refl base w) _).trans ((HH.out.h.drewN _).setPos _).2⟩
  | some i =>
    rw [hi] at hcall
    have hil : i < data.size - pos := by
      rcases hlt with ⟨j, h1, h2, -⟩ | ⟨h1, -⟩
      · rw [hi] at h1; cases h1; omega
      · rw [hi] at h1; cases h1
    clear hlt
    have HC := hid hcall
    have hng : ¬ (i : Int) < 0 := by omega
    simp only
    by_cases h10 : mode = 10
    · subst h10
      simp only [if_true]
      unfold StepAt
      simp only
      rw [hsum]
      have q10 : (((10 : Nat) : Int) == 10) = true := rfl
      clear hcall hi H hf htl hsum hll
      go_enter Tryz.func45, Tryz.ntmps45
      go_wp2_with fail
      go_quiet (first | (go_at_call 77; refine Calls.quiet_of_same (HC.out _)))
      go_wp2
      go_ret
      exact ⟨rfl, ((HH.out.h.drewN _).setPos _).1, (below_drewN (Below.refl base w) _).trans ((HH.out.h.drewN _).setPos _).2⟩
    · simp only [if_neg h10]
      have q10 : ((mode : Int) == 10) = false := beq_eq_false_iff_ne.2 (by omega)
      have hdr : (data.data.toList.drop pos).drop i = data.data.toList.drop (pos + i) := by rw [List.drop_drop]
      rw [hdr]
      have htwo := own_two (60 :: 47 :: rawL mode) (data.data.toList.drop (pos + i))
      have hll2 : (data.data.toList.drop (pos + i)).length = data.size - (pos + i) := by rw [List.length_drop, ← size_eq]
      rw [hll2] at htwo
      have hpi : pos + i ≤ data.size := by omega
      have hpi2 : pos + i < data.size := by omega
      have w1 : IntKind.i64.wrap ((pos : Int) + (i : Int)) = ((pos + i : Nat) : Int) := by rw [IntKind.wrap_i64]; omega
      obtain ⟨P, hP⟩ : ∃ P, pos + i = P := ⟨_, rfl⟩
      rw [hP] at htwo w1 hpi hpi2 ⊢
      have w2 : IntKind.i64.wrap ((P : Int) + 2) = ((P + 2 : Nat) : Int) := by rw [IntKind.wrap_i64]; omega
      have w3 : IntKind.i64.wrap ((P : Int) + 1) = ((P + 1 : Nat) : Int) := by rw [IntKind.wrap_i64]; omega
      have hown := fun W hW => ownEnd_any b win data P mode 0 eat W hW (by omega) hm2 hd hpi
      have htg := fun hpk W hW hTW => readTag_any base b win data P 2 mode eat evs pend m W hW hd (.inr rfl) hpk H.hwin H.hel hTW
      generalize hO : ownL (60 :: 47 :: rawL mode) (data.data.toList.drop P) = O at hown htwo ⊢
      have HOW := hid hown
      have HTG := hid htg
      clear hcall hi H hf htl hsum hll hown htg hdr hll2 hO hpi
      by_cases h1 : O = 1
      · subst h1
        simp only [if_true]
        unfold StepAt
        simp only
        rw [hP]
        clear HTG htwo
        go_enter Tryz.func45, Tryz.ntmps45
        go_wp2_with fail
        go_quiet (first | (go_at_call 77; refine Calls.quiet_of_same (HC.out _)))
        go_wp2_with (go_at_call 35; refine (HOW.out _ (by exact ((HH.out.h.drewN nq).setPos _).1.cells.1)).mono ?_; rintro e w3 ⟨rfl, nd, rfl⟩)
        go_ret
        exact ⟨rfl, ((HH.out.h.drewN _).setPos _).1.drewN _, below_drewN ((below_drewN (Below.refl base w) _).trans ((HH.out.h.drewN _).setPos _).2) _⟩
      · by_cases h2 : O = 2
        · subst h2
          have hsz : P + 2 ≤ data.size := by have := htwo rfl; simp only [List.length_cons] at this; omega
          have HZ := hid hsz
          simp only [if_neg h1, if_true]
          clear htwo h1 hsz
          go_enter Tryz.func45, Tryz.ntmps45
          go_wp2_with fail
          go_quiet (first | (go_at_call 77; refine Calls.quiet_of_same (HC.out _)))
          go_wp2_with (first | (go_at_call 35; refine (HOW.out _ (by exact ((HH.out.h.drewN nq).setPos _).1.cells.1)).mono ?_; rintro e w3 ⟨rfl, nd, rfl⟩) | (go_at_call 81; refine (HTG.out HZ.out _ (by exact (((HH.out.h.drewN nq).setPos P).1.drewN nd)) (by exact (((HH.out.hT.drewN nq).below ((HH.out.h.drewN nq).setPos P).2).drewN nd))).mono ?_; rintro e w4 h4; obtain ⟨c, rfl⟩ := h4.bool))
          go_ret
          subst hP
          exact StepAt.shift h4 (below_drewN ((below_drewN (Below.refl base w) _).trans ((HH.out.h.drewN _).setPos _).2) _)
        · simp only [if_neg h1, if_neg h2]
          have q1 : ((O : Int) == 1) = false := beq_eq_false_iff_ne.2 (by omega)
          have q2 : ((O : Int) == 2) = false := beq_eq_false_iff_ne.2 (by omega)
          unfold StepAt
          simp only
          rw [show pos + (i + 1) = P + 1 by omega]
          clear HTG htwo h1 h2
          go_enter Tryz.func45, Tryz.ntmps45
          go_wp2_with fail
          go_quiet (first | (go_at_call 77; refine Calls.quiet_of_same (HC.out _)))
          go_wp2_with (go_at_call 35; refine (HOW.out _ (by exact ((HH.out.h.drewN nq).setPos _).1.cells.1)).mono ?_; rintro e w3 ⟨rfl, nd, rfl⟩)
          go_ret
          have hr := ((HH.out.h.drewN nq).setPos (P : Int)).1.drewN nd
          have hb := below_drewN ((below_drewN (Below.refl base w) nq).trans ((HH.out.h.drewN nq).setPos (P : Int)).2) nd
          exact ⟨rfl, (hr.setPos _).1, hb.trans (hr.setPos _).2⟩

set_option maxHeartbeats 4000000 in
set_option maxRecDepth 100000 in
theorem step_any (base b win : Nat) (data : ByteArray) (pos : Nat) (st : LS) (evs : List Ev) (pend : List UInt8) (m : Int) (w : World) (H : StepPre base b win data pos st evs pend m w) (hs : st.scan ≤ 10) (hm : st.mode ≤ 10) :
    Calls Tryz.prog 23 #[.pointer (some ⟨b, 0, none⟩)] w fun e w' => StepAt w w' base b win data pos evs pend e (stepL win st (data.data.toList.drop pos)) := by
  obtain ⟨mode, scan, eat⟩ := st
  simp only at hs hm
  obtain ⟨⟨c0, c1, c2, c3, c4, c5⟩, _, _⟩ := H.h.cells
  have hd := H.hd
  have hp := H.hp
  simp only at c3 c4 c5
  unfold stepL
  simp only
  by_cases h1 : scan = 1
  · subst h1
    simp only [if_true]
    have hc := skipComment_any base b win data pos mode eat evs pend m w H.h hd (by omega) H.hT.max
    have HC := hid hc
    have q1 : (((1 : Nat) : Int) == 1) = true := rfl
    clear hc H
    go_enter Tryz.func23, Tryz.ntmps23
    go_wp2_with (go_at_call 40; refine HC.out.mono ?_; rintro e w3 h3; obtain ⟨c, rfl⟩ := h3.bool)
    go_ret
    exact h3
  · by_cases h2 : scan = 2
    · subst h2
      simp only [if_neg h1, if_true]
      have hc := skipBogus_any base b win data pos mode eat evs pend w H.h hd (by omega)
      have HC := hid hc
      have q1 : (((2 : Nat) : Int) == 1) = false := rfl
      have q2 : (((2 : Nat) : Int) == 2) = true := rfl
      clear hc H h1
      go_enter Tryz.func23, Tryz.ntmps23
      go_wp2_with (go_at_call 41; refine HC.out.mono ?_; rintro e w3 h3; obtain ⟨c, rfl⟩ := h3.bool)
      go_ret
      exact h3
    · by_cases h0 : scan = 0
      · subst h0
        simp only [if_neg h1, if_neg h2, ne_eq, not_true, if_false]
        have q1 : (((0 : Nat) : Int) == 1) = false := rfl
        have q2 : (((0 : Nat) : Int) == 2) = false := rfl
        have q3 : (((0 : Nat) : Int) != 0) = false := rfl
        by_cases m0 : mode = 0
        · subst m0
          simp only [if_true]
          have hc := readData_any base b win data pos 0 eat evs pend m w H
          have HC := hid hc
          clear hc H h1 h2
          go_enter Tryz.func23, Tryz.ntmps23
          go_wp2_with (go_at_call 43; refine HC.out.mono ?_; rintro e w3 h3; obtain ⟨c, rfl⟩ := h3.bool)
          go_ret
          exact h3
        · by_cases m1 : mode = 1
          · subst m1
            simp only [if_neg m0, if_true]
            have hc := readTextarea_any base b win data pos eat evs pend m w H
            have HC := hid hc
            clear hc H h1 h2 m0
            go_enter Tryz.func23, Tryz.ntmps23
            go_wp2_with (go_at_call 44; refine HC.out.mono ?_; rintro e w3 h3; obtain ⟨c, rfl⟩ := h3.bool)
            go_ret
            exact h3
          · simp only [if_neg m0, if_neg m1]
            have hc := skipRaw_any base b win data pos mode eat evs pend m w H (by omega) hm
            have r0 : ((mode : Int) == 0) = false := beq_eq_false_iff_ne.2 (by omega)
            have r1 : ((mode : Int) == 1) = false := beq_eq_false_iff_ne.2 (by omega)
            have HC := hid hc
            clear hc H h1 h2 m0 m1
            go_enter Tryz.func23, Tryz.ntmps23
            go_wp2_with (go_at_call 45; refine HC.out.mono ?_; rintro e w3 h3; obtain ⟨c, rfl⟩ := h3.bool)
            go_ret
            exact h3
      · simp only [if_neg h1, if_neg h2, ne_eq, h0, not_false_eq_true, if_true]
        have hc := skipTag_any base b win data pos scan mode eat evs pend w H.h H.hT.tag hd (by omega) (by omega)
        have q1 : ((scan : Int) == 1) = false := beq_eq_false_iff_ne.2 (by omega)
        have q2 : ((scan : Int) == 2) = false := beq_eq_false_iff_ne.2 (by omega)
        have q3 : ((scan : Int) != 0) = true := by rw [bne, beq_eq_false_iff_ne.2 (by omega)]; rfl
        have HC := hid hc
        clear hc H h1 h2 h0
        go_enter Tryz.func23, Tryz.ntmps23
        go_wp2_with (go_at_call 42; refine HC.out.mono ?_; rintro e w3 ⟨rfl, h3, b3⟩)
        go_ret
        exact ⟨rfl, h3, b3⟩
end Go.Proofs.YtndglhflbenloaaGreatDoor

/-
  The reader's read: its walk.
-/
namespace Go.Proofs.YtndglhflbenloaaGreatDoor
open Go.RowKit Go.Lib Own

def posOf (W : World) (b : Nat) : Nat := match W.cell? ⟨b, 2, none⟩ with
  | some v => (RowKit.intOf v).toNat
  | none => 0
theorem pos_of {W : World} {base b : Nat} {win : Int} {data : ByteArray} {k : Nat} {mode scan : Int} {eat : Bool} {evs : List Ev} {pend : List UInt8} (h : Rdr W base b win data k mode scan eat evs pend) : posOf W b = k := by
  unfold posOf
  rw [h.cells.1.c2]
  simp [RowKit.intOf]
/-- a run on its way -/
def ReadAt (win : Nat) (L : List UInt8) (k : Nat) (st : LS) (E : List Ev) (P : List UInt8) (sF : LS) (rest : List UInt8) (EF : List Ev) (PF : List UInt8) : Prop := ∃ it, runL win st (L.drop k) = (sF, rest, it) ∧ putAll (E, P) it = (EF, PF)
theorem ReadAt.done {win : Nat} {L : List UInt8} {k : Nat} {st : LS} {E : List Ev} {P : List UInt8} {sF : LS} {rest : List UInt8} {EF : List Ev} {PF : List UInt8} (h : ReadAt win L k st E P sF rest EF PF) (hW : 32 ≤ win) (h0 : st.scan ≤ 10) (hL : L.drop k ≠ []) {n : Nat} {st2 : LS} {it : List Item} (hs : stepL win st (L.drop k) = .done n st2 it) :
    ReadAt win L (k + n) st2 (putAll (E, P) it).1 (putAll (E, P) it).2 sF rest EF PF := by
  obtain ⟨it2, h1, h2⟩ := h
  rw [run_done hW h0 hL hs, List.drop_drop] at h1
  simp only [Prod.mk.injEq] at h1
  obtain ⟨rfl, rfl, rfl⟩ := h1
  refine ⟨_, rfl, ?_⟩
  rw [putAll_app] at h2
  exact h2
theorem ReadAt.more {win : Nat} {L : List UInt8} {k : Nat} {st : LS} {E : List Ev} {P : List UInt8} {sF : LS} {rest : List UInt8} {EF : List Ev} {PF : List UInt8} (h : ReadAt win L k st E P sF rest EF PF) (hL : L.drop k ≠ []) {n : Nat} {st2 : LS} (hs : stepL win st (L.drop k) = .more n st2) :
    sF = st2 ∧ rest = L.drop (k + n) ∧ E = EF ∧ P = PF := by
  obtain ⟨it2, h1, h2⟩ := h
  rw [run_more hL hs, List.drop_drop] at h1
  simp only [Prod.mk.injEq] at h1
  obtain ⟨rfl, rfl, rfl⟩ := h1
  have h3 : (E, P) = (EF, PF) := h2
  simp only [Prod.mk.injEq] at h3
  exact ⟨rfl, rfl, h3.1, h3.2⟩
theorem ReadAt.over {win : Nat} {L : List UInt8} {k : Nat} {st : LS} {E : List Ev} {P : List UInt8} {sF : LS} {rest : List UInt8} {EF : List Ev} {PF : List UInt8} (h : ReadAt win L k st E P sF rest EF PF) (hk : L.length ≤ k) :
    sF = st ∧ rest = [] ∧ E = EF ∧ P = PF := by
  obtain ⟨it2, h1, h2⟩ := h
  rw [List.drop_of_length_le hk, run_nil] at h1
  simp only [Prod.mk.injEq] at h1
  obtain ⟨rfl, rfl, rfl⟩ := h1
  have h3 : (E, P) = (EF, PF) := h2
  simp only [Prod.mk.injEq] at h3
  exact ⟨rfl, rfl, h3.1, h3.2⟩

set_option maxHeartbeats 4000000 in
set_option maxRecDepth 100000 in
theorem read_any (base b win : Nat) (data : ByteArray) (st : LS) (m : Int) (w : World) (h : Rdr w base b win data 0 st.mode st.scan st.eat [] []) (hd : data.size ≤ 4000000) (hW : 32 ≤ win) (hwin : win ≤ 4096) (hs : st.scan ≤ 10) (hm : st.mode ≤ 10) (hT : LexTabs base w m)
    (sF : LS) (rest : List UInt8) (EF : List Ev) (PF : List UInt8) (hR : ReadAt win data.data.toList 0 st [] [] sF rest EF PF) :
    Calls Tryz.prog 13 #[.pointer (some ⟨b, 0, none⟩)] w fun e w' => e = .returned (.tuple #[]) ∧
      Rdr w' base b win data ((data.size - rest.length : Nat) : Int) sF.mode sF.scan sF.eat EF PF ∧ Below base w w' := by
  have HH := hid h
  have HT := hid hT
  have HRA := hid hR
  clear h hT hR
  go_enter Tryz.func13, Tryz.ntmps13
  go_wp2_with fail
  go_loopw [] (fun wr => ∃ (k : Nat) (st1 : LS) (E : List Ev) (P : List UInt8), Hid (Rdr wr base b win data k st1.mode st1.scan st1.eat E P ∧ Below base w wr ∧ ReadAt win data.data.toList k st1 E P sF rest EF PF) ∧ k ≤ data.size ∧ st1.scan ≤ 10 ∧ st1.mode ≤ 10 ∧ E.length ≤ 2 * k ∧ P.length ≤ 4 * k) (fun wr => data.size - posOf wr b)
  case atStart => exact ⟨0, st, [], [], hid ⟨HH.out, Below.refl _ _, HRA.out⟩, Nat.zero_le _, hs, hm, Nat.zero_le _, Nat.zero_le _⟩
  case round =>
    obtain ⟨k, st1, E, P, HX, hk, hs1, hm1, hE, hP⟩ := hrel
    obtain ⟨⟨c0, c1, c2, c3, c4, c5⟩, _, _⟩ := HX.out.1.cells
    by_cases hlt : k < data.size
    · have hne : data.data.toList.drop k ≠ [] := fun e => by
        have := congrArg List.length e
        rw [List.length_drop, ← size_eq] at this
        simp at this
        omega
      have hstep := fun W hW1 hT1 => step_any base b win data k st1 E P m W ⟨hW1, by omega, hlt, hwin, by omega, by omega, hT1⟩ hs1 hm1
      have hpos := fun n st' it => step_pos (W := win) hW hs1 hne (n := n) (st' := st') (it := it)
      have hmore := fun n st' => step_more (W := win) hW hs1 hne (n := n) (st' := st')
      have hsm := fun n st' it => step_small (W := win) (st := st1) (L := data.data.toList.drop k) (n := n) (st' := st') (it := it)
      have hmo := step_mode (W := win) (L := data.data.toList.drop k) hm1
      have hdone := fun n st2 it => ReadAt.done HX.out.2.2 hW hs1 hne (n := n) (st2 := st2) (it := it)
      have hmo2 := fun n st2 => ReadAt.more HX.out.2.2 hne (n := n) (st2 := st2)
      cases hres : stepL win st1 (data.data.toList.drop k) with
      | more n st2 =>
        rw [hres] at hstep
        obtain ⟨rfl, hr2, rfl, rfl⟩ := hmo2 n st2 hres
        have hn := (hmore n sF hres).1
        have hrl : data.size - rest.length = k + n := by
          rw [hr2, List.length_drop, ← size_eq]
          rw [List.length_drop, ← size_eq] at hn
          omega
        have HRL := hid (fun (_ : True) => hrl)
        have HST := hid hstep
        clear hstep hpos hmore hsm hmo hdone hmo2 hres hne hn hrl hr2
        go_wp2_with fail
        go_region_law (go_simp; go_at_call 23; refine (HST.out _ (by exact HX.out.1.drew) (by exact (HT.out.below HX.out.2.1).drewN 1)).mono ?_; rintro e w3 ⟨rfl, h3, b3⟩)
        all_goals
          go_wp2
          go_end0
          exact ⟨rfl, by rw [HRL.out trivial]; exact h3, HX.out.2.1.trans ⟨b3.os, b3.tape, b3.output, b3.size, b3.block⟩⟩
      | done n st2 it =>
        rw [hres] at hstep
        obtain ⟨p1, p2, p3⟩ := hpos n st2 it hres
        rw [List.length_drop, ← size_eq] at p2
        have hsm2 := small_put (hsm n st2 it hres) p1 (E, P)
        have hmd := hmo.2 n st2 it hres
        have hdn := hdone n st2 it hres
        simp only at hsm2
        have HST := hid hstep
        have HDN := hid hdn
        clear hstep hpos hmore hsm hmo hdone hmo2 hres hne hdn
        go_wp2_with fail
        go_region_law (go_simp; go_at_call 23; refine (HST.out _ (by exact HX.out.1.drew) (by exact (HT.out.below HX.out.2.1).drewN 1)).mono ?_; rintro e w3 ⟨rfl, h3, b3⟩)
        all_goals
          have hp1 := pos_of HX.out.1
          have hp2 := pos_of h3
          have HX3 := hid (And.intro h3 (And.intro (HX.out.2.1.trans ⟨b3.os, b3.tape, b3.output, b3.size, b3.block⟩) HDN.out))
          clear h3 b3
          go_wp2
          go_roundw
          case rel =>
            have g1 : k + n ≤ data.size := by omega
            have g2 : (putAll (E, P) it).1.length ≤ 2 * (k + n) := by omega
            have g3 : (putAll (E, P) it).2.length ≤ 4 * (k + n) := by omega
            (repeat apply Exists.intro)
            exact ⟨⟨_, _, _, _, HX3, g1, p3, hmd, g2, g3⟩, rfl⟩
          case measure => omega
    · have hk' : k = data.size := by omega
      obtain ⟨rfl, rfl, rfl, rfl⟩ := HX.out.2.2.over (by rw [← size_eq]; omega)
      have HRL : Hid (True → data.size - ([] : List UInt8).length = k) := hid (fun _ => by rw [List.length_nil]; omega)
      have hnl : ¬ (k : Int) < (data.size : Int) := by omega
      go_wp2_with fail
      go_quiet (fail)
      go_wp2
      go_end0
      exact ⟨rfl, by rw [HRL.out trivial]; exact HX.out.1.drewN _, HX.out.2.1.trans (below_drewN (Below.refl base wr) _)⟩
end Go.Proofs.YtndglhflbenloaaGreatDoor

/-
  The reference's text: its walk.
-/
namespace Go.Proofs.YtndglhflbenloaaGreatDoor
open Go.RowKit Go.Lib Own

/-- the six tables, all ahead of block 'base' -/
structure RefTabsB (base : Nat) (w : World) : Prop where
  tabs : RefTabs w
  l1 : 0 < base
  l2 : 8 < base
  l3 : 1 < base
  l4 : 2 < base
  l5 : 3 < base
  l6 : 4 < base
theorem RefTabsB.below {base : Nat} {w w' : World} (h : RefTabsB base w) (hb : Below base w w') : RefTabsB base w' :=
  ⟨⟨⟨rangeAt_base h.tabs.ch.names hb h.l1, rangeAt_base h.tabs.ch.repl hb h.l2⟩, rangeAt_base h.tabs.eitherN hb h.l3, rangeAt_base h.tabs.eitherC hb h.l4, rangeAt_base h.tabs.closedN hb h.l5, rangeAt_base h.tabs.closedC hb h.l6⟩, h.l1, h.l2, h.l3, h.l4, h.l5, h.l6⟩

theorem ReadAt.skip {win : Nat} {L : List UInt8} {k : Nat} {st : LS} {E : List Ev} {P : List UInt8} {sF : LS} {rest : List UInt8} {EF : List Ev} {PF : List UInt8} (h : ReadAt win L k st E P sF rest EF PF) (hW : 32 ≤ win) (h0 : st.scan ≠ 0) (h10 : st.scan ≤ 10) (hL : L.drop k ≠ []) :
    ((skipL st.scan (L.drop k)).2 = 0 → ReadAt win L (k + (skipL st.scan (L.drop k)).1) { st with scan := 0 } E P sF rest EF PF) ∧
    ((skipL st.scan (L.drop k)).2 ≠ 0 → sF = { st with scan := (skipL st.scan (L.drop k)).2 } ∧ rest = L.drop (k + (skipL st.scan (L.drop k)).1) ∧ E = EF ∧ P = PF) := by
  obtain ⟨it2, h1, h2⟩ := h
  obtain ⟨_, _, r1, r2⟩ := skip_run hW st h0 h10 (L.drop k) hL
  refine ⟨fun e => ⟨it2, ?_, h2⟩, fun e => ?_⟩
  · rw [← List.drop_drop, ← (r1 e).2]; exact h1
  · rw [r2 e, List.drop_drop] at h1
    simp only [Prod.mk.injEq] at h1
    obtain ⟨rfl, rfl, rfl⟩ := h1
    have h3 : (E, P) = (EF, PF) := h2
    simp only [Prod.mk.injEq] at h3
    exact ⟨rfl, rfl, h3.1, h3.2⟩
theorem ReadAt.piece {win : Nat} {L : List UInt8} {k : Nat} {st : LS} {E : List Ev} {P : List UInt8} {sF : LS} {rest : List UInt8} {EF : List Ev} {PF : List UInt8} (h : ReadAt win L k st E P sF rest EF PF) (hW : 32 ≤ win) (h0 : st.scan = 0) (hm : st.mode ≤ 10) (hL : L.drop k ≠ []) :
    ((pieceL win st.mode (L.drop k)).1 = 0 → sF = st ∧ rest = L.drop k ∧ E = EF ∧ P = PF) ∧
    ((pieceL win st.mode (L.drop k)).1 ≠ 0 → 0 < (pieceL win st.mode (L.drop k)).2 ∧ (pieceL win st.mode (L.drop k)).2 ≤ (L.drop k).length ∧ ∃ st' it, toldL (pieceL win st.mode (L.drop k)).1 ((L.drop k).take (pieceL win st.mode (L.drop k)).2) st = (st', it) ∧ st'.scan ≤ 10 ∧ st'.mode ≤ 10 ∧
      ReadAt win L (k + (pieceL win st.mode (L.drop k)).2) st' (putAll (E, P) it).1 (putAll (E, P) it).2 sF rest EF PF) := by
  obtain ⟨it2, h1, h2⟩ := h
  obtain ⟨r1, r2⟩ := told_run hW st h0 hm (L.drop k) hL
  refine ⟨fun e => ?_, fun e => ?_⟩
  · rw [r1 e] at h1
    simp only [Prod.mk.injEq] at h1
    obtain ⟨rfl, rfl, rfl⟩ := h1
    have h3 : (E, P) = (EF, PF) := h2
    simp only [Prod.mk.injEq] at h3
    exact ⟨rfl, rfl, h3.1, h3.2⟩
  · obtain ⟨n0, n1, st', it, ht, hs', hm', hr⟩ := r2 e
    rw [hr, List.drop_drop] at h1
    simp only [Prod.mk.injEq] at h1
    obtain ⟨rfl, rfl, rfl⟩ := h1
    refine ⟨n0, n1, st', it, ht, hs', hm', _, rfl, ?_⟩
    rw [putAll_app] at h2
    exact h2
theorem told_small (kind : Nat) (S : List UInt8) (st : LS) (E : List Ev) (P : List UInt8) : (putAll (E, P) (toldL kind S st).2).1.length ≤ E.length + 2 ∧ (putAll (E, P) (toldL kind S st).2).2.length ≤ P.length + 4 * S.length := by
  have hun := unr_len false _ S (Nat.le_refl _)
  have hf := flush_len (E, P)
  simp only at hf
  have h0 : (putAll (E, P) []).1.length ≤ E.length + 2 ∧ (putAll (E, P) []).2.length ≤ P.length + 4 * S.length := ⟨by show E.length ≤ _; omega, by show P.length ≤ _; omega⟩
  have hev : ∀ e, (flushE (E, P) ++ [e]).length ≤ E.length + 2 := fun e => by rw [List.length_append, List.length_singleton]; omega
  unfold toldL
  split
  · unfold unitL2
    split
    · exact h0
    · refine ⟨by show E.length ≤ _; omega, ?_⟩
      show (P ++ unr false S).length ≤ _
      rw [List.length_append]; omega
  · split
    · exact h0
    · split
      · exact h0
      · split
        · split
          · exact ⟨hev _, by show ([] : List UInt8).length ≤ _; simp⟩
          · exact h0
        · split
          · split
            · exact ⟨hev _, by show ([] : List UInt8).length ≤ _; simp⟩
            · exact h0
          · exact h0
theorem piece_kind (W mode : Nat) (L : List UInt8) : (pieceL W mode L).1 ≤ 8 ∧ ((pieceL W mode L).1 = 3 ∨ (pieceL W mode L).1 = 5 → 2 ≤ (pieceL W mode L).2) := by
  have htag : ∀ k, (k = 1 ∨ k = 2) → (tagPieceL W L k).1 ≤ 8 ∧ ((tagPieceL W L k).1 = 3 ∨ (tagPieceL W L k).1 = 5 → 2 ≤ (tagPieceL W L k).2) := fun k hk => by
    unfold tagPieceL
    split
    · exact ⟨by simp, fun h => by simp at h⟩
    · rcases hk with rfl | rfl
      · simp only [show ¬ (1 : Nat) = 2 by decide, if_false]
        split
        · exact ⟨by simp, fun h => by simp at h⟩
        · exact ⟨by simp, fun h => by simp at h⟩
      · simp only [if_true]
        split
        · exact ⟨by simp, fun _ => by omega⟩
        · exact ⟨by simp, fun _ => by omega⟩
  unfold pieceL
  split
  · exact ⟨by simp, fun h => by simp at h⟩
  · split
    · unfold runPieceL
      split
      · exact ⟨by simp, fun h => by simp at h⟩
      · exact ⟨by simp, fun h => by simp at h⟩
    · split
      · exact ⟨by simp, fun h => by simp at h⟩
      · split
        · exact ⟨by simp, fun h => by simp at h⟩
        · split
          · unfold dataPieceL
            split
            · exact ⟨by simp, fun h => by simp at h⟩
            · split
              · exact htag 1 (.inl rfl)
              · split
                · exact htag 2 (.inr rfl)
                · split
                  · exact ⟨by simp, fun h => by simp at h⟩
                  · split
                    · exact ⟨by simp, fun h => by simp at h⟩
                    · exact ⟨by simp, fun h => by simp at h⟩
          · split
            · exact ⟨by simp, fun h => by simp at h⟩
            · split
              · exact htag 2 (.inr rfl)
              · split
                · exact ⟨by simp, fun h => by simp at h⟩
                · exact ⟨by simp, fun h => by simp at h⟩
theorem told_any (base b : Nat) (win : Int) (mode : Nat) (eat : Bool) (held : ByteArray) (E : List Ev) (P : List UInt8) (kind : Nat) (h1 : kind ≠ 0) (h8 : kind ≤ 8) (s : ByteArray) (w : World) (h : Lxg w base b win mode 0 eat held E P) (hs : s.size ≤ 4000000) (hs1 : 1 ≤ s.size) (h2 : kind = 3 ∨ kind = 5 → 2 ≤ s.size) (hE : E.length ≤ 8000000) (hP : P.length ≤ 50000000) (hT : RefTabs w) :
    Calls Tryz.prog 28 #[.pointer (some ⟨b, 0, none⟩), .int .i64 kind, .string s] w (ToldSaid base b win held E P (toldL kind s.data.toList ⟨mode, 0, eat⟩) w) := by
  rcases (show kind = 1 ∨ (kind = 6 ∨ kind = 7 ∨ kind = 8) ∨ (kind = 3 ∨ kind = 5) ∨ (kind = 2 ∨ kind = 4) by omega) with rfl | hk | hk | hk
  · exact told_unit base b win mode eat held E P s w h hs hP hT
  · exact told_set base b win mode eat held E P kind hk s w h
  · exact told_end base b win mode eat held E P kind hk s w h hs (h2 hk) hE hT
  · exact told_start base b win mode eat held E P kind hk s w h hs hs1 hE hT
end Go.Proofs.YtndglhflbenloaaGreatDoor

/-
  The reference's text: its walk.
-/
namespace Go.Proofs.YtndglhflbenloaaGreatDoor
open Go.RowKit Go.Lib Own

theorem rest_of (data : ByteArray) (k : Nat) : data.extract k data.size = ⟨(data.data.toList.drop k).toArray⟩ := by
  rw [← extract_to_end]
theorem sub_list (data : ByteArray) (k n : Nat) : (data.extract k (k + n)).data.toList = (data.data.toList.drop k).take n := by
  rw [← Lib.toList_data, Lib.extract_toList, Nat.add_sub_cancel_left]

set_option maxHeartbeats 8000000 in
set_option maxRecDepth 100000 in
theorem refText_any (base b win : Nat) (st : LS) (held s data : ByteArray) (hda : held ++ s = data) (w : World) (h : Lxg w base b win st.mode st.scan st.eat held [] []) (hd : data.size ≤ 2000000) (hW : 32 ≤ win) (hs : st.scan ≤ 10) (hm : st.mode ≤ 10) (hT : RefTabsB base w)
    (sF : LS) (rest : List UInt8) (EF : List Ev) (PF : List UInt8) (hR : ReadAt win data.data.toList 0 st [] [] sF rest EF PF) :
    Calls Tryz.prog 17 #[.pointer (some ⟨b, 0, none⟩), .string s] w fun e w' => e = .returned (.tuple #[]) ∧
      Lxg w' base b win sF.mode sF.scan sF.eat ⟨rest.toArray⟩ EF PF ∧ Below base w w' := by
  obtain ⟨⟨c0, c1, c2, c3, c4⟩, hf⟩ := h.cells
  have hz : held.size + s.size = data.size := by rw [← hda, ByteArray.size_append]
  have hno : ¬ 9223372036854775807 < held.size + s.size := by omega
  clear hz
  have HH := hid h
  have HT := hid hT
  have HRA := hid hR
  have HF : Hid (∀ W' (k : Nat), Lxg W' base b win sF.mode sF.scan sF.eat held EF PF → Below base w W' → rest = data.data.toList.drop k → Lxg (W'.setCell ⟨b, 4, none⟩ (.string (data.extract k data.size))) base b win sF.mode sF.scan sF.eat ⟨rest.toArray⟩ EF PF ∧ Below base w (W'.setCell ⟨b, 4, none⟩ (.string (data.extract k data.size)))) := fun W' k h1 h2 h3 => by
    rw [rest_of, h3]
    exact ⟨(h1.setHeld _).1, h2.trans (h1.setHeld _).2⟩
  clear h hT hR hf c0 c1 c2 c3
  go_enter Tryz.func17, Tryz.ntmps17
  go_wp2_with fail
  go_loopw [4] (fun iv wr => ∃ (k : Nat) (st1 : LS) (E : List Ev) (P : List UInt8), iv = .int .i64 k ∧ Hid (Lxg wr base b win st1.mode st1.scan st1.eat held E P ∧ Below base w wr ∧ ReadAt win data.data.toList k st1 E P sF rest EF PF) ∧ k ≤ data.size ∧ st1.scan ≤ 10 ∧ st1.mode ≤ 10 ∧ E.length ≤ 2 * k ∧ P.length ≤ 4 * k) (fun iv _ => data.size - (RowKit.intOf iv).toNat)
  case atStart => exact ⟨0, st, [], [], rfl, hid ⟨HH.out, Below.refl _ _, HRA.out⟩, Nat.zero_le _, hs, hm, Nat.zero_le _, Nat.zero_le _⟩
  case round =>
    obtain ⟨k, st1, E, P, rfl, HX, hk, hs1, hm1, hE, hP⟩ := hrel
    obtain ⟨⟨c0, c1, c2, c3, c4⟩, hf⟩ := HX.out.1.cells
    have f4 := hf 4
    clear HH HRA
    by_cases hp : k < data.size
    · have hne : data.data.toList.drop k ≠ [] := fun e => by
        have := congrArg List.length e
        rw [List.length_drop, ← size_eq] at this
        simp at this
        omega
      have hTr := HT.out.below HX.out.2.1
      obtain ⟨db, hdb⟩ : ∃ db, data.extract k data.size = db := ⟨_, rfl⟩
      have hdl : db.data.toList = data.data.toList.drop k := by rw [← hdb, extract_to_end]
      have hdz : db.size = data.size - k := by rw [size_eq, hdl, List.length_drop, ← size_eq]
      by_cases hsc : st1.scan = 0
      · have q0 : ((st1.scan : Int) != 0) = false := by rw [hsc]; rfl
        obtain ⟨dc, dr, hdc⟩ : ∃ dc dr, db.data.toList = dc :: dr := by
          cases hh : db.data.toList with
          | nil => rw [hdl] at hh; exact absurd hh hne
          | cons dc dr => exact ⟨dc, dr, rfl⟩
        have hpc := fun W hTW => piece_any win st1.mode db dc dr hdc hm1 W (by omega) hTW
        obtain ⟨r1, r2⟩ := HX.out.2.2.piece hW hsc hm1 hne
        obtain ⟨k8, k2⟩ := piece_kind win st1.mode (data.data.toList.drop k)
        rw [hdl] at hpc
        obtain ⟨x, hx⟩ : ∃ x, pieceL win st1.mode (data.data.toList.drop k) = x := ⟨_, rfl⟩
        rw [hx] at hpc r1 r2 k8 k2
        obtain ⟨kind, n⟩ := x
        simp only at r1 r2 k8 k2
        rw [List.length_drop, ← size_eq] at r2
        have HPC := hid hpc
        have HTR := hid hTr
        clear hpc hx hdl hdz hTr hdc
        go_wp2_with fail
        go_cut [6, 7] from 40 to 55 (fun kv nv wc => kv = .int .i64 kind ∧ nv = .int .i64 n ∧ Hid (Lxg wc base b win st1.mode st1.scan st1.eat held E P ∧ Below base w wc))
        case first =>
          go_region_law (go_simp; go_at_call 27; refine (HPC.out _ (by exact ⟨⟨HTR.out.tabs.ch.names, HTR.out.tabs.ch.repl⟩, HTR.out.tabs.eitherN, HTR.out.tabs.eitherC, HTR.out.tabs.closedN, HTR.out.tabs.closedC⟩)).mono ?_; rintro e w2 ⟨rfl, b2⟩; have b3 : Below wr.heap.size wr w2 := ⟨b2.os, b2.tape, b2.output, b2.size, b2.block⟩)
          all_goals
            go_wp2_with fail
            go_meet
            exact ⟨rfl, rfl, hid ⟨HX.out.1.below b3, HX.out.2.1.trans (b3.mono HX.out.1.size)⟩⟩
        case rest =>
          obtain ⟨rfl, rfl, HY⟩ := hcut
          obtain ⟨⟨d0, d1, d2, d3, d4⟩, df⟩ := HY.out.1.cells
          have g4 := df 4
          clear c0 c1 c2 c3 c4 hf f4 HTR HPC d0 d1 d2 d3 df
          by_cases hkz : kind = 0
          · subst hkz
            have HN := hid (r1 rfl)
            clear r1 r2 k8 k2 HX
            go_wp2_with fail
            go_end0
            obtain ⟨e1, e2, e3, e4⟩ := HN.out
            have hh := HF.out wc k (by rw [e1, ← e3, ← e4]; exact HY.out.1) HY.out.2 e2
            rw [hdb] at hh
            exact ⟨rfl, hh⟩
          · have qk : ((kind : Int) == 0) = false := beq_eq_false_iff_ne.2 (by omega)
            obtain ⟨n0, n1, st2, it, ht, hs2, hm2, hR2⟩ := r2 hkz
            obtain ⟨sb, hsb⟩ : ∃ sb, data.extract k (k + n) = sb := ⟨_, rfl⟩
            have hsl : sb.data.toList = (data.data.toList.drop k).take n := by rw [← hsb, sub_list]
            have hsz : sb.size = n := by rw [size_eq, hsl, List.length_take, List.length_drop, ← size_eq]; omega
            have htd := told_any base b win st1.mode st1.eat held E P kind hkz k8 sb wc (by have := HY.out.1; rw [hsc] at this; exact this) (by omega) (by omega) (fun e => by rw [hsz]; exact k2 e) (by omega) (by omega) (HT.out.below HY.out.2).tabs
            have hst1 : (⟨st1.mode, 0, st1.eat⟩ : LS) = st1 := by rw [← hsc]
            obtain ⟨sm1, sm2⟩ := told_small kind ((data.data.toList.drop k).take n) st1 E P
            rw [List.length_take, List.length_drop, ← size_eq] at sm2
            rw [hsl, hst1, ht] at htd
            unfold ToldSaid at htd
            simp only at htd
            rw [ht] at sm1 sm2
            simp only at sm1 sm2
            have HTD := hid htd
            have HN := hid hR2
            clear htd hR2 ht r1 r2 k8 k2 hsl hst1 HX HF
            generalize (putAll (E, P) it).1 = E2 at sm1 HTD HN
            generalize (putAll (E, P) it).2 = P2 at sm2 HTD HN
            go_wp2_with (go_at_call 28; refine HTD.out.mono ?_; rintro e w2 ⟨rfl, hL2, b2⟩)
            go_roundw
            case rel => exact ⟨k + n, st2, E2, P2, rfl, hid ⟨hL2, HY.out.2.trans b2, HN.out⟩, by omega, hs2, hm2, by omega, by omega⟩
            case measure => simp [RowKit.intOf]; omega
      · have q0 : ((st1.scan : Int) != 0) = true := bne_iff_ne.2 (by omega)
        have hsk := skip_any base b win st1.mode st1.scan hsc hs1 st1.eat held E P db wr HX.out.1 (by omega) hTr.tabs
        obtain ⟨r1, r2⟩ := HX.out.2.2.skip hW hsc hs1 hne
        obtain ⟨sk1, sk2, _, _⟩ := skip_run hW st1 hsc hs1 (data.data.toList.drop k) hne
        have sk3 : (skipL st1.scan (data.data.toList.drop k)).2 = 0 → 0 < (skipL st1.scan (data.data.toList.drop k)).1 := fun e => ((skip_run hW st1 hsc hs1 (data.data.toList.drop k) hne).2.2.1 e).1
        rw [hdl] at hsk
        obtain ⟨x, hx⟩ : ∃ x, skipL st1.scan (data.data.toList.drop k) = x := ⟨_, rfl⟩
        rw [hx] at hsk r1 r2 sk1 sk2 sk3
        obtain ⟨n, sc2⟩ := x
        simp only at r1 r2 sk1 sk2 sk3
        rw [List.length_drop, ← size_eq] at sk1
        have HSK := hid hsk
        clear hsk hx hdl hdz hTr
        by_cases hz : sc2 = 0
        · subst hz
          have HN := hid (r1 rfl)
          have hn0 := sk3 rfl
          clear r1 r2 sk3
          go_wp2_with (go_at_call 26; refine HSK.out.mono ?_; rintro e w2 ⟨rfl, hL2, b2⟩; have k2 := hL2.cells; obtain ⟨⟨d0, d1, d2, d3, d4⟩, df⟩ := k2)
          go_roundw
          case rel => exact ⟨k + n, { st1 with scan := 0 }, E, P, rfl, hid ⟨hL2, HX.out.2.1.trans b2, HN.out⟩, by omega, by simp, hm1, by omega, by omega⟩
          case measure => simp [RowKit.intOf]; omega
        · have q2 : ((sc2 : Int) != 0) = true := bne_iff_ne.2 (by omega)
          have HN := hid (r2 hz)
          clear r1 r2 sk3
          go_wp2_with (go_at_call 26; refine HSK.out.mono ?_; rintro e w2 ⟨rfl, hL2, b2⟩; have k2 := hL2.cells; obtain ⟨⟨d0, d1, d2, d3, d4⟩, df⟩ := k2; have g4 := df 4)
          go_end0
          obtain ⟨e1, e2, e3, e4⟩ := HN.out
          exact ⟨rfl, HF.out w2 (k + n) (by rw [e1, ← e3, ← e4]; exact hL2) (HX.out.2.1.trans b2) e2⟩
    · have HN := hid (HX.out.2.2.over (by rw [← size_eq]; omega))
      obtain rfl : k = data.size := by omega
      clear HT
      go_wp2
      go_end0
      obtain ⟨e1, e2, e3, e4⟩ := HN.out
      have := HF.out wr data.size (by rw [e1, ← e3, ← e4]; exact HX.out.1) HX.out.2.1 (by rw [e2, List.drop_of_length_le (by rw [← size_eq]; exact Nat.le_refl _)])
      rw [show data.extract data.size data.size = ByteArray.empty by simp] at this
      exact ⟨rfl, this⟩
end Go.Proofs.YtndglhflbenloaaGreatDoor

/-
  The reference's end of a text: its plain half, and its walk.
-/
namespace Go.Proofs.YtndglhflbenloaaGreatDoor
open Go.RowKit Go.Lib Own

theorem rest_raw {W : Nat} (hW : 32 ≤ W) : ∀ (N : Nat) (st : LS) (L : List UInt8), st.scan ≤ 10 → st.mode ≤ 10 → L.length ≤ N → (runL W st L).1.scan = 0 → 2 ≤ (runL W st L).1.mode → (runL W st L).2.1 = [] ∨ ∃ r, (runL W st L).2.1 = 60 :: r
  | 0, st, L, _, _, hN, _, _ => by
    obtain rfl := List.length_eq_zero_iff.1 (Nat.le_zero.1 hN)
    exact .inl rfl
  | N + 1, st, L, h0, hm, hN, h1, h2 => by
    cases L with
    | nil => exact .inl rfl
    | cons c r =>
      by_cases hs : st.scan = 0
      · obtain ⟨t1, t2⟩ := told_run hW st hs hm (c :: r) (by simp)
        by_cases hk : (pieceL W st.mode (c :: r)).1 = 0
        · rw [t1 hk] at h1 h2 ⊢
          simp only at h1 h2 ⊢
          right
          by_cases hc : c = 60
          · exact ⟨r, by rw [hc]⟩
          · exfalso
            have h0c : (c :: r).getD 0 0 = c := rfl
            unfold pieceL at hk
            by_cases h10 : st.mode = 10
            · rw [if_pos h10] at hk; simp at hk
            · rw [if_neg h10, if_neg (show ¬ (st.mode < 2 ∧ _) from fun h => by omega), if_neg (show ¬ (_ ∧ st.mode < 2) from fun h => by omega), if_pos (show (c :: r).getD 0 0 ≠ 60 from hc)] at hk
              simp at hk
        · obtain ⟨n0, n1, st', it, ht, hs', hm', hr⟩ := t2 hk
          rw [hr] at h1 h2 ⊢
          exact rest_raw hW N st' _ hs' hm' (by rw [List.length_drop]; simp only [List.length_cons] at hN ⊢; omega) h1 h2
      · obtain ⟨a1, a2, a3, a4⟩ := skip_run hW st hs h0 (c :: r) (by simp)
        by_cases hz : (skipL st.scan (c :: r)).2 = 0
        · obtain ⟨n0, hr⟩ := a3 hz
          rw [hr] at h1 h2 ⊢
          exact rest_raw hW N { st with scan := 0 } _ (by simp) hm (by rw [List.length_drop]; simp only [List.length_cons] at hN ⊢; omega) h1 h2
        · rw [a4 hz] at h1
          exact absurd h1 hz
/-- the end by the reference -/
def endRL (st : LS) (L : List UInt8) : List Item :=
  if st.scan ≠ 0 ∨ L = [] ∨ 1 < st.mode then []
  else if L.getD 0 0 = 38 ∨ L = [60] ∨ L = [60, 47] then unitL2 st (unr false L)
  else if st.mode = 1 ∧ ownL (60 :: 47 :: rawL 1) L = 1 then unitL2 st L else []
theorem ref_bytes_put : ∀ (st : LS) (L : List UInt8) (s : List Ev × List UInt8), st.eat = false → putAll s (bytesL st L) = (s.1, s.2 ++ L)
  | _, [], s, _ => by show s = _; simp
  | st, c :: r, s, h => by
    unfold bytesL
    rw [putAll_app]
    have hu : unitL2 st [c] = [.unit [c]] := by
      unfold unitL2
      rw [if_neg (fun e => by rw [h] at e; exact absurd e.1 (by decide))]
    rw [hu, ref_bytes_put (noEat st) r _ rfl]
    show (s.1, (s.2 ++ [c]) ++ r) = _
    simp
theorem ref_bytes_put2 (st : LS) (r : List UInt8) (s : List Ev × List UInt8) : putAll s (bytesL st (60 :: r)) = (s.1, s.2 ++ 60 :: r) := by
  unfold bytesL
  rw [putAll_app]
  have hu : unitL2 st [60] = [.unit [60]] := by
    unfold unitL2
    rw [if_neg (fun e => absurd e.2 (by decide))]
  rw [hu, ref_bytes_put (noEat st) r _ rfl]
  show (s.1, (s.2 ++ [60]) ++ r) = _
  simp
theorem unit_put2 (st : LS) (r : List UInt8) (s : List Ev × List UInt8) : putAll s (unitL2 st (60 :: r)) = (s.1, s.2 ++ 60 :: r) := by
  have hu : unitL2 st (60 :: r) = [.unit (60 :: r)] := by
    unfold unitL2
    rw [if_neg (fun e => absurd (List.cons.inj e.2).1 (by decide))]
  rw [hu]; rfl
theorem own_head {L : List UInt8} (hL : L ≠ []) (h : ownL (60 :: 47 :: rawL 1) L = 1) : ∃ r, L = 60 :: r := by
  cases L with
  | nil => exact absurd rfl hL
  | cons c r =>
    unfold ownL at h
    split at h
    · rename_i hc
      have : c = 60 := by
        have hall : ∀ c : UInt8, lowC c = 60 → c = 60 := all8 (by decide +kernel)
        exact hall c hc
      exact ⟨r, by rw [this]⟩
    · cases h
theorem end_same (st : LS) (L : List UInt8) (hraw : st.scan = 0 → 2 ≤ st.mode → L = [] ∨ ∃ r, L = 60 :: r) (s : List Ev × List UInt8) : putAll s (endRL st L) = putAll s (endL st L) := by
  unfold endRL endL
  by_cases h1 : L = [] ∨ st.scan ≠ 0
  · rw [if_pos h1, if_pos (by rcases h1 with h | h; exact .inr (.inl h); exact .inl h)]
  · have hL : L ≠ [] := fun h => h1 (.inl h)
    have hs : st.scan = 0 := by
      by_cases h : st.scan = 0
      · exact h
      · exact absurd (.inr h) h1
    rw [if_neg h1]
    by_cases hm : 1 < st.mode
    · rw [if_pos (.inr (.inr hm))]
      rcases hraw hs hm with h | ⟨r, rfl⟩
      · exact absurd h hL
      · rw [if_neg (show ¬ (60 :: r).getD 0 0 = 38 by simp), if_neg (fun h => by rcases h with h | h <;> omega)]
    · rw [if_neg (fun h => by rcases h with h | h | h; exact h hs; exact hL h; exact hm h)]
      by_cases h38 : L.getD 0 0 = 38
      · rw [if_pos (.inl h38), if_pos h38]
      · rw [if_neg h38]
        have hone : ownL (60 :: 47 :: rawL 1) [60] = 1 := by decide
        have htwo : ownL (60 :: 47 :: rawL 1) [60, 47] = 1 := by decide
        by_cases hl : L = [60] ∨ L = [60, 47]
        · rw [if_pos (.inr hl)]
          have hun : unr false L = L := by rcases hl with rfl | rfl <;> decide
          have hr : ∃ r, L = 60 :: r := by rcases hl with rfl | rfl; exact ⟨_, rfl⟩; exact ⟨_, rfl⟩
          have hc : st.mode = 0 ∧ (L = [60] ∨ L = [60, 47]) ∨ st.mode = 1 ∧ ownL (60 :: 47 :: rawL 1) L = 1 := by
            rcases (show st.mode = 0 ∨ st.mode = 1 by omega) with h | h
            · exact .inl ⟨h, hl⟩
            · refine .inr ⟨h, ?_⟩
              rcases hl with rfl | rfl
              · exact hone
              · exact htwo
          rw [if_pos hc, hun]
          obtain ⟨r, rfl⟩ := hr
          rw [unit_put2, ref_bytes_put2]
        · rw [if_neg (fun h => by rcases h with h | h; exact h38 h; exact hl h)]
          by_cases ho : st.mode = 1 ∧ ownL (60 :: 47 :: rawL 1) L = 1
          · rw [if_pos ho, if_pos (.inr ho)]
            obtain ⟨r, rfl⟩ := own_head hL ho.2
            rw [unit_put2, ref_bytes_put2]
          · rw [if_neg ho, if_neg (fun h => by rcases h with h | h; exact hl h.2; exact ho h)]
end Go.Proofs.YtndglhflbenloaaGreatDoor

/-
  The reference's end, Feed, Finish and Lex: their walks.
-/
namespace Go.Proofs.YtndglhflbenloaaGreatDoor
open Go.RowKit Go.Lib Own

theorem unit_put (st : LS) (b : List UInt8) (E : List Ev) (P : List UInt8) : putAll (E, P) (unitL2 st b) = (E, if st.eat = true ∧ b = [10] then P else P ++ b) := by
  unfold unitL2
  split
  · rfl
  · rfl
/-- what end leaves -/
def EndSaid (base b : Nat) (win : Int) (E : List Ev) (P2 : List UInt8) (w : World) (e : Ending) (w' : World) : Prop :=
  e = .returned (.tuple #[]) ∧ ∃ mode scan eat held, Lxg w' base b win mode scan eat held E P2 ∧ Below base w w'
set_option maxHeartbeats 4000000 in
set_option maxRecDepth 100000 in
theorem refEnd_any (base b win : Nat) (st : LS) (rb : ByteArray) (E : List Ev) (P : List UInt8) (w : World) (h : Lxg w base b win st.mode st.scan st.eat rb E P) (hs : rb.size ≤ 2000000) (hP : P.length ≤ 50000000) (hm : st.mode ≤ 10) (hT : RefTabs w) :
    Calls Tryz.prog 22 #[.pointer (some ⟨b, 0, none⟩)] w (EndSaid base b win E (putAll (E, P) (endRL st rb.data.toList)).2 w) := by
  obtain ⟨⟨c0, c1, c2, c3, c4⟩, hf⟩ := h.cells
  have hF0 : EndSaid base b win E P w (.returned (.tuple #[])) w := ⟨rfl, _, _, _, _, h, Below.refl _ _⟩
  have HL := hid h
  have hbs := h.size
  unfold endRL
  by_cases h1 : st.scan = 0
  · by_cases h2 : rb.data.toList = []
    · rw [if_pos (.inr (.inl h2))]
      have HF : Hid (EndSaid base b win E P w (.returned (.tuple #[])) w) := hF0
      show Calls _ _ _ _ (EndSaid base b win E P w)
      obtain rfl : rb = ⟨#[]⟩ := bytes_eq h2
      have q0 : ((st.scan : Int) != 0) = false := by rw [h1]; rfl
      clear h hF0 hT hf c0 c1 c3 h1 h2
      go_enter Tryz.func22, Tryz.ntmps22
      go_wp2
      go_end0
      exact HF.out
    · have hz : 0 < rb.size := by rw [size_eq]; exact List.length_pos_iff.2 h2
      have q0 : ((st.scan : Int) != 0) = false := by rw [h1]; rfl
      have qn := str_ne hz
      have qf := str_full hz
      by_cases h3 : 1 < st.mode
      · rw [if_pos (.inr (.inr h3))]
        have HF : Hid (EndSaid base b win E P w (.returned (.tuple #[])) w) := hF0
        show Calls _ _ _ _ (EndSaid base b win E P w)
        have q3 : (1 : Int) < (st.mode : Int) := by omega
        clear h hF0 hT hf c0 c3 h1 h2 h3
        go_enter Tryz.func22, Tryz.ntmps22
        go_wp2
        go_end0
        exact HF.out
      · rw [if_neg (fun e => by rcases e with e | e | e; exact e h1; exact h2 e; exact h3 e)]
        have q3 : ¬ (1 : Int) < (st.mode : Int) := by omega
        obtain ⟨x, r, hx⟩ : ∃ x r, rb.data.toList = x :: r := by
          cases hh : rb.data.toList with
          | nil => exact absurd hh h2
          | cons x r => exact ⟨x, r, rfl⟩
        obtain ⟨hp0, hx0⟩ : ∃ hp : 0 < rb.size, rb[0]'hp = x := byte_at (s := rb) (k := 0) (c := x) (r := r) (by rw [hx]; rfl)
        have hg : rb.data.toList.getD 0 0 = x := by rw [hx]; rfl
        rw [hg]
        have hun := refUnref_any rb false w (by omega) hT
        have hul := unr_len false _ rb.data.toList (Nat.le_refl _)
        obtain ⟨ub, hub⟩ : ∃ ub : ByteArray, (⟨(unr false rb.data.toList).toArray⟩ : ByteArray) = ub := ⟨_, rfl⟩
        have hubl : ub.data.toList = unr false rb.data.toList := by rw [← hub]
        have hubz : ub.size ≤ 8000000 := by rw [size_eq, hubl]; rw [← size_eq] at hul; omega
        rw [hub] at hun
        have hu := fun W hW => refUnit_any base b win st.mode st.scan st.eat rb E P ub W hW (by omega)
        have hFu : ∀ w' mo sc ea he, Lxg w' base b win mo sc ea he E (if st.eat = true ∧ ub.data.toList = [10] then P else P ++ ub.data.toList) → Below base w w' → EndSaid base b win E (putAll (E, P) (unitL2 st (unr false rb.data.toList))).2 w (.returned (.tuple #[])) w' := fun w' mo sc ea he a1 a2 => by
          rw [unit_put, ← hubl]
          exact ⟨rfl, _, _, _, _, a1, a2⟩
        by_cases h38 : x = 38
        · have q38 : ((x.toNat : Int) == 38) = true := by rw [h38]; rfl
          rw [if_pos (.inl h38)]
          have HF := hid hFu
          have HUN := hid hun
          have HU := hid hu
          generalize (putAll (E, P) (unitL2 st (unr false rb.data.toList))).2 = YY at HF ⊢
          clear h hF0 hT hf c0 c3 h1 h2 h3 hx hg h38 hun hu hFu hul hub hubl hubz
          go_enter Tryz.func22, Tryz.ntmps22
          go_wp2_with (first
            | (go_at_call 38; refine HUN.out.mono ?_; rintro e w1 ⟨rfl, b1⟩; have hL1 := HL.out.below b1)
            | (go_at_call 37; refine (HU.out _ (by exact hL1)).mono ?_; rintro e w2 ⟨rfl, hL2, b2⟩))
          go_end0
          exact HF.out _ _ _ _ _ hL2 ((b1.mono HL.out.size).trans b2)
        · have q38 : ((x.toNat : Int) == 38) = false := beq_ff h38 38 rfl
          by_cases hl : rb.data.toList = [60] ∨ rb.data.toList = [60, 47]
          · rw [if_pos (.inr hl)]
            have HF := hid hFu
            have HUN := hid hun
            have HU := hid hu
            generalize (putAll (E, P) (unitL2 st (unr false rb.data.toList))).2 = YY at HF ⊢
            rcases hl with hl | hl
            · have q60 := eq_str hl
              clear h hF0 hT hf c0 c3 h1 h2 h3 hx hg h38 hun hu hFu hul hub hubl hubz hl
              go_enter Tryz.func22, Tryz.ntmps22
              go_wp2_with (first
                | (go_at_call 38; refine HUN.out.mono ?_; rintro e w1 ⟨rfl, b1⟩; have hL1 := HL.out.below b1)
                | (go_at_call 37; refine (HU.out _ (by exact hL1)).mono ?_; rintro e w2 ⟨rfl, hL2, b2⟩))
              go_end0
              exact HF.out _ _ _ _ _ hL2 ((b1.mono HL.out.size).trans b2)
            · have q60 := ne_str (s := rb) (L := [60]) (by rw [hl]; decide)
              have q61 := eq_str hl
              clear h hF0 hT hf c0 c3 h1 h2 h3 hx hg h38 hun hu hFu hul hub hubl hubz hl
              go_enter Tryz.func22, Tryz.ntmps22
              go_wp2_with (first
                | (go_at_call 38; refine HUN.out.mono ?_; rintro e w1 ⟨rfl, b1⟩; have hL1 := HL.out.below b1)
                | (go_at_call 37; refine (HU.out _ (by exact hL1)).mono ?_; rintro e w2 ⟨rfl, hL2, b2⟩))
              go_end0
              exact HF.out _ _ _ _ _ hL2 ((b1.mono HL.out.size).trans b2)
          · rw [if_neg (fun e => e.elim h38 hl)]
            have q60 := ne_str (s := rb) (L := [60]) (fun e => hl (.inl e))
            have q61 := ne_str (s := rb) (L := [60, 47]) (fun e => hl (.inr e))
            by_cases hm1 : st.mode = 1
            · have qm : ((st.mode : Int) == 1) = true := by rw [hm1]; rfl
              have hcl := closing_any rb ⟨#[116, 101, 120, 116, 97, 114, 101, 97]⟩ w (by omega) (by decide)
              rw [show (60 :: 47 :: (⟨#[116, 101, 120, 116, 97, 114, 101, 97]⟩ : ByteArray).data.toList) = 60 :: 47 :: rawL 1 from rfl] at hcl
              obtain ⟨o, ho⟩ : ∃ o, ownL (60 :: 47 :: rawL 1) rb.data.toList = o := ⟨_, rfl⟩
              rw [ho] at hcl ⊢
              have HC := hid hcl
              by_cases ho1 : o = 1
              · rw [if_pos ⟨hm1, ho1⟩]
                have qo : ((o : Int) == 1) = true := by rw [ho1]; rfl
                have hu2 := fun W hW => refUnit_any base b win st.mode st.scan st.eat rb E P rb W hW (by omega)
                have hF2 : ∀ w' mo sc ea he, Lxg w' base b win mo sc ea he E (if st.eat = true ∧ rb.data.toList = [10] then P else P ++ rb.data.toList) → Below base w w' → EndSaid base b win E (putAll (E, P) (unitL2 st rb.data.toList)).2 w (.returned (.tuple #[])) w' := fun w' mo sc ea he a1 a2 => by
                  rw [unit_put]
                  exact ⟨rfl, _, _, _, _, a1, a2⟩
                have HF := hid hF2
                have HU := hid hu2
                generalize (putAll (E, P) (unitL2 st rb.data.toList)).2 = YY at HF ⊢
                clear h hF0 hT hf c0 c3 h1 h2 h3 hx hg h38 hun hu hFu hul hub hubl hubz hl hcl ho ho1 hu2 hF2 hm1
                go_enter Tryz.func22, Tryz.ntmps22
                go_wp2_with (first
                  | (go_at_call 39; refine HC.out.mono ?_; rintro e w1 ⟨rfl, b1⟩; have hL1 := HL.out.below b1; have k1 := hL1.cells; obtain ⟨⟨d0, d1, d2, d3, d4⟩, df⟩ := k1)
                  | (go_at_call 37; refine (HU.out _ (by exact hL1)).mono ?_; rintro e w2 ⟨rfl, hL2, b2⟩))
                go_end0
                exact HF.out _ _ _ _ _ hL2 ((b1.mono HL.out.size).trans b2)
              · rw [if_neg (fun e => ho1 e.2)]
                have qo : ((o : Int) == 1) = false := beq_eq_false_iff_ne.2 (by omega)
                show Calls _ _ _ _ (EndSaid base b win E P w)
                clear hF0 hT hf c0 c3 h1 h2 h3 hx hg h38 hun hu hFu hul hub hubl hubz hl hcl ho ho1 hm1 h
                go_enter Tryz.func22, Tryz.ntmps22
                go_wp2_with (first
                  | (go_at_call 39; refine HC.out.mono ?_; rintro e w1 ⟨rfl, b1⟩; have hL1 := HL.out.below b1))
                go_end0
                exact ⟨rfl, _, _, _, _, hL1, b1.mono HL.out.size⟩
            · have qm : ((st.mode : Int) == 1) = false := beq_eq_false_iff_ne.2 (by omega)
              rw [if_neg (fun e => hm1 e.1)]
              have HF : Hid (EndSaid base b win E P w (.returned (.tuple #[])) w) := hF0
              show Calls _ _ _ _ (EndSaid base b win E P w)
              clear h hF0 hT hf c0 c3 h1 h2 h3 hx hg h38 hun hu hFu hul hub hubl hubz hl hm1
              go_enter Tryz.func22, Tryz.ntmps22
              go_wp2
              go_end0
              exact HF.out
  · rw [if_pos (.inl h1)]
    have HF : Hid (EndSaid base b win E P w (.returned (.tuple #[])) w) := hF0
    show Calls _ _ _ _ (EndSaid base b win E P w)
    have q0 : ((st.scan : Int) != 0) = true := bne_iff_ne.2 (by omega)
    clear h hF0 hT hf c0 c1 c3 h1
    go_enter Tryz.func22, Tryz.ntmps22
    go_wp2
    go_end0
    exact HF.out
end Go.Proofs.YtndglhflbenloaaGreatDoor

/-
  The reader's end: its walk.
-/
namespace Go.Proofs.YtndglhflbenloaaGreatDoor
open Go.RowKit Go.Lib Own

theorem below_drew2 {base : Nat} {w w' : World} (n : Nat) (h : Below base (w.drewN n) w') : Below base w w' := (below_drewN (Below.refl base w) n).trans h
/-- the bytes from k on, each a unit -/
def BytesAt (L : List UInt8) (k : Nat) (st : LS) (E : List Ev) (P PF : List UInt8) : Prop := putAll (E, P) (bytesL st (L.drop k)) = (E, PF)
theorem BytesAt.next {L : List UInt8} {k : Nat} {st : LS} {E : List Ev} {P PF : List UInt8} (h : BytesAt L k st E P PF) {x : UInt8} (hx : L[k]? = some x) : BytesAt L (k + 1) ⟨st.mode, st.scan, false⟩ E (if st.eat = true ∧ [x] = [10] then P else P ++ [x]) PF := by
  obtain ⟨h1, h2⟩ := List.getElem?_eq_some_iff.1 hx
  unfold BytesAt at h ⊢
  rw [List.drop_eq_getElem_cons h1, h2, bytesL, putAll_app, put_unit] at h
  exact h
theorem BytesAt.over {L : List UInt8} {k : Nat} {st : LS} {E : List Ev} {P PF : List UInt8} (h : BytesAt L k st E P PF) (hk : L.length ≤ k) : P = PF := by
  unfold BytesAt at h
  rw [List.drop_of_length_le hk, bytesL] at h
  have h3 : (E, P) = (E, PF) := h
  simpa using h3
theorem bytes_put (E : List Ev) : ∀ (L : List UInt8) (st : LS) (P : List UInt8), ∃ PF, putAll (E, P) (bytesL st L) = (E, PF)
  | [], st, P => ⟨P, rfl⟩
  | c :: r, st, P => by
    rw [bytesL, putAll_app, put_unit]
    exact bytes_put E r _ _

set_option maxHeartbeats 8000000 in
set_option maxRecDepth 100000 in
theorem end_any (base b win : Nat) (data : ByteArray) (pos : Nat) (st : LS) (evs : List Ev) (pend : List UInt8) (m : Int) (w : World) (h : Rdr w base b win data pos st.mode st.scan st.eat evs pend) (hd : data.size ≤ 4000000) (hp : pos ≤ data.size) (hs : st.scan ≤ 10) (hm : st.mode ≤ 10) (hpl : pend.length ≤ 17000000) (hT : LexTabs base w m) :
    Calls Tryz.prog 21 #[.pointer (some ⟨b, 0, none⟩)] w fun e w' => e = .returned (.tuple #[]) ∧
      (∃ (pos' mode' scan' : Int) (eat' : Bool) (PF : List UInt8), Rdr w' base b win data pos' mode' scan' eat' evs PF ∧ putAll (evs, pend) (endL st (data.data.toList.drop pos)) = (evs, PF)) ∧ Below base w w' := by
  obtain ⟨mode, scan, eat⟩ := st
  simp only at h hs hm
  have hll : (data.data.toList.drop pos).length = data.size - pos := by rw [List.length_drop, ← size_eq]
  obtain ⟨⟨c0, c1, c2, c3, c4, c5⟩, _, _⟩ := h.cells
  have HH := hid h
  have HT := hid hT
  by_cases hp0 : pos = data.size
  · have hnil : data.data.toList.drop pos = [] := List.drop_of_length_le (by rw [← size_eq]; omega)
    have hE : endL ⟨mode, scan, eat⟩ (data.data.toList.drop pos) = [] := by rw [hnil]; rfl
    rw [hE]
    have q1 : ((pos : Int) == (data.size : Int)) = true := beq_iff_eq.2 (by omega)
    clear hE hnil hll h hT hp0
    go_enter Tryz.func21, Tryz.ntmps21
    go_wp2_with fail
    go_quiet (fail)
    go_wp2
    refine bodyPost_ret (v := .tuple #[]) ?_ rfl ⟨rfl, ⟨_, _, _, _, pend, HH.out.drewN _, rfl⟩, below_drewN (Below.refl base w) _⟩
    simp [results, Tryz.results21]
  · have hne : data.data.toList.drop pos ≠ [] := fun e => by rw [e] at hll; simp at hll; omega
    have q1 : ((pos : Int) == (data.size : Int)) = false := beq_eq_false_iff_ne.2 (by omega)
    have hlt : pos < data.size := by omega
    by_cases hsc : scan = 0
    · subst hsc
      have q2 : (((0 : Nat) : Int) != 0) = false := rfl
      obtain ⟨t, ht⟩ : ∃ t : ByteArray, data.extract pos data.size = t := ⟨_, rfl⟩
      have htl : t.data.toList = data.data.toList.drop pos := by rw [← ht]; exact extract_to_end data pos
      have htz : t.size = data.size - pos := by rw [← ht, ByteArray.size_extract]; omega
      have h0s : 0 < t.size := by omega
      obtain ⟨x, hx⟩ : ∃ x, t[0]'h0s = x := ⟨_, rfl⟩
      have hlx := getElem_list h0s hx
      have hg0 : (data.data.toList.drop pos).getD 0 0 = x := by rw [← htl, List.getD_eq_getElem?_getD, hlx]; rfl
      have hTL : t.toList = t.data.toList := Lib.toList_data t
      by_cases h38 : x = 38
      · have hE : endL ⟨mode, 0, eat⟩ (data.data.toList.drop pos) = unitL2 ⟨mode, 0, eat⟩ (unr false (data.data.toList.drop pos)) := by
          unfold endL
          rw [if_neg (fun h => h.elim hne (fun h => h rfl)), hg0, if_pos h38]
        rw [hE, put_unit]
        have r1 : ((x.toNat : Int) == 38) = true := by rw [h38]; rfl
        have hun := fun W hTW hmW => unref_any t false m W (by omega) hTW hmW
        rw [htl] at hun
        obtain ⟨U, hU⟩ : ∃ U, unr false (data.data.toList.drop pos) = U := ⟨_, rfl⟩
        have hul : U.length ≤ 4 * (data.data.toList.drop pos).length := by rw [← hU]; exact unr_len false _ _ (Nat.le_refl _)
        rw [hU] at hun ⊢
        obtain ⟨ub, hub⟩ : ∃ ub : ByteArray, (⟨U.toArray⟩ : ByteArray) = ub := ⟨_, rfl⟩
        have hubl : ub.data.toList = U := by rw [← hub]
        have hubz : ub.size ≤ 40000000 := by rw [size_eq, hubl]; omega
        rw [hub] at hun
        have hunit := fun W hW => unit_any base b win data pos mode 0 eat evs pend ub W hW (by omega)
        rw [hubl] at hunit
        simp only
        generalize (if eat = true ∧ U = [10] then pend else pend ++ U) = P at hunit ⊢
        have HU := hid hun
        have HN := hid hunit
        clear hun hunit hE hU hul hub hubl hubz hll h hT hne hTL hg0 hlx htl h38
        go_enter Tryz.func21, Tryz.ntmps21
        go_wp2_with fail
        go_quiet (fail)
        go_wp2_with fail
        go_quiet (fail)
        go_wp2_with (first | (go_at_call 34; refine (HU.out _ (by exact (HT.out.drewN _).ch) (by exact HT.out.max)).mono ?_; rintro e w1 ⟨rfl, b1⟩) | (go_at_call 33; refine (HN.out _ (by exact (HH.out.drewN _).below b1)).mono ?_; rintro e w2 ⟨rfl, r2, b2⟩))
        go_end0
        exact ⟨rfl, ⟨_, _, _, _, P, r2, rfl⟩, below_drew2 _ ((b1.mono HH.out.size).trans b2)⟩
      · have r1 : ((x.toNat : Int) == 38) = false := beq_eq_false_iff_ne.2 (fun e => h38 (UInt8.toNat_inj.1 (by simp; omega)))
        by_cases hm0 : mode = 0
        · subst hm0
          have q3 : (((0 : Nat) : Int) == 0) = true := rfl
          have q4 : (((0 : Nat) : Int) == 1) = false := rfl
          by_cases hin : data.data.toList.drop pos = [60] ∨ data.data.toList.drop pos = [60, 47]
          · have hE : endL ⟨0, 0, eat⟩ (data.data.toList.drop pos) = bytesL ⟨0, 0, eat⟩ (data.data.toList.drop pos) := by
              unfold endL
              rw [if_neg (fun h => h.elim hne (fun h => h rfl)), hg0, if_neg h38, if_pos (.inl ⟨rfl, hin⟩)]
            obtain ⟨PF, hPF⟩ := bytes_put evs (data.data.toList.drop pos) ⟨0, 0, eat⟩ pend
            have HBY : Hid (BytesAt data.data.toList pos ⟨0, 0, eat⟩ evs pend PF) := hid hPF
            have HBF : Hid (putAll (evs, pend) (endL ⟨0, 0, eat⟩ (data.data.toList.drop pos)) = (evs, PF)) := hid (by rw [hE]; exact hPF)
            have hor : (t.toList == [60]) = true ∨ (t.toList == [60]) = false ∧ (t.toList == [60, 47]) = true := by
              rw [hTL, htl]
              rcases hin with e | e <;> rw [e] <;> decide
            clear hE hPF hin hTL hg0 hlx htl hne hll h hT
            rcases hor with q5 | ⟨q5, q6⟩
            all_goals
              go_enter Tryz.func21, Tryz.ntmps21
              go_wp2_with fail
              go_quiet (fail)
              go_wp2_with fail
              go_quiet (fail)
              go_wp2_with fail
              go_loopw [] (fun wr => ∃ (k : Nat) (eat1 : Bool) (P : List UInt8), Hid (Rdr wr base b win data k ((0 : Nat) : Int) 0 eat1 evs P ∧ Below base w wr ∧ BytesAt data.data.toList k ⟨0, 0, eat1⟩ evs P PF) ∧ pos ≤ k ∧ k ≤ data.size ∧ P.length ≤ pend.length + (k - pos)) (fun wr => data.size - posOf wr b)
              case atStart => exact ⟨pos, eat, pend, hid ⟨HH.out.drewN _, below_drewN (Below.refl base w) _, HBY.out⟩, Nat.le_refl _, hp, by omega⟩
              case round =>
                obtain ⟨k, eat1, P, HX, hk1, hk2, hPl⟩ := hrel
                obtain ⟨⟨d0, d1, d2, d3, d4, d5⟩, _, _⟩ := HX.out.1.cells
                by_cases hk : k < data.size
                · obtain ⟨y, hy⟩ : ∃ y, data[k]'hk = y := ⟨_, rfl⟩
                  have hly := getElem_list hk hy
                  have hrb := fun W hW => readByte_any base b win data k ((0 : Nat) : Int) 0 eat1 evs P W hW (by omega) (by omega) hk y hly
                  have hnx := HX.out.2.2.next hly
                  have HRB := hid hrb
                  have HNX := hid hnx
                  clear hrb hnx hy hly
                  go_wp2_with fail
                  go_quiet (fail)
                  go_wp2_with (go_at_call 36; refine (HRB.out _ (by exact HX.out.1.drewN nq)).mono ?_; rintro e w3 ⟨rfl, h3, b3⟩)
                  have hp1 := pos_of HX.out.1
                  have hp2 := pos_of (k := k + 1) h3
                  have hl3 : (if eat1 = true ∧ [y] = [10] then P else P ++ [y]).length ≤ P.length + 1 := by split <;> simp
                  have HX3 := hid (And.intro h3 (And.intro (HX.out.2.1.trans (below_drew2 _ b3)) HNX.out))
                  clear h3 b3
                  go_roundw
                  case rel =>
                    first
                      | exact ⟨k + 1, false, _, HX3, by omega, by omega, by omega⟩
                      | ((repeat apply Exists.intro); exact ⟨⟨k + 1, false, _, HX3, by omega, by omega, by omega⟩, rfl⟩)
                  case measure => omega
                · have hPP := HX.out.2.2.over (by rw [← size_eq]; omega)
                  subst hPP
                  go_wp2_with fail
                  go_quiet (fail)
                  go_wp2
                  go_end0
                  exact ⟨rfl, ⟨_, _, _, _, _, HX.out.1.drewN _, HBF.out⟩, HX.out.2.1.trans (below_drewN (Below.refl base wr) _)⟩
          · have hE : endL ⟨0, 0, eat⟩ (data.data.toList.drop pos) = [] := by
              unfold endL
              rw [if_neg (fun h => h.elim hne (fun h => h rfl)), hg0, if_neg h38, if_neg]
              rintro (h | h)
              · exact hin h.2
              · exact absurd h.1 (by simp)
            rw [hE]
            have q5 : (t.toList == [60]) = false := by rw [hTL, htl]; exact beq_eq_false_iff_ne.2 (fun e => hin (.inl e))
            have q6 : (t.toList == [60, 47]) = false := by rw [hTL, htl]; exact beq_eq_false_iff_ne.2 (fun e => hin (.inr e))
            clear hE hin hTL hg0 hlx htl hne hll h hT
            go_enter Tryz.func21, Tryz.ntmps21
            go_wp2_with fail
            go_quiet (fail)
            go_wp2_with fail
            go_quiet (fail)
            go_wp2
            go_end0
            exact ⟨rfl, ⟨_, _, _, _, pend, HH.out.drewN _, rfl⟩, below_drewN (Below.refl base w) _⟩
        · have q3 : ((mode : Int) == 0) = false := beq_eq_false_iff_ne.2 (by omega)
          by_cases hm1 : mode = 1
          · subst hm1
            have q4 : (((1 : Nat) : Int) == 1) = true := rfl
            have hown := fun W hW => ownEnd_any b win data pos 1 0 eat W hW (by omega) (by omega) (by omega) hp
            by_cases hO : ownL (60 :: 47 :: rawL 1) (data.data.toList.drop pos) = 1
            · have hE : endL ⟨1, 0, eat⟩ (data.data.toList.drop pos) = bytesL ⟨1, 0, eat⟩ (data.data.toList.drop pos) := by
                unfold endL
                rw [if_neg (fun h => h.elim hne (fun h => h rfl)), hg0, if_neg h38, if_pos (.inr ⟨rfl, hO⟩)]
              obtain ⟨PF, hPF⟩ := bytes_put evs (data.data.toList.drop pos) ⟨1, 0, eat⟩ pend
              have HBY : Hid (BytesAt data.data.toList pos ⟨1, 0, eat⟩ evs pend PF) := hid hPF
              have HBF : Hid (putAll (evs, pend) (endL ⟨1, 0, eat⟩ (data.data.toList.drop pos)) = (evs, PF)) := hid (by rw [hE]; exact hPF)
              rw [hO] at hown
              have HOW := hid hown
              clear hE hPF hTL hg0 hlx htl hne hll h hT hown hO hm0
              go_enter Tryz.func21, Tryz.ntmps21
              go_wp2_with fail
              go_quiet (fail)
              go_wp2_with fail
              go_quiet (fail)
              go_wp2_with (go_at_call 35; refine (HOW.out _ (by exact (HH.out.drewN _).cells.1)).mono ?_; rintro e w3 ⟨rfl, nd, rfl⟩)
              go_loopw [] (fun wr => ∃ (k : Nat) (eat1 : Bool) (P : List UInt8), Hid (Rdr wr base b win data k ((1 : Nat) : Int) 0 eat1 evs P ∧ Below base w wr ∧ BytesAt data.data.toList k ⟨1, 0, eat1⟩ evs P PF) ∧ pos ≤ k ∧ k ≤ data.size ∧ P.length ≤ pend.length + (k - pos)) (fun wr => data.size - posOf wr b)
              case atStart => exact ⟨pos, eat, pend, hid ⟨HH.out.drewN _, below_drewN (Below.refl base w) _, HBY.out⟩, Nat.le_refl _, hp, by omega⟩
              case round =>
                obtain ⟨k, eat1, P, HX, hk1, hk2, hPl⟩ := hrel
                obtain ⟨⟨d0, d1, d2, d3, d4, d5⟩, _, _⟩ := HX.out.1.cells
                by_cases hk : k < data.size
                · obtain ⟨y, hy⟩ : ∃ y, data[k]'hk = y := ⟨_, rfl⟩
                  have hly := getElem_list hk hy
                  have hrb := fun W hW => readByte_any base b win data k ((1 : Nat) : Int) 0 eat1 evs P W hW (by omega) (by omega) hk y hly
                  have hnx := HX.out.2.2.next hly
                  have HRB := hid hrb
                  have HNX := hid hnx
                  clear hrb hnx hy hly
                  go_wp2_with fail
                  go_quiet (fail)
                  go_wp2_with (go_at_call 36; refine (HRB.out _ (by exact HX.out.1.drewN nq)).mono ?_; rintro e w3 ⟨rfl, h3, b3⟩)
                  have hp1 := pos_of HX.out.1
                  have hp2 := pos_of (k := k + 1) h3
                  have hl3 : (if eat1 = true ∧ [y] = [10] then P else P ++ [y]).length ≤ P.length + 1 := by split <;> simp
                  have HX3 := hid (And.intro h3 (And.intro (HX.out.2.1.trans (below_drew2 _ b3)) HNX.out))
                  clear h3 b3
                  go_roundw
                  case rel =>
                    first
                      | exact ⟨k + 1, false, _, HX3, by omega, by omega, by omega⟩
                      | ((repeat apply Exists.intro); exact ⟨⟨k + 1, false, _, HX3, by omega, by omega, by omega⟩, rfl⟩)
                  case measure => omega
                · have hPP := HX.out.2.2.over (by rw [← size_eq]; omega)
                  subst hPP
                  go_wp2_with fail
                  go_quiet (fail)
                  go_wp2
                  go_end0
                  exact ⟨rfl, ⟨_, _, _, _, _, HX.out.1.drewN _, HBF.out⟩, HX.out.2.1.trans (below_drewN (Below.refl base wr) _)⟩
            · have hE : endL ⟨1, 0, eat⟩ (data.data.toList.drop pos) = [] := by
                unfold endL
                rw [if_neg (fun h => h.elim hne (fun h => h rfl)), hg0, if_neg h38, if_neg]
                rintro (h | h)
                · exact absurd h.1 (by simp)
                · exact hO h.2
              rw [hE]
              generalize ownL (60 :: 47 :: rawL 1) (data.data.toList.drop pos) = O at hown hO
              have q5 : ((O : Int) == 1) = false := beq_eq_false_iff_ne.2 (by omega)
              have HOW := hid hown
              clear hE hTL hg0 hlx htl hne hll h hT hown hO hm0
              go_enter Tryz.func21, Tryz.ntmps21
              go_wp2_with fail
              go_quiet (fail)
              go_wp2_with fail
              go_quiet (fail)
              go_wp2_with (go_at_call 35; refine (HOW.out _ (by exact (HH.out.drewN _).cells.1)).mono ?_; rintro e w3 ⟨rfl, nd, rfl⟩)
              go_end0
              exact ⟨rfl, ⟨_, _, _, _, pend, HH.out.drewN _, rfl⟩, below_drewN (Below.refl base w) _⟩
          · have q4 : ((mode : Int) == 1) = false := beq_eq_false_iff_ne.2 (by omega)
            have hE : endL ⟨mode, 0, eat⟩ (data.data.toList.drop pos) = [] := by
              unfold endL
              rw [if_neg (fun h => h.elim hne (fun h => h rfl)), hg0, if_neg h38, if_neg]
              rintro (h | h)
              · exact hm0 h.1
              · exact hm1 h.1
            rw [hE]
            clear hE hTL hg0 hlx htl hne hll h hT hm0 hm1
            go_enter Tryz.func21, Tryz.ntmps21
            go_wp2_with fail
            go_quiet (fail)
            go_wp2_with fail
            go_quiet (fail)
            go_wp2
            go_end0
            exact ⟨rfl, ⟨_, _, _, _, pend, HH.out.drewN _, rfl⟩, below_drewN (Below.refl base w) _⟩
    · have hE : endL ⟨mode, scan, eat⟩ (data.data.toList.drop pos) = [] := by unfold endL; rw [if_pos (.inr hsc)]
      rw [hE]
      have q2 : ((scan : Int) != 0) = true := by rw [bne, beq_eq_false_iff_ne.2 (by omega)]; rfl
      clear hE hne hll h hT hp0 hlt hsc
      go_enter Tryz.func21, Tryz.ntmps21
      go_wp2_with fail
      go_quiet (fail)
      go_wp2
      refine bodyPost_ret (v := .tuple #[]) ?_ rfl ⟨rfl, ⟨_, _, _, _, pend, HH.out.drewN _, rfl⟩, below_drewN (Below.refl base w) _⟩
      simp [results, Tryz.results21]
end Go.Proofs.YtndglhflbenloaaGreatDoor

/-
  The reader's making and its state: their walks.
-/
namespace Go.Proofs.YtndglhflbenloaaGreatDoor
open Go.RowKit Go.Lib Own

set_option maxHeartbeats 2000000 in
theorem allowed_any (win mode scan : Nat) (eat : Bool) (held : ByteArray) (w : World) (h1 : 32 ≤ win) (h2 : win ≤ 4096) (h3 : mode ≤ 10) (h4 : scan ≤ 10) :
    Calls Tryz.prog 11 #[.int .i64 win, .agg #[.int .i64 mode, .int .i64 scan, .bool eat, .string held]] w fun e w' => e = .returned (.bool true) ∧ Below w.heap.size w w' := by
  have q1 : (32 : Int) ≤ (win : Int) := by omega
  have q2 : (win : Int) ≤ 4096 := by omega
  have q3 : (0 : Int) ≤ (mode : Int) := by omega
  have q4 : (mode : Int) ≤ 10 := by omega
  have q5 : (0 : Int) ≤ (scan : Int) := by omega
  have q6 : (scan : Int) ≤ 10 := by omega
  go_enter Tryz.func11, Tryz.ntmps11
  go_wp2
  go_ret
  exact ⟨rfl, (Below.refl _ _).alloc (Nat.le_refl _) _⟩

set_option maxHeartbeats 2000000 in
theorem new_any (win : Int) (mode scan : Int) (eat : Bool) (held text data : ByteArray) (hda : held ++ text = data) (hlen : held.size + text.size ≤ 10000000) (w : World) :
    Calls Tryz.prog 12 #[.int .i64 win, .agg #[.int .i64 mode, .int .i64 scan, .bool eat, .string held], .string text] w fun e w' => ∃ b, e = .returned (.pointer (some ⟨b, 0, none⟩)) ∧
      Rdr w' w.heap.size b win data 0 mode scan eat [] [] ∧ Below w.heap.size w w' := by
  have hno : ¬ 9223372036854775807 < held.size + text.size := by omega
  go_enter Tryz.func12, Tryz.ntmps12
  go_wp2
  go_ret
  have hb : Below w.heap.size w ((w.alloc (.cells #[.int .i64 mode, .int .i64 scan, .bool eat, .string held] 23)).alloc (.cells (rdC win data 0 mode scan eat (.slice none 0 0) (.pointer none) (.slice none 0 0)) 43)) :=
    ((Below.refl w.heap.size w).alloc (Nat.le_refl _) _).alloc (by simp) _
  refine ⟨w.heap.size + 1, ?_, ⟨.slice none 0 0, .pointer none, .slice none 0 0, ⟨.slice none 0 0, .pointer none, .slice none 0 0, [], rfl, ⟨?_, by omega, rfl, rfl, .inl rfl, World.ownsRowF_nil _ _ _ _, by simp [Value.ownBlock]⟩, World.ownsRow_nil _ _ _ _, trivial, trivial⟩⟩, hb⟩
  · simp
  · have := heap_alloc_new (w.alloc (.cells #[.int .i64 mode, .int .i64 scan, .bool eat, .string held] 23)) (.cells (rdC win data 0 mode scan eat (.slice none 0 0) (.pointer none) (.slice none 0 0)) 43)
    show (World.alloc _ (.cells (rdC win data 0 mode scan eat (.slice none 0 0) (.pointer none) (.slice none 0 0)) _)).heap[_]? = _
    simpa using this

theorem Rdr.alloc {W : World} {base b : Nat} {win : Int} {data : ByteArray} {pos mode scan : Int} {eat : Bool} {evs : List Ev} {pend : List UInt8} (h : Rdr W base b win data pos mode scan eat evs pend) (X : Obj) : Rdr (W.alloc X) base b win data pos mode scan eat evs pend := by
  obtain ⟨ev, p, v, hS⟩ := h.it
  exact ⟨ev, p, v, hS.alloc X⟩

theorem st4 {B : Nat} {w w1 : World} (h : Below B w w1) {r : Nat} (hr : B ≤ r) (v0 v1 v2 v3 : Value) : Below B w ((((w1.drew.setCell ⟨r, 0, none⟩ v0).setCell ⟨r, 1, none⟩ v1).setCell ⟨r, 2, none⟩ v2).setCell ⟨r, 3, none⟩ v3) := by
  have s0 : Below B w w1.drew := below_drewN h 1
  have s1 : Below B w (w1.drew.setCell ⟨r, 0, none⟩ v0) := s0.setCell hr _
  have s2 : Below B w ((w1.drew.setCell ⟨r, 0, none⟩ v0).setCell ⟨r, 1, none⟩ v1) := s1.setCell hr _
  have s3 : Below B w (((w1.drew.setCell ⟨r, 0, none⟩ v0).setCell ⟨r, 1, none⟩ v1).setCell ⟨r, 2, none⟩ v2) := s2.setCell hr _
  exact s3.setCell hr _

set_option maxHeartbeats 4000000 in
set_option maxRecDepth 10000 in
theorem state_any (base b : Nat) (win : Int) (data : ByteArray) (pos : Nat) (mode scan : Int) (eat : Bool) (evs : List Ev) (pend : List UInt8) (w : World) (h : Rdr w base b win data pos mode scan eat evs pend) (hd : data.size ≤ 10000000) (hp : pos ≤ data.size) :
    Calls Tryz.prog 14 #[.pointer (some ⟨b, 0, none⟩)] w fun e w' => e = .returned (.agg #[.int .i64 mode, .int .i64 scan, .bool eat, .string (data.extract pos data.size)]) ∧
      Rdr w' base b win data pos mode scan eat evs pend ∧ Below base w w' := by
  obtain ⟨⟨c0, c1, c2, c3, c4, c5⟩, hf, hlo⟩ := h.cells
  have hbs : b < w.heap.size := cell_block c0
  obtain ⟨t, ht⟩ : ∃ t : ByteArray, data.extract pos data.size = t := ⟨_, rfl⟩
  have htz : t.size ≤ 10000000 := by rw [← ht, ByteArray.size_extract]; omega
  have hcl := fun W => clone_any t W (by omega)
  have HC := hid hcl
  have HR := hid h
  rw [ht]
  clear hcl h hf
  go_enter Tryz.func14, Tryz.ntmps14
  go_upto_region 1 with fail
  go_cut [3] from 4 to 13 (fun hv wc => hv = .string t ∧ Hid (Rdr wc base b win data pos mode scan eat evs pend ∧ Below w.heap.size w wc ∧ wc.heap[w.heap.size]? = some (.cells #[.int .i64 0, .int .i64 0, .bool false, .string ⟨#[]⟩] 23 (0, 0))))
  case first =>
    go_region_law (go_simp; go_at_call 24; refine (HC.out _).mono ?_; rintro e w1 ⟨rfl, b1⟩)
    all_goals
      have hr1 := (HR.out.alloc (.cells #[.int .i64 0, .int .i64 0, .bool false, .string ⟨#[]⟩] 23)).drew.below b1
      have hres : w1.heap[w.heap.size]? = some (.cells #[.int .i64 0, .int .i64 0, .bool false, .string ⟨#[]⟩] 23 (0, 0)) := (b1.block w.heap.size (by show w.heap.size < _; simp [World.drew])).trans (heap_alloc_new w _)
      have hb1 : Below w.heap.size w w1 := ((Below.refl w.heap.size w).alloc (Nat.le_refl _) (.cells #[.int .i64 0, .int .i64 0, .bool false, .string ⟨#[]⟩] 23)).trans (Below.mono (B := (w.alloc (.cells #[.int .i64 0, .int .i64 0, .bool false, .string ⟨#[]⟩] 23)).heap.size) ⟨b1.os, b1.tape, b1.output, b1.size, b1.block⟩ (by simp))
      have HX := hid (And.intro hr1 (And.intro hb1 hres))
      clear hr1 hres hb1 b1
      go_wp2_with fail
      go_meet
      exact ⟨rfl, HX⟩
  case rest =>
    obtain ⟨rfl, HX⟩ := hcut
    obtain ⟨hr1, hb1, hres⟩ := HX.out
    obtain ⟨⟨d0, d1, d2, d3, d4, d5⟩, _, _⟩ := hr1.cells
    have r0 := cell_at hres (j := 0) rfl
    have r1 := cell_at hres (j := 1) rfl
    have r2 := cell_at hres (j := 2) rfl
    have r3 := cell_at hres (j := 3) rfl
    have rf0 := free_at hres 0
    have rf1 := free_at hres 1
    have rf2 := free_at hres 2
    have rf3 := free_at hres 3
    have HFI := hid (st4 hb1 (Nat.le_refl _) (.int .i64 mode) (.int .i64 scan) (.bool eat) (.string t))
    clear hr1 hb1 hres c0 c1 c2 c3 c4 c5
    go_upto_region 2 with fail
    go_cut [] from 14 to 27 (fun wc2 => Hid (Below w.heap.size w wc2) ∧ wc2.cell? ⟨w.heap.size, 0, none⟩ = some (.int .i64 mode) ∧ wc2.cell? ⟨w.heap.size, 1, none⟩ = some (.int .i64 scan) ∧ wc2.cell? ⟨w.heap.size, 2, none⟩ = some (.bool eat) ∧ wc2.cell? ⟨w.heap.size, 3, none⟩ = some (.string t))
    case first =>
      go_region
      all_goals
        go_wp2_with fail
        go_meet
        refine ⟨HFI, ?_, ?_, ?_, ?_⟩
        all_goals simp [go_sem, r0, r1, r2, r3]
    case rest =>
      obtain ⟨HB, e0, e1, e2, e3⟩ := hcut
      go_wp2_with fail
      refine bodyPost_ret (v := .agg #[.int .i64 mode, .int .i64 scan, .bool eat, .string t]) ?_ rfl ⟨rfl, HR.out.below HB.out, HB.out.mono HR.out.size⟩
      simp [results, Tryz.results14, go_sem, e0, e1, e2, e3]
end Go.Proofs.YtndglhflbenloaaGreatDoor

/-
  lexer.Feed, Finish, Lex: their walks.
-/
namespace Go.Proofs.YtndglhflbenloaaGreatDoor
open Go.RowKit Go.Lib Own

theorem LexTabs.up {base base2 : Nat} {w : World} {m : Int} (h : LexTabs base w m) (hb : base ≤ base2) : LexTabs base2 w m :=
  ⟨h.tag, h.ch, h.max, Nat.lt_of_lt_of_le h.l1 hb, Nat.lt_of_lt_of_le h.l2 hb, Nat.lt_of_lt_of_le h.l3 hb, Nat.lt_of_lt_of_le h.l4 hb⟩
theorem evs_low {W : World} {B base : Nat} (hb : base ≤ B) : ∀ (xs : List Value) (l : List Ev), EvsAt W B xs l → EvsAt W base xs l
  | [], [], _ => trivial
  | k :: n :: a :: t :: r, e :: l, ⟨h1, h2⟩ => by
    refine ⟨?_, evs_low hb r l h2⟩
    cases e with
    | text b => exact h1
    | start m at_ => exact ⟨h1.1, h1.2.1, row_low h1.2.2.1 hb, h1.2.2.2⟩
    | stop m => exact h1
  | [], _ :: _, h => h.elim
  | [_], _, h => by cases ‹List Ev› <;> exact h.elim
  | [_, _], _, h => by cases ‹List Ev› <;> exact h.elim
  | [_, _, _], _, h => by cases ‹List Ev› <;> exact h.elim
  | _ :: _ :: _ :: _ :: _, [], h => h.elim
theorem rest_str {win : Nat} (hW : 32 ≤ win) (st : LS) (h0 : st.scan ≤ 10) (data : ByteArray) : (data.extract (data.size - (runL win st data.data.toList).2.1.length) data.size) = ⟨(runL win st data.data.toList).2.1.toArray⟩ := by
  obtain ⟨h1, h2⟩ := run_rest hW st data.data.toList h0
  have h3 : (data.extract (data.size - (runL win st data.data.toList).2.1.length) data.size).data.toList = (runL win st data.data.toList).2.1 := by
    rw [extract_to_end]
    conv => rhs; rw [h2]
    rw [size_eq]
  show (⟨(data.extract (data.size - (runL win st data.data.toList).2.1.length) data.size).data.toList.toArray⟩ : ByteArray) = _
  rw [h3]
/-- the four stores into a state's block -/
theorem four_other (W : World) (r : Nat) (v0 v1 v2 v3 : Value) (k : Nat) (hk : k ≠ r) : ((((W.setCell ⟨r, 0, none⟩ v0).setCell ⟨r, 1, none⟩ v1).setCell ⟨r, 2, none⟩ v2).setCell ⟨r, 3, none⟩ v3).heap[k]? = W.heap[k]? := by
  rw [heap_setCell_other _ _ _ _ hk, heap_setCell_other _ _ _ _ hk, heap_setCell_other _ _ _ _ hk, heap_setCell_other _ _ _ _ hk]

set_option maxHeartbeats 8000000 in
set_option maxRecDepth 100000 in
theorem finish_ap (win : Nat) (st : LS) (held : ByteArray) (broken : Bool) (m : Int) (w : World) (hsz : held.size ≤ 4000000) (hW : 32 ≤ win) (hwin : win ≤ 4096) (hs : st.scan ≤ 10) (hm : st.mode ≤ 10) (hT : LexTabs w.heap.size w m) (hbr : broken = false) :
    Calls Tryz.prog 7 #[.int .i64 win, .agg #[.int .i64 st.mode, .int .i64 st.scan, .bool st.eat, .string held], .bool broken] w fun e w' => ∃ ev xs, e = .returned ev ∧
      w'.ownsRow w.heap.size 52 4 ev (evsL (wholeL win st held.data.toList)).length xs ∧ EvsAt w' w.heap.size xs (evsL (wholeL win st held.data.toList)) ∧ Below w.heap.size w w' ∧ Apart xs := by
  subst hbr
  have hal := fun W => allowed_any win st.mode st.scan st.eat held W hW hwin hm hs
  have hnw := fun W => new_any win st.mode st.scan st.eat held ⟨#[]⟩ held (by rw [show (⟨#[]⟩ : ByteArray) = ByteArray.empty from rfl, ByteArray.append_empty]) (by show held.size + 0 ≤ _; omega) W
  obtain ⟨R1, hR1⟩ : ∃ R1, (runL win st held.data.toList).1 = R1 := ⟨_, rfl⟩
  obtain ⟨R2, hR2⟩ : ∃ R2, (runL win st held.data.toList).2.1 = R2 := ⟨_, rfl⟩
  obtain ⟨R3, hR3⟩ : ∃ R3, (runL win st held.data.toList).2.2 = R3 := ⟨_, rfl⟩
  obtain ⟨EF, hEF⟩ : ∃ EF, (putAll ([], []) R3).1 = EF := ⟨_, rfl⟩
  obtain ⟨PF, hPF⟩ : ∃ PF, (putAll ([], []) R3).2 = PF := ⟨_, rfl⟩
  have hRA : ReadAt win held.data.toList 0 st [] [] R1 R2 EF PF := ⟨R3, by rw [List.drop_zero, ← hR1, ← hR2, ← hR3], by rw [← hEF, ← hPF]⟩
  obtain ⟨g1, g2⟩ := run_grow hW st held.data.toList hs ([], [])
  obtain ⟨k1, k2⟩ := run_rest hW st held.data.toList hs
  have hsc := run_scan hW held.data.toList.length st held.data.toList hs (Nat.le_refl _)
  have hmo := run_mode hW st held.data.toList hs hm
  rw [hR3, hR2] at g1 g2
  rw [hR2] at k1 k2
  rw [hR1] at hsc hmo
  rw [hEF] at g1
  rw [hPF] at g2
  rw [← size_eq] at g1 g2 k1 k2
  simp only [List.length_nil, Nat.zero_add] at g1 g2
  have hrd := fun base b W hr hTW => read_any base b win held st m W hr hsz hW hwin hs hm hTW R1 R2 EF PF hRA
  have hdr : held.data.toList.drop (held.size - R2.length) = R2 := k2.symm
  have hen := fun base b W hr hTW => end_any base b win held (held.size - R2.length) R1 EF PF m W hr hsz (by omega) hsc hmo (by omega) hTW
  rw [hdr] at hen
  have hwhole : ∀ PE, putAll (EF, PF) (endL R1 R2) = (EF, PE) → evsL (wholeL win st held.data.toList) = flushE (EF, PE) := fun PE hPE => by
    unfold wholeL
    rw [hR1, hR2, hR3]
    show flushE (putAll ([], []) (R3 ++ endL R1 R2)) = _
    rw [putAll_app, show putAll ([], []) R3 = (EF, PF) by rw [← hEF, ← hPF], hPE]
  have hev := fun base b o cs T PE W (hW1 : StreamAt W base b o cs T EF PE) hT1 => events_ap base b o cs T EF PE W hW1 hT1 (by omega)
  have HAL := hid hal
  have HNW := hid hnw
  have HRD := hid hrd
  have HEN := hid hen
  have HEV := hid hev
  have HWH := hid hwhole
  have HT := hid hT
  clear hal hnw hrd hen hev hwhole hT hRA g1 g2 k1 k2 hsc hmo hdr hR1 hR2 hR3 hEF hPF
  go_enter Tryz.func7, Tryz.ntmps7
  go_wp2_with (first
    | (go_at_call 11; refine (HAL.out _).mono ?_; rintro e w1 ⟨rfl, b1⟩; have hbx : w1.heap[w.heap.size]? = some (.cells #[.int .i64 st.mode, .int .i64 st.scan, .bool st.eat, .string held] 23 (0, 0)) := (b1.block _ (by simp)).trans (heap_alloc_new w _); have x0 := cell_at hbx (j := 0) rfl; have x1 := cell_at hbx (j := 1) rfl; have x2 := cell_at hbx (j := 2) rfl; have x3 := cell_at hbx (j := 3) rfl; have hB1 : Below w.heap.size w w1 := ((Below.refl w.heap.size w).alloc (Nat.le_refl _) _).trans (b1.mono (by simp)); clear b1 hbx)
    | (go_at_call 12; refine (HNW.out _).mono ?_; rintro e w2 ⟨b, rfl, hr2, b2⟩; have hT2 := ((HT.out.below hB1).up hB1.size).below b2)
    | (go_at_call 13; refine (HRD.out _ b _ (by exact hr2) (by exact hT2)).mono ?_; rintro e w3 ⟨rfl, hr3, b3⟩; have hT3 := hT2.below b3)
    | (go_at_call 21; refine (HEN.out _ b _ (by exact hr3) (by exact hT3)).mono ?_; rintro e w4 ⟨rfl, ⟨p4, m4, s4, e4, PE, hr4, hPE⟩, b4⟩; obtain ⟨ev4, pp4, v4, hS4⟩ := hr4.it)
    | (go_at_call 15; refine (HEV.out _ b 6 _ _ PE _ (by exact hS4) (rd_T _ _ _ _ _ _ _ _ _)).mono ?_; rintro e w5 ⟨ev5, xs5, rfl, hrow5, hevs5, b5, hap5⟩))
  go_ret
  refine ⟨_, xs5, rfl, ?_, ?_, hB1.trans ((((b2.trans b3).trans b4).trans b5).mono hB1.size), hap5⟩
  · rw [HWH.out PE hPE]; exact row_low hrow5 hB1.size
  · rw [HWH.out PE hPE]; exact evs_low hB1.size _ _ hevs5

set_option maxHeartbeats 1000000 in
theorem lex_ap (win : Nat) (text : ByteArray) (m : Int) (w : World) (hsz : text.size ≤ 4000000) (hW : 32 ≤ win) (hwin : win ≤ 4096) (hT : LexTabs w.heap.size w m) :
    Calls Tryz.prog 9 #[.int .i64 win, .string text] w fun e w' => ∃ ev xs, e = .returned ev ∧
      w'.ownsRow w.heap.size 52 4 ev (evsL (wholeL win st0 text.data.toList)).length xs ∧ EvsAt w' w.heap.size xs (evsL (wholeL win st0 text.data.toList)) ∧ Below w.heap.size w w' ∧ Apart xs := by
  have hf := finish_ap win st0 text false m w hsz hW hwin (by decide) (by decide) hT rfl
  generalize evsL (wholeL win st0 text.data.toList) = J at hf ⊢
  have HF := hid hf
  clear hf hT
  go_enter Tryz.func9, Tryz.ntmps9
  go_wp2_with (go_at_call 7; refine HF.out.mono ?_; rintro e w1 ⟨ev, xs, rfl, h1, h2, h3, h4⟩)
  go_ret
  exact ⟨_, xs, rfl, h1, h2, h3, h4⟩

set_option maxHeartbeats 8000000 in
set_option maxRecDepth 100000 in
theorem feed_ap (win : Nat) (st : LS) (held text data : ByteArray) (hda : held ++ text = data) (m : Int) (w : World) (hsz : data.size ≤ 4000000) (hW : 32 ≤ win) (hwin : win ≤ 4096) (hs : st.scan ≤ 10) (hm : st.mode ≤ 10) (hT : LexTabs w.heap.size w m) :
    Calls Tryz.prog 4 #[.int .i64 win, .agg #[.int .i64 st.mode, .int .i64 st.scan, .bool st.eat, .string held], .string text] w fun e w' => ∃ ev xs,
      e = .returned (.tuple #[.agg #[.int .i64 (runL win st data.data.toList).1.mode, .int .i64 (runL win st data.data.toList).1.scan, .bool (runL win st data.data.toList).1.eat, .string ⟨(runL win st data.data.toList).2.1.toArray⟩], ev]) ∧
      w'.ownsRow w.heap.size 52 4 ev (evsL (runL win st data.data.toList).2.2).length xs ∧ EvsAt w' w.heap.size xs (evsL (runL win st data.data.toList).2.2) ∧ Below w.heap.size w w' ∧ Apart xs := by
  have hhs : held.size + text.size = data.size := by rw [← hda, ByteArray.size_append]
  have hal := fun W => allowed_any win st.mode st.scan st.eat held W hW hwin hm hs
  have hnw := fun W => new_any win st.mode st.scan st.eat held text data hda (by omega) W
  have hRS := rest_str hW st hs data
  obtain ⟨R1, hR1⟩ : ∃ R1, (runL win st data.data.toList).1 = R1 := ⟨_, rfl⟩
  obtain ⟨R2, hR2⟩ : ∃ R2, (runL win st data.data.toList).2.1 = R2 := ⟨_, rfl⟩
  obtain ⟨R3, hR3⟩ : ∃ R3, (runL win st data.data.toList).2.2 = R3 := ⟨_, rfl⟩
  obtain ⟨EF, hEF⟩ : ∃ EF, (putAll ([], []) R3).1 = EF := ⟨_, rfl⟩
  obtain ⟨PF, hPF⟩ : ∃ PF, (putAll ([], []) R3).2 = PF := ⟨_, rfl⟩
  have hRA : ReadAt win data.data.toList 0 st [] [] R1 R2 EF PF := ⟨R3, by rw [List.drop_zero, ← hR1, ← hR2, ← hR3], by rw [← hEF, ← hPF]⟩
  obtain ⟨g1, g2⟩ := run_grow hW st data.data.toList hs ([], [])
  obtain ⟨k1, _⟩ := run_rest hW st data.data.toList hs
  rw [hR3, hR2] at g1 g2
  rw [hR2] at k1 hRS
  rw [hEF] at g1
  rw [hPF] at g2
  rw [← size_eq] at g1 g2 k1
  simp only [List.length_nil, Nat.zero_add] at g1 g2
  have hrd := fun base b W hr hTW => read_any base b win data st m W hr hsz hW hwin hs hm hTW R1 R2 EF PF hRA
  have hst := fun base b W hr => state_any base b win data (data.size - R2.length) R1.mode R1.scan R1.eat EF PF W hr (by omega) (by omega)
  rw [hRS] at hst
  have hev := fun base b o cs T W (hW1 : StreamAt W base b o cs T EF PF) hT1 => events_ap base b o cs T EF PF W hW1 hT1 (by omega)
  have hfl : evsL R3 = flushE (EF, PF) := by
    show flushE (putAll ([], []) R3) = _
    rw [← hEF, ← hPF]
  rw [hR1, hR2, hR3, hfl]
  obtain ⟨rb, hrb⟩ : ∃ rb : ByteArray, (⟨R2.toArray⟩ : ByteArray) = rb := ⟨_, rfl⟩
  rw [hrb] at hst ⊢
  generalize flushE (EF, PF) = J at hev ⊢
  have HAL := hid hal
  have HNW := hid hnw
  have HRD := hid hrd
  have HST := hid hst
  have HEV := hid hev
  have HT := hid hT
  clear hal hnw hrd hst hev hT hRA g1 g2 k1 hRS hR1 hR2 hR3 hEF hPF hfl hrb hda hhs
  go_enter Tryz.func4, Tryz.ntmps4
  go_wp2_with (first
    | (go_at_call 11; refine (HAL.out _).mono ?_; rintro e w1 ⟨rfl, b1⟩; have hbx : w1.heap[w.heap.size]? = some (.cells #[.int .i64 st.mode, .int .i64 st.scan, .bool st.eat, .string held] 23 (0, 0)) := (b1.block _ (by simp; omega)).trans ((alloc_old _ _ _ (by simp)).trans (heap_alloc_new w _)); have x0 := cell_at hbx (j := 0) rfl; have x1 := cell_at hbx (j := 1) rfl; have x2 := cell_at hbx (j := 2) rfl; have x3 := cell_at hbx (j := 3) rfl; have hB1 : Below w.heap.size w w1 := (((Below.refl w.heap.size w).alloc (Nat.le_refl _) _).alloc (by simp) _).trans (b1.mono (by simp; omega)); have hsz1 := b1.size; have hre : w1.heap[w.heap.size + 1]? = some (.cells #[.int .i64 0, .int .i64 0, .bool false, .string ⟨#[]⟩] 23 (0, 0)) := (b1.block _ (by simp)).trans (by have := heap_alloc_new (w.alloc (.cells #[.int .i64 st.mode, .int .i64 st.scan, .bool st.eat, .string held] 23)) (.cells #[.int .i64 0, .int .i64 0, .bool false, .string ⟨#[]⟩] 23); simpa using this); clear b1 hbx)
    | (go_at_call 12; refine (HNW.out _).mono ?_; rintro e w2 ⟨b, rfl, hr2, b2⟩; have hT2 := ((HT.out.below hB1).up hB1.size).below b2)
    | (go_at_call 13; refine (HRD.out _ b _ (by exact hr2) (by exact hT2)).mono ?_; rintro e w3 ⟨rfl, hr3, b3⟩)
    | fail)
  have hlt1 : w.heap.size + 1 < w1.heap.size := by simp at hsz1; omega
  have hre3 := ((b3.block _ hlt1).trans (b2.block _ hlt1)).trans hre
  have hB3 : Below w.heap.size w w3 := hB1.trans ((b2.trans b3).mono hB1.size)
  have HX := hid (And.intro hr3 (And.intro hre3 hB3))
  clear hre hre3 hB3 hr3 hr2 b2 b3 hT2 x0 x1 x2 x3 hsz1
  go_cut [7] from 20 to 25 (fun ev wc => Hid (∃ xs, wc.ownsRow w.heap.size 52 4 ev J.length xs ∧ EvsAt wc w.heap.size xs J ∧ Below w.heap.size w wc ∧ Apart xs) ∧ wc.cell? ⟨w.heap.size + 1, 0, none⟩ = some (.int .i64 R1.mode) ∧ wc.cell? ⟨w.heap.size + 1, 1, none⟩ = some (.int .i64 R1.scan) ∧ wc.cell? ⟨w.heap.size + 1, 2, none⟩ = some (.bool R1.eat) ∧ wc.cell? ⟨w.heap.size + 1, 3, none⟩ = some (.string rb))
  case first =>
    go_region_law (first
      | (go_simp; go_at_call 14; refine (HST.out _ b _ (by exact HX.out.1.drew)).mono ?_; rintro e w4 ⟨rfl, hr4, b4⟩; obtain ⟨ev4, p4, v4, hS4⟩ := hr4.it)
      | (go_simp; go_at_call 15; refine (HEV.out _ b 6 _ _ _ (by exact hS4) (rd_T _ _ _ _ _ _ _ _ _)).mono ?_; rintro e w5 ⟨ev5, xs5, rfl, hrow5, hevs5, b5, hap5⟩; have hre5 : w5.heap[w.heap.size + 1]? = some (.cells #[.int .i64 0, .int .i64 0, .bool false, .string ⟨#[]⟩] 23 (0, 0)) := ((b5.block _ hlt1).trans (b4.block _ hlt1)).trans (by exact HX.out.2.1); have r0 := cell_at hre5 (j := 0) rfl; have r1 := cell_at hre5 (j := 1) rfl; have r2 := cell_at hre5 (j := 2) rfl; have r3 := cell_at hre5 (j := 3) rfl; have rf0 := free_at hre5 0; have rf1 := free_at hre5 1; have rf2 := free_at hre5 2; have rf3 := free_at hre5 3))
    all_goals
      have hB5 : Below w.heap.size w w5 := HX.out.2.2.trans (Below.mono (B := w1.heap.size) (((⟨rfl, rfl, rfl, Nat.le_refl _, fun _ _ => rfl⟩ : Below w1.heap.size w3 w3.drew).trans b4).trans b5) hB1.size)
      have HY := hid (And.intro hB5 (And.intro hre5 (And.intro hrow5 hevs5)))
      clear hB5 hre5 hrow5 hevs5 b4 b5 hr4 hS4
      go_wp2_with fail
      go_meet
      obtain ⟨hB5, hre5, hrow5, hevs5⟩ := HY.out
      refine ⟨hid ⟨xs5, row_just (row_low hrow5 hB1.size) hre5 (by decide) (four_other _ _ _ _ _ _), evs_mono (fun a n ys hr => row_just hr hre5 (by decide) (four_other _ _ _ _ _ _)) _ _ (evs_low hB1.size _ _ hevs5), ?_⟩, ?_, ?_, ?_, ?_⟩
      · exact ⟨(((hB5.setCell (by simp) _).setCell (by simp) _).setCell (by simp) _).setCell (by simp) _, hap5⟩
      all_goals simp [go_sem, r0, r1, r2, r3]
  case rest =>
    obtain ⟨HZ, e0, e1, e2, e3⟩ := hcut
    obtain ⟨xs, z1, z2, z3, z4⟩ := HZ.out
    go_wp2_with fail
    refine bodyPost_ret (v := .tuple #[.agg #[.int .i64 R1.mode, .int .i64 R1.scan, .bool R1.eat, .string rb], _]) ?_ rfl ⟨_, xs, rfl, z1, z2, z3, z4⟩
    simp [results, Tryz.results4, go_sem, e0, e1, e2, e3]
theorem finish_any (win : Nat) (st : LS) (held : ByteArray) (broken : Bool) (m : Int) (w : World) (hsz : held.size ≤ 4000000) (hW : 32 ≤ win) (hwin : win ≤ 4096) (hs : st.scan ≤ 10) (hm : st.mode ≤ 10) (hT : LexTabs w.heap.size w m) (hbr : broken = false) :
    Calls Tryz.prog 7 #[.int .i64 win, .agg #[.int .i64 st.mode, .int .i64 st.scan, .bool st.eat, .string held], .bool broken] w fun e w' => ∃ ev xs, e = .returned ev ∧
      w'.ownsRow w.heap.size 52 4 ev (evsL (wholeL win st held.data.toList)).length xs ∧ EvsAt w' w.heap.size xs (evsL (wholeL win st held.data.toList)) ∧ Below w.heap.size w w' :=
  (finish_ap win st held broken m w hsz hW hwin hs hm hT hbr).mono fun _ _ ⟨ev, xs, h1, h2, h3, h4, _⟩ => ⟨ev, xs, h1, h2, h3, h4⟩
theorem lex_any (win : Nat) (text : ByteArray) (m : Int) (w : World) (hsz : text.size ≤ 4000000) (hW : 32 ≤ win) (hwin : win ≤ 4096) (hT : LexTabs w.heap.size w m) :
    Calls Tryz.prog 9 #[.int .i64 win, .string text] w fun e w' => ∃ ev xs, e = .returned ev ∧
      w'.ownsRow w.heap.size 52 4 ev (evsL (wholeL win st0 text.data.toList)).length xs ∧ EvsAt w' w.heap.size xs (evsL (wholeL win st0 text.data.toList)) ∧ Below w.heap.size w w' :=
  (lex_ap win text m w hsz hW hwin hT).mono fun _ _ ⟨ev, xs, h1, h2, h3, h4, _⟩ => ⟨ev, xs, h1, h2, h3, h4⟩
theorem feed_any (win : Nat) (st : LS) (held text data : ByteArray) (hda : held ++ text = data) (m : Int) (w : World) (hsz : data.size ≤ 4000000) (hW : 32 ≤ win) (hwin : win ≤ 4096) (hs : st.scan ≤ 10) (hm : st.mode ≤ 10) (hT : LexTabs w.heap.size w m) :
    Calls Tryz.prog 4 #[.int .i64 win, .agg #[.int .i64 st.mode, .int .i64 st.scan, .bool st.eat, .string held], .string text] w fun e w' => ∃ ev xs,
      e = .returned (.tuple #[.agg #[.int .i64 (runL win st data.data.toList).1.mode, .int .i64 (runL win st data.data.toList).1.scan, .bool (runL win st data.data.toList).1.eat, .string ⟨(runL win st data.data.toList).2.1.toArray⟩], ev]) ∧
      w'.ownsRow w.heap.size 52 4 ev (evsL (runL win st data.data.toList).2.2).length xs ∧ EvsAt w' w.heap.size xs (evsL (runL win st data.data.toList).2.2) ∧ Below w.heap.size w w' :=
  (feed_ap win st held text data hda m w hsz hW hwin hs hm hT).mono fun _ _ ⟨ev, xs, h1, h2, h3, h4, _⟩ => ⟨ev, xs, h1, h2, h3, h4⟩
end Go.Proofs.YtndglhflbenloaaGreatDoor
