/-
  The reader's skipComment: its walk.
-/
import Derived.Test.YtolbahmihkdmiaaDoorStepB
namespace Go.Proofs.YtolbahmihkdmiaaDoor
open Go.RowKit Go.Lib Own

theorem suffix_of (L X : List UInt8) : Lib.hasSuffix L X = decide (X <:+ L) := by
  rw [Bool.eq_iff_iff, decide_eq_true_iff]
  exact List.isSuffixOf_iff_suffix
theorem dash_cases (L : List UInt8) : ([45, 45] <:+ L ∧ dashes L = 2) ∨ (¬ [45, 45] <:+ L ∧ [45] <:+ L ∧ dashes L = 1) ∨ (¬ [45, 45] <:+ L ∧ ¬ [45] <:+ L ∧ dashes L = 0) := by
  unfold dashes
  by_cases h : [45, 45] <:+ L
  · exact .inl ⟨h, by rw [if_pos h]⟩
  · by_cases h2 : [45] <:+ L
    · exact .inr (.inl ⟨h, h2, by rw [if_neg h, if_pos h2]⟩)
    · exact .inr (.inr ⟨h, h2, by rw [if_neg h, if_neg h2]⟩)
theorem dash_len (L : List UInt8) : dashes L ≤ L.length := by
  rcases dash_cases L with ⟨h, e⟩ | ⟨_, h, e⟩ | ⟨_, _, e⟩
  · rw [e]; exact h.length_le
  · rw [e]; exact h.length_le
  · rw [e]; exact Nat.zero_le _

set_option maxHeartbeats 2000000 in
set_option maxRecDepth 10000 in
theorem skipComment_any (base b : Nat) (win : Int) (data : ByteArray) (pos mode : Nat) (eat : Bool) (evs : List Ev) (pend : List UInt8) (m : Int) (w : World) (h : Rdr w base b win data pos mode 1 eat evs pend) (hd : data.size ≤ 10000000) (hp : pos ≤ data.size)
    (hm : w.cell? ⟨1, 0, none⟩ = some (.int .i64 m)) :
    Calls Tryd.prog 25 #[.pointer (some ⟨b, 0, none⟩)] w fun e w' => StepAt w w' base b win data pos evs pend e (commentRes ⟨mode, 1, eat⟩ (data.data.toList.drop pos)) := by
  have hll : (data.data.toList.drop pos).length = data.size - pos := by rw [List.length_drop, ← size_eq]
  have hdl := dash_len (data.data.toList.drop pos)
  have hle := com_append (data.data.toList.drop pos) [] 0
  obtain ⟨⟨c0, c1, c2, c3, c4, c5⟩, hf, _⟩ := h.cells
  have f2 := hf 2
  have f4 := hf 4
  obtain ⟨t, ht⟩ : ∃ t : ByteArray, data.extract pos data.size = t := ⟨_, rfl⟩
  have htl : t.data.toList = data.data.toList.drop pos := by rw [← ht]; exact extract_to_end data pos
  have htz : t.size ≤ 10000000 := by rw [← ht, ByteArray.size_extract]; omega
  have hcall := fun W hmW => Tryd.strings_Index t ⟨#[45, 45, 62]⟩ m W (by omega) hmW
  have hix := index_com (data.data.toList.drop pos) 0 (by omega)
  rw [List.replicate_zero, List.nil_append] at hix
  rw [htl, show (⟨#[45, 45, 62]⟩ : ByteArray).data.toList = [45, 45, 62] from rfl, hix] at hcall
  have hsuf := fun p W => Tryd.strings_HasSuffix t p W (by omega)
  rw [htl] at hsuf
  have HR := hid h
  have HM := hid hm
  unfold commentRes
  cases hi : (comL 0 (data.data.toList.drop pos)).1 with
  | some n =>
    have hn3 := com_ge (data.data.toList.drop pos) 0 n (by omega) hi
    have hnl : n ≤ data.size - pos := by
      rcases hle with ⟨n', h1, -, h3, -⟩ | ⟨h1, -⟩
      · rw [hi] at h1; cases h1; omega
      · rw [hi] at h1; cases h1
    obtain ⟨f, rfl⟩ : ∃ f, n = f + 3 := ⟨n - 3, by omega⟩
    rw [hi, show comI 0 (some (f + 3)) = (f : Int) from (by unfold comI; simp only; omega)] at hcall
    have w1 : IntKind.i64.wrap ((f : Int) + 3) = (f : Int) + 3 := by rw [IntKind.wrap_i64]; omega
    have w2 : IntKind.i64.wrap ((pos : Int) + ((f : Int) + 3)) = ((pos + (f + 3) : Nat) : Int) := by rw [IntKind.wrap_i64]; omega
    have hng : (0 : Int) ≤ (f : Int) := by omega
    have HC := hid hcall
    unfold StepAt
    simp only
    generalize ((pos + (f + 3) : Nat) : Int) = q at *
    clear hcall hi h hf htl hll hsuf hdl hle hix hn3 hnl hm
    go_enter Tryd.func25, Tryd.ntmps25
    go_wp2_with fail
    go_quiet (fail)
    go_wp2_with (go_at_call 44; refine (HC.out _ (by exact HM.out)).mono ?_; rintro e w' ⟨rfl, rfl⟩)
    go_ret
    exact ⟨rfl, (((HR.out.drewN _).setPos _).1.setScan _).1, ((below_drewN (Below.refl base w) _).trans ((HR.out.drewN _).setPos _).2).trans (((HR.out.drewN _).setPos _).1.setScan _).2⟩
  | none =>
    rw [hi] at hcall
    have hcom := com_dash (data.data.toList.drop pos) 0 (by omega) hi
    rw [List.replicate_zero, List.nil_append] at hcom
    simp only
    rw [hcom]
    have hcases := dash_cases (data.data.toList.drop pos)
    have hs2 := fun W => hsuf ((⟨#[45, 45, 62]⟩ : ByteArray).extract 0 2) W
    have hs1 := fun W => hsuf ((⟨#[45, 45, 62]⟩ : ByteArray).extract 0 1) W
    rw [show ((⟨#[45, 45, 62]⟩ : ByteArray).extract 0 2).data.toList = [45, 45] from rfl, suffix_of] at hs2
    rw [show ((⟨#[45, 45, 62]⟩ : ByteArray).extract 0 1).data.toList = [45] from rfl, suffix_of] at hs1
    obtain ⟨l2, hl2⟩ : ∃ l2 : ByteArray, (⟨#[45, 45, 62]⟩ : ByteArray).extract 0 2 = l2 := ⟨_, rfl⟩
    obtain ⟨l1, hl1⟩ : ∃ l1 : ByteArray, (⟨#[45, 45, 62]⟩ : ByteArray).extract 0 1 = l1 := ⟨_, rfl⟩
    rw [hl2] at hs2
    rw [hl1] at hs1
    rw [show comI 0 none = -1 from rfl] at hcall
    have HC := hid hcall
    unfold StepAt
    simp only
    clear hle
    have fin : ∀ (n : Nat) (W : World) (q : Int), Below base w W → Rdr W base b win data data.size mode 1 eat evs pend → Rdr (W.setCell ⟨b, 2, none⟩ (.int .i64 q)) base b win data q mode 1 eat evs pend ∧ Below base w (W.setCell ⟨b, 2, none⟩ (.int .i64 q)) := fun n W q hb hr => ⟨(hr.setPos q).1, hb.trans (hr.setPos q).2⟩
    rcases hcases with ⟨e1, e2⟩ | ⟨e1, e3, e2⟩ | ⟨e1, e3, e2⟩
    · rw [decide_eq_true e1] at hs2
      rw [e2] at hdl ⊢
      have hwr : IntKind.i64.wrap ((data.size : Int) - 2) = ((pos + ((data.data.toList.drop pos).length - 2) : Nat) : Int) := by rw [IntKind.wrap_i64]; omega
      have hS2 := hid hs2
      clear hcall hi h hf htl hll hsuf hdl hix hm hcom e1 e2 hs1 hs2 hl1
      generalize ((pos + ((data.data.toList.drop pos).length - 2) : Nat) : Int) = q at *
      go_enter Tryd.func25, Tryd.ntmps25
      go_wp2_with fail
      go_quiet (fail)
      go_wp2_with (go_at_call 44; refine (HC.out _ (by exact HM.out)).mono ?_; rintro e w' ⟨rfl, rfl⟩)
      obtain ⟨r1, b1⟩ := (HR.out.drewN nq).setPos (data.size : Int)
      obtain ⟨⟨k0, k1, k2, k3, k4, k5⟩, kf, _⟩ := r1.cells
      have b2 := (below_drewN (Below.refl base w) nq).trans b1
      generalize (w.drewN nq).setCell ⟨b, 2, none⟩ (.int .i64 (data.size : Int)) = W1 at *
      have kf2 := kf 2
      have FIN := hid (fin 0 W1 q b2 r1)
      clear c0 c1 c2 c3 c4 c5 f2 f4 fin r1 b1 b2 kf
      go_loopw [5] (fun iv wr => iv = .int .i64 2 ∧ wr = W1) (fun iv _ => (RowKit.intOf iv).toNat)
      case atStart => exact ⟨rfl, rfl⟩
      case round =>
        obtain ⟨rfl, rfl⟩ := hrel
        go_wp2_with (go_at_call 45; refine (hS2.out _).mono ?_; rintro e w' ⟨rfl, rfl⟩)
        go_ret
        exact ⟨rfl, FIN.out⟩
    · rw [decide_eq_false e1] at hs2
      rw [decide_eq_true e3] at hs1
      rw [e2] at hdl ⊢
      have hwr : IntKind.i64.wrap ((data.size : Int) - 1) = ((pos + ((data.data.toList.drop pos).length - 1) : Nat) : Int) := by rw [IntKind.wrap_i64]; omega
      have hS2 := hid hs2
      have hS1 := hid hs1
      clear hcall hi h hf htl hll hsuf hdl hix hm hcom e1 e2 e3 hs1 hs2
      generalize ((pos + ((data.data.toList.drop pos).length - 1) : Nat) : Int) = q at *
      go_enter Tryd.func25, Tryd.ntmps25
      go_wp2_with fail
      go_quiet (fail)
      go_wp2_with (go_at_call 44; refine (HC.out _ (by exact HM.out)).mono ?_; rintro e w' ⟨rfl, rfl⟩)
      obtain ⟨r1, b1⟩ := (HR.out.drewN nq).setPos (data.size : Int)
      obtain ⟨⟨k0, k1, k2, k3, k4, k5⟩, kf, _⟩ := r1.cells
      have b2 := (below_drewN (Below.refl base w) nq).trans b1
      generalize (w.drewN nq).setCell ⟨b, 2, none⟩ (.int .i64 (data.size : Int)) = W1 at *
      have kf2 := kf 2
      have FIN := hid (fin 0 W1 q b2 r1)
      clear c0 c1 c2 c3 c4 c5 f2 f4 fin r1 b1 b2 kf
      go_loopw [5] (fun iv wr => (iv = .int .i64 2 ∨ iv = .int .i64 1) ∧ wr = W1) (fun iv _ => (RowKit.intOf iv).toNat)
      case atStart => exact ⟨.inl rfl, rfl⟩
      case round =>
        obtain ⟨rfl | rfl, rfl⟩ := hrel
        · go_wp2_with (go_at_call 45; refine (hS2.out _).mono ?_; rintro e w' ⟨rfl, rfl⟩)
          go_roundw
          case rel => exact ⟨.inr rfl, (by trivial)⟩
          case measure => simp [RowKit.intOf]
        · go_wp2_with (go_at_call 45; refine (hS1.out _).mono ?_; rintro e w' ⟨rfl, rfl⟩)
          go_ret
          exact ⟨rfl, FIN.out⟩
    · rw [decide_eq_false e1] at hs2
      rw [decide_eq_false e3] at hs1
      rw [e2] at hdl ⊢
      have hq : ((pos + ((data.data.toList.drop pos).length - 0) : Nat) : Int) = (data.size : Int) := by omega
      rw [hq]
      have hS2 := hid hs2
      have hS1 := hid hs1
      clear hcall hi h hf htl hll hsuf hdl hix hm hcom e1 e2 e3 hs1 hs2 hq
      go_enter Tryd.func25, Tryd.ntmps25
      go_wp2_with fail
      go_quiet (fail)
      go_wp2_with (go_at_call 44; refine (HC.out _ (by exact HM.out)).mono ?_; rintro e w' ⟨rfl, rfl⟩)
      obtain ⟨r1, b1⟩ := (HR.out.drewN nq).setPos (data.size : Int)
      have b2 := (below_drewN (Below.refl base w) nq).trans b1
      generalize (w.drewN nq).setCell ⟨b, 2, none⟩ (.int .i64 (data.size : Int)) = W1 at *
      have FIN := hid (And.intro r1 b2)
      clear c0 c1 c2 c3 c4 c5 f2 f4 fin r1 b1 b2
      go_loopw [5] (fun iv wr => (iv = .int .i64 2 ∨ iv = .int .i64 1 ∨ iv = .int .i64 0) ∧ wr = W1) (fun iv _ => (RowKit.intOf iv).toNat)
      case atStart => exact ⟨.inl rfl, rfl⟩
      case round =>
        obtain ⟨rfl | rfl | rfl, rfl⟩ := hrel
        · go_wp2_with (go_at_call 45; refine (hS2.out _).mono ?_; rintro e w' ⟨rfl, rfl⟩)
          go_roundw
          case rel => exact ⟨.inr (.inl rfl), (by trivial)⟩
          case measure => simp [RowKit.intOf]
        · go_wp2_with (go_at_call 45; refine (hS1.out _).mono ?_; rintro e w' ⟨rfl, rfl⟩)
          go_roundw
          case rel => exact ⟨.inr (.inr rfl), (by trivial)⟩
          case measure => simp [RowKit.intOf]
        · go_wp2
          go_ret
          exact ⟨rfl, FIN.out⟩
end Go.Proofs.YtolbahmihkdmiaaDoor
