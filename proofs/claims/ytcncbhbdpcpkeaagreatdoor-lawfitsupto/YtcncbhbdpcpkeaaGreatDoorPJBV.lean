/-
  Parts of the walk, joined: FtE, FtF, FtH.
-/
import Derived.Test.YtcncbhbdpcpkeaaGreatDoorPJBU
import Derived.Test.YtcncbhbdpcpkeaaGreatDoorPJBF
import Derived.Test.YtcncbhbdpcpkeaaGreatDoorPJBH
/-
  The fitter's fits: its walk.
-/
namespace Go.Proofs.YtcncbhbdpcpkeaaGreatDoor
open Go.RowKit Go.Lib Own

/-- what is open, cut -/
theorem FtS.cut {w0 W : World} {sb b : Nat} {vr vs vd : Value} {P : PolP} {m : Int} {op : List (List UInt8)} {la : Int} {p : Option Addr} {n c k : Nat} (h : FtS w0 W sb b vr vs vd P m op (.slice p n c) la) (hk : k ≤ op.length) (hn : n = op.length) :
    FtS w0 (W.setCell ⟨b, 2, none⟩ (.slice p k c)) sb b vr vs vd P m (op.take k) (.slice p k c) la := by
  have hj := just_put (j := 2) h.at_ (.slice p k c) rfl
  refine ⟨hj.at_, (hj.other sb (fun e => h.ne e.symm)).trans h.sv, h.pol, row_just (h.row.front hk hn) h.at_ (by decide) hj.other, h.be.trans (just_low hj h.lo), h.lo, h.ls, by rw [List.length_take]; have := h.few; omega, h.kt, h.nt, h.mx⟩
/-- the last text's depth is noted -/
theorem FtS.text {w0 W : World} {sb b : Nat} {vr vs vd : Value} {P : PolP} {m : Int} {op : List (List UInt8)} {ov : Value} {la : Int} (h : FtS w0 W sb b vr vs vd P m op ov la) (z : Int) :
    FtS w0 (W.setCell ⟨b, 3, none⟩ (.int .i64 z)) sb b vr vs vd P m op ov z := by
  have hj := just_put (j := 3) h.at_ (.int .i64 z) rfl
  exact ⟨hj.at_, (hj.other sb (fun e => h.ne e.symm)).trans h.sv, h.pol, row_just h.row h.at_ (by decide) hj.other, h.be.trans (just_low hj h.lo), h.lo, h.ls, h.few, h.kt, h.nt, h.mx⟩
theorem fitO_el {op : List (List UInt8)} {n : EvP} (h : n.n ≠ []) : fitO op n = op.take n.k.toNat ++ if modX n.n = 9 then [] else [n.n] := by
  unfold fitO
  rw [void_mod]
  by_cases h9 : modX n.n = 9
  · rw [if_pos (.inr (by rw [h9]; rfl)), if_pos h9, List.append_nil]
  · rw [if_neg (fun e => e.elim h (fun e => h9 (by simpa using e))), if_neg h9]
set_option maxHeartbeats 8000000 in
set_option maxRecDepth 100000 in
theorem fits_any (w0 : World) (sb b : Nat) (vr vs vd : Value) (P : PolP) (m : Int) (op : List (List UInt8)) (ov : Value) (la : Int) (n : EvP) (u : Value) (w : World) (h : FtS w0 w sb b vr vs vd P m op ov la) (hF : P.Few) (hck : checkP P = 0) (hu : AttrsR w0 u n.a) (hs : n.n.length + n.t.length + bulkA n.a ≤ 4000000) (h0 : 0 ≤ n.k) (hkl : n.k.toNat ≤ op.length) :
    Calls Tryz.prog 54 #[.pointer (some ⟨b, 0, none⟩), .agg (evC n u)] w fun e w' => e = .returned (.bool (fitN P (op.take n.k.toNat) (decide (la = n.k)) n)) ∧ Below w0.heap.size w0 w' ∧ (fitN P (op.take n.k.toNat) (decide (la = n.k)) n = true → ∃ ov', FtS w0 w' sb b vr vs vd P m (fitO op n) ov' (fitT n)) := by
  obtain ⟨up, uc, rfl⟩ := hu.len
  obtain ⟨op1, oc, rfl⟩ := h.row.shape
  obtain ⟨k, hk⟩ : ∃ k : Nat, n.k.toNat = k := ⟨_, rfl⟩
  have hnk : n.k = (k : Int) := by omega
  rw [hk] at hkl ⊢
  obtain ⟨W1, hW1⟩ : ∃ W1, w.alloc (.cells (evC n (.slice up n.a.length uc)) 38) = W1 := ⟨_, rfl⟩
  have hb1 : Below w.heap.size w W1 := by rw [← hW1]; exact (Below.refl w.heap.size w).alloc (Nat.le_refl _) _
  have n1 : W1.heap[w.heap.size]? = some (.cells (evC n (.slice up n.a.length uc)) 38 (0, 0)) := by rw [← hW1]; exact heap_alloc_new w _
  have h1 := h.below hb1
  have hlt := block_lt h.at_
  have hnb : w.heap.size ≠ b := by omega
  have hbn : b ≠ w.heap.size := by omega
  have hle := (row_cap h.row).2
  have c2 : W1.cell? ⟨b, 2, none⟩ = some (.slice op1 op.length oc) := cell_at h1.at_ (j := 2) rfl
  have f2 := free_at h1.at_ 2
  obtain ⟨d0, d1, d2, d3⟩ := evC_at n1
  rw [hnk] at d0
  obtain ⟨R, hR⟩ : ∃ R, fitN P (op.take k) (decide (la = n.k)) n = R := ⟨_, rfl⟩
  obtain ⟨OP, hOP⟩ : ∃ O, fitO op n = O := ⟨_, rfl⟩
  obtain ⟨LA, hLA⟩ : ∃ L, fitT n = L := ⟨_, rfl⟩
  rw [hR, hOP, hLA]
  have HH := hid (And.intro h1 (And.intro n1 (And.intro hu (And.intro hs (And.intro hF hck)))))
  have HR := hid (And.intro hR (And.intro hOP (And.intro hLA (And.intro hk hnk))))
  have e1 : ((bs n.n).toList != []) = decide (n.n ≠ []) := by rw [bs_toList, Bool.eq_iff_iff, bne_iff_ne, decide_eq_true_iff]
  obtain ⟨BN, hBN⟩ : ∃ B, bs n.n = B := ⟨_, rfl⟩
  unfold evC at hW1 ⊢
  rw [hnk, hBN] at hW1 ⊢
  rw [hBN] at e1
  have HBN := hid hBN
  rw [hBN] at d1
  clear h1 n1 h hu hs hF hck hb1 hR hOP hLA hk hnk h0 hBN
  go_enter Tryz.func54, Tryz.ntmps54
  go_upto_region 1 with fail
  clear hW1
  go_region
  obtain ⟨W2, hW2⟩ : ∃ W2, (W1.setCell ⟨b, 2, none⟩ (.slice op1 k oc)).drew = W2 := ⟨_, rfl⟩
  have h2 : FtS w0 W2 sb b vr vs vd P m (op.take k) (.slice op1 k oc) la := by rw [← hW2]; exact (HH.out.1.cut hkl rfl).below (below_drewN (Below.refl _ _) 1)
  have n2 : W2.heap[w.heap.size]? = some (.cells (evC n (.slice up n.a.length uc)) 38 (0, 0)) := by rw [← hW2]; exact ((just_put (j := 2) HH.out.1.at_ (.slice op1 k oc) rfl).other _ hnb).trans HH.out.2.1
  simp only [hW2]
  obtain ⟨OQ, hOQ⟩ : ∃ O, op.take k = O := ⟨_, rfl⟩
  have hl2 : OQ.length ≤ k := by rw [← hOQ, List.length_take]; omega
  rw [hOQ] at h2
  obtain ⟨d0, d1, d2, d3⟩ := evC_at n2
  rw [HR.out.2.2.2.2] at d0
  rw [HBN.out] at d1
  have a3 : W2.cell? ⟨b, 3, none⟩ = some (.int .i64 la) := cell_at h2.at_ (j := 3) rfl
  have g3 := free_at h2.at_ 3
  have H2 := hid (And.intro h2 n2)
  have HOQ := hid hOQ
  clear h2 n2 hW2 hOQ c2 f2 hle
  by_cases hn : n.n = []
  · have eI : BN.toList.isEmpty = true := by rw [← HBN.out, bs_toList, hn]; rfl
    clear e1
    have hr1 := HR.out.1
    have hr2 := HR.out.2.1
    have hr3 := HR.out.2.2.1
    unfold fitN at hr1
    unfold fitO at hr2
    unfold fitT at hr3
    rw [if_pos hn] at hr1 hr3
    rw [if_pos (.inl hn)] at hr2
    rw [HR.out.2.2.2.1] at hr2
    rw [HOQ.out] at hr1 hr2
    rw [HR.out.2.2.2.2] at hr1 hr3
    subst hr2 hr3
    clear HOQ HR HBN hn
    have hr := HH.out.2.2.2.1
    have hft := fun W (hW : FtS w0 W sb b vr vs vd P m OQ (.slice op1 k oc) (k : Int)) => fitsText_any w0 sb b vr vs vd P m OQ (.slice op1 k oc) k n.t W hW (by omega)
    generalize (decide (n.t ≠ []) && (gt n.t && nestP (modO OQ) 3 == 2)) = TX at hft hr1
    have HFT := hid hft
    clear hft hr
    by_cases hlk : la = (k : Int)
    · have z1 : (la == (k : Int)) = true := beq_iff_eq.2 hlk
      rw [decide_eq_true hlk, Bool.not_true, Bool.false_and] at hr1
      subst hr1
      clear hlk HFT
      go_wp2_with fail
      go_quiet (fail)
      clear z1
      have HZ := hid ((H2.out.1.below (below_drewN (Below.refl W2.heap.size W2) nq)).text (k : Int)).be
      go_wp2_with fail
      go_ret
      exact ⟨rfl, HZ.out, fun e => by cases e⟩
    · have z1 : (la == (k : Int)) = false := beq_eq_false_iff_ne.2 hlk
      rw [decide_eq_false hlk, Bool.not_false, Bool.true_and] at hr1
      subst hr1
      clear hlk
      go_wp2_with fail
      go_quiet (fail)
      clear z1
      have HZ := hid ((H2.out.1.below (below_drewN (Below.refl W2.heap.size W2) nq)).text (k : Int))
      go_wp2_with fail
      refine (HFT.out _ HZ.out).mono ?_
      rintro e W6 ⟨rfl, hb6⟩
      have HY := hid (HZ.out.below hb6)
      clear hb6
      go_wp2_with fail
      go_ret
      exact ⟨rfl, HY.out.be, fun _ => ⟨_, HY.out⟩⟩
  · have eI : BN.toList.isEmpty = false := by rw [← HBN.out, bs_toList]; cases hx : n.n with | nil => exact absurd hx hn | cons a r => rfl
    clear e1
    have hr1 := HR.out.1
    have hr2 := HR.out.2.1
    have hr3 := HR.out.2.2.1
    rw [elFits_eq HH.out.2.2.2.2.2 _ _ _ hn] at hr1
    rw [fitO_el hn, HR.out.2.2.2.1] at hr2
    unfold fitT at hr3
    rw [if_neg hn] at hr3
    rw [HOQ.out] at hr1 hr2
    subst hr3
    have hfe := fun W (hW : FtS w0 W sb b vr vs vd P m OQ (.slice op1 k oc) (-1)) => fitsElement_any w0 sb b vr vs vd P m OQ (.slice op1 k oc) (-1) n (.slice up n.a.length uc) W hW HH.out.2.2.2.2.1 HH.out.2.2.2.2.2 HH.out.2.2.1 HH.out.2.2.2.1 (fun hd => by have := depth_le HH.out.2.2.2.2.2; have := HR.out.2.2.2.2; omega)
    rw [hr1, hr2] at hfe
    unfold evC at hfe
    rw [HR.out.2.2.2.2, HBN.out] at hfe
    have HFE := hid hfe
    clear hr1 hr2 HR HBN HOQ hn hfe
    have HZ := hid (H2.out.1.text (-1))
    go_wp2_with fail
    refine (HFE.out _ HZ.out).mono ?_
    rintro e W6 ⟨rfl, hb6, hx6⟩
    have HX := hid (And.intro hb6 hx6)
    clear hb6 hx6 HFE
    go_wp2_with fail
    go_ret
    exact ⟨rfl, HX.out⟩
end Go.Proofs.YtcncbhbdpcpkeaaGreatDoor

/-
  newFitter: its walk.
-/
namespace Go.Proofs.YtcncbhbdpcpkeaaGreatDoor
open Go.RowKit Go.Lib Own

set_option maxHeartbeats 8000000 in
set_option maxRecDepth 100000 in
theorem newFitter_any (vr vs vd : Value) (P : PolP) (m : Int) (w : World) (h : PolR w vr vs vd P) (hK : KindsTab w) (hN : NestTab w) (hm : w.cell? ⟨4, 0, none⟩ = some (.int .i64 m)) :
    Calls Tryz.prog 53 #[.agg (polC vr vs vd P)] w fun e w' => ∃ sb b, e = .returned (.pointer (some ⟨b, 0, none⟩)) ∧ FtS w w' sb b vr vs vd P m [] (.slice none 0 0) (-1) := by
  obtain ⟨r1, r2, r3, rfl⟩ := h.rules.shape
  obtain ⟨s1, s2, s3, rfl⟩ := h.schemes.shape
  obtain ⟨t1, t2, t3, rfl⟩ := h.drop.shape
  obtain ⟨W1, hW1⟩ : ∃ W1, w.alloc (.cells (polC (.slice r1 r2 r3) (.slice s1 s2 s3) (.slice t1 t2 t3) P) 43) = W1 := ⟨_, rfl⟩
  have hb1 : Below w.heap.size w W1 := by rw [← hW1]; exact (Below.refl w.heap.size w).alloc (Nat.le_refl _) _
  have n1 : W1.heap[w.heap.size]? = some (.cells (polC (.slice r1 r2 r3) (.slice s1 s2 s3) (.slice t1 t2 t3) P) 43 (0, 0)) := by rw [← hW1]; exact heap_alloc_new w _
  obtain ⟨p0, p1, p2, p3, p4⟩ := polC_at (P := P) n1
  have hnw := fun W (hW : Below W1.heap.size W1 W) => sieveNew_any _ _ _ P W ((h.below hb1).below hW)
  have HNW := hid hnw
  have HH := hid (And.intro h (And.intro hK (And.intro hN (And.intro hm hb1))))
  unfold polC at hW1 HNW ⊢
  clear hnw h hK hN hm hb1 n1
  go_enter Tryz.func53, Tryz.ntmps53
  go_upto_region 1 with fail
  clear hW1
  go_region_held3 (fun w' => w'.cell? ⟨w.heap.size, 0, none⟩ = some (.slice r1 r2 r3) ∧ w'.cell? ⟨w.heap.size, 1, none⟩ = some (.slice s1 s2 s3) ∧ w'.cell? ⟨w.heap.size, 2, none⟩ = some (.slice t1 t2 t3) ∧ w'.cell? ⟨w.heap.size, 3, none⟩ = some (.int .i64 P.depth) ∧ w'.cell? ⟨w.heap.size, 4, none⟩ = some (.int .i64 P.window)) (go_keep)
    (first | (go_at_call 108; refine (HNW.out _ (below_drewN (Below.refl _ _) 1)).mono ?_; rintro e W2 ⟨rfl, sv2, sz2⟩; have hb2 : Below W1.heap.size W1 W2 := (below_drewN (Below.refl W1.heap.size W1) 1).trans (sv2.be.mono (by simp)); have q0 := cell_kept p0 hb2; have q1 := cell_kept p1 hb2; have q2 := cell_kept p2 hb2; have q3 := cell_kept p3 hb2; have q4 := cell_kept p4 hb2; have HS2 := hid (And.intro sv2.at_ (And.intro hb2 sz2)); have k0 : W2.heap.size ≠ w.heap.size := (by have := cell_block q0; omega); clear sv2 sz2 hb2))
  have hwb := HH.out.2.2.2.2
  have hw2 := hwb.trans (HS2.out.2.1.mono hwb.size)
  have HF : Hid (FtS w (W2.alloc (.cells #[.int .i64 P.depth, .pointer (some ⟨W1.heap.size + 1, 0, none⟩), .slice none 0 0, .int .i64 (-1)] 157)) (W1.heap.size + 1) W2.heap.size (.slice r1 r2 r3) (.slice s1 s2 s3) (.slice t1 t2 t3) P m [] (.slice none 0 0) (-1)) :=
    hid ⟨heap_alloc_new W2 _, (Go.Lib.alloc_old W2 _ _ (block_lt HS2.out.1)).trans HS2.out.1, HH.out.1, World.ownsRow_nil _ _ _ _, hw2.alloc hw2.size _, hw2.size, by have := hwb.size; omega, by simp, HH.out.2.1, HH.out.2.2.1, HH.out.2.2.2.1⟩
  clear hwb hw2 HS2 q0 q1 q2 q3 q4 p0 p1 p2 p3 p4 k0
  go_wp2_with fail
  go_ret
  exact ⟨_, _, rfl, HF.out⟩
end Go.Proofs.YtcncbhbdpcpkeaaGreatDoor

/-
  sanitize.Fits: its walk.
-/
namespace Go.Proofs.YtcncbhbdpcpkeaaGreatDoor
open Go.RowKit Go.Lib Own

theorem fitO_len (op : List (List UInt8)) (n : EvP) (h0 : 0 ≤ n.k) (h : n.k ≤ (op.length : Int)) : ((fitO op n).length : Int) = if n.n = [] ∨ voidL n.n = true then n.k else n.k + 1 := by
  unfold fitO
  split
  · rw [List.length_take]; omega
  · rw [List.length_append, List.length_take, List.length_singleton]; omega
theorem shape_nextF {op : List (List UInt8)} {ns : List EvP} {k : Nat} {n : EvP} (h : shapeB (op.length : Int) (ns.drop k) = true) (he : ns[k]? = some n) : 0 ≤ n.k ∧ n.k.toNat ≤ op.length ∧ shapeB ((fitO op n).length : Int) (ns.drop (k + 1)) = true := by
  have h1 := shape_drop h he
  split at h1
  · exact absurd h1 (by simp)
  · rename_i hk
    split at h1
    · exact absurd h1 (by simp)
    · split at h1
      · exact absurd h1 (by simp)
      · exact ⟨by omega, by omega, by rw [fitO_len op n (by omega) (by omega)]; exact h1⟩
theorem fitL_step {P : PolP} {op : List (List UInt8)} {la : Int} {ns : List EvP} {k : Nat} {n : EvP} (he : ns[k]? = some n) : fitL P op la (ns.drop k) = (fitN P (op.take n.k.toNat) (decide (la = n.k)) n && fitL P (fitO op n) (fitT n) (ns.drop (k + 1))) := by
  rw [drop_at he]
  rfl
set_option maxHeartbeats 8000000 in
set_option maxRecDepth 100000 in
theorem sanFits_any (vr vs vd : Value) (P : PolP) (v : Value) (ns : List EvP) (m : Int) (w : World) (h : PolR w vr vs vd P) (hF : P.Few) (hE : EvsR w v ns) (hs : bulkE ns ≤ 4000000) (hK : KindsTab w) (hN : NestTab w) (hV : VAttrTab w) (hm : w.cell? ⟨4, 0, none⟩ = some (.int .i64 m)) :
    Calls Tryz.prog 19 #[.agg (polC vr vs vd P), v] w fun e w' => e = .returned (.bool (fitsP P ns)) ∧ Below w.heap.size w w' := by
  obtain ⟨r1, r2, r3, rfl⟩ := h.rules.shape
  obtain ⟨s1, s2, s3, rfl⟩ := h.schemes.shape
  obtain ⟨t1, t2, t3, rfl⟩ := h.drop.shape
  obtain ⟨ep, en, ec, rfl⟩ := hE.shape
  obtain ⟨W1, hW1⟩ : ∃ W1, w.alloc (.cells (polC (.slice r1 r2 r3) (.slice s1 s2 s3) (.slice t1 t2 t3) P) 43) = W1 := ⟨_, rfl⟩
  have hb1 : Below w.heap.size w W1 := by rw [← hW1]; exact (Below.refl w.heap.size w).alloc (Nat.le_refl _) _
  have n1 : W1.heap[w.heap.size]? = some (.cells (polC (.slice r1 r2 r3) (.slice s1 s2 s3) (.slice t1 t2 t3) P) 43 (0, 0)) := by rw [← hW1]; exact heap_alloc_new w _
  obtain ⟨p0, p1, p2, p3, p4⟩ := polC_at (P := P) n1
  have hck := check_any _ _ _ P W1 (h.below hb1) hF (hK.below hb1) (hV.below hb1)
  rw [check_same] at hck
  have hsp := fun W (hW : Below w.heap.size w W) => shaped_any _ ns W (hE.below hW) (hK.below hW)
  have hnf := fun W (hW : Below w.heap.size w W) => newFitter_any _ _ _ P m W (h.below hW) (hK.below hW) (hN.below hW) (cell_low hm hW (cell_block hm))
  obtain ⟨R, hR⟩ : ∃ R, fitsP P ns = R := ⟨_, rfl⟩
  rw [hR]
  unfold fitsP at hR
  obtain ⟨CK, hCK⟩ : ∃ C, checkP P = C := ⟨_, rfl⟩
  obtain ⟨SH, hSH⟩ : ∃ S, shapeB 0 ns = S := ⟨_, rfl⟩
  rw [hCK] at hck hR
  rw [hSH] at hsp hR
  have HH := hid (And.intro hb1 (And.intro n1 (And.intro hE (And.intro hF hs))))
  have HCK := hid hck
  have HSP := hid hsp
  have HNF := hid hnf
  have HR := hid hR
  have HC0 := hid hCK
  have HS0 := hid hSH
  unfold polC at hW1 HCK HNF ⊢
  clear hck hsp hnf hR hCK hSH h hF hE hs hK hN hV hm hb1 n1
  go_enter Tryz.func19, Tryz.ntmps19
  go_wp2_with fail
  clear hW1
  refine HCK.out.mono ?_
  rintro e W2 ⟨rfl, hb2⟩
  have HB2 := hid (HH.out.1.trans (hb2.mono HH.out.1.size))
  replace p0 := cell_kept p0 hb2
  replace p1 := cell_kept p1 hb2
  replace p2 := cell_kept p2 hb2
  replace p3 := cell_kept p3 hb2
  replace p4 := cell_kept p4 hb2
  clear hb2 HCK
  by_cases hc : CK = 0
  · subst hc
    have hr := HR.out
    rw [decide_eq_true rfl, Bool.true_and] at hr
    have HR2 := hid hr
    clear hr HR
    have HSP2 := hid (HSP.out W2 HB2.out)
    go_wp2_with fail
    refine HSP2.out.mono ?_
    rintro e W3 ⟨rfl, hb3⟩
    have HB3 := hid (HB2.out.trans (hb3.mono HB2.out.size))
    replace p0 := cell_kept p0 hb3
    replace p1 := cell_kept p1 hb3
    replace p2 := cell_kept p2 hb3
    replace p3 := cell_kept p3 hb3
    replace p4 := cell_kept p4 hb3
    clear hb3 HSP HSP2 HB2
    cases SH with
    | false =>
      have hr := HR2.out
      rw [Bool.false_and] at hr
      subst hr
      go_wp2_with fail
      go_ret
      exact ⟨rfl, HB3.out⟩
    | true =>
      have hr := HR2.out
      rw [Bool.true_and] at hr
      have HR3 := hid hr
      have HNF3 := hid (HNF.out W3 HB3.out)
      clear hr HR2 HNF
      go_wp2_with fail
      refine HNF3.out.mono ?_
      rintro e W4 ⟨sb, b, rfl, hft⟩
      have H4 := hid hft
      clear hft HNF3 p0 p1 p2 p3 p4
      obtain ⟨p', c', he, hlc, hcm, hcell⟩ := HH.out.2.2.1
      cases he
      have HC := hid hcell
      clear hcell
      go_wp2_with fail
      go_loopw [20] (fun iv wr => ∃ (k : Nat) (op : List (List UInt8)) (ov : Value) (la : Int), iv = .int .i64 k ∧ k ≤ ns.length ∧ Hid (FtS W3 wr sb b (.slice r1 r2 r3) (.slice s1 s2 s3) (.slice t1 t2 t3) P m op ov la) ∧ Hid (shapeB (op.length : Int) (ns.drop k) = true ∧ fitL P op la (ns.drop k) = R)) (fun iv _ => ns.length - (RowKit.intOf iv).toNat)
      case atStart => exact ⟨0, [], _, -1, rfl, Nat.zero_le _, H4, hid ⟨HS0.out, HR3.out⟩⟩
      case round =>
        clear H4 HR3 HS0
        obtain ⟨k, op, ov, la, rfl, hk, HX, HK⟩ := hrel
        by_cases hkl : k < ns.length
        · obtain ⟨n, hn⟩ : ∃ n, ns[k]? = some n := ⟨_, List.getElem?_eq_getElem hkl⟩
          obtain ⟨g, o, u, rfl, q0, q1, q2, q3, q4⟩ := HC.out k n hn
          have hbx := HB3.out.trans (HX.out.be.mono HB3.out.size)
          replace q0 := cell_low q0 hbx (cell_block q0)
          replace q1 := cell_low q1 hbx (cell_block q1)
          replace q2 := cell_low q2 hbx (cell_block q2)
          replace q3 := cell_low q3 hbx (cell_block q3)
          obtain ⟨up, uc, rfl⟩ := q4.len
          obtain ⟨hk0, hk1, hsh⟩ := shape_nextF HK.out.1 hn
          have hst := fitL_step (P := P) (op := op) (la := la) hn
          rw [HK.out.2] at hst
          have hbk := bulkE_get hn
          have hss := HH.out.2.2.2.2
          have h5 := HX.out.below ((Below.refl wr.heap.size wr).alloc (Nat.le_refl _) (.cells (evC n (.slice up n.a.length uc)) 38))
          have n5 := heap_alloc_new wr (.cells (evC n (.slice up n.a.length uc)) 38)
          have hfi := fits_any W3 sb b _ _ _ P m op ov la n (.slice up n.a.length uc) _ h5 HH.out.2.2.2.1 HC0.out (q4.below HB3.out) (by omega) hk0 hk1
          generalize fitN P (op.take n.k.toNat) (decide (la = n.k)) n = FN at hfi hst
          obtain ⟨d0, d1, d2, d3⟩ := evC_at n5
          obtain ⟨W5, hW5⟩ : ∃ W5, wr.alloc (.cells (evC n (.slice up n.a.length uc)) 38) = W5 := ⟨_, rfl⟩
          rw [hW5] at hfi d0 d1 d2 d3
          have HFI := hid hfi
          have HST := hid (And.intro hst hsh)
          have hle : k < ec := by omega
          unfold evC at hW5 HFI
          clear hfi hst hsh hbk hss h5 n5 hbx hn q4 hk0 hk1 HK HX HC
          go_wp2_with fail
          clear hW5 q0 q1 q2 q3
          refine HFI.out.mono ?_
          rintro e W6 ⟨rfl, hb6, hx6⟩
          have HB6 := hid (HB3.out.trans (hb6.mono HB3.out.size))
          cases FN with
          | false =>
            have hr := HST.out.1
            rw [Bool.false_and] at hr
            subst hr
            clear hb6 hx6 HFI
            go_wp2_with fail
            go_ret
            exact ⟨rfl, HB6.out⟩
          | true =>
            have hr := HST.out.1
            rw [Bool.true_and] at hr
            obtain ⟨ov', h6⟩ := hx6 rfl
            have H6 := hid h6
            have HN := hid (And.intro HST.out.2 hr.symm)
            clear hb6 hx6 HFI hr h6 HST d0 d1 d2 d3
            go_wp2_with fail
            go_roundw
            case rel => exact ⟨k + 1, _, ov', _, rfl, by omega, H6, HN⟩
            case measure => simp [RowKit.intOf]; omega
        · have hr := HK.out.2
          rw [List.drop_of_length_le (by omega)] at hr
          obtain rfl : true = R := hr
          have HZ := hid (HB3.out.trans (HX.out.be.mono HB3.out.size))
          clear HX HK HC
          go_wp2_with fail
          go_ret
          exact ⟨rfl, HZ.out⟩
  · have hr := HR.out
    rw [decide_eq_false hc, Bool.false_and] at hr
    subst hr
    have z1 : ((CK : Int) != 0) = true := by rw [bne_iff_ne]; omega
    clear hc HR HSP HNF p0 p1 p2 p3 p4
    go_wp2_with fail
    go_ret
    exact ⟨rfl, HB2.out⟩
end Go.Proofs.YtcncbhbdpcpkeaaGreatDoor
