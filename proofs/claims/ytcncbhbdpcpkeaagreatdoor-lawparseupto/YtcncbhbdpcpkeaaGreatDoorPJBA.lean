/-
  Parts of the walk, joined: SerA, SameN.
-/
import Derived.Test.YtcncbhbdpcpkeaaGreatDoorPJAX
import Derived.Test.YtcncbhbdpcpkeaaGreatDoorPJAA
import Derived.Test.YtcncbhbdpcpkeaaGreatDoorPJAW
/-
  tree.IsShaped: its walk.
-/
namespace Go.Proofs.YtcncbhbdpcpkeaaGreatDoor
open Go.RowKit Go.Lib Own

theorem shape_cons (d : Int) (n : EvP) (r : List EvP) : shapeB d (n :: r) = if n.k < 0 ∨ d < n.k then false else if n.n = [] ∧ n.a ≠ [] then false else if n.n ≠ [] ∧ n.t ≠ [] then false else shapeB (if n.n = [] ∨ modX n.n = 9 then n.k else n.k + 1) r := rfl
theorem shape_drop {ns : List EvP} {k : Nat} {n : EvP} {d : Int} {R : Bool} (h : shapeB d (ns.drop k) = R) (he : ns[k]? = some n) : (if n.k < 0 ∨ d < n.k then false else if n.n = [] ∧ n.a ≠ [] then false else if n.n ≠ [] ∧ n.t ≠ [] then false else shapeB (if n.n = [] ∨ voidL n.n = true then n.k else n.k + 1) (ns.drop (k + 1))) = R := by
  rw [drop_at he, shape_cons] at h
  rw [← h]
  simp only [void_mod, beq_iff_eq]
set_option maxHeartbeats 4000000 in
set_option maxRecDepth 100000 in
theorem shaped_any (v : Value) (ns : List EvP) (w : World) (h : EvsR w v ns) (hK : KindsTab w) :
    Calls Tryz.prog 52 #[v] w fun e w' => e = .returned (.bool (shapeB 0 ns)) ∧ Below w.heap.size w w' := by
  obtain ⟨p, c, rfl, hlc, hcm, hcell⟩ := h
  obtain ⟨R, hR⟩ : ∃ R, shapeB 0 ns = R := ⟨_, rfl⟩
  rw [hR]
  have HR := hid hR
  have HC := hid hcell
  have HK := hid hK
  clear hR hcell hK
  go_enter Tryz.func52, Tryz.ntmps52
  go_wp2_with fail
  go_loopw [3, 9] (fun dv iv wr => ∃ (k : Nat) (d : Int), dv = .int .i64 d ∧ iv = .int .i64 k ∧ k ≤ ns.length ∧ d ≤ (k : Int) ∧ Hid (shapeB d (ns.drop k) = R) ∧ Hid (Below w.heap.size w wr)) (fun _ iv _ => ns.length - (RowKit.intOf iv).toNat)
  case atStart => exact ⟨0, 0, rfl, rfl, Nat.zero_le _, Int.le_refl _, HR, hid (Below.refl _ _)⟩
  case round =>
    clear HR
    obtain ⟨k, d, rfl, rfl, hk, hd, HD, HB⟩ := hrel
    by_cases hkl : k < ns.length
    · obtain ⟨n, hn⟩ : ∃ n, ns[k]? = some n := ⟨_, List.getElem?_eq_getElem hkl⟩
      obtain ⟨b, o, u, rfl, q0, q1, q2, q3, q4⟩ := HC.out k n hn
      obtain ⟨up, uc, rfl⟩ := q4.len
      have hbb := HB.out
      have hlo := cell_block q0
      replace q0 := cell_low q0 hbb hlo
      replace q1 := cell_low q1 hbb hlo
      replace q2 := cell_low q2 hbb hlo
      replace q3 := cell_low q3 hbb hlo
      have hst := shape_drop HD.out hn
      have hv := fun W (hW : KindsTab W) => isVoid_any (bs n.n) W hW
      rw [bs_toList] at hv
      have e1 : ((bs n.n).toList == []) = decide (n.n = []) := by rw [bs_toList, Bool.eq_iff_iff, beq_iff_eq, decide_eq_true_iff]
      have e3 : ((bs n.t).toList == []) = decide (n.t = []) := by rw [bs_toList, Bool.eq_iff_iff, beq_iff_eq, decide_eq_true_iff]
      obtain ⟨Kd, hKd⟩ : ∃ K, n.k = K := ⟨_, rfl⟩
      obtain ⟨BN, hBN⟩ : ∃ K, bs n.n = K := ⟨_, rfl⟩
      obtain ⟨BT, hBT⟩ : ∃ K, bs n.t = K := ⟨_, rfl⟩
      obtain ⟨AL, hAL⟩ : ∃ K, n.a.length = K := ⟨_, rfl⟩
      rw [hKd] at q0 hst
      rw [hBN] at q1 e1 hv
      rw [hBT] at q3 e3
      rw [hAL] at q2
      have ha : n.a ≠ [] ↔ 0 < AL := by rw [← hAL]; exact List.length_pos_iff.symm
      generalize voidL n.n = VB at hv hst
      have HV := hid hv
      have hb1 : Below w.heap.size w (wr.alloc (.cells #[.int .i64 Kd, .string BN, .slice up AL uc, .string BT] 38)) := HB.out.alloc HB.out.size _
      have HB1 := hid hb1
      have hkb := HK.out.below hb1
      have HKB := hid hkb
      clear hbb hv hkb hb1 hn hKd hBN hBT hAL q4 HD HC HK HB
      by_cases c1 : Kd < 0
      · rw [if_pos (.inl c1)] at hst
        subst hst
        have d1 : decide (Kd < 0) = true := decide_eq_true c1
        clear c1 HV HKB ha
        go_wp2_with fail
        go_ret
        exact ⟨rfl, HB1.out⟩
      · have d1 : decide (Kd < 0) = false := decide_eq_false c1
        by_cases c2 : d < Kd
        · rw [if_pos (.inr c2)] at hst
          subst hst
          have d2 : decide (d < Kd) = true := decide_eq_true c2
          clear c1 c2 HV HKB ha
          go_wp2_with fail
          go_ret
          exact ⟨rfl, HB1.out⟩
        · have d2 : decide (d < Kd) = false := decide_eq_false c2
          rw [if_neg (fun h => h.elim c1 c2)] at hst
          by_cases c3 : n.n = []
          · rw [decide_eq_true c3] at e1
            by_cases c4 : 0 < AL
            · rw [if_pos ⟨c3, ha.2 c4⟩] at hst
              subst hst
              have d3 : decide (0 < AL) = true := decide_eq_true c4
              have d4 : decide ((0 : Int) < (AL : Int)) = true := decide_eq_true (by omega)
              have d5 : decide ((AL : Int) > 0) = true := decide_eq_true (by omega)
              clear c1 c2 c3 c4 HV HKB ha
              go_wp2_with fail
              go_ret
              exact ⟨rfl, HB1.out⟩
            · rw [if_neg (fun h => c4 (ha.1 h.2)), if_neg (fun h => h.1 c3), if_pos (.inl c3)] at hst
              have HN := hid hst
              have d3 : decide (0 < AL) = false := decide_eq_false c4
              have d4 : decide ((0 : Int) < (AL : Int)) = false := decide_eq_false (by omega)
              have d5 : decide ((AL : Int) > 0) = false := decide_eq_false (by omega)
              clear hst c3 c4 HV HKB ha
              go_wp2_with fail
              go_roundw
              case rel => exact ⟨k + 1, Kd, rfl, rfl, by omega, by omega, HN, HB1⟩
              case measure => simp [RowKit.intOf]; omega
          · rw [decide_eq_false c3] at e1
            rw [if_neg (fun h => c3 h.1)] at hst
            by_cases c5 : n.t = []
            · rw [decide_eq_true c5] at e3
              have e4 : (BT.toList != []) = false := by rw [bne, e3]; rfl
              rw [if_neg (fun h => h.2 c5)] at hst
              have HN := hid (fun (_ : True) => hst)
              have HC3 := hid (fun (_ : True) => c3)
              clear hst c3 c5 ha
              go_wp2_with fail
              refine (HV.out _ HKB.out).mono ?_
              rintro e W2 ⟨rfl, hb2⟩
              have HB2 := hid (HB1.out.trans (hb2.mono HB1.out.size))
              clear hb2 HB1 HV HKB
              have hn := HN.out trivial
              cases VB with
              | true =>
                rw [if_pos (.inr rfl)] at hn
                have HN2 := hid hn
                clear hn HN
                go_wp2_with fail
                go_roundw
                case rel => exact ⟨k + 1, Kd, rfl, rfl, by omega, by omega, HN2, HB2⟩
                case measure => simp [RowKit.intOf]; omega
              | false =>
                rw [if_neg (fun h => h.elim (HC3.out trivial) (fun h => by cases h))] at hn
                have HN2 := hid hn
                have hw : IntKind.i64.wrap (Kd + 1) = Kd + 1 := by rw [IntKind.wrap_i64]; omega
                clear hn HN
                go_wp2_with fail
                go_roundw
                case rel => exact ⟨k + 1, Kd + 1, rfl, rfl, by omega, by omega, HN2, HB2⟩
                case measure => simp [RowKit.intOf]; omega
            · rw [decide_eq_false c5] at e3
              have e4 : (BT.toList != []) = true := by rw [bne, e3]; rfl
              rw [if_pos ⟨c3, c5⟩] at hst
              subst hst
              clear c1 c2 c3 c5 HV HKB ha
              go_wp2_with fail
              go_ret
              exact ⟨rfl, HB1.out⟩
    · have hr : R = true := by
        have := HD.out
        rw [List.drop_of_length_le (by omega)] at this
        exact this.symm
      subst hr
      have z1 : decide ((k : Int) < (ns.length : Int)) = false := decide_eq_false (by omega)
      have z2 : decide (k < ns.length) = false := decide_eq_false hkl
      have HZ := HB
      clear HD HB HC HK
      go_wp2_with fail
      go_ret
      exact ⟨rfl, HZ.out⟩
end Go.Proofs.YtcncbhbdpcpkeaaGreatDoor

/-
  The statements' sameNodes: its walk, at lists that can be read and hold the same.
-/
namespace Go.Proofs.YtcncbhbdpcpkeaaGreatDoor
open Go.RowKit Go.Lib Own

set_option maxHeartbeats 4000000 in
set_option maxRecDepth 10000 in
theorem sameNodesR_any (v1 v2 : Value) (l : List EvP) (w : World) (h1 : EvsR w v1 l) (h2 : EvsR w v2 l) :
    Calls Tryz.prog 13 #[v1, v2] w fun e w' => e = .returned (.bool true) ∧ ∃ n, w' = w.drewN n := by
  obtain ⟨p1, k1, rfl, _, _, a1⟩ := h1
  obtain ⟨p2, k2, rfl, _, _, a2⟩ := h2
  have H1 := hid a1
  have H2 := hid a2
  clear a1 a2
  go_enter Tryz.func13, Tryz.ntmps13
  have q0 : ((l.length : Int) != (l.length : Int)) = false := by simp
  go_wp2
  go_loopw [13] (fun iv wr => ∃ k : Nat, iv = .int .i64 k ∧ k ≤ l.length ∧ Hid (True → ∃ n, wr = w.drewN n)) (fun iv _ => l.length - (RowKit.intOf iv).toNat)
  case atStart => exact ⟨0, rfl, Nat.zero_le _, hid (fun _ => ⟨0, rfl⟩)⟩
  case round =>
    obtain ⟨k, rfl, hk, HQ⟩ := hrel
    by_cases hkl : k < l.length
    · obtain ⟨s, hs⟩ : ∃ s, l[k]? = some s := ⟨_, List.getElem?_eq_getElem hkl⟩
      obtain ⟨g1, o1, a1, rfl, b0, b1, b2, b3, b4⟩ := H1.out k s hs
      obtain ⟨g2, o2, a2, rfl, d0, d1, d2, d3, d4⟩ := H2.out k s hs
      obtain ⟨sp1, sn1, sc1, rfl⟩ := b4.shape
      obtain ⟨sp2, sn2, sc2, rfl⟩ := d4.shape
      have hq := HQ.out trivial
      replace b0 := cell_drew hq b0
      replace b1 := cell_drew hq b1
      replace b2 := cell_drew hq b2
      replace b3 := cell_drew hq b3
      replace d0 := cell_drew hq d0
      replace d1 := cell_drew hq d1
      replace d2 := cell_drew hq d2
      replace d3 := cell_drew hq d3
      have hsame := fun n => sameAttrsR_any _ _ s.a (wr.drewN n) (by obtain ⟨n', rfl⟩ := hq; exact (b4.drewN _).drewN _) (by obtain ⟨n', rfl⟩ := hq; exact (d4.drewN _).drewN _)
      have HS := hid hsame
      clear hsame b4 d4 hq H1 H2 hs
      obtain ⟨u1, hu1⟩ : ∃ u1, bs s.n = u1 := ⟨_, rfl⟩
      obtain ⟨u2, hu2⟩ : ∃ u2, bs s.t = u2 := ⟨_, rfl⟩
      rw [hu1] at b1 d1
      rw [hu2] at b3 d3
      obtain ⟨z, hz⟩ : ∃ z, s.k = z := ⟨_, rfl⟩
      rw [hz] at b0 d0
      have q1 : (z != z) = false := by simp
      clear hu1 hu2 hz
      go_wp2_with fail
      go_quiet (first | (go_at_call 31; refine Calls.quiet_of (HS.out _)))
      go_wp2
      go_roundw
      case rel =>
        obtain ⟨n, hn⟩ := HQ.out trivial
        exact ⟨k + 1, rfl, by omega, hid (fun _ => ⟨n + nq, by rw [hn]; simp⟩)⟩
      case measure => simp [RowKit.intOf]; omega
    · go_wp2
      go_ret
      exact ⟨rfl, HQ.out trivial⟩
end Go.Proofs.YtcncbhbdpcpkeaaGreatDoor
