/-
  Parts of the walk, joined: FtI.
-/
import Derived.Test.YtcncbhbdpcpkeaaGreatDoorPJBF
/-
  The reference's shaped: its walk.
-/
namespace Go.Proofs.YtcncbhbdpcpkeaaGreatDoor
open Go.RowKit Go.Lib Own

/-- how deep the node at k may stand -/
def leastP (ns : List EvP) : Nat → Int
  | 0 => 0
  | j + 1 => match ns[j]? with
    | none => 0
    | some m => if m.n = [] ∨ voidL m.n = true then m.k else m.k + 1
theorem least_at {ns : List EvP} {j : Nat} {m : EvP} (h : ns[j]? = some m) : leastP ns (j + 1) = if m.n = [] ∨ voidL m.n = true then m.k else m.k + 1 := by
  show (match ns[j]? with
    | none => (0 : Int)
    | some m => if m.n = [] ∨ voidL m.n = true then m.k else m.k + 1) = _
  rw [h]
theorem shape_least {ns : List EvP} {k : Nat} {n : EvP} {R : Bool} (h : shapeB (leastP ns k) (ns.drop k) = R) (he : ns[k]? = some n) : (if n.k < 0 ∨ leastP ns k < n.k then false else if n.n = [] ∧ n.a ≠ [] then false else if n.n ≠ [] ∧ n.t ≠ [] then false else shapeB (leastP ns (k + 1)) (ns.drop (k + 1))) = R := by
  rw [least_at he]
  exact shape_drop h he
set_option maxHeartbeats 8000000 in
set_option maxRecDepth 100000 in
theorem refShaped_any (v : Value) (ns : List EvP) (w : World) (h : EvsR w v ns) (hl : ns.length ≤ 100000000) :
    Calls Tryz.prog 39 #[v] w fun e w' => e = .returned (.bool (shapeB 0 ns)) ∧ Below w.heap.size w w' := by
  obtain ⟨p, c, rfl, hlc, hcm, hcell⟩ := h
  obtain ⟨R, hR⟩ : ∃ R, shapeB 0 ns = R := ⟨_, rfl⟩
  rw [hR]
  have HR : Hid (shapeB (leastP ns 0) (ns.drop 0) = R) := hid hR
  have HC := hid hcell
  clear hR hcell
  go_enter Tryz.func39, Tryz.ntmps39
  go_wp2_with fail
  go_loopw [3] (fun iv wr => ∃ (k : Nat), iv = .int .i64 k ∧ k ≤ ns.length ∧ Hid (0 ≤ leastP ns k ∧ leastP ns k ≤ (k : Int)) ∧ Hid (shapeB (leastP ns k) (ns.drop k) = R) ∧ Hid (Below w.heap.size w wr)) (fun iv _ => ns.length - (RowKit.intOf iv).toNat)
  case atStart => exact ⟨0, rfl, Nat.zero_le _, hid ⟨Int.le_refl _, Int.le_refl _⟩, HR, hid (Below.refl _ _)⟩
  case round =>
    clear HR
    obtain ⟨k, rfl, hk, HL, HD, HB⟩ := hrel
    by_cases hkl : k < ns.length
    · obtain ⟨n, hn⟩ : ∃ n, ns[k]? = some n := ⟨_, List.getElem?_eq_getElem hkl⟩
      obtain ⟨b, o, u, rfl, q0, q1, q2, q3, q4⟩ := HC.out k n hn
      obtain ⟨up, uc, rfl⟩ := q4.len
      have hbb := HB.out
      have hlo := cell_block q0
      have hlw : b < wr.heap.size := Nat.lt_of_lt_of_le hlo hbb.size
      replace q0 := cell_low q0 hbb hlo
      replace q1 := cell_low q1 hbb hlo
      replace q2 := cell_low q2 hbb hlo
      replace q3 := cell_low q3 hbb hlo
      have hst := shape_least HD.out hn
      have hlk1 := least_at hn
      have e1 : (bs n.n).toList.isEmpty = decide (n.n = []) := by rw [bs_toList, Bool.eq_iff_iff, List.isEmpty_iff, decide_eq_true_iff]
      have e3 : (bs n.t).toList.isEmpty = decide (n.t = []) := by rw [bs_toList, Bool.eq_iff_iff, List.isEmpty_iff, decide_eq_true_iff]
      obtain ⟨Kd, hKd⟩ : ∃ K, n.k = K := ⟨_, rfl⟩
      obtain ⟨BN, hBN⟩ : ∃ K, bs n.n = K := ⟨_, rfl⟩
      obtain ⟨BT, hBT⟩ : ∃ K, bs n.t = K := ⟨_, rfl⟩
      obtain ⟨AL, hAL⟩ : ∃ K, n.a.length = K := ⟨_, rfl⟩
      rw [hKd] at q0 hst hlk1
      rw [hBN] at q1 e1
      rw [hBT] at q3 e3
      rw [hAL] at q2
      have ha : n.a ≠ [] ↔ 0 < AL := by rw [← hAL]; exact List.length_pos_iff.symm
      obtain ⟨W1, hW1⟩ : ∃ W1, wr.alloc (.cells #[.int .i64 Kd, .string BN, .slice up AL uc, .string BT] 38) = W1 := ⟨_, rfl⟩
      have hb1 : Below wr.heap.size wr W1 := by rw [← hW1]; exact (Below.refl wr.heap.size wr).alloc (Nat.le_refl _) _
      have n1 : W1.heap[wr.heap.size]? = some (.cells #[.int .i64 Kd, .string BN, .slice up AL uc, .string BT] 38 (0, 0)) := by rw [← hW1]; exact heap_alloc_new wr _
      have HB1 := hid (HB.out.trans (hb1.mono HB.out.size))
      obtain ⟨L, hL⟩ : ∃ L, leastP ns k = L := ⟨_, rfl⟩
      have hlb := HL.out
      rw [hL] at hlb hst
      have HST := hid (fun (_ : True) => And.intro hst (And.intro hlk1 (And.intro ha (And.intro e1 (And.intro e3 hlb)))))
      have HN1 := hid n1
      have d0 : W1.cell? ⟨wr.heap.size, 0, none⟩ = some (.int .i64 Kd) := cell_at n1 (j := 0) rfl
      have d1 : W1.cell? ⟨wr.heap.size, 1, none⟩ = some (.string BN) := cell_at n1 (j := 1) rfl
      have d2 : W1.cell? ⟨wr.heap.size, 2, none⟩ = some (.slice up AL uc) := cell_at n1 (j := 2) rfl
      have d3 : W1.cell? ⟨wr.heap.size, 3, none⟩ = some (.string BT) := cell_at n1 (j := 3) rfl
      have HKW := hid hb1
      have HNN := hid hn
      clear hn
      clear hst hlk1 e1 e3 ha hbb hb1 hKd hBN hBT hAL q4 HD HB HL hlb n1
      -- up to what least is
      by_cases hk0 : k = 0
      case pos =>
        have z1 : decide ((k : Int) > 0) = false := decide_eq_false (by omega)
        have z2 : decide ((0 : Int) < (k : Int)) = false := decide_eq_false (by omega)
        have z3 : decide (0 < k) = false := decide_eq_false (by omega)
        have hL0 : (0 : Int) = L := by rw [← hL, hk0]; rfl
        subst hL0
        clear hL hk0 HNN HC
        go_upto_region 10 with fail
        clear hW1 q0 q1 q2 q3
        have hq := HST.out trivial
        obtain ⟨hst, hlk1, ha, e1, e3, hlb⟩ := hq
        by_cases c1 : Kd < 0
        · rw [if_pos (.inl c1)] at hst
          subst hst
          have f1 : decide (Kd < 0) = true := decide_eq_true c1
          clear c1 hlk1 ha e1 e3 hlb
          go_wp2_with fail
          go_ret
          exact ⟨rfl, HB1.out⟩
        · have f1 : decide (Kd < 0) = false := decide_eq_false c1
          by_cases c2 : 0 < Kd
          · rw [if_pos (.inr c2)] at hst
            subst hst
            have f2 : decide (0 < Kd) = true := decide_eq_true c2
            have f3 : decide (Kd > 0) = true := decide_eq_true c2
            clear c1 c2 hlk1 ha e1 e3 hlb
            go_wp2_with fail
            go_ret
            exact ⟨rfl, HB1.out⟩
          · have f2 : decide (0 < Kd) = false := decide_eq_false c2
            have f3 : decide (Kd > 0) = false := decide_eq_false c2
            rw [if_neg (fun h => h.elim c1 c2)] at hst
            have hrg : 0 ≤ leastP ns (k + 1) ∧ leastP ns (k + 1) ≤ ((k + 1 : Nat) : Int) := by rw [hlk1]; split <;> omega
            by_cases c3 : n.n = []
            · rw [decide_eq_true c3] at e1
              by_cases c4 : 0 < AL
              · rw [if_pos ⟨c3, ha.2 c4⟩] at hst
                subst hst
                have f4 : decide (0 < AL) = true := decide_eq_true c4
                have f5 : decide ((0 : Int) < (AL : Int)) = true := decide_eq_true (by omega)
                have f6 : decide ((AL : Int) > 0) = true := decide_eq_true (by omega)
                clear c1 c2 c3 c4 hlk1 ha e3 hlb hrg
                go_wp2_with fail
                go_ret
                exact ⟨rfl, HB1.out⟩
              · rw [if_neg (fun h => c4 (ha.1 h.2)), if_neg (fun h => h.1 c3)] at hst
                have HN := hid (And.intro hrg hst)
                have f4 : decide (0 < AL) = false := decide_eq_false c4
                have f5 : decide ((0 : Int) < (AL : Int)) = false := decide_eq_false (by omega)
                have f6 : decide ((AL : Int) > 0) = false := decide_eq_false (by omega)
                clear c1 c2 c3 c4 hlk1 ha e3 hlb hrg hst
                go_wp2_with fail
                go_roundw
                case rel => exact ⟨k + 1, rfl, by omega, hid HN.out.1, hid HN.out.2, HB1⟩
                case measure => simp [RowKit.intOf]; omega
            · rw [decide_eq_false c3] at e1
              rw [if_neg (fun h => c3 h.1)] at hst
              by_cases c5 : n.t = []
              · rw [decide_eq_true c5] at e3
                rw [if_neg (fun h => h.2 c5)] at hst
                have HN := hid (And.intro hrg hst)
                clear c1 c2 c3 c5 hlk1 ha hlb hrg hst
                go_wp2_with fail
                go_roundw
                case rel => exact ⟨k + 1, rfl, by omega, hid HN.out.1, hid HN.out.2, HB1⟩
                case measure => simp [RowKit.intOf]; omega
              · rw [decide_eq_false c5] at e3
                rw [if_pos ⟨c3, c5⟩] at hst
                subst hst
                clear c1 c2 c3 c5 hlk1 ha hlb hrg
                go_wp2_with fail
                go_ret
                exact ⟨rfl, HB1.out⟩
      case neg =>
        have z1 : decide ((k : Int) > 0) = true := decide_eq_true (by omega)
        have z2 : decide ((0 : Int) < (k : Int)) = true := decide_eq_true (by omega)
        have z3 : decide (0 < k) = true := decide_eq_true (by omega)
        obtain ⟨j, hj⟩ : ∃ j, k = j + 1 := ⟨k - 1, by omega⟩
        have hj1 : k - 1 = j := by omega
        obtain ⟨m, hm⟩ : ∃ m, ns[j]? = some m := ⟨_, List.getElem?_eq_getElem (by omega)⟩
        obtain ⟨b', o', u', he, r0, r1, _, _, _⟩ := HC.out j m hm
        cases he
        rw [hj, least_at hm] at hL
        rw [← hj1] at r0 r1
        replace r0 := cell_low r0 (HB1.out) (cell_block r0)
        replace r1 := cell_low r1 (HB1.out) (cell_block r1)
        obtain ⟨Km, hKm⟩ : ∃ K, m.k = K := ⟨_, rfl⟩
        obtain ⟨BM, hBM⟩ : ∃ K, bs m.n = K := ⟨_, rfl⟩
        rw [hKm] at r0 hL
        rw [hBM] at r1
        have eM : BM.toList.isEmpty = decide (m.n = []) := by rw [← hBM, bs_toList, Bool.eq_iff_iff, List.isEmpty_iff, decide_eq_true_iff]
        have hv := fun W => refVoid_any BM W
        rw [← hBM, bs_toList, hBM] at hv
        have HV := hid hv
        have hjl : k - 1 < ns.length := by omega
        have g1 : (0 : Int) ≤ (k : Int) - 1 := by omega
        have g2 : (k : Int) - 1 < (ns.length : Int) := by omega
        have g3 : (1 : Int) ≤ (k : Int) := by omega
        have g4 : 1 ≤ k := by omega
        have hw1 : IntKind.i64.wrap ((k : Int) - 1) = (k : Int) - 1 := by rw [IntKind.wrap_i64]; omega
        have hlv := (HST.out trivial).2.2.2.2.2
        clear hv hBM hKm hm hj hj1 HC HNN hk0
        by_cases hm0 : m.n = []
        · rw [if_pos (.inl hm0)] at hL
          rw [decide_eq_true hm0] at eM
          subst hL
          clear hm0 HV
          go_upto_region 10 with fail
          clear hW1 q0 q1 q2 q3 r0 r1
          have hq := HST.out trivial
          obtain ⟨hst, hlk1, ha, e1, e3, hlb⟩ := hq
          by_cases c1 : Kd < 0
          · rw [if_pos (.inl c1)] at hst
            subst hst
            have f1 : decide (Kd < 0) = true := decide_eq_true c1
            clear c1 hlk1 ha e1 e3 hlb
            go_wp2_with fail
            go_ret
            exact ⟨rfl, HB1.out⟩
          · have f1 : decide (Kd < 0) = false := decide_eq_false c1
            by_cases c2 : Km < Kd
            · rw [if_pos (.inr c2)] at hst
              subst hst
              have f2 : decide (Km < Kd) = true := decide_eq_true c2
              have f3 : decide (Kd > Km) = true := decide_eq_true c2
              clear c1 c2 hlk1 ha e1 e3 hlb
              go_wp2_with fail
              go_ret
              exact ⟨rfl, HB1.out⟩
            · have f2 : decide (Km < Kd) = false := decide_eq_false c2
              have f3 : decide (Kd > Km) = false := decide_eq_false c2
              rw [if_neg (fun h => h.elim c1 c2)] at hst
              have hrg : 0 ≤ leastP ns (k + 1) ∧ leastP ns (k + 1) ≤ ((k + 1 : Nat) : Int) := by rw [hlk1]; split <;> omega
              by_cases c3 : n.n = []
              · rw [decide_eq_true c3] at e1
                by_cases c4 : 0 < AL
                · rw [if_pos ⟨c3, ha.2 c4⟩] at hst
                  subst hst
                  have f4 : decide (0 < AL) = true := decide_eq_true c4
                  have f5 : decide ((0 : Int) < (AL : Int)) = true := decide_eq_true (by omega)
                  have f6 : decide ((AL : Int) > 0) = true := decide_eq_true (by omega)
                  clear c1 c2 c3 c4 hlk1 ha e3 hlb hrg
                  go_wp2_with fail
                  go_ret
                  exact ⟨rfl, HB1.out⟩
                · rw [if_neg (fun h => c4 (ha.1 h.2)), if_neg (fun h => h.1 c3)] at hst
                  have HN := hid (And.intro hrg hst)
                  have f4 : decide (0 < AL) = false := decide_eq_false c4
                  have f5 : decide ((0 : Int) < (AL : Int)) = false := decide_eq_false (by omega)
                  have f6 : decide ((AL : Int) > 0) = false := decide_eq_false (by omega)
                  clear c1 c2 c3 c4 hlk1 ha e3 hlb hrg hst
                  go_wp2_with fail
                  go_roundw
                  case rel => exact ⟨k + 1, rfl, by omega, hid HN.out.1, hid HN.out.2, HB1⟩
                  case measure => simp [RowKit.intOf]; omega
              · rw [decide_eq_false c3] at e1
                rw [if_neg (fun h => c3 h.1)] at hst
                by_cases c5 : n.t = []
                · rw [decide_eq_true c5] at e3
                  rw [if_neg (fun h => h.2 c5)] at hst
                  have HN := hid (And.intro hrg hst)
                  clear c1 c2 c3 c5 hlk1 ha hlb hrg hst
                  go_wp2_with fail
                  go_roundw
                  case rel => exact ⟨k + 1, rfl, by omega, hid HN.out.1, hid HN.out.2, HB1⟩
                  case measure => simp [RowKit.intOf]; omega
                · rw [decide_eq_false c5] at e3
                  rw [if_pos ⟨c3, c5⟩] at hst
                  subst hst
                  clear c1 c2 c3 c5 hlk1 ha hlb hrg
                  go_wp2_with fail
                  go_ret
                  exact ⟨rfl, HB1.out⟩
        · rw [decide_eq_false hm0] at eM
          generalize voidL m.n = VM at hL HV
          cases VM with
          | true =>
            rw [if_pos (.inr rfl)] at hL
            subst hL
            clear hm0
            go_wp2_with fail
            refine (HV.out _).mono ?_
            rintro e W2 ⟨rfl, rfl⟩
            go_upto_region 10 with fail
            clear hW1 q0 q1 q2 q3 r0 r1
            have hq := HST.out trivial
            obtain ⟨hst, hlk1, ha, e1, e3, hlb⟩ := hq
            by_cases c1 : Kd < 0
            · rw [if_pos (.inl c1)] at hst
              subst hst
              have f1 : decide (Kd < 0) = true := decide_eq_true c1
              clear c1 hlk1 ha e1 e3 hlb
              go_wp2_with fail
              go_ret
              exact ⟨rfl, HB1.out⟩
            · have f1 : decide (Kd < 0) = false := decide_eq_false c1
              by_cases c2 : Km < Kd
              · rw [if_pos (.inr c2)] at hst
                subst hst
                have f2 : decide (Km < Kd) = true := decide_eq_true c2
                have f3 : decide (Kd > Km) = true := decide_eq_true c2
                clear c1 c2 hlk1 ha e1 e3 hlb
                go_wp2_with fail
                go_ret
                exact ⟨rfl, HB1.out⟩
              · have f2 : decide (Km < Kd) = false := decide_eq_false c2
                have f3 : decide (Kd > Km) = false := decide_eq_false c2
                rw [if_neg (fun h => h.elim c1 c2)] at hst
                have hrg : 0 ≤ leastP ns (k + 1) ∧ leastP ns (k + 1) ≤ ((k + 1 : Nat) : Int) := by rw [hlk1]; split <;> omega
                by_cases c3 : n.n = []
                · rw [decide_eq_true c3] at e1
                  by_cases c4 : 0 < AL
                  · rw [if_pos ⟨c3, ha.2 c4⟩] at hst
                    subst hst
                    have f4 : decide (0 < AL) = true := decide_eq_true c4
                    have f5 : decide ((0 : Int) < (AL : Int)) = true := decide_eq_true (by omega)
                    have f6 : decide ((AL : Int) > 0) = true := decide_eq_true (by omega)
                    clear c1 c2 c3 c4 hlk1 ha e3 hlb hrg
                    go_wp2_with fail
                    go_ret
                    exact ⟨rfl, HB1.out⟩
                  · rw [if_neg (fun h => c4 (ha.1 h.2)), if_neg (fun h => h.1 c3)] at hst
                    have HN := hid (And.intro hrg hst)
                    have f4 : decide (0 < AL) = false := decide_eq_false c4
                    have f5 : decide ((0 : Int) < (AL : Int)) = false := decide_eq_false (by omega)
                    have f6 : decide ((AL : Int) > 0) = false := decide_eq_false (by omega)
                    clear c1 c2 c3 c4 hlk1 ha e3 hlb hrg hst
                    go_wp2_with fail
                    go_roundw
                    case rel => exact ⟨k + 1, rfl, by omega, hid HN.out.1, hid HN.out.2, HB1⟩
                    case measure => simp [RowKit.intOf]; omega
                · rw [decide_eq_false c3] at e1
                  rw [if_neg (fun h => c3 h.1)] at hst
                  by_cases c5 : n.t = []
                  · rw [decide_eq_true c5] at e3
                    rw [if_neg (fun h => h.2 c5)] at hst
                    have HN := hid (And.intro hrg hst)
                    clear c1 c2 c3 c5 hlk1 ha hlb hrg hst
                    go_wp2_with fail
                    go_roundw
                    case rel => exact ⟨k + 1, rfl, by omega, hid HN.out.1, hid HN.out.2, HB1⟩
                    case measure => simp [RowKit.intOf]; omega
                  · rw [decide_eq_false c5] at e3
                    rw [if_pos ⟨c3, c5⟩] at hst
                    subst hst
                    clear c1 c2 c3 c5 hlk1 ha hlb hrg
                    go_wp2_with fail
                    go_ret
                    exact ⟨rfl, HB1.out⟩
          | false =>
            rw [if_neg (fun h => h.elim hm0 (fun h => by cases h))] at hL
            have HLE := hid hL
            have hw : IntKind.i64.wrap (Km + 1) = Km + 1 := by rw [IntKind.wrap_i64]; omega
            clear hm0 hL hlv
            go_wp2_with fail
            refine (HV.out _).mono ?_
            rintro e W2 ⟨rfl, rfl⟩
            go_upto_region 10 with fail
            clear hW1 q0 q1 q2 q3 r0 r1
            have HST := HST
            rw [← HLE.out] at HST
            have hq := HST.out trivial
            obtain ⟨hst, hlk1, ha, e1, e3, hlb⟩ := hq
            by_cases c1 : Kd < 0
            · rw [if_pos (.inl c1)] at hst
              subst hst
              have f1 : decide (Kd < 0) = true := decide_eq_true c1
              clear c1 hlk1 ha e1 e3 hlb
              go_wp2_with fail
              go_ret
              exact ⟨rfl, HB1.out⟩
            · have f1 : decide (Kd < 0) = false := decide_eq_false c1
              by_cases c2 : (Km + 1) < Kd
              · rw [if_pos (.inr c2)] at hst
                subst hst
                have f2 : decide ((Km + 1) < Kd) = true := decide_eq_true c2
                have f3 : decide (Kd > (Km + 1)) = true := decide_eq_true c2
                clear c1 c2 hlk1 ha e1 e3 hlb
                go_wp2_with fail
                go_ret
                exact ⟨rfl, HB1.out⟩
              · have f2 : decide ((Km + 1) < Kd) = false := decide_eq_false c2
                have f3 : decide (Kd > (Km + 1)) = false := decide_eq_false c2
                rw [if_neg (fun h => h.elim c1 c2)] at hst
                have hrg : 0 ≤ leastP ns (k + 1) ∧ leastP ns (k + 1) ≤ ((k + 1 : Nat) : Int) := by rw [hlk1]; split <;> omega
                by_cases c3 : n.n = []
                · rw [decide_eq_true c3] at e1
                  by_cases c4 : 0 < AL
                  · rw [if_pos ⟨c3, ha.2 c4⟩] at hst
                    subst hst
                    have f4 : decide (0 < AL) = true := decide_eq_true c4
                    have f5 : decide ((0 : Int) < (AL : Int)) = true := decide_eq_true (by omega)
                    have f6 : decide ((AL : Int) > 0) = true := decide_eq_true (by omega)
                    clear c1 c2 c3 c4 hlk1 ha e3 hlb hrg
                    go_wp2_with fail
                    go_ret
                    exact ⟨rfl, HB1.out⟩
                  · rw [if_neg (fun h => c4 (ha.1 h.2)), if_neg (fun h => h.1 c3)] at hst
                    have HN := hid (And.intro hrg hst)
                    have f4 : decide (0 < AL) = false := decide_eq_false c4
                    have f5 : decide ((0 : Int) < (AL : Int)) = false := decide_eq_false (by omega)
                    have f6 : decide ((AL : Int) > 0) = false := decide_eq_false (by omega)
                    clear c1 c2 c3 c4 hlk1 ha e3 hlb hrg hst
                    go_wp2_with fail
                    go_roundw
                    case rel => exact ⟨k + 1, rfl, by omega, hid HN.out.1, hid HN.out.2, HB1⟩
                    case measure => simp [RowKit.intOf]; omega
                · rw [decide_eq_false c3] at e1
                  rw [if_neg (fun h => c3 h.1)] at hst
                  by_cases c5 : n.t = []
                  · rw [decide_eq_true c5] at e3
                    rw [if_neg (fun h => h.2 c5)] at hst
                    have HN := hid (And.intro hrg hst)
                    clear c1 c2 c3 c5 hlk1 ha hlb hrg hst
                    go_wp2_with fail
                    go_roundw
                    case rel => exact ⟨k + 1, rfl, by omega, hid HN.out.1, hid HN.out.2, HB1⟩
                    case measure => simp [RowKit.intOf]; omega
                  · rw [decide_eq_false c5] at e3
                    rw [if_pos ⟨c3, c5⟩] at hst
                    subst hst
                    clear c1 c2 c3 c5 hlk1 ha hlb hrg
                    go_wp2_with fail
                    go_ret
                    exact ⟨rfl, HB1.out⟩
    · have hr : R = true := by
        have := HD.out
        rw [List.drop_of_length_le (by omega)] at this
        exact this.symm
      subst hr
      have z1 : decide ((k : Int) < (ns.length : Int)) = false := decide_eq_false (by omega)
      have z2 : decide (k < ns.length) = false := decide_eq_false hkl
      have HZ := HB
      clear HD HB HC HL
      go_wp2_with fail
      go_ret
      exact ⟨rfl, HZ.out⟩
end Go.Proofs.YtcncbhbdpcpkeaaGreatDoor
