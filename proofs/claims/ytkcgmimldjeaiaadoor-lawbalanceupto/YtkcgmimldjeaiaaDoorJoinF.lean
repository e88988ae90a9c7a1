/-
  Parts of the walk, joined: RefBQ, RefBR, RefBS, RefBT, RefBU, RefBV, RefBW, RefBX, RefBY, RefCA, BalH, BalR, RefCB, BalZ, RefCC, RefCD, RefCE, RefCF, BalN, BalLaw, PolOpen, EvOpen.
-/
import Derived.Test.YtkcgmimldjeaiaaDoorJoinE
import Derived.Test.YtkcgmimldjeaiaaDoorJoinC
import Derived.Test.YtkcgmimldjeaiaaDoorJoinB
import Derived.Laws.OwnMore
import Derived.Test.YtkcgmimldjeaiaaDoorSet
import Derived.Laws.AppendOwnNone
import Derived.Test.YtkcgmimldjeaiaaDoorRows
import Derived.Test.YtkcgmimldjeaiaaDoorPolRefC
import Derived.Lib.LaidU8
import Derived.SliceStrings
import Derived.Lib.SmallJoins
import Derived.Deep.SlicePairs
import Derived.ChangeMaps5
import Derived.ChangeSame
/-
  The reference's landing: its walk.
-/
namespace Go.Proofs.YtkcgmimldjeaiaaDoor
open Go.RowKit Go.Lib Own

/-- how many elements an a may leave open, as the reference looks for it -/
def lastA (op : List (List UInt8)) (x : List UInt8) : Nat → Nat
  | 0 => op.length
  | i + 1 => if x = aN ∧ op.getD i [] = aN then i else lastA op x i
theorem lastA_other (op : List (List UInt8)) (x : List UInt8) (h : x ≠ aN) : ∀ i, lastA op x i = op.length
  | 0 => rfl
  | i + 1 => by unfold lastA; rw [if_neg (fun q => h q.1)]; exact lastA_other op x h i
theorem lastA_at (op : List (List UInt8)) (h1 : op.count aN ≤ 1) : ∀ i, i ≤ op.length → lastA op aN i = if aN ∈ op.take i then op.idxOf aN else op.length
  | 0, _ => by rw [List.take_zero, if_neg List.not_mem_nil]; rfl
  | i + 1, hi => by
    obtain ⟨x, hx⟩ : ∃ x, op[i]? = some x := ⟨_, List.getElem?_eq_getElem (by omega)⟩
    have hg : op.getD i [] = x := by rw [List.getD_eq_getElem?_getD, hx]; rfl
    have ht : op.take (i + 1) = op.take i ++ [x] := by rw [List.take_add_one, hx]; rfl
    have hd : op = op.take i ++ (x :: op.drop (i + 1)) := by
      have h3 : x = op[i]'(by omega) := by rw [List.getElem?_eq_getElem (by omega)] at hx; exact (Option.some.inj hx).symm
      rw [h3, ← List.drop_eq_getElem_cons (by omega), List.take_append_drop]
    unfold lastA
    rw [hg, ht]
    by_cases hxa : x = aN
    · subst hxa
      rw [if_pos ⟨rfl, rfl⟩, if_pos (by simp)]
      have hno : aN ∉ op.take i := by
        intro hm
        rw [hd, List.count_append, List.count_cons_self] at h1
        have := List.count_pos_iff.2 hm
        omega
      have h4 : List.idxOf aN op = List.idxOf aN (op.take i ++ (aN :: op.drop (i + 1))) := congrArg (List.idxOf aN) hd
      rw [h4, List.idxOf_append, if_neg hno, List.idxOf_cons_self, List.length_take]
      omega
    · rw [if_neg (fun q => hxa q.2), lastA_at op h1 i (by omega)]
      have : (aN ∈ op.take i ++ [x]) ↔ aN ∈ op.take i := by
        rw [List.mem_append, List.mem_singleton]
        exact ⟨fun h => h.elim id (fun h => absurd h.symm hxa), .inl⟩
      simp only [this]
theorem lastA_reach (op : List (List UInt8)) (x : List UInt8) (h1 : op.count aN ≤ 1) : lastA op x op.length = reachP op x := by
  unfold reachP
  by_cases h : x = aN
  · subst h
    rw [if_pos rfl, lastA_at op h1 _ (Nat.le_refl _), List.take_length]
    split
    · rfl
    · rename_i h; exact (List.idxOf_eq_length h).symm
  · rw [if_neg h, lastA_other op x h]
theorem lastA_le (op : List (List UInt8)) (x : List UInt8) : ∀ i, i ≤ op.length → lastA op x i ≤ op.length
  | 0, _ => Nat.le_refl _
  | i + 1, h => by
    unfold lastA
    split
    · omega
    · exact lastA_le op x i (by omega)
theorem findP_up {c : Nat} {op : List (List UInt8)} {k : Nat} (h : nestP (modO (op.take (k + 1))) c = 1) : findP c op (k + 1) = findP c op k := by
  show (if _ then _ else _) = _
  exact if_pos h
theorem findP_stay {c : Nat} {op : List (List UInt8)} {k : Nat} (h : nestP (modO (op.take (k + 1))) c ≠ 1) : findP c op (k + 1) = (k + 1, nestP (modO (op.take (k + 1))) c) := by
  show (if _ then _ else _) = _
  exact if_neg h
theorem findP_zero (c : Nat) (op : List (List UInt8)) : findP c op 0 = (0, if nestP (modO (op.take 0)) c = 1 then 0 else nestP (modO (op.take 0)) c) := by
  unfold findP
  split
  · rfl
  · rfl
/-- where the element may stand, or -1 -/
def landI (d : Nat) (op : List (List UInt8)) (x : List UInt8) : Int :=
  if (findP (clsX x) op (reachP op x)).2 = 0 ∨ d < (findP (clsX x) op (reachP op x)).1 + (impP (findP (clsX x) op (reachP op x)).2).length + 1 then -1 else ((findP (clsX x) op (reachP op x)).1 : Int)
def landR (d k p : Nat) : Int := if p = 1 ∨ p = 0 ∨ d < k + (impP p).length + 1 then -1 else (k : Int)
theorem up_plain : ∀ p < 10, (sayW p == [117, 112]) = decide (p = 1) := by decide +kernel
theorem stop_plain : ∀ p < 10, (sayW p == [115, 116, 111, 112]) = decide (p = 0) := by decide +kernel
set_option maxHeartbeats 8000000 in
set_option maxRecDepth 100000 in
theorem landing_any (b d : Nat) (hall : Array Value) (pv : Value) (op : List (List UInt8)) (x : List UInt8) (w : World) (h : Words w pv op) (ho : OpenOk op) (hx : elemL x ≠ none) (hl : op.length ≤ 1000000)
    (ht : Nat) (hb : w.heap[b]? = some (.cells hall ht (0, 0))) (h0 : hall[0]? = some (.int .i64 d)) :
    Calls Tryd.prog 87 #[.pointer (some ⟨b, 0, none⟩), pv, .string (bs x)] w fun e w' => e = .returned (.int .i64 (landI d op x)) ∧ Below w.heap.size w w' := by
  have hma := fun (n : Nat) W (hW : W = w) (hn : n ≤ op.length) => modelAt_any pv op n W (hW ▸ h) (fun x hx => (ho.known x hx).1) hn hl
  have hmq := fun (n : Nat) (hn : n ≤ op.length) q => (modelAt_any pv op n (w.drewN q) (h.drewN q) (fun x hx => (ho.known x hx).1) hn hl).mono (fun _ _ (h : _ ∧ _) => And.intro h.1 (⟨0, h.2⟩ : ∃ q', _ = (w.drewN q).drewN q'))
  obtain ⟨p, c, rfl, hc, hm, hcell, _⟩ := h
  have hcb := known_bd x hx
  have hcl := fun W => classOf_any (bs x) W
  rw [bs_toList, class_word] at hcl
  have hne := fun (n : Nat) W => refNest_any (modO (op.take n)) (clsX x) W (ho.take n).mod ⟨hcb.1, hcb.2.1⟩
  have him := fun (n : Nat) W => impCount_any (modO (op.take n)) (clsX x) W (ho.take n).mod ⟨hcb.1, hcb.2.1⟩
  have hLA := lastA_reach op x ho.one
  obtain ⟨R, hR⟩ : ∃ R, landI d op x = R := ⟨_, rfl⟩
  rw [hR]
  obtain ⟨CL, hCL⟩ : ∃ n, clsX x = n := ⟨_, rfl⟩
  unfold landI at hR
  rw [hCL] at hR hcl hne him
  obtain ⟨CW, hCW⟩ : ∃ n, bs (clsW CL) = n := ⟨_, rfl⟩
  rw [hCW] at hcl hne him
  obtain ⟨BX, hBX⟩ : ∃ n, bs x = n := ⟨_, rfl⟩
  rw [hBX] at hcl ⊢
  have hBl : BX.toList = x := by rw [← hBX]; exact bs_toList x
  have HR := hid (And.intro hR hLA)
  have HL := hid hcl
  have HN := hid hne
  have HI := hid him
  have HM := hid hma
  have HQ := hid hmq
  have HC := hid hcell
  have HX := hid hBl
  clear ho hx hcb hcl hne him hma hmq hcell hR hLA hCL hCW hBX hBl
  have c0 := cell_at hb (j := 0) h0
  clear hb h0
  go_enter Tryd.func87, Tryd.ntmps87
  go_wp2_with fail
  go_loopw [7, 8] (fun nv iv wr => ∃ i : Nat, i ≤ op.length ∧ iv = .int .i64 i ∧ nv = .int .i64 (lastA op x i : Nat) ∧ wr = w) (fun _ iv _ => op.length - (RowKit.intOf iv).toNat)
  case atStart => exact ⟨0, Nat.zero_le _, rfl, by first | rfl | trivial, rfl⟩
  case round =>
    obtain ⟨i, hi, rfl, rfl, rfl⟩ := hrel
    by_cases hil : i = op.length
    · have hL := lastA_le op x i hi
      have hNN : lastA op x i = reachP op x := by rw [hil]; exact HR.out.2
      obtain ⟨NN, hN⟩ : ∃ n, lastA op x i = n := ⟨_, rfl⟩
      rw [hN] at hL hNN ⊢
      have d1 : ¬ ((i : Int) < (op.length : Int)) := by omega
      have HNN := hid hNN
      clear hN hNN HC HX
      go_wp2_with fail
      refine (HL.out _).mono ?_
      rintro e W2 ⟨rfl, rfl⟩
      go_wp2_with fail
      clear d1
      have HRR := hid HR.out.1
      go_loopw [7] (fun nv wz => ∃ k : Nat, k ≤ NN ∧ nv = .int .i64 k ∧ wz = W2 ∧ Hid (findP CL op k = findP CL op (reachP op x))) (fun nv _ => (RowKit.intOf nv).toNat)
      case atStart => exact ⟨NN, Nat.le_refl _, rfl, rfl, hid (by rw [HNN.out])⟩
      case round =>
        obtain ⟨k, hk, rfl, rfl, HK⟩ := hrel
        have hkl : k ≤ op.length := Nat.le_trans hk hL
        have hkk := HK.out
        have hrr := HRR.out
        have hn10 := nest_lt (modO (op.take k)) CL
        have hu := up_plain _ hn10
        have hst := stop_plain _ hn10
        have HMk := fun W hW => hid (HM.out k W hW hkl)
        have HNk := fun W => hid (HN.out k W)
        have HQk := hid (HQ.out k hkl)
        have HIk := hid (fun W q => (HI.out k (World.drewN W q)).mono (fun _ _ (h : _ ∧ _) => And.intro h.1 (⟨0, h.2⟩ : ∃ q', _ = (World.drewN W q).drewN q')))
        have hfin : ¬ (k ≠ 0 ∧ nestP (modO (op.take k)) CL = 1) → landR d k (nestP (modO (op.take k)) CL) = R := by
          intro hno
          unfold landR
          cases k with
          | zero =>
            rw [← hkk, findP_zero] at hrr
            by_cases h1 : nestP (modO (op.take 0)) CL = 1
            · rw [if_pos h1] at hrr
              rw [List.take_zero] at h1
              simpa [h1] using hrr
            · rw [if_neg h1, List.take_zero] at hrr
              rw [List.take_zero] at h1
              simpa [h1] using hrr
          | succ k =>
            have h1 : nestP (modO (op.take (k + 1))) CL ≠ 1 := fun q => hno ⟨by omega, q⟩
            rw [← hkk, findP_stay h1] at hrr
            simpa [h1] using hrr
        have hup : ∀ k', k = k' + 1 → nestP (modO (op.take k)) CL = 1 → findP CL op k' = findP CL op (reachP op x) := by
          intro k' he h1
          subst he
          exact (findP_up h1).symm.trans hkk
        generalize modO (op.take k) = MO at *
        generalize nestP MO CL = PP at *
        obtain ⟨S, hS⟩ : ∃ n, bs (sayW PP) = n := ⟨_, rfl⟩
        have hSl : S.toList = sayW PP := by rw [← hS]; exact bs_toList _
        rw [hS] at HNk
        rw [← hSl] at hu hst
        clear hkk hrr HK HR HRR hS hSl HM HN HI HQ
        by_cases hgo : k ≠ 0 ∧ PP = 1
        · obtain ⟨hk0, rfl⟩ := hgo
          obtain ⟨k', rfl⟩ : ∃ k', k = k' + 1 := ⟨k - 1, by omega⟩
          have d1 : (0 : Int) < ((k' + 1 : Nat) : Int) := by omega
          have w1 : IntKind.i64.wrap (((k' + 1 : Nat) : Int) - 1) = (k' : Int) := by rw [IntKind.wrap_i64]; omega
          have q : (S.toList == [117, 112]) = true := by rw [hu]; rfl
          have HKN := hid (hup k' rfl rfl)
          clear hu hst hup hfin hn10
          go_wp2_with fail
          refine (HMk _ (by first | rfl | trivial)).out.mono ?_
          rintro e W4 ⟨rfl, rfl⟩
          go_wp2_with fail
          refine (HNk _).out.mono ?_
          rintro e W5 ⟨rfl, rfl⟩
          go_wp2_with fail
          go_roundw
          case rel => exact ⟨k', by omega, rfl, by first | rfl | trivial, HKN⟩
          case measure => first | (simp [RowKit.intOf]; done) | (simp [RowKit.intOf]; omega)
        · have HF := hid (hfin hgo)
          clear hfin hup
          rcases (show k = 0 ∨ (k ≠ 0 ∧ PP ≠ 1) by omega) with hk0 | ⟨hk0, hp1⟩
          have d1 : ¬ (0 : Int) < (k : Int) := by omega
          have HU := hid (And.intro hu hst)
          clear hu hst hgo hk0
          go_wp2_with fail
          rotate_left
          have d1 : (0 : Int) < (k : Int) := by omega
          have q : (S.toList == [117, 112]) = false := by rw [hu]; exact decide_eq_false hp1
          have HP := hid hp1
          have HU := hid (And.intro hu hst)
          clear hu hst hgo hk0 hp1
          go_wp2_with fail
          refine (HMk _ (by first | rfl | trivial)).out.mono ?_
          rintro e W4 ⟨rfl, rfl⟩
          go_wp2_with fail
          refine (HNk _).out.mono ?_
          rintro e W5 ⟨rfl, rfl⟩
          go_wp2_with fail
          rotate_left
          all_goals
            refine (HMk _ (by first | rfl | trivial)).out.mono ?_
            rintro e W6 ⟨rfl, rfl⟩
            go_wp2_with fail
            refine (HNk _).out.mono ?_
            rintro e W7 ⟨rfl, rfl⟩
            obtain ⟨hu, hst⟩ := HU.out
            unfold landR at HF
            by_cases h0 : PP = 1
            · first
                | exact absurd h0 HP.out
                | (
                  have q1 : (S.toList == [117, 112]) = true := by rw [hu]; exact decide_eq_true h0
                  have hf : R = -1 := by rw [← HF.out, if_pos (.inl h0)]
                  subst hf
                  clear hu hst h0 HF HU hn10
                  go_upto_region 11 with fail
                  go_quiet (fail)
                  go_wp2_with fail
                  go_ret
                  exact ⟨rfl, below_drewN (Below.refl _ _) _⟩)
            · have q1 : (S.toList == [117, 112]) = false := by rw [hu]; exact decide_eq_false h0
              by_cases h2 : PP = 0
              · have q2 : (S.toList == [115, 116, 111, 112]) = true := by rw [hst]; exact decide_eq_true h2
                have hf : R = -1 := by rw [← HF.out, if_pos (.inr (.inl h2))]
                subst hf
                clear hu hst h0 h2 HF HU hn10
                go_upto_region 11 with fail
                go_quiet (fail)
                go_wp2_with fail
                go_ret
                exact ⟨rfl, below_drewN (Below.refl _ _) _⟩
              · have q2 : (S.toList == [115, 116, 111, 112]) = false := by rw [hst]; exact decide_eq_false h2
                have hil := imp_len PP
                obtain ⟨IL, hIL⟩ : ∃ n, (impP PP).length = n := ⟨_, rfl⟩
                have hFF := HF.out
                rw [hIL] at hil hFF HIk
                have w1 : IntKind.i64.wrap ((k : Int) + (IL : Int)) = (k : Int) + (IL : Int) := by rw [IntKind.wrap_i64]; omega
                have w2 : IntKind.i64.wrap ((k : Int) + (IL : Int) + 1) = (k : Int) + (IL : Int) + 1 := by rw [IntKind.wrap_i64]; omega
                by_cases hdd : d < k + IL + 1
                · have d2 : decide ((d : Int) < (k : Int) + (IL : Int) + 1) = true := decide_eq_true (by omega)
                  have d3 : (d : Int) < (k : Int) + (IL : Int) + 1 := by omega
                  have hf : R = -1 := by rw [← hFF, if_pos (.inr (.inr hdd))]
                  subst hf
                  clear hu hst h0 h2 HF HU hn10 hdd hFF hIL
                  go_upto_region 11 with fail
                  go_quiet (first | (go_at_call 82; with_reducible refine Calls.quiet_of (HQk.out _)) | (go_at_call 85; with_reducible refine Calls.quiet_of (HIk.out _ _)))
                  go_wp2_with fail
                  go_ret
                  exact ⟨rfl, below_drewN (Below.refl _ _) _⟩
                · have d2 : decide ((d : Int) < (k : Int) + (IL : Int) + 1) = false := decide_eq_false (by omega)
                  have d3 : ¬ (d : Int) < (k : Int) + (IL : Int) + 1 := by omega
                  have hf : R = (k : Int) := by rw [← hFF, if_neg (fun h => h.elim h0 (fun h => h.elim h2 hdd))]
                  subst hf
                  clear hu hst h0 h2 HF HU hn10 hdd hFF hIL
                  go_upto_region 11 with fail
                  go_quiet (first | (go_at_call 82; with_reducible refine Calls.quiet_of (HQk.out _)) | (go_at_call 85; with_reducible refine Calls.quiet_of (HIk.out _ _)))
                  go_wp2_with fail
                  go_ret
                  exact ⟨rfl, below_drewN (Below.refl _ _) _⟩
    · have d1 : (i : Int) < (op.length : Int) := by omega
      have hil2 : i < op.length := by omega
      have hic : i < c := by omega
      obtain ⟨y, hy⟩ : ∃ y, op[i]? = some y := ⟨_, List.getElem?_eq_getElem (by omega)⟩
      obtain ⟨b, o, rfl, hc1⟩ := HC.out i y hy
      have hg : op.getD i [] = y := by rw [List.getD_eq_getElem?_getD, hy]; rfl
      have hLn : lastA op x (i + 1) = if x = aN ∧ y = aN then i else lastA op x i := by rw [← hg]; rfl
      obtain ⟨BY, hBY⟩ : ∃ n, bs y = n := ⟨_, rfl⟩
      have hyl : BY.toList = y := by rw [← hBY]; exact bs_toList y
      rw [hBY] at hc1
      have hxl := HX.out
      obtain ⟨NN, hN⟩ : ∃ n, lastA op x i = n := ⟨_, rfl⟩
      rw [hN] at hLn ⊢
      by_cases hxa : x = aN
      · have q1 : (BX.toList == [97]) = true := by rw [hxl, hxa]; rfl
        by_cases hya : y = aN
        · have q2 : (BY.toList == [97]) = true := by rw [hyl, hya]; rfl
          rw [if_pos ⟨hxa, hya⟩] at hLn
          have HLN := hid hLn
          clear hN hLn hxl hyl hxa hya hBY hg hy HX HC HR HN HI HM HL
          go_wp2_with fail
          go_roundw
          case rel => exact ⟨i + 1, by omega, rfl, by rw [HLN.out]; try rfl, by first | rfl | trivial⟩
          case measure => first | (simp [RowKit.intOf]; done) | (simp [RowKit.intOf]; omega)
        · have q2 : (BY.toList == [97]) = false := by rw [hyl, Bool.eq_false_iff]; intro h; rw [beq_iff_eq] at h; exact hya h
          rw [if_neg (fun q => hya q.2)] at hLn
          have HLN := hid hLn
          clear hN hLn hxl hyl hxa hya hBY hg hy HX HC HR HN HI HM HL
          go_wp2_with fail
          go_roundw
          case rel => exact ⟨i + 1, by omega, rfl, by rw [HLN.out]; try rfl, by first | rfl | trivial⟩
          case measure => first | (simp [RowKit.intOf]; done) | (simp [RowKit.intOf]; omega)
      · have q1 : (BX.toList == [97]) = false := by rw [hxl, Bool.eq_false_iff]; intro h; rw [beq_iff_eq] at h; exact hxa h
        rw [if_neg (fun q => hxa q.1)] at hLn
        have HLN := hid hLn
        clear hN hLn hxl hyl hxa hBY hg hy HX HC HR HN HI HM HL
        go_wp2_with fail
        go_roundw
        case rel => exact ⟨i + 1, by omega, rfl, by rw [HLN.out]; try rfl, by first | rfl | trivial⟩
        case measure => first | (simp [RowKit.intOf]; done) | (simp [RowKit.intOf]; omega)
end Go.Proofs.YtkcgmimldjeaiaaDoor

/-
  The reference's hall: what lies in memory while it balances.
-/
namespace Go.Proofs.YtkcgmimldjeaiaaDoor
open Go.RowKit Go.Lib Own

structure HallS (w0 W : World) (ob b d : Nat) (es : List EvP) (n : Nat) (J : List Ev) (pend : List UInt8) (ev outv wv : Value) (xs : List Value) : Prop where
  bx : W.heap[b]? = some (.cells #[.int .i64 d, ev, .int .i64 n, outv, wv] 52 (0, 0))
  evs : RowE w0 w0.heap.size W ev es
  ma : MadeE W ob outv J xs
  wd : W.ownsRowF ob 5 1 wv pend.length (byteCells pend)
  gap : ∀ g, ev.ownBlock = some g → g < ob
  lo : w0.heap.size ≤ b ∧ b < ob
  hob : ob ≤ W.heap.size
/-- what stays: blocks of other types -/
def HallF (W W' : World) : Prop := ∀ (k : Nat) (cs : Array Value) (T : TypeId) (fz : Nat × Nat), W.heap[k]? = some (Obj.cells cs T fz) → T ≠ 52 → T ≠ 39 → T ≠ 5 → W'.heap[k]? = W.heap[k]?
theorem HallF.refl (W : World) : HallF W W := fun _ _ _ _ _ _ _ _ => rfl
theorem HallF.trans {W W1 W2 : World} (h : HallF W W1) (h2 : HallF W1 W2) : HallF W W2 := fun k cs T fz hk t1 t2 t3 => (h2 k cs T fz ((h k cs T fz hk t1 t2 t3).trans hk) t1 t2 t3).trans (h k cs T fz hk t1 t2 t3)
theorem HallF.of_below {W W1 : World} (h : Below W.heap.size W W1) : HallF W W1 := fun k _ _ _ hk _ _ _ => h.block k (block_lt hk)
theorem HallF.row {W W' : World} (h : HallF W W') {base : Nat} {e : TypeId} {size n : Nat} {v : Value} {xs : List Value} (hr : W.ownsRow base e size v n xs) (t1 : e ≠ 52) (t2 : e ≠ 39) (t3 : e ≠ 5) : W'.ownsRow base e size v n xs :=
  row_of_block hr (fun g hg => by
    rcases hr.2 with ⟨rfl, _⟩ | ⟨g', cap, cur, rfl, _, hg1, _⟩
    · cases hg
    · obtain rfl := Option.some.inj hg
      exact h _ _ _ _ hg1 t1 t2 t3)
theorem HallS.below {w0 W W' : World} {ob b d n : Nat} {es : List EvP} {J : List Ev} {pend : List UInt8} {ev outv wv : Value} {xs : List Value} (h : HallS w0 W ob b d es n J pend ev outv wv xs) (hb : Below W.heap.size W W') : HallS w0 W' ob b d es n J pend ev outv wv xs :=
  ⟨(hb.block _ (block_lt h.bx)).trans h.bx, h.evs.below hb, h.ma.below hb, rowF_of_block h.wd (fun g hg => hb.block g (rowF_lt h.wd hg).2.1), h.gap, h.lo, Nat.le_trans h.hob hb.size⟩
theorem RowE.moved {w0 W W' : World} {base : Nat} {v : Value} {es : List EvP} (h : RowE w0 base W v es) (hb : Below w0.heap.size w0 W') (hk : ∀ g, v.ownBlock = some g → W'.heap[g]? = W.heap[g]?) : RowE w0 base W' v es := by
  obtain ⟨prs, h1, h2, h3, _, h5⟩ := h
  exact ⟨prs, h1, row_of_block h2 hk, h3, hb, h5⟩
theorem RowE.lt {w0 W : World} {base : Nat} {v : Value} {es : List EvP} (h : RowE w0 base W v es) {g : Nat} (hg : v.ownBlock = some g) : base ≤ g ∧ g < W.heap.size ∧ ∃ cur, W.heap[g]? = some (.cells cur 39 (0, 0)) := by
  obtain ⟨prs, _, h2, _⟩ := h
  rcases h2.2 with ⟨rfl, _⟩ | ⟨g', cap, cur, rfl, h0, hg1, _⟩
  · cases hg
  · obtain rfl := Option.some.inj hg
    exact ⟨h0, block_lt hg1, cur, hg1⟩
/-- only the hall's own block changes -/
theorem HallS.field {w0 W W' : World} {ob b d n n' : Nat} {es : List EvP} {J : List Ev} {pend pend' : List UInt8} {ev outv wv wv' : Value} {xs : List Value} (h : HallS w0 W ob b d es n J pend ev outv wv xs) (j : Just W W' b #[.int .i64 d, ev, .int .i64 n', outv, wv'] 52)
    (hw : W.ownsRowF ob 5 1 wv' pend'.length (byteCells pend')) : HallS w0 W' ob b d es n' J pend' ev outv wv' xs ∧ HallF W W' := by
  have hbel : Below w0.heap.size w0 W' := h.evs.be.trans (just_low j h.lo.1)
  refine ⟨⟨j.at_, h.evs.moved hbel (fun g hg => j.other g (fun e => ?_)), ⟨row_just h.ma.row h.bx (by decide) j.other, evs_mono (fun a' n' ys hr => row_just hr h.bx (by decide) j.other) _ _ h.ma.evs, h.ma.ap⟩, rowF_of_block hw (fun g hg => j.other g (fun e => ?_)), h.gap, h.lo, by rw [j.size]; exact h.hob⟩, fun k cs T fz hk t1 _ _ => j.other k (fun e => ?_)⟩
  · obtain ⟨_, _, cur, hc⟩ := h.evs.lt hg
    rw [e, h.bx] at hc
    simp only [Option.some.injEq, Obj.cells.injEq] at hc
    exact absurd hc.2.1 (by decide)
  · have := (rowF_lt hw hg).1
    have := h.lo.2
    omega
  · rw [e, h.bx] at hk
    simp only [Option.some.injEq, Obj.cells.injEq] at hk
    exact t1 hk.2.1.symm
/-- one more event is put out -/
theorem HallS.push {w0 W W2 : World} {ob b d n : Nat} {es : List EvP} {J : List Ev} {pend : List UInt8} {ev outv wv outv' : Value} {xs : List Value} {kv nv av tv : Value} {e0 : Ev} {X : Obj} (h : HallS w0 W ob b d es n J pend ev outv wv xs) (he : EvsAt W ob [kv, nv, av, tv] [e0]) (hn : ∀ g, av.ownBlock = some g → NotIn g xs)
    (hg : (W.alloc X).grownBy W2 outv.ownBlock) (hv : W2.ownsRow ob 39 4 outv' (J.length + 1) (xs ++ [kv, nv, av, tv])) :
    HallS w0 (W2.setCell ⟨b, 3, none⟩ outv') ob b d es n (J ++ [e0]) pend ev outv' wv (xs ++ [kv, nv, av, tv]) ∧ HallF W (W2.setCell ⟨b, 3, none⟩ outv') ∧ ∀ k, k < W.heap.size → k ≠ b → outv.ownBlock ≠ some k → (W2.setCell ⟨b, 3, none⟩ outv').heap[k]? = W.heap[k]? := by
  have hra := h.ma.row.alloc X
  have hal := alloc_lt W X
  have bxa := (Go.Lib.alloc_old W X _ (block_lt h.bx)).trans h.bx
  have bx2 := grown_at hg bxa (row_ne hra bxa (by decide))
  have j := just_put (j := 3) (cs2 := #[.int .i64 d, ev, .int .i64 n, outv', wv]) bx2 outv' (by simp)
  have hm2 : MadeE W2 ob outv' (J ++ [e0]) (xs ++ [kv, nv, av, tv]) := h.ma.more he hn hg hv
  have hbel : Below w0.heap.size w0 W2 := (h.evs.be.alloc h.evs.be.size X).grown hg (by have := h.evs.be.size; omega) (fun k hk => by have := (h.ma.row.lt k hk).1; have := h.lo; omega)
  have old : ∀ k, k < W.heap.size → outv.ownBlock ≠ some k → W2.heap[k]? = W.heap[k]? := fun k hk h3 => (hg.block k (by omega) (fun e => h3 e.symm)).trans (Go.Lib.alloc_old _ _ _ hk)
  have ew : RowE w0 w0.heap.size W2 ev es := h.evs.moved hbel (fun g hgv => old g (h.evs.lt hgv).2.1 (fun e => by have := (h.ma.row.lt g e).1; have := h.gap g hgv; omega))
  have ww : W2.ownsRowF ob 5 1 wv pend.length (byteCells pend) := rowF_of_block h.wd (fun g hgv => old g (rowF_lt h.wd hgv).2.1 (fun e => by
    obtain ⟨_, _, cur, fz, hc⟩ := rowF_lt h.wd hgv
    rcases h.ma.row.2 with ⟨rfl, _⟩ | ⟨g', cap, cur', rfl, _, hg1, _⟩
    · cases e
    · obtain rfl := Option.some.inj e
      rw [hg1] at hc
      simp only [Option.some.injEq, Obj.cells.injEq] at hc
      exact absurd hc.2.1 (by decide)))
  have hs2 : HallS w0 W2 ob b d es n (J ++ [e0]) pend ev outv wv xs → True := fun _ => trivial
  clear hs2
  have hbelj : Below w0.heap.size w0 (W2.setCell ⟨b, 3, none⟩ outv') := hbel.trans (just_low j h.lo.1)
  refine ⟨⟨j.at_, ew.moved hbelj (fun g hgv => j.other g (fun e => ?_)), ⟨row_just hm2.row bx2 (by decide) j.other, evs_mono (fun a' n' ys hr => row_just hr bx2 (by decide) j.other) _ _ hm2.evs, hm2.ap⟩, rowF_of_block ww (fun g hgv => j.other g (fun e => ?_)), h.gap, h.lo, by rw [j.size]; have := hg.size; have := h.hob; omega⟩, fun k cs T fz hk t1 t2 _ => ?_, fun k hk hkb hko => (j.other k hkb).trans (old k hk hko)⟩
  · obtain ⟨_, _, cur, hc⟩ := h.evs.lt hgv
    rw [e, h.bx] at hc
    simp only [Option.some.injEq, Obj.cells.injEq] at hc
    exact absurd hc.2.1 (by decide)
  · have := (rowF_lt ww hgv).1
    have := h.lo.2
    omega
  · have hkb : k ≠ b := fun e => by
      rw [e, h.bx] at hk
      simp only [Option.some.injEq, Obj.cells.injEq] at hk
      exact t1 hk.2.1.symm
    have hko : outv.ownBlock ≠ some k := fun e => by
      rcases h.ma.row.2 with ⟨rfl, _⟩ | ⟨g', cap, cur', rfl, _, hg1, _⟩
      · cases e
      · obtain rfl := Option.some.inj e
        rw [hg1] at hk
        simp only [Option.some.injEq, Obj.cells.injEq] at hk
        exact t2 hk.2.1.symm
    exact (j.other k hkb).trans (old k (block_lt hk) hko)
end Go.Proofs.YtkcgmimldjeaiaaDoor

/-
  The reference's hall: joined and put: their walks.
-/
namespace Go.Proofs.YtkcgmimldjeaiaaDoor
open Go.RowKit Go.Lib Own

structure HallOut (w0 w w' : World) (ob b d : Nat) (es : List EvP) (n : Nat) (J : List Ev) (pend : List UInt8) (ev : Value) : Prop where
  it : ∃ outv wv xs, HallS w0 w' ob b d es n J pend ev outv wv xs
  fr : HallF w w'
  sz : w.heap.size ≤ w'.heap.size
structure JoinOut (w0 w w' : World) (ob b d : Nat) (es : List EvP) (n : Nat) (J : List Ev) (ev outv0 : Value) (xs : List Value) : Prop where
  it : ∃ outv wv xs', HallS w0 w' ob b d es n J [] ev outv wv xs' ∧ ∀ g, NotIn g xs → NotIn g xs'
  fr : HallF w w'
  sz : w.heap.size ≤ w'.heap.size
  kp : ∀ k, k < w.heap.size → k ≠ b → outv0.ownBlock ≠ some k → w'.heap[k]? = w.heap[k]?
theorem rowF_nil (W : World) (base : Nat) : W.ownsRowF base 5 1 (.slice none 0 0) ([] : List UInt8).length (byteCells []) := ⟨rfl, .inl ⟨rfl, rfl⟩⟩
set_option maxHeartbeats 4000000 in
set_option maxRecDepth 100000 in
theorem joined_any (w0 : World) (ob b d n : Nat) (es : List EvP) (J : List Ev) (pend : List UInt8) (ev outv wv : Value) (xs : List Value) (w : World) (h : HallS w0 w ob b d es n J pend ev outv wv xs) (hl : J.length ≤ 100000000) (hp : pend.length ≤ 100000000) :
    Calls Tryd.prog 23 #[.pointer (some ⟨b, 0, none⟩)] w fun e w' => e = .returned (.tuple #[]) ∧ JoinOut w0 w w' ob b d es n (flushE (J, pend)) ev outv xs := by
  obtain ⟨i0, hi, hz0, hz1, hz2⟩ := info_parts info_event
  have hbl := h.hob
  obtain ⟨p, c, rfl⟩ : ∃ p c, wv = .slice p pend.length c := by
    rcases h.wd.2 with ⟨rfl, h0⟩ | ⟨g, cap, cur, fz, rfl, _⟩
    · exact ⟨none, 0, by rw [h0]⟩
    · exact ⟨_, cap, rfl⟩
  have c3 := cell_at h.bx (j := 3) rfl
  have c4 := cell_at h.bx (j := 4) rfl
  have f3 := free_at h.bx 3
  have f4 := free_at h.bx 4
  by_cases h0 : pend = []
  · subst h0
    have hfl : flushE (J, []) = J := by unfold flushE; rfl
    rw [hfl]
    have j := just_put (j := 4) (cs2 := #[.int .i64 d, ev, .int .i64 n, outv, .slice none 0 0]) h.bx (.slice none 0 0) (by simp)
    obtain ⟨g1, g2⟩ := h.field j (rowF_nil w ob)
    have HZ : Hid (JoinOut w0 w (w.setCell ⟨b, 4, none⟩ (.slice none 0 0)) ob b d es n J ev outv xs) := hid ⟨⟨_, _, xs, g1, fun _ h => h⟩, g2, by rw [j.size]; exact Nat.le_refl _, fun k _ hkb _ => j.other k hkb⟩
    clear h j g1 g2 hfl
    go_enter Tryd.func23, Tryd.ntmps23
    go_wp2
    go_end0
    exact ⟨rfl, HZ.out⟩
  · have hfl : flushE (J, pend) = J ++ [.text pend] := by unfold flushE; rw [if_neg h0]
    rw [hfl]
    have hpl : 0 < pend.length := List.length_pos_iff.2 h0
    have ht0 := own_textF w.drew ob _ pend (by exact h.wd)
    obtain ⟨BP, hBP⟩ : ∃ n, bs pend = n := ⟨_, rfl⟩
    rw [hBP] at ht0
    have hrow := h.ma.row
    have hneb : outv.ownBlock ≠ some b := row_ne hrow h.bx (by decide)
    have hbs := block_lt h.bx
    have HH := hid h
    have HB := hid hBP
    clear hfl h hBP
    go_enter Tryd.func23, Tryd.ntmps23
    go_wp2_with fail
    go_region_law (refine step_append_lies _ rfl (.tmp 12) (.tmp 19) 22 rfl ob 39 i0 (.agg #[.int .i64 0, .string ⟨#[]⟩, .slice none 0 0, .string ⟨#[]⟩]) 4 64 Tryd.underlying22 hi hz0 hz1 hz2 rfl (by decide) outv J.length xs (by simp [Act.eval]) (by exact hrow.alloc _) ⟨_, 0, none⟩ 1 1 [.int .i64 3, .string ⟨#[]⟩, .slice none 0 0, .string BP] (by simp [Act.eval]) rfl (cells_newV _ _ _) (by simp [Value.oneCell']) (by omega) (by unfold maxLen; omega) (by omega) (by simp; omega) _ rfl ?_; rintro g cap w10 hrow10 hgrow10 - -; have hb10 : w10.heap[b]? = some (.cells #[.int .i64 d, ev, .int .i64 n, outv, .slice p pend.length c] 52 (0, 0)) := ((hgrow10.block b (by simp; omega) (fun e => hneb e.symm)).trans (alloc_old _ _ b (by exact hbs))).trans (by exact HH.out.bx); have ce10 := cell_at hb10 (j := 3) rfl; have fe10 := free_at hb10 3)
    all_goals
      have hg10 : (w.alloc (.cells #[.int .i64 3, .string ⟨#[]⟩, .slice none 0 0, .string BP] 39)).grownBy w10 outv.ownBlock := ⟨hgrow10.os, hgrow10.tape, hgrow10.output, hgrow10.size, hgrow10.block⟩
      have hev0 : EvsAt w ob [.int .i64 3, .string ⟨#[]⟩, .slice none 0 0, .string BP] [.text pend] := ⟨⟨rfl, rfl, rfl, by rw [← HB.out]; rfl⟩, trivial⟩
      obtain ⟨p1, p2, p3⟩ := HH.out.push hev0 (fun g e => by cases e) hg10 hrow10
      have hxs : ∀ g, NotIn g xs → NotIn g (xs ++ [.int .i64 3, .string ⟨#[]⟩, .slice none 0 0, .string BP]) := fun g h => notIn_snoc (fun e => by cases e) _ _ HH.out.ma.evs h
      have hsz1 : w.heap.size ≤ (w10.setCell ⟨b, 3, none⟩ (.slice (some ⟨g, 0, none⟩) (J.length + 1) cap)).heap.size := by
        have h1 := hg10.size
        have h2 := alloc_lt w (.cells #[.int .i64 3, .string ⟨#[]⟩, .slice none 0 0, .string BP] 39)
        have h3 := (just_put (j := 3) hb10 (.slice (some ⟨g, 0, none⟩) (J.length + 1) cap) rfl).size
        omega
      generalize w10.setCell ⟨b, 3, none⟩ (.slice (some ⟨g, 0, none⟩) (J.length + 1) cap) = W9 at p1 p2 p3 hsz1 ⊢
      have c9 := cell_at p1.bx (j := 4) rfl
      have f9 := free_at p1.bx 4
      have j9 := just_put (j := 4) (cs2 := #[.int .i64 d, ev, .int .i64 n, .slice (some ⟨g, 0, none⟩) (J.length + 1) cap, .slice none 0 0]) p1.bx (.slice none 0 0) (by simp)
      obtain ⟨g1, g2⟩ := p1.field j9 (rowF_nil W9 ob)
      have HZ : Hid (JoinOut w0 w (W9.setCell ⟨b, 4, none⟩ (.slice none 0 0)) ob b d es n (J ++ [.text pend]) ev outv xs) := hid ⟨⟨_, _, _, g1, hxs⟩, p2.trans g2, by rw [j9.size]; exact hsz1, fun k hk hkb hko => (j9.other k hkb).trans (p3 k hk hkb hko)⟩
      clear c3 c4 f3 f4 ht0 hrow hneb hrow10 hgrow10 hb10 ce10 fe10 hg10 hev0 p1 p2 p3 hxs hsz1 j9 g1 g2 HH HB
      go_wp2
      go_end0
      exact ⟨rfl, HZ.out⟩
set_option maxHeartbeats 4000000 in
set_option maxRecDepth 100000 in
theorem putH_any (w0 : World) (ob b d n : Nat) (es : List EvP) (J : List Ev) (pend : List UInt8) (ev outv wv : Value) (xs : List Value) (kk : Int) (nb tb : ByteArray) (ap : Option Addr) (an ac : Nat) (e0 : Ev) (w : World) (h : HallS w0 w ob b d es n J pend ev outv wv xs) (hl : J.length ≤ 90000000) (hp : pend.length ≤ 100000000)
    (he : EvsAt w ob [.int .i64 kk, .string nb, .slice ap an ac, .string tb] [e0]) (hn : ∀ g, (Value.slice ap an ac).ownBlock = some g → NotIn g xs) :
    Calls Tryd.prog 120 #[.pointer (some ⟨b, 0, none⟩), .agg #[.int .i64 kk, .string nb, .slice ap an ac, .string tb]] w fun e w' => e = .returned (.tuple #[]) ∧ HallOut w0 w w' ob b d es n (flushE (J, pend) ++ [e0]) [] ev := by
  obtain ⟨i0, hi, hz0, hz1, hz2⟩ := info_parts info_event
  obtain ⟨W1, hW1⟩ : ∃ W1, w.alloc (.cells #[.int .i64 kk, .string nb, .slice ap an ac, .string tb] 39) = W1 := ⟨_, rfl⟩
  have hb1 : Below w.heap.size w W1 := by rw [← hW1]; exact (Below.refl _ _).alloc (Nat.le_refl _) _
  have n1 : W1.heap[w.heap.size]? = some (.cells #[.int .i64 kk, .string nb, .slice ap an ac, .string tb] 39 (0, 0)) := by rw [← hW1]; exact heap_alloc_new _ _
  have h1 := h.below hb1
  have he1 : EvsAt W1 ob [.int .i64 kk, .string nb, .slice ap an ac, .string tb] [e0] := evs_mono (fun _ _ _ hr => row_below hr hb1) _ _ he
  have hj := joined_any w0 ob b d n es J pend ev outv wv xs W1 h1 (by omega) hp
  have hfl : (flushE (J, pend)).length ≤ 90000001 := by
    unfold flushE
    split
    · simp only; omega
    · simp only [List.length_append, List.length_singleton]; omega
  have HJ := hid hj
  have HE := hid (And.intro he1 (And.intro hn hb1))
  have hnew : outv.ownBlock ≠ some w.heap.size := fun e => by have := (h.ma.row.lt _ e).2; omega
  have hnb : w.heap.size ≠ b := by have := block_lt h.bx; omega
  have HN := hid (And.intro n1 (And.intro hnew hnb))
  clear n1 hb1 he1 he hn hj h1 h hnew hnb
  go_enter Tryd.func120, Tryd.ntmps120
  go_upto_region 1 with fail
  (try simp only [hW1])
  clear hW1
  go_wp2_with fail
  refine HJ.out.mono ?_
  rintro e W2 ⟨rfl, hjo⟩
  obtain ⟨⟨outv2, wv2, xs2, h2, hx2⟩, hf2, hs2, hk2⟩ := hjo
  have n2 := (hk2 _ (block_lt HN.out.1) HN.out.2.2 HN.out.2.1).trans HN.out.1
  have q0 := cell_at n2 (j := 0) rfl
  have q1 := cell_at n2 (j := 1) rfl
  have q2 := cell_at n2 (j := 2) rfl
  have q3 := cell_at n2 (j := 3) rfl
  have c3 := cell_at h2.bx (j := 3) rfl
  have f3 := free_at h2.bx 3
  have hrow := h2.ma.row
  have hneb : outv2.ownBlock ≠ some b := row_ne hrow h2.bx (by decide)
  have hbs := block_lt h2.bx
  have hbl := h2.hob
  have he2 : EvsAt W2 ob [.int .i64 kk, .string nb, .slice ap an ac, .string tb] [e0] := evs_mono (fun _ _ _ hr => hf2.row hr (by decide) (by decide) (by decide)) _ _ HE.out.1
  have H2 := hid (And.intro h2 (And.intro hf2 (And.intro hs2 (And.intro he2 hx2))))
  clear n2 h2 hf2 hs2 he2 hx2 hk2 HJ HN
  go_wp2_with fail
  go_region_law (refine step_append_lies _ rfl (.tmp 10) (.tmp 12) 22 rfl ob 39 i0 (.agg #[.int .i64 0, .string ⟨#[]⟩, .slice none 0 0, .string ⟨#[]⟩]) 4 64 Tryd.underlying22 hi hz0 hz1 hz2 rfl (by decide) outv2 (flushE (J, pend)).length xs2 (by simp [Act.eval]) (by exact hrow.alloc _) ⟨_, 0, none⟩ 1 1 [.int .i64 kk, .string nb, .slice ap an ac, .string tb] (by simp [Act.eval]) rfl (cells_newV _ _ _) (by simp [Value.oneCell']) (by omega) (by unfold maxLen; omega) (by omega) (by simp; omega) _ rfl ?_; rintro g cap w10 hrow10 hgrow10 - -; have hb10 : w10.heap[b]? = some (.cells #[.int .i64 d, ev, .int .i64 n, outv2, wv2] 52 (0, 0)) := ((hgrow10.block b (by simp; omega) (fun e => hneb e.symm)).trans (alloc_old _ _ b (by exact hbs))).trans (by exact H2.out.1.bx); have ce10 := cell_at hb10 (j := 3) rfl; have fe10 := free_at hb10 3)
  all_goals
    have hg10 : (W2.alloc (.cells #[.int .i64 kk, .string nb, .slice ap an ac, .string tb] 39)).grownBy w10 outv2.ownBlock := ⟨hgrow10.os, hgrow10.tape, hgrow10.output, hgrow10.size, hgrow10.block⟩
    obtain ⟨p1, p2, p3⟩ := H2.out.1.push H2.out.2.2.2.1 (fun g e => H2.out.2.2.2.2 g (HE.out.2.1 g e)) hg10 hrow10
    have hsz1 : W2.heap.size ≤ (w10.setCell ⟨b, 3, none⟩ (.slice (some ⟨g, 0, none⟩) ((flushE (J, pend)).length + 1) cap)).heap.size := by
      have h1 := hg10.size
      have h2 := alloc_lt W2 (.cells #[.int .i64 kk, .string nb, .slice ap an ac, .string tb] 39)
      have h3 := (just_put (j := 3) hb10 (.slice (some ⟨g, 0, none⟩) ((flushE (J, pend)).length + 1) cap) rfl).size
      omega
    have HZ : Hid (HallOut w0 w (w10.setCell ⟨b, 3, none⟩ (.slice (some ⟨g, 0, none⟩) ((flushE (J, pend)).length + 1) cap)) ob b d es n (flushE (J, pend) ++ [e0]) [] ev) := hid ⟨⟨_, _, _, p1⟩, ((HallF.of_below HE.out.2.2).trans H2.out.2.1).trans p2, by have := H2.out.2.2.1; have := HE.out.2.2.size; omega⟩
    clear q0 q1 q2 q3 c3 f3 hrow hneb hrow10 hgrow10 hb10 ce10 fe10 hg10 p1 p2 p3 hsz1 H2 HE
    go_wp2
    go_end0
    exact ⟨rfl, HZ.out⟩
end Go.Proofs.YtkcgmimldjeaiaaDoor

/-
  The reference's recursion, plainly: what stands before and behind each call.
-/
namespace Go.Proofs.YtkcgmimldjeaiaaDoor
open Go.RowKit Go.Lib Own

/-- how many elements the event at hand implies here -/
def leftL (op : List (List UInt8)) (e : EvP) : Nat := if e.k = 1 then (impP (nestP (modO op) (clsX e.n))).length else if e.k = 3 then (impP (nestP (modO op) 3)).length else 0
def muL (op : List (List UInt8)) (es : List EvP) (n : Nat) : Nat := 5 * (es.length - n) + (match es[n]? with | none => 0 | some e => leftL op e)
theorem leftL_le (op : List (List UInt8)) (e : EvP) : leftL op e ≤ 3 := by
  unfold leftL
  split
  · exact imp_len _
  · split
    · exact imp_len _
    · omega
theorem closeE_all (op : List (List UInt8)) : closeE op.length op = [] := by unfold closeE; rw [List.drop_length]; rfl
theorem closeE_snoc {op : List (List UInt8)} {x : List UInt8} {k : Nat} (h : k ≤ op.length) : closeE k (op ++ [x]) = .stop x :: closeE k op := by
  unfold closeE
  rw [List.drop_append_of_le_length h, List.reverse_append, List.map_append]
  rfl
theorem take_snoc {op : List (List UInt8)} {x : List UInt8} {k : Nat} (h : k ≤ op.length) : (op ++ [x]).take k = op.take k := List.take_append_of_le_length h
theorem modO_snoc (op : List (List UInt8)) (x : List UInt8) : modO (op ++ [x]) = modX x := by unfold modO; rw [List.getLast?_concat]
theorem raw_nil (d : Nat) (op : List (List UInt8)) : rawB d op [] = closeE 0 op ++ rawB d (op.take 0) [] := by
  rw [List.take_zero]
  show closeE 0 op = closeE 0 op ++ closeE 0 []
  rw [show closeE 0 ([] : List (List UInt8)) = [] from rfl, List.append_nil]
theorem raw_other {d : Nat} {op : List (List UInt8)} {e : EvP} {r : List EvP} (h1 : e.k ≠ 1) (h2 : e.k ≠ 2) (h3 : e.k ≠ 3) : rawB d op (e :: r) = rawB d op r := by
  rw [rawB_step]
  unfold balS
  rw [if_neg h1, if_neg h2, if_neg h3]
  rfl
theorem raw_unknown {d : Nat} {op : List (List UInt8)} {e : EvP} {r : List EvP} (h1 : e.k = 1) (h : elemL e.n = none) : rawB d op (e :: r) = rawB d op r := by
  rw [rawB_step]
  unfold balS
  rw [if_pos h1]
  unfold startP
  rw [if_pos h]
  rfl
theorem raw_end {d : Nat} {op : List (List UInt8)} {e : EvP} {r : List EvP} (h2 : e.k = 2) (ho : ∀ x ∈ op, elemL x ≠ none) : (closesI op e.n op.length = -1 ∧ rawB d op (e :: r) = rawB d op r) ∨ ∃ k, k < op.length ∧ closesI op e.n op.length = (k : Int) ∧ rawB d op (e :: r) = closeE k op ++ rawB d (op.take k) r := by
  have h1 : ¬ e.k = 1 := by omega
  by_cases hk : elemL e.n = none
  · refine .inl ⟨closesI_none op e.n ho hk _ (Nat.le_refl _), ?_⟩
    rw [rawB_step]
    unfold balS
    rw [if_neg h1, if_pos h2]
    unfold endP
    rw [if_pos hk]
    rfl
  · rw [closesI_same, rawB_step]
    unfold balS
    rw [if_neg h1, if_pos h2, endP_eq op e.n hk]
    cases hc : closesP op e.n op.length with
    | none => exact .inl ⟨rfl, rfl⟩
    | some k => exact .inr ⟨k, closes_lt hc, rfl, rfl⟩
theorem raw_text_take {d : Nat} {op : List (List UInt8)} {e : EvP} {r : List EvP} (h3 : e.k = 3) (h : nestP (modO op) 3 = 2) (s : List Ev × List UInt8) : putEs s (rawB d op (e :: r)) = putEs (s.1, s.2 ++ e.t) (rawB d op r) := by
  rw [rawB_step]
  unfold balS
  rw [if_neg (by omega), if_neg (by omega), if_pos h3]
  unfold textP
  rw [if_pos h]
  by_cases ht : e.t = []
  · rw [ht, if_pos rfl, List.append_nil]; rfl
  · rw [if_neg ht]; rfl
theorem raw_text_no {d : Nat} {op : List (List UInt8)} {e : EvP} {r : List EvP} (h3 : e.k = 3) (h : nestP (modO op) 3 ≠ 2) (h4 : trimP e.t = [] ∨ d < op.length + (impP (nestP (modO op) 3)).length) : rawB d op (e :: r) = rawB d op r := by
  rw [rawB_step]
  unfold balS
  rw [if_neg (by omega), if_neg (by omega), if_pos h3]
  unfold textP
  rw [if_neg h, if_pos h4]
  rfl
theorem trim_trim (t : List UInt8) : trimP (trimP t) = trimP t := by
  unfold trimP
  induction t with
  | nil => rfl
  | cons c r ih =>
    by_cases h : spaceC c = true
    · rw [List.dropWhile_cons_of_pos h]; exact ih
    · rw [List.dropWhile_cons_of_neg h, List.dropWhile_cons_of_neg h]
theorem raw_text_imp {d : Nat} {op : List (List UInt8)} {e : EvP} {r : List EvP} (ho : OpenOk op) (h3 : e.k = 3) (h : 3 ≤ nestP (modO op) 3) (ht : trimP e.t ≠ []) (hd : op.length + (impP (nestP (modO op) 3)).length ≤ d) :
    rawB d op (e :: r) = .start (sayW (nestP (modO op) 3)) [] :: rawB d (op ++ [sayW (nestP (modO op) 3)]) ({ e with t := trimP e.t } :: r) := by
  obtain ⟨s1, s2, s3, s4, s5, s6, s7⟩ := say_next (modO op) (by have := ho.mod; omega) 3 (by omega) h
  have hp : nestP (modO op) 3 ≠ 2 := by omega
  rw [rawB_step, rawB_step]
  unfold balS
  rw [if_neg (by omega), if_neg (by omega), if_pos h3, if_neg (show ¬ ({ e with t := trimP e.t } : EvP).k = 1 from by show ¬ e.k = 1; omega), if_neg (show ¬ ({ e with t := trimP e.t } : EvP).k = 2 from by show ¬ e.k = 2; omega), if_pos (show ({ e with t := trimP e.t } : EvP).k = 3 from h3)]
  unfold textP
  rw [if_neg hp, if_neg (fun q => q.elim ht (fun q => by omega)), modO_snoc, s4]
  show (_, _).2 ++ rawB d (_, _).1 r = _
  simp only
  rw [s4] at hd
  simp only [List.length_cons] at hd
  by_cases h2 : nestP (modX (sayW (nestP (modO op) 3))) 3 = 2
  · rw [if_pos h2, if_neg ht, imp_small (by omega : nestP (modX (sayW (nestP (modO op) 3))) 3 < 3)]
    rfl
  · rw [if_neg h2, trim_trim, if_neg (fun q => q.elim ht (fun q => by rw [List.length_append, List.length_singleton] at q; omega))]
    simp only [List.append_assoc, List.singleton_append]
    rfl
theorem land_no {d : Nat} {op : List (List UInt8)} {x : List UInt8} (h : landI d op x < 0) : (findP (clsX x) op (reachP op x)).2 = 0 ∨ d < (findP (clsX x) op (reachP op x)).1 + (impP (findP (clsX x) op (reachP op x)).2).length + 1 := by
  by_cases q : (findP (clsX x) op (reachP op x)).2 = 0 ∨ d < (findP (clsX x) op (reachP op x)).1 + (impP (findP (clsX x) op (reachP op x)).2).length + 1
  · exact q
  · unfold landI at h
    rw [if_neg q] at h
    omega
theorem land_yes {d k : Nat} {op : List (List UInt8)} {x : List UInt8} (h : landI d op x = (k : Int)) : ∃ p, findP (clsX x) op (reachP op x) = (k, p) ∧ p ≠ 0 ∧ p ≠ 1 ∧ p = nestP (modO (op.take k)) (clsX x) ∧ k ≤ reachP op x ∧ ¬ d < k + (impP p).length + 1 := by
  by_cases q : (findP (clsX x) op (reachP op x)).2 = 0 ∨ d < (findP (clsX x) op (reachP op x)).1 + (impP (findP (clsX x) op (reachP op x)).2).length + 1
  · unfold landI at h
    rw [if_pos q] at h
    omega
  · unfold landI at h
    rw [if_neg q] at h
    obtain ⟨a1, a2⟩ := findP_at (clsX x) op (reachP op x)
    have a3 := findP_le (clsX x) op (reachP op x)
    generalize findP (clsX x) op (reachP op x) = F at *
    obtain ⟨f1, f2⟩ := F
    simp only at *
    have hk : f1 = k := by omega
    subst hk
    have h0 : f2 ≠ 0 := fun e => q (.inl e)
    exact ⟨f2, rfl, h0, a1, a2 h0, a3, fun e => q (.inr e)⟩
theorem reach_take {op : List (List UInt8)} {x : List UInt8} {k : Nat} (h : k ≤ reachP op x) : reachP (op.take k) x = k := by
  have hl := reachP_le op x
  unfold reachP at h ⊢
  by_cases hx : x = aN
  · rw [if_pos hx] at h ⊢
    have : aN ∉ op.take k := fun hm => by
      have h1 : op = op.take k ++ op.drop k := (List.take_append_drop k op).symm
      have h2 : List.idxOf aN op = List.idxOf aN (op.take k ++ op.drop k) := congrArg (List.idxOf aN) h1
      rw [List.idxOf_append, if_pos hm] at h2
      have h3 := List.idxOf_lt_length_iff.2 hm
      rw [List.length_take] at h3
      omega
    rw [List.idxOf_eq_length this, List.length_take]
    have := List.idxOf_le_length (a := aN) (l := op)
    omega
  · rw [if_neg hx] at h ⊢
    rw [List.length_take]
    omega
theorem start_goes {d : Nat} {op : List (List UInt8)} {x : List UInt8} {al : List AttrP} {k p : Nat} (hx : elemL x ≠ none) (hf : findP (clsX x) op (reachP op x) = (k, p)) (hp : p ≠ 0) (hd : ¬ d < k + (impP p).length + 1) :
    startP d op x al = (op.take k ++ impP p ++ (if modX x = 9 then [] else [x]), closeE k op ++ openE (impP p) ++ [.start x al]) := by
  unfold startP
  rw [if_neg hx, hf, if_neg (fun q => q.elim hp hd)]
theorem raw_start {d : Nat} {op : List (List UInt8)} {e : EvP} {r : List EvP} (h1 : e.k = 1) : rawB d op (e :: r) = (startP d op e.n e.a).2 ++ rawB d (startP d op e.n e.a).1 r := by
  rw [rawB_step]
  unfold balS
  rw [if_pos h1]
theorem raw_start_no {d : Nat} {op : List (List UInt8)} {e : EvP} {r : List EvP} (h1 : e.k = 1) (h : landI d op e.n < 0) : rawB d op (e :: r) = rawB d op r := by
  rw [raw_start h1]
  unfold startP
  split
  · rfl
  · rw [if_pos (land_no h)]; rfl
theorem find_self {op : List (List UInt8)} {x : List UInt8} {k p : Nat} (hr : k ≤ reachP op x) (h2 : p = nestP (modO (op.take k)) (clsX x)) (h1 : p ≠ 1) : findP (clsX x) (op.take k) (reachP (op.take k) x) = (k, p) := by
  rw [reach_take hr, findP_take _ _ _ _ (Nat.le_refl _)]
  exact findP_self h2.symm h1
theorem raw_start_up {d k : Nat} {op : List (List UInt8)} {e : EvP} {r : List EvP} (h1 : e.k = 1) (hx : elemL e.n ≠ none) (h : landI d op e.n = (k : Int)) : rawB d op (e :: r) = closeE k op ++ rawB d (op.take k) (e :: r) := by
  obtain ⟨p, hf, p0, p1, pn, hk, hd⟩ := land_yes h
  rw [raw_start h1, raw_start h1, start_goes hx hf p0 hd, start_goes hx (find_self hk pn p1) p0 hd]
  have hc : closeE k (op.take k) = [] := by
    have hkl : k ≤ op.length := Nat.le_trans hk (reachP_le _ _)
    have := closeE_all (op.take k)
    rw [List.length_take, Nat.min_eq_left hkl] at this
    exact this
  rw [hc, List.take_take, Nat.min_self]
  simp only [List.append_assoc, List.nil_append]
theorem land_take {d k : Nat} {op : List (List UInt8)} {x : List UInt8} (h : landI d op x = (k : Int)) : landI d (op.take k) x = (k : Int) := by
  obtain ⟨p, hf, p0, p1, pn, hk, hd⟩ := land_yes h
  unfold landI
  rw [find_self hk pn p1, if_neg (fun q => q.elim p0 hd)]
theorem raw_start_take {d : Nat} {op : List (List UInt8)} {e : EvP} {r : List EvP} (h1 : e.k = 1) (hx : elemL e.n ≠ none) (h : landI d op e.n = (op.length : Int)) (h2 : nestP (modO op) (clsX e.n) = 2) : rawB d op (e :: r) = .start e.n e.a :: rawB d (op ++ if modX e.n = 9 then [] else [e.n]) r := by
  obtain ⟨p, hf, p0, p1, pn, hk, hd⟩ := land_yes h
  rw [List.take_length, h2] at pn
  subst pn
  rw [raw_start h1, start_goes hx hf p0 hd, closeE_all, List.take_length, imp_small (by omega : 2 < 3), List.append_nil]
  rfl
theorem land_says {d : Nat} {op : List (List UInt8)} {x : List UInt8} (h : landI d op x = (op.length : Int)) : nestP (modO op) (clsX x) = 2 ∨ 3 ≤ nestP (modO op) (clsX x) := by
  obtain ⟨p, _, p0, p1, pn, _, _⟩ := land_yes h
  rw [List.take_length] at pn
  omega
theorem raw_start_imp {d : Nat} {op : List (List UInt8)} {e : EvP} {r : List EvP} (ho : OpenOk op) (h1 : e.k = 1) (hx : elemL e.n ≠ none) (h : landI d op e.n = (op.length : Int)) (h2 : 3 ≤ nestP (modO op) (clsX e.n)) :
    rawB d op (e :: r) = .start (sayW (nestP (modO op) (clsX e.n))) [] :: rawB d (op ++ [sayW (nestP (modO op) (clsX e.n))]) (e :: r) ∧ landI d (op ++ [sayW (nestP (modO op) (clsX e.n))]) e.n = ((op.length + 1 : Nat) : Int) := by
  obtain ⟨p, hf, p0, p1, pn, hk, hd⟩ := land_yes h
  rw [List.take_length] at pn
  have hc := clsX_le e.n
  obtain ⟨s1, s2, s3, s4, s5, s6, s7⟩ := say_next (modO op) (by have := ho.mod; omega) (clsX e.n) (by omega) h2
  subst pn
  generalize hy : sayW (nestP (modO op) (clsX e.n)) = y at *
  have hr : reachP (op ++ [y]) e.n = op.length + 1 := by
    unfold reachP at hk ⊢
    by_cases hxa : e.n = aN
    · rw [if_pos hxa] at hk ⊢
      have hno : aN ∉ op ++ [y] := fun hm => by
        rcases List.mem_append.1 hm with h4 | h4
        · have := List.idxOf_lt_length_iff.2 h4; omega
        · rw [List.mem_singleton] at h4; exact s7 h4.symm
      rw [List.idxOf_eq_length hno, List.length_append]; rfl
    · rw [if_neg hxa, List.length_append]; rfl
  have hf2 : findP (clsX e.n) (op ++ [y]) (reachP (op ++ [y]) e.n) = (op.length + 1, nestP (modX y) (clsX e.n)) := by
    rw [hr]
    refine findP_self ?_ s5
    rw [List.take_of_length_le (by rw [List.length_append]; exact Nat.le_refl _), modO_snoc]
  rw [s4] at hd
  simp only [List.length_cons] at hd
  have hd2 : ¬ d < op.length + 1 + (impP (nestP (modX y) (clsX e.n))).length + 1 := by omega
  refine ⟨?_, ?_⟩
  · rw [raw_start h1, raw_start h1, start_goes hx hf p0 (by rw [s4]; simp only [List.length_cons]; omega), start_goes hx hf2 s6 hd2, closeE_all, List.take_length, s4]
    have hc2 : closeE (op.length + 1) (op ++ [y]) = [] := by
      have := closeE_all (op ++ [y])
      rw [List.length_append] at this
      exact this
    have ht2 : (op ++ [y]).take (op.length + 1) = op ++ [y] := List.take_of_length_le (by rw [List.length_append]; exact Nat.le_refl _)
    rw [hc2, ht2]
    simp only [List.append_assoc, List.nil_append, List.cons_append]
    rfl
  · unfold landI
    rw [hf2, if_neg (fun q => q.elim s6 hd2)]
end Go.Proofs.YtkcgmimldjeaiaaDoor

/-
  The reference's enter: its walk, with what inside answers for fewer events.
-/
namespace Go.Proofs.YtkcgmimldjeaiaaDoor
open Go.RowKit Go.Lib Own

def sizeE : Ev → Nat
  | .text b => 1 + b.length
  | _ => 1
def potL (l : List Ev) : Nat := (l.map sizeE).sum
def potS (s : List Ev × List UInt8) : Nat := potL s.1 + s.2.length
theorem potL_app (a b : List Ev) : potL (a ++ b) = potL a + potL b := by unfold potL; rw [List.map_append, List.sum_append]
theorem potL_len : ∀ l : List Ev, l.length ≤ potL l
  | [] => Nat.le_refl _
  | e :: l => by
    have h := potL_len l
    have h1 : 1 ≤ sizeE e := by
      cases e with
      | text b => exact Nat.le_add_right 1 _
      | start n a => exact Nat.le_refl 1
      | stop n => exact Nat.le_refl 1
    show l.length + 1 ≤ (sizeE e :: l.map sizeE).sum
    rw [List.sum_cons]
    unfold potL at h
    omega
theorem pot_flush (s : List Ev × List UInt8) : potS s ≤ potL (flushE s) := by
  unfold flushE potS
  split
  · rename_i h; rw [h]; exact Nat.le_refl _
  · rw [potL_app]; show potL s.1 + s.2.length ≤ potL s.1 + ((1 + s.2.length) + 0); omega
theorem pot_put (s : List Ev × List UInt8) (e : Ev) : potS s ≤ potS (putE s e) := by
  by_cases h : evK e = 3
  · cases e with
    | text b => unfold potS; show _ ≤ potL s.1 + (s.2 ++ b).length; rw [List.length_append]; omega
    | start n a => exact absurd h (by show (1 : Nat) ≠ 3; omega)
    | stop n => exact absurd h (by show (2 : Nat) ≠ 3; omega)
  · rw [putE_other s e h]
    have := pot_flush s
    unfold potS at *
    rw [potL_app]
    simp only [List.length_nil]
    omega
theorem pot_puts : ∀ (l : List Ev) (s : List Ev × List UInt8), potS s ≤ potS (putEs s l)
  | [], _ => Nat.le_refl _
  | e :: l, s => Nat.le_trans (pot_put s e) (pot_puts l (putE s e))
theorem putEs_cons (s : List Ev × List UInt8) (e : Ev) (l : List Ev) : putEs s (e :: l) = putEs (putE s e) l := rfl
/-- the events' bounds -/
structure EsB (es : List EvP) : Prop where
  len : es.length ≤ 10000000
  each : ∀ e ∈ es, e.t.length ≤ 10000000 ∧ e.a.length ≤ 10000000
theorem EsB.set {es : List EvP} (h : EsB es) {n : Nat} {e : EvP} (he : es[n]? = some e) (t : List UInt8) (ht : t.length ≤ e.t.length) : EsB (es.set n { e with t := t }) :=
  ⟨by rw [List.length_set]; exact h.len, fun y hy => by
    rcases List.mem_or_eq_of_mem_set hy with h5 | h5
    · exact h.each y h5
    · subst h5
      have := h.each e (List.mem_of_getElem? he)
      exact ⟨Nat.le_trans ht this.1, this.2⟩⟩
/-- the event at hand is a start that closes elements first -/
def UpAt (d : Nat) (op : List (List UInt8)) (es : List EvP) (n stay : Nat) : Prop := ∃ e, es[n]? = some e ∧ e.k = 1 ∧ elemL e.n ≠ none ∧ landI d op e.n = (stay : Int) ∧ stay < op.length
structure GoOut (w0 w w' : World) (ob b d : Nat) (es : List EvP) (ev : Value) (R : List Ev × List UInt8) (op : List (List UInt8)) (stay : Nat) (Pr : Nat → Prop) : Prop where
  it : ∃ (es' : List EvP) (n' : Nat) (s' : List Ev × List UInt8) (outv wv : Value) (xs : List Value), HallS w0 w' ob b d es' n' s'.1 s'.2 ev outv wv xs ∧ (es'.length = es.length ∧ EsB es' ∧ n' ≤ es.length) ∧ R = putEs s' (closeE stay op ++ rawB d (op.take stay) (es'.drop n')) ∧ Pr n'
  fr : HallF w w'
  sz : w.heap.size ≤ w'.heap.size
structure Stay (e : Ending) (Q : Nat → Prop) : Prop where
  it : ∃ k : Nat, e = .returned (.int .i64 k) ∧ Q k
/-- a path in memory -/
def PathR (w : World) (pv : Value) (op : List (List UInt8)) : Prop := ∃ pb, w.ownsRow pb 9 1 pv op.length (wordsV op)
theorem PathR.words {w : World} {pv : Value} {op : List (List UInt8)} (h : PathR w pv op) : Words w pv op := by
  obtain ⟨pb, h⟩ := h
  exact Words.row h
theorem PathR.hall {w w' : World} {pv : Value} {op : List (List UInt8)} (h : PathR w pv op) (hf : HallF w w') : PathR w' pv op := by
  obtain ⟨pb, h⟩ := h
  exact ⟨pb, hf.row h (by decide) (by decide) (by decide)⟩
def insideP (d : Nat) (es : List EvP) (n : Nat) (op : List (List UInt8)) (stay n' : Nat) : Prop := (stay < op.length ∨ (op = [] ∧ stay = 0 ∧ es.length ≤ n')) ∧ n ≤ n' ∧ (n < n' ∨ es.length ≤ n ∨ UpAt d op es n stay)
/-- what inside answers while the measure is small -/
def InsideC (w0 : World) (ob b d M : Nat) : Prop := ∀ (op : List (List UInt8)) (pv : Value) (es : List EvP) (n : Nat) (s : List Ev × List UInt8) (ev outv wv : Value) (xs : List Value) (w : World), muL op es n < M → OpenOk op → op.length ≤ d → d ≤ 256 → n ≤ es.length → EsB es →
  HallS w0 w ob b d es n s.1 s.2 ev outv wv xs → PathR w pv op → potS (putEs s (rawB d op (es.drop n))) ≤ 80000000 →
  Calls Tryd.prog 22 #[.pointer (some ⟨b, 0, none⟩), pv] w fun e w' => Stay e (fun stay => GoOut w0 w w' ob b d es ev (putEs s (rawB d op (es.drop n))) op stay (insideP d es n op stay))
theorem OpenOk.snoc {op : List (List UInt8)} {x : List UInt8} (h : OpenOk op) (hx : elemL x ≠ none) (hv : modX x ≠ 9) (hc : (op ++ [x]).count aN ≤ 1) : OpenOk (op ++ [x]) := ⟨fun y hy => by
  rcases List.mem_append.1 hy with h1 | h1
  · exact h.known y h1
  · rw [List.mem_singleton] at h1; subst h1; exact ⟨hx, hv⟩, hc⟩
theorem row_oneWord (W : World) (x : ByteArray) : (W.alloc (.cells #[.string x] 9)).ownsRow W.heap.size 9 1 (.slice (some ⟨W.heap.size, 0, none⟩) 1 1) 1 [.string x] :=
  ⟨rfl, .inr ⟨W.heap.size, 1, #[.string x], rfl, Nat.le_refl _, heap_alloc_new W _, Nat.le_refl _, by decide, rfl, rfl⟩⟩
set_option maxHeartbeats 8000000 in
set_option maxRecDepth 100000 in
theorem enter_any (w0 : World) (ob b d M : Nat) (hM : InsideC w0 ob b d M) (op : List (List UInt8)) (pv : Value) (x : List UInt8) (es : List EvP) (n : Nat) (s : List Ev × List UInt8) (ev outv wv av : Value) (al : List AttrP) (xs : List Value) (w : World) (hmu : muL (op ++ [x]) es n < M) (ho : OpenOk op) (hx : elemL x ≠ none) (hv : modX x ≠ 9) (hc : (op ++ [x]).count aN ≤ 1)
    (hd : op.length + 1 ≤ d) (hd2 : d ≤ 256) (hn : n ≤ es.length) (hes : EsB es) (h : HallS w0 w ob b d es n s.1 s.2 ev outv wv xs) (hp : PathR w pv op) (ha : w.ownsRow ob 101 2 av al.length (attrsV al)) (hav : ∀ g, av.ownBlock = some g → NotIn g xs)
    (hpot : potS (putEs s (.start x al :: rawB d (op ++ [x]) (es.drop n))) ≤ 80000000) :
    Calls Tryd.prog 86 #[.pointer (some ⟨b, 0, none⟩), pv, .string (bs x), av] w fun e w' => Stay e (fun stay => GoOut w0 w w' ob b d es ev (putEs s (.start x al :: rawB d (op ++ [x]) (es.drop n))) op stay (fun n' => stay ≤ op.length ∧ n ≤ n' ∧ (n < n' ∨ es.length ≤ n ∨ UpAt d (op ++ [x]) es n stay))) := by
  have hpt := Nat.le_trans (pot_puts _ s) hpot
  have hpl : s.1.length ≤ 80000000 ∧ s.2.length ≤ 80000000 := by
    have := potL_len s.1
    unfold potS at hpt
    omega
  have hvd : voidL x = false := by rw [void_mod, beq_eq_false_iff_ne]; exact hv
  obtain ⟨pp, pc, rfl⟩ : ∃ p c, pv = .slice p op.length c := by
    obtain ⟨pb, h⟩ := hp
    exact row_shape h
  obtain ⟨ap, ac, rfl⟩ := row_shape ha
  have hput := putH_any w0 ob b d n es s.1 s.2 ev outv wv xs 1 (bs x) ⟨#[]⟩ ap al.length ac (.start x al) w h (by omega) (by omega) ⟨⟨rfl, rfl, ha, rfl⟩, trivial⟩ hav
  have hvo := fun W => refVoid_any (bs x) W
  rw [bs_toList, hvd] at hvo
  have hop2 := ho.snoc hx hv hc
  have hR : putEs s (.start x al :: rawB d (op ++ [x]) (es.drop n)) = putEs (flushE s ++ [.start x al], []) (rawB d (op ++ [x]) (es.drop n)) := rfl
  obtain ⟨R, hRR⟩ : ∃ R, putEs s (.start x al :: rawB d (op ++ [x]) (es.drop n)) = R := ⟨_, rfl⟩
  rw [hRR] at hR hpot ⊢
  obtain ⟨BX, hBX⟩ : ∃ n, bs x = n := ⟨_, rfl⟩
  rw [hBX] at hput hvo ⊢
  have HP := hid hput
  have HV := hid hvo
  have HR := hid (And.intro hR (And.intro hpot hBX))
  have HH := hid (And.intro hp (And.intro hop2 (And.intro hx hv)))
  have HMU := hid hmu
  clear hput hvo hR hRR hpot hBX hp ha hav h hop2 ho hvd hpt hx hv hc hmu
  go_enter Tryd.func86, Tryd.ntmps86
  go_wp2_with fail
  refine HP.out.mono ?_
  rintro e W1 ⟨rfl, hh1⟩
  have H1 := hid hh1
  clear hh1 HP
  go_wp2_with fail
  refine (HV.out _).mono ?_
  rintro e W1b ⟨rfl, rfl⟩
  have hb0 := heap_alloc_new W1b (.cells #[] 9)
  have hown0 : (W1b.alloc (.cells #[] 9)).ownsRow W1b.heap.size 9 1 (.slice (some ⟨W1b.heap.size, 0, none⟩) 0 0) ([] : List (List UInt8)).length (wordsV []) := ⟨rfl, .inr ⟨W1b.heap.size, 0, #[], rfl, Nat.le_refl _, hb0, Nat.le_refl _, by decide, rfl, rfl⟩⟩
  have hbel0 : Below W1b.heap.size W1b (W1b.alloc (.cells #[] 9)) := (Below.refl W1b.heap.size W1b).alloc (Nat.le_refl _) _
  have hpw := ((HH.out.1.hall H1.out.fr).words).below hbel0
  have HO := hid hown0
  have HB := hid hbel0
  have HPW := hid hpw
  clear hb0 hown0 hbel0 hpw
  go_wp2_with (at_builtin; refine wpList_append_words rfl (.tmp 20) (.tmp 21) rfl W1b.heap.size _ _ [] op rfl rfl (by exact HO.out) (by exact HPW.out) HB.out.size (by simp; omega) ?_)
  intro v3 w3 hown3 hgrow3
  have hbel3 : Below W1b.heap.size W1b w3 := HB.out.grown hgrow3 HB.out.size (fun k hk => (HO.out.lt k hk).1)
  have HO3 := hid hown3
  have HB3 := hid hbel3
  obtain ⟨p3, c3, rfl⟩ := row_shape hown3
  clear hown3 hgrow3 hbel3 HO HB HPW
  have hone : Words (w3.alloc (.cells #[.string BX] 9)) (.slice (some ⟨w3.heap.size, 0, none⟩) 1 1) [x] := Words.row (base := w3.heap.size) (by rw [List.map_cons, List.map_nil, HR.out.2.2]; exact row_oneWord w3 BX)
  have hown3 := HO3.out.alloc (.cells #[.string BX] 9)
  have hb3 := HB3.out.alloc HB3.out.size (.cells #[.string BX] 9)
  have HO := hid hown3
  have HW := hid hone
  have HB := hid hb3
  clear hown3 hone hb3
  go_wp2_with (at_builtin; refine wpList_append_words rfl (.tmp 23) (.tmp 25) rfl W1b.heap.size _ _ op [x] rfl rfl (by exact HO.out) (by exact HW.out) HB.out.size (by simp; omega) ?_)
  intro v4 w4 hown4 hgrow4
  have hbel4 : Below W1b.heap.size W1b w4 := HB.out.grown hgrow4 HB.out.size (fun k hk => (HO.out.lt k hk).1)
  obtain ⟨⟨outv1, wv1, xs1, h1⟩, hf1, hs1⟩ := H1.out
  have h4 := h1.below hbel4
  have hins := hM (op ++ [x]) v4 es n (flushE s ++ [.start x al], []) ev outv1 wv1 xs1 w4 HMU.out HH.out.2.1 (by rw [List.length_append]; exact hd) hd2 hn hes h4 ⟨W1b.heap.size, by rw [List.length_append]; exact hown4⟩ (by rw [← HR.out.1]; exact HR.out.2.1)
  rw [← HR.out.1] at hins
  have hf4 : HallF w w4 := hf1.trans (HallF.of_below hbel4)
  have hs4 : w.heap.size ≤ w4.heap.size := Nat.le_trans hs1 hbel4.size
  have HI := hid hins
  have HF := hid (And.intro hf4 hs4)
  clear hown4 hgrow4 hbel4 h1 hf1 hs1 h4 hins hf4 hs4 H1 HO3 HB3 HO HW HB
  go_wp2_with fail
  refine HI.out.mono ?_
  rintro e W5 ⟨stay, rfl, ⟨es', n', s', outv5, wv5, xs5, h5, hl5, hr5, hpr5⟩, hf5, hs5⟩
  obtain ⟨hstay, hnn, hprog⟩ := hpr5
  have hst : stay ≤ op.length := by
    rcases hstay with h1 | ⟨h1, _⟩
    · rw [List.length_append] at h1; simp only [List.length_singleton] at h1; omega
    · simp at h1
  rw [closeE_snoc hst, take_snoc hst] at hr5
  have hpt5 : potS s' ≤ 80000000 := by
    have := HR.out.2.1
    rw [hr5] at this
    exact Nat.le_trans (pot_puts _ s') this
  have hpl5 : s'.1.length ≤ 80000000 ∧ s'.2.length ≤ 80000000 := by
    have := potL_len s'.1
    unfold potS at hpt5
    omega
  have hput5 := putH_any w0 ob b d n' es' s'.1 s'.2 ev outv5 wv5 xs5 2 (bs x) ⟨#[]⟩ none 0 0 (.stop x) W5 h5 (by omega) (by omega) ⟨⟨rfl, rfl, rfl, rfl⟩, trivial⟩ (fun g e => by cases e)
  rw [HR.out.2.2] at hput5
  have HP5 := hid hput5
  have H5 := hid (And.intro hr5 (And.intro hl5 (And.intro hnn (And.intro hprog (And.intro (HF.out.1.trans hf5) (Nat.le_trans HF.out.2 hs5))))))
  clear hput5 hr5 hl5 hnn hprog hf5 hs5 h5 hstay hpt5 HI HF
  go_wp2_with fail
  refine HP5.out.mono ?_
  rintro e W6 ⟨rfl, ⟨outv6, wv6, xs6, h6⟩, hf6, hs6⟩
  have hz : GoOut w0 w W6 ob b d es ev R op stay (fun n' => stay ≤ op.length ∧ n ≤ n' ∧ (n < n' ∨ es.length ≤ n ∨ UpAt d (op ++ [x]) es n stay)) :=
    ⟨⟨es', n', (flushE (s'.1, s'.2) ++ [.stop x], []), outv6, wv6, xs6, h6, H5.out.2.1, H5.out.1, hst, H5.out.2.2.1, H5.out.2.2.2.1⟩, H5.out.2.2.2.2.1.trans hf6, Nat.le_trans H5.out.2.2.2.2.2 hs6⟩
  have HZ := hid hz
  clear hz h6 hf6 hs6 H5 HP5
  go_wp2_with fail
  go_ret
  exact ⟨stay, rfl, HZ.out⟩
end Go.Proofs.YtkcgmimldjeaiaaDoor

/-
  The reference's text: its walk; the Text of an event in the hall's own list written anew.
-/
namespace Go.Proofs.YtkcgmimldjeaiaaDoor
open Go.RowKit Go.Lib Own

theorem ecells_set : ∀ (prs : List (EvP × Value)) (n : Nat) (x : EvP × Value) (t : List UInt8), prs[n]? = some x → (ecells prs).set (n * 4 + 3) (.string (bs t)) = ecells (prs.set n ({ x.1 with t := t }, x.2))
  | [], n, x, t, h => by simp at h
  | y :: r, 0, x, t, h => by
    simp only [List.getElem?_cons_zero, Option.some.injEq] at h
    subst h
    rfl
  | y :: r, n + 1, x, t, h => by
    have h2 : r[n]? = some x := h
    have ih := ecells_set r n x t h2
    show (.int .i64 y.1.k :: .string (bs y.1.n) :: y.2 :: .string (bs y.1.t) :: ecells r).set ((n + 1) * 4 + 3) _ = .int .i64 y.1.k :: .string (bs y.1.n) :: y.2 :: .string (bs y.1.t) :: ecells (r.set n _)
    rw [show (n + 1) * 4 + 3 = n * 4 + 3 + 1 + 1 + 1 + 1 by omega]
    simp only [List.set_cons_succ]
    rw [ih]
/-- an event's text written anew -/
theorem HallS.text {w0 W : World} {ob b d n : Nat} {es : List EvP} {J : List Ev} {pend : List UInt8} {ev outv wv : Value} {xs : List Value} (h : HallS w0 W ob b d es n J pend ev outv wv xs) {e : EvP} (he : es[n]? = some e) (t : List UInt8) :
    ∃ g c, ev = .slice (some ⟨g, 0, none⟩) es.length c ∧ es.length ≤ c ∧ W.frozen? ⟨g, n * 4 + 3, none⟩ = false ∧ W.cell? ⟨g, n * 4 + 3, none⟩ = some (.string (bs e.t)) ∧ HallS w0 (W.setCell ⟨g, n * 4 + 3, none⟩ (.string (bs t))) ob b d (es.set n { e with t := t }) n J pend ev outv wv xs ∧ HallF W (W.setCell ⟨g, n * 4 + 3, none⟩ (.string (bs t))) := by
  obtain ⟨prs, hp1, hp2, hp3, hp4, hp5⟩ := id h.evs
  have hnl := (List.getElem?_eq_some_iff.1 he).1
  have hpl : prs.length = es.length := by rw [← hp1, List.length_map]
  obtain ⟨x, hx⟩ : ∃ x, prs[n]? = some x := ⟨_, List.getElem?_eq_getElem (by omega)⟩
  have hxe : x.1 = e := by
    have : (prs.map Prod.fst)[n]? = some x.1 := by rw [List.getElem?_map, hx]; rfl
    rw [hp1, he] at this
    exact (Option.some.inj this).symm
  rcases hp2.2 with ⟨rfl, h0⟩ | ⟨g, c, cur, hev, hg0, hg1, hlc, hcm, hcs, htk⟩
  · omega
  · subst hev
    have hst := World.ownsRow.stored hp2 (n * 4 + 3) (.string (bs t))
    rw [ecells_set prs n x t hx, hxe] at hst
    have hgb : g ≠ b := fun e2 => by
      have h4 := h.bx
      rw [← e2, hg1] at h4
      simp only [Option.some.injEq, Obj.cells.injEq] at h4
      exact absurd h4.2.1 (by decide)
    have j := just_set (j := n * 4 + 3) hg1 (.string (bs t))
    have hgo := h.gap g rfl
    have hbel : Below w0.heap.size w0 (W.setCell ⟨g, n * 4 + 3, none⟩ (.string (bs t))) := hp4.trans (just_low j hg0)
    have keepO : ∀ k, outv.ownBlock = some k → (W.setCell ⟨g, n * 4 + 3, none⟩ (.string (bs t))).heap[k]? = W.heap[k]? := fun k hk => j.other k (fun e2 => by have := (h.ma.row.lt k hk).1; omega)
    have hcc : W.cell? ⟨g, n * 4 + 3, none⟩ = some (.string (bs e.t)) := by
      rw [hp2.cellAt (n * 4 + 3) (by omega), (ecells_at prs n x hx).2.2.2, hxe]
    refine ⟨g, c, by rw [hpl], by omega, free_at hg1 _, hcc, ⟨(j.other b hgb.symm).trans h.bx, ⟨prs.set n ({ e with t := t }, x.2), ?_, by rw [List.length_set]; exact hst.1, fun y hy => ?_, hbel, hp5⟩, ⟨row_of_block h.ma.row keepO, evs_mono (fun a' n' ys hr => row_of_block hr (fun k hk => j.other k (fun e2 => by have := (hr.lt k hk).1; omega))) _ _ h.ma.evs, h.ma.ap⟩, rowF_of_block h.wd (fun k hk => j.other k (fun e2 => by have := (rowF_lt h.wd hk).1; omega)), h.gap, h.lo, by rw [j.size]; exact h.hob⟩, fun k cs T fz hk t1 t2 _ => j.other k (fun e2 => ?_)⟩
    · rw [List.map_set, hp1]
    · rcases List.mem_or_eq_of_mem_set hy with h5 | h5
      · exact hp3 y h5
      · subst h5
        have := hp3 x (List.mem_of_getElem? hx)
        rw [hxe] at this
        exact this
    · rw [e2, hg1] at hk
      simp only [Option.some.injEq, Obj.cells.injEq] at hk
      exact t2 hk.2.1.symm
/-- the words grow -/
theorem HallS.words {w0 W W2 : World} {ob b d n : Nat} {es : List EvP} {J : List Ev} {pend pend' : List UInt8} {ev outv wv wv' : Value} {xs : List Value} (h : HallS w0 W ob b d es n J pend ev outv wv xs) (hg : W.grownBy W2 wv.ownBlock) (hw : W2.ownsRowF ob 5 1 wv' pend'.length (byteCells pend')) :
    W2.heap[b]? = some (.cells #[.int .i64 d, ev, .int .i64 n, outv, wv] 52 (0, 0)) ∧ HallS w0 (W2.setCell ⟨b, 4, none⟩ wv') ob b d es n J pend' ev outv wv' xs ∧ HallF W (W2.setCell ⟨b, 4, none⟩ wv') ∧ W.heap.size ≤ (W2.setCell ⟨b, 4, none⟩ wv').heap.size := by
  have hwb : ∀ k, wv.ownBlock = some k → ob ≤ k := fun k hk => (rowF_lt h.wd hk).1
  have bx2 : W2.heap[b]? = some (.cells #[.int .i64 d, ev, .int .i64 n, outv, wv] 52 (0, 0)) := grown_at hg h.bx (fun e => by have := hwb b e; have := h.lo.2; omega)
  have j := just_put (j := 4) (cs2 := #[.int .i64 d, ev, .int .i64 n, outv, wv']) bx2 wv' (by simp)
  have old : ∀ k, k < W.heap.size → k ≠ b → wv.ownBlock ≠ some k → (W2.setCell ⟨b, 4, none⟩ wv').heap[k]? = W.heap[k]? := fun k hk hkb h3 => (j.other k hkb).trans (hg.block k hk (fun e => h3 e.symm))
  have typ : ∀ k cs T, W.heap[k]? = some (Obj.cells cs T (0, 0)) → T ≠ 5 → wv.ownBlock ≠ some k := fun k cs T hk hT e => by
    obtain ⟨_, _, cur, fz, hc⟩ := rowF_lt h.wd e
    rw [hk] at hc
    simp only [Option.some.injEq, Obj.cells.injEq] at hc
    exact hT hc.2.1
  have rows : ∀ {base : Nat} {e : TypeId} {size m : Nat} {v : Value} {ys : List Value}, W.ownsRow base e size v m ys → e ≠ 5 → e ≠ 52 → (W2.setCell ⟨b, 4, none⟩ wv').ownsRow base e size v m ys := fun hr h1 h2 => row_of_block hr (fun k hk => by
    rcases hr.2 with ⟨rfl, _⟩ | ⟨g', cap, cur, rfl, _, hg1, _⟩
    · cases hk
    · obtain rfl := Option.some.inj hk
      exact old g' (block_lt hg1) (fun e => by
        rw [e, h.bx] at hg1
        simp only [Option.some.injEq, Obj.cells.injEq] at hg1
        exact h2 hg1.2.1.symm) (typ _ _ _ hg1 h1))
  have hbel : Below w0.heap.size w0 (W2.setCell ⟨b, 4, none⟩ wv') := (h.evs.be.grown hg h.evs.be.size (fun k hk => by have := hwb k hk; have := h.lo; omega)).trans (just_low j h.lo.1)
  refine ⟨bx2, ⟨j.at_, h.evs.moved hbel (fun k hk => ?_), ⟨rows h.ma.row (by decide) (by decide), evs_mono (fun a' n' ys hr => rows hr (by decide) (by decide)) _ _ h.ma.evs, h.ma.ap⟩, rowF_of_block hw (fun k hk => j.other k (fun e => ?_)), h.gap, h.lo, ?_⟩, fun k cs T fz hk t1 t2 t3 => ?_, ?_⟩
  · obtain ⟨_, hlt, cur, hc⟩ := h.evs.lt hk
    exact old k hlt (fun e => by
      rw [e, h.bx] at hc
      simp only [Option.some.injEq, Obj.cells.injEq] at hc
      exact absurd hc.2.1 (by decide)) (typ _ _ _ hc (by decide))
  · have := (rowF_lt hw hk).1
    have := h.lo.2
    omega
  · rw [j.size]; have := hg.size; have := h.hob; omega
  · refine old k (block_lt hk) (fun e => ?_) (fun e => ?_)
    · rw [e, h.bx] at hk
      simp only [Option.some.injEq, Obj.cells.injEq] at hk
      exact t1 hk.2.1.symm
    · obtain ⟨_, _, cur, fz', hc⟩ := rowF_lt h.wd e
      rw [hk] at hc
      simp only [Option.some.injEq, Obj.cells.injEq] at hc
      exact t3 hc.2.1
  · rw [j.size]; exact hg.size
end Go.Proofs.YtkcgmimldjeaiaaDoor

/-
  The reference's text: its walk.
-/
namespace Go.Proofs.YtkcgmimldjeaiaaDoor
open Go.RowKit Go.Lib Own

theorem text_says : ∀ m < 9, 1 ≤ m → nestP m 3 = 2 ∨ 3 ≤ nestP m 3 := by decide +kernel
theorem space_set (c : UInt8) : ([9, 10, 12, 13, 32] : List UInt8).contains c = spaceC c := by
  unfold spaceC
  simp only [List.contains_cons, List.contains_nil, Bool.or_false, Bool.or_assoc]
theorem drop_whileP (p : UInt8 → Bool) : ∀ t : List UInt8, t.drop (t.takeWhile p).length = t.dropWhile p
  | [] => rfl
  | c :: r => by
    by_cases h : p c = true
    · rw [List.takeWhile_cons_of_pos h, List.dropWhile_cons_of_pos h]
      exact drop_whileP p r
    · rw [List.takeWhile_cons_of_neg h, List.dropWhile_cons_of_neg h]
      rfl
theorem while_lenP (p : UInt8 → Bool) : ∀ t : List UInt8, (t.takeWhile p).length ≤ t.length
  | [] => Nat.le_refl _
  | c :: r => by
    by_cases h : p c = true
    · rw [List.takeWhile_cons_of_pos h]
      have := while_lenP p r
      simp only [List.length_cons]
      omega
    · rw [List.takeWhile_cons_of_neg h]
      exact Nat.zero_le _
theorem trim_len (t : List UInt8) : (trimP t).length ≤ t.length := by
  unfold trimP
  rw [← drop_whileP, List.length_drop]
  omega
theorem drop_cons {es : List EvP} {n : Nat} {e : EvP} (h : es[n]? = some e) : es.drop n = e :: es.drop (n + 1) := drop_at h
theorem rowF_shape {W : World} {base : Nat} {e : TypeId} {size n : Nat} {v : Value} {xs : List Value} (h : W.ownsRowF base e size v n xs) : ∃ p c, v = .slice p n c := by
  rcases h.2 with ⟨rfl, h0⟩ | ⟨g, cap, cur, fz, rfl, _⟩
  · exact ⟨none, 0, by rw [h0]⟩
  · exact ⟨_, cap, rfl⟩
theorem muL_at (op : List (List UInt8)) {es : List EvP} {n : Nat} {e : EvP} (he : es[n]? = some e) : muL op es n = 5 * (es.length - n) + leftL op e := by unfold muL; rw [he]
theorem leftL_text (op : List (List UInt8)) {e : EvP} (h : e.k = 3) : leftL op e = (impP (nestP (modO op) 3)).length := by unfold leftL; rw [if_neg (by omega), if_pos h]
theorem leftL_start (op : List (List UInt8)) {e : EvP} (h : e.k = 1) : leftL op e = (impP (nestP (modO op) (clsX e.n))).length := by unfold leftL; rw [if_pos h]
/-- on to the next event -/
theorem HallS.next {w0 W : World} {ob b d n : Nat} {es : List EvP} {J : List Ev} {pend : List UInt8} {ev outv wv : Value} {xs : List Value} (h : HallS w0 W ob b d es n J pend ev outv wv xs) :
    HallS w0 (W.setCell ⟨b, 2, none⟩ (.int .i64 ((n : Int) + 1))) ob b d es (n + 1) J pend ev outv wv xs ∧ HallF W (W.setCell ⟨b, 2, none⟩ (.int .i64 ((n : Int) + 1))) ∧ W.heap.size ≤ (W.setCell ⟨b, 2, none⟩ (.int .i64 ((n : Int) + 1))).heap.size := by
  have j1 := just_put (j := 2) (cs2 := #[.int .i64 d, ev, .int .i64 ((n + 1 : Nat) : Int), outv, wv]) h.bx (.int .i64 ((n + 1 : Nat) : Int)) (by simp)
  obtain ⟨g1, g2⟩ := h.field j1 h.wd
  exact ⟨g1, g2, by have h3 := j1.size; show _ ≤ (W.setCell ⟨b, 2, none⟩ (.int .i64 ((n + 1 : Nat) : Int))).heap.size; rw [h3]; exact Nat.le_refl _⟩
set_option maxHeartbeats 8000000 in
set_option maxRecDepth 100000 in
theorem text_any (w0 : World) (ob b d M : Nat) (hM : InsideC w0 ob b d M) (op : List (List UInt8)) (pv : Value) (e : EvP) (es : List EvP) (n : Nat) (s : List Ev × List UInt8) (ev outv wv : Value) (xs : List Value) (w : World) (he : es[n]? = some e) (h3 : e.k = 3) (hmu : muL op es n ≤ M) (ho : OpenOk op)
    (hd : op.length ≤ d) (hd2 : d ≤ 256) (hes : EsB es) (h : HallS w0 w ob b d es n s.1 s.2 ev outv wv xs) (hp : PathR w pv op) (hpot : potS (putEs s (rawB d op (es.drop n))) ≤ 80000000) :
    Calls Tryd.prog 49 #[.pointer (some ⟨b, 0, none⟩), pv, .string (bs e.t)] w fun r w' => Stay r (fun stay => GoOut w0 w w' ob b d es ev (putEs s (rawB d op (es.drop n))) op stay (fun n' => stay ≤ op.length ∧ n < n')) := by
  obtain ⟨wp, wc, rfl⟩ : ∃ p c, wv = .slice p s.2.length c := by
    rcases h.wd.2 with ⟨rfl, h0⟩ | ⟨g, cap, cur, fz, rfl, _⟩
    · exact ⟨none, 0, by rw [h0]⟩
    · exact ⟨_, cap, rfl⟩
  have hnl := (List.getElem?_eq_some_iff.1 he).1
  have heb := hes.each e (List.mem_of_getElem? he)
  have hlen := hes.len
  have hmo := modelAt_any pv op op.length w hp.words (fun x hx => (ho.known x hx).1) (Nat.le_refl _) (by omega)
  rw [List.take_length] at hmo
  have hmq := fun q => (modelAt_any pv op op.length (w.drewN q) (hp.words.drewN q) (fun x hx => (ho.known x hx).1) (Nat.le_refl _) (by omega))
  have hnt := fun W => refNest_any (modO op) 3 W ho.mod (by omega)
  have himp := fun W => impCount_any (modO op) 3 W ho.mod (by omega)
  rw [show bs (clsW 3) = ⟨#[116, 101, 120, 116]⟩ from rfl] at hnt himp
  obtain ⟨pp, pc, rfl⟩ : ∃ p c, pv = .slice p op.length c := by
    obtain ⟨pb, h⟩ := hp
    exact row_shape h
  have hpt := Nat.le_trans (pot_puts _ s) hpot
  have hpl : s.1.length ≤ 80000000 ∧ s.2.length ≤ 80000000 := by
    have := potL_len s.1
    unfold potS at hpt
    omega
  obtain ⟨R, hR⟩ : ∃ R, putEs s (rawB d op (es.drop n)) = R := ⟨_, rfl⟩
  rw [hR] at hpot ⊢
  rw [drop_cons he] at hR
  have c0 := cell_at h.bx (j := 0) rfl
  have c1 := cell_at h.bx (j := 1) rfl
  have c2 := cell_at h.bx (j := 2) rfl
  have c4 := cell_at h.bx (j := 4) rfl
  have f2 := free_at h.bx 2
  have f4 := free_at h.bx 4
  have w1 : IntKind.i64.wrap ((n : Int) + 1) = (n : Int) + 1 := by rw [IntKind.wrap_i64]; omega
  have hP := text_says (modO op) (by have := ho.mod; omega) ho.mod.1
  by_cases hP2 : nestP (modO op) 3 = 2
  · rw [raw_text_take h3 hP2] at hR
    have hpe : (s.2 ++ e.t).length ≤ 80000000 := by
      have h5 := pot_puts (rawB d op (es.drop (n + 1))) (s.1, s.2 ++ e.t)
      rw [hR] at h5
      unfold potS at h5 hpot
      simp only at h5
      omega
    rw [List.length_append] at hpe
    rw [hP2] at hnt
    rw [show bs (sayW 2) = ⟨#[116, 97, 107, 101]⟩ from rfl] at hnt
    obtain ⟨i0, hi, hz0, hz1, hz2⟩ := info_parts info_u8
    have j1 := just_put (j := 2) (cs2 := #[.int .i64 d, ev, .int .i64 ((n + 1 : Nat) : Int), outv, .slice wp s.2.length wc]) h.bx (.int .i64 ((n + 1 : Nat) : Int)) (by simp)
    obtain ⟨W9, hW9⟩ : ∃ W9, w.setCell ⟨b, 2, none⟩ (.int .i64 ((n : Int) + 1)) = W9 := ⟨_, rfl⟩
    have hW9' : w.setCell ⟨b, 2, none⟩ (.int .i64 ((n + 1 : Nat) : Int)) = W9 := hW9
    rw [hW9'] at j1
    obtain ⟨g1, g2⟩ := h.field j1 h.wd
    have hsz1 : w.heap.size ≤ W9.heap.size := by rw [j1.size]; exact Nat.le_refl _
    have HG := hid (And.intro g1 (And.intro g2 hsz1))
    have HM := hid hmo
    have HN := hid hnt
    have HR := hid hR
    obtain ⟨BT, hBT⟩ : ∃ n, bs e.t = n := ⟨_, rfl⟩
    rw [hBT]
    have HB := hid hBT
    clear hmo hmq hnt himp hR hBT h g1 g2 hsz1 j1 hP hP2 ho hp he hpot hpt h3 hmu
    go_enter Tryd.func49, Tryd.ntmps49
    go_wp2_with fail
    refine HM.out.mono ?_
    rintro r W1 ⟨rfl, rfl⟩
    go_wp2_with fail
    refine (HN.out _).mono ?_
    rintro r W2 ⟨rfl, rfl⟩
    go_upto_region 5 with fail
    (try simp only [hW9])
    clear c0 c1 c2 c4 f2 f4 hW9 hW9'
    have c4 := cell_at HG.out.1.bx (j := 4) rfl
    have hown := HG.out.1.wd
    have hbs := HG.out.1.hob
    have hBs : BT.size = e.t.length := by rw [← HB.out, bs_size]
    go_wp2_with (at_builtin; refine Lib.wpList_append_own_stringF _ rfl _ _ 50 9 rfl ob 5 i0 Tryd.underlying50 Tryd.underlying9 hi hz0 hz1 hz2 _ _ _ rfl hown BT rfl (by unfold maxLen; omega) (by omega) hbs ?_)
    intro v' w2 hown2 hgrow _
    have hZ : w2.ownsRowF ob 5 1 v' (s.2 ++ e.t).length (byteCells (s.2 ++ e.t)) := by
      rw [List.length_append, Lib.byteCells_append]
      have : strCells BT = byteCells e.t := by rw [← HB.out]; exact strCells_byte _
      rw [← this]
      exact hown2
    obtain ⟨vp, vc, rfl⟩ := rowF_shape hZ
    obtain ⟨bx2, k1, k2, k3⟩ := HG.out.1.words hgrow hZ
    have c4' := cell_at bx2 (j := 4) rfl
    have f4' := free_at bx2 4
    have hz : GoOut w0 W2 (w2.setCell ⟨b, 4, none⟩ (.slice vp (s.2 ++ e.t).length vc)) ob b d es ev R op op.length (fun n' => op.length ≤ op.length ∧ n < n') :=
      ⟨⟨es, n + 1, (s.1, s.2 ++ e.t), _, _, _, k1, ⟨rfl, hes, hnl⟩, by rw [closeE_all, List.take_length, List.nil_append]; exact HR.out.symm, Nat.le_refl _, Nat.lt_succ_self _⟩, HG.out.2.1.trans k2, Nat.le_trans HG.out.2.2 k3⟩
    have HZ := hid hz
    clear hz k1 k2 k3 bx2 hZ hown hown2 hgrow HG c4
    go_wp2_with fail
    go_ret
    exact ⟨_, rfl, by have := HZ.out; rw [List.length_append] at this; exact this⟩
  · have hP3 : 3 ≤ nestP (modO op) 3 := hP.resolve_left hP2
    have hPl := nest_lt (modO op) 3
    have hsay := (say_plain _ hPl).1
    obtain ⟨S, hS⟩ : ∃ S, bs (sayW (nestP (modO op) 3)) = S := ⟨_, rfl⟩
    have hq1 : (S.toList == [116, 97, 107, 101]) = false := by rw [← hS, bs_toList, hsay]; exact decide_eq_false hP2
    have hpa := fun W => past_any (bs e.t) 0 ⟨#[9, 10, 12, 13, 32]⟩ W (Nat.zero_le _) (by rw [bs_size]; omega) (by decide)
    have hset : ((⟨#[9, 10, 12, 13, 32]⟩ : ByteArray).data.toList.contains : UInt8 → Bool) = spaceC := funext (fun c => space_set c)
    rw [hset] at hpa
    have hbl : (bs e.t).data.toList = e.t := rfl
    rw [hbl, List.drop_zero, Nat.zero_add] at hpa
    have hkl := while_lenP spaceC e.t
    have hdr := drop_whileP spaceC e.t
    obtain ⟨k, hk⟩ : ∃ k, (e.t.takeWhile spaceC).length = k := ⟨_, rfl⟩
    rw [hk] at hpa hkl hdr
    have hex : (bs e.t).extract k (bs e.t).size = bs (trimP e.t) := by rw [tail_bs, hbl, hdr]; rfl
    have hzs := bs_size e.t
    have htl := trim_len e.t
    obtain ⟨TS, hTS⟩ : ∃ TS, bs (trimP e.t) = TS := ⟨_, rfl⟩
    rw [hTS] at hex
    obtain ⟨BT, hBT⟩ : ∃ n, bs e.t = n := ⟨_, rfl⟩
    rw [hBT] at hpa hex hzs ⊢
    rw [hzs] at hex
    have hTl : TS.toList = trimP e.t := by rw [← hTS]; exact bs_toList _
    rw [hS] at hnt
    have hil := imp_len (nestP (modO op) 3)
    by_cases hno : trimP e.t = [] ∨ d < op.length + (impP (nestP (modO op) 3)).length
    · rw [raw_text_no h3 hP2 hno] at hR
      obtain ⟨IL, hIL⟩ : ∃ n, (impP (nestP (modO op) 3)).length = n := ⟨_, rfl⟩
      rw [hIL] at hno himp hil
      have himq := fun W q => (himp (World.drewN W q)).mono (fun _ _ (h : _ ∧ _) => And.intro h.1 (⟨0, h.2⟩ : ∃ q', _ = (World.drewN W q).drewN q'))
      have w2 : IntKind.i64.wrap ((op.length : Int) + (IL : Int)) = (op.length : Int) + (IL : Int) := by rw [IntKind.wrap_i64]; omega
      have HM := hid hmo
      have HN := hid hnt
      have HPA := hid hpa
      have HIQ := hid himq
      have HR := hid hR
      have HH := hid h
      rcases (show trimP e.t = [] ∨ (trimP e.t ≠ [] ∧ d < op.length + IL) from Classical.byCases (fun q : trimP e.t = [] => .inl q) (fun q => .inr ⟨q, hno.resolve_left q⟩)) with ht | ⟨ht, hdd⟩
      · have hq2 : (TS.toList == []) = true := by rw [hTl, ht]; rfl
        clear hmo hmq hnt himp himq hpa hR h hset hbl hdr hsay hS hBT hTS hTl hP hP2 hP3 hPl hno hp he ho hpot hpt h3 hmu hIL htl hM ht hk c0 c1 c2 c4 f2 f4
        go_enter Tryd.func49, Tryd.ntmps49
        go_wp2_with fail
        refine HM.out.mono ?_
        rintro r W1 ⟨rfl, rfl⟩
        go_wp2_with fail
        refine (HN.out _).mono ?_
        rintro r W2 ⟨rfl, rfl⟩
        go_wp2_with fail
        refine (HPA.out _).mono ?_
        rintro r W3 ⟨rfl, rfl⟩
        go_upto_region 8 with fail
        (try simp only [hex])
        go_quiet (fail)
        have hbq : Below W3.heap.size W3 (W3.drewN nq) := below_drewN (Below.refl _ _) nq
        generalize W3.drewN nq = Wq at hbq ⊢
        have hq := HH.out.below hbq
        obtain ⟨g1, g2, g3⟩ := hq.next
        have c2 := cell_at hq.bx (j := 2) rfl
        have f2 := free_at hq.bx 2
        have hz : GoOut w0 W3 (Wq.setCell ⟨b, 2, none⟩ (.int .i64 ((n : Int) + 1))) ob b d es ev R op op.length (fun n' => op.length ≤ op.length ∧ n < n') :=
          ⟨⟨es, n + 1, s, _, _, _, g1, ⟨rfl, hes, hnl⟩, by rw [closeE_all, List.take_length, List.nil_append]; exact HR.out.symm, Nat.le_refl _, Nat.lt_succ_self _⟩, (HallF.of_below hbq).trans g2, Nat.le_trans hbq.size g3⟩
        have HZ := hid hz
        clear hz g1 g2 g3 hq hbq HR HH
        go_wp2_with fail
        go_ret
        exact ⟨_, rfl, HZ.out⟩
      · have hq2 : (TS.toList == []) = false := by rw [hTl, Bool.eq_false_iff]; intro q; rw [beq_iff_eq] at q; exact ht q
        have d2 : decide ((d : Int) < (op.length : Int) + (IL : Int)) = true := decide_eq_true (by omega)
        have d3 : (d : Int) < (op.length : Int) + (IL : Int) := by omega
        clear hmo hmq hnt himp himq hpa hR h hset hbl hdr hsay hS hBT hTS hTl hP hP2 hP3 hPl hno hp he ho hpot hpt h3 hmu hIL htl hM ht hk c1 c2 c4 f2 f4
        go_enter Tryd.func49, Tryd.ntmps49
        go_wp2_with fail
        refine HM.out.mono ?_
        rintro r W1 ⟨rfl, rfl⟩
        go_wp2_with fail
        refine (HN.out _).mono ?_
        rintro r W2 ⟨rfl, rfl⟩
        go_wp2_with fail
        refine (HPA.out _).mono ?_
        rintro r W3 ⟨rfl, rfl⟩
        go_upto_region 8 with fail
        (try simp only [hex])
        go_quiet (first | (go_at_call 85; with_reducible refine Calls.quiet_of (HIQ.out _ _)))
        have hbq : Below W3.heap.size W3 (W3.drewN nq) := below_drewN (Below.refl _ _) nq
        generalize W3.drewN nq = Wq at hbq ⊢
        clear c0
        have hq := HH.out.below hbq
        obtain ⟨g1, g2, g3⟩ := hq.next
        have c2 := cell_at hq.bx (j := 2) rfl
        have f2 := free_at hq.bx 2
        have hz : GoOut w0 W3 (Wq.setCell ⟨b, 2, none⟩ (.int .i64 ((n : Int) + 1))) ob b d es ev R op op.length (fun n' => op.length ≤ op.length ∧ n < n') :=
          ⟨⟨es, n + 1, s, _, _, _, g1, ⟨rfl, hes, hnl⟩, by rw [closeE_all, List.take_length, List.nil_append]; exact HR.out.symm, Nat.le_refl _, Nat.lt_succ_self _⟩, (HallF.of_below hbq).trans g2, Nat.le_trans hbq.size g3⟩
        have HZ := hid hz
        clear hz g1 g2 g3 hq hbq HR HH
        go_wp2_with fail
        go_ret
        exact ⟨_, rfl, HZ.out⟩
    · have ht : trimP e.t ≠ [] := fun q => hno (.inl q)
      have hdd : op.length + (impP (nestP (modO op) 3)).length ≤ d := by
        have := fun q => hno (.inr q)
        omega
      have hraw := raw_text_imp (d := d) (r := es.drop (n + 1)) ho h3 hP3 ht hdd
      obtain ⟨s1, s2, s3, s4, _, _, s7⟩ := say_next (modO op) (by have := ho.mod; omega) 3 (by omega) hP3
      obtain ⟨y, hy⟩ : ∃ y, sayW (nestP (modO op) 3) = y := ⟨_, rfl⟩
      rw [hy] at s1 s2 s3 s4 s7 hraw hS
      obtain ⟨es2, hes2⟩ : ∃ l, es.set n { e with t := trimP e.t } = l := ⟨_, rfl⟩
      have hl2 : es2.length = es.length := by rw [← hes2, List.length_set]
      have he2 : es2[n]? = some { e with t := trimP e.t } := by rw [← hes2, List.getElem?_set, if_pos rfl, if_pos hnl]
      have hd2' : es2.drop n = { e with t := trimP e.t } :: es.drop (n + 1) := by
        rw [drop_cons he2, ← hes2, List.drop_set_of_lt (by omega)]
      have hB2 : EsB es2 := by rw [← hes2]; exact hes.set he _ htl
      have hmu2 : muL (op ++ [y]) es2 n < M := by
        rw [muL_at _ he, leftL_text _ h3, s4] at hmu
        rw [muL_at _ he2, leftL_text _ (show ({ e with t := trimP e.t } : EvP).k = 3 from h3), modO_snoc, hl2]
        simp only [List.length_cons] at hmu
        omega
      have hcnt : (op ++ [y]).count aN ≤ 1 := by
        rw [List.count_append, List.count_singleton, if_neg (by simpa using s7)]
        exact ho.one
      have hod : op.length + 1 ≤ d := by
        rw [s4] at hdd
        simp only [List.length_cons] at hdd
        omega
      rw [hraw, ← hd2'] at hR
      obtain ⟨g, c, hev, hgc, hfz, _, _, _⟩ := h.text he (trimP e.t)
      subst hev
      have hent := fun W (hW : HallF w W) (hh : HallS w0 W ob b d es2 n s.1 s.2 (.slice (some ⟨g, 0, none⟩) es.length c) outv (.slice wp s.2.length wc) xs) => enter_any w0 ob b d M hM op (.slice pp op.length pc) y es2 n s _ outv _ (.slice none 0 0) [] xs W hmu2 ho s1 (by omega) hcnt hod hd2 (by omega) hB2 hh (hp.hall hW) (World.ownsRow_nil _ _ _ _) (fun g e => by cases e) (by rw [hR]; exact hpot)
      rw [hR, hS] at hent
      obtain ⟨IL, hIL⟩ : ∃ n, (impP (nestP (modO op) 3)).length = n := ⟨_, rfl⟩
      rw [hIL] at hdd himp hil
      have himq := fun W q => (himp (World.drewN W q)).mono (fun _ _ (h : _ ∧ _) => And.intro h.1 (⟨0, h.2⟩ : ∃ q', _ = (World.drewN W q).drewN q'))
      have w2 : IntKind.i64.wrap ((op.length : Int) + (IL : Int)) = (op.length : Int) + (IL : Int) := by rw [IntKind.wrap_i64]; omega
      have hq2 : (TS.toList == []) = false := by rw [hTl, Bool.eq_false_iff]; intro q; rw [beq_iff_eq] at q; exact ht q
      have d2 : decide ((d : Int) < (op.length : Int) + (IL : Int)) = false := decide_eq_false (by omega)
      have d3 : ¬ (d : Int) < (op.length : Int) + (IL : Int) := by omega
      have HM := hid hmo
      have HN := hid hnt
      have HPA := hid hpa
      have HIQ := hid himq
      have HH := hid (And.intro h (And.intro he hes2))
      have HEN := hid hent
      have HLL := hid (And.intro hl2 he2)
      have HTS := hid hTS
      clear hmo hmq hnt himp himq hpa hR h hset hbl hdr hsay hS hBT hTS hTl hP hP2 hP3 hPl hno hp he ho hpot hpt hmu hIL htl hM ht hk c1 c2 c4 f2 f4 hraw s1 s2 s3 s4 s7 hy hes2 hl2 he2 hd2' hB2 hmu2 hcnt hod hent
      go_enter Tryd.func49, Tryd.ntmps49
      go_wp2_with fail
      refine HM.out.mono ?_
      rintro r W1 ⟨rfl, rfl⟩
      go_wp2_with fail
      refine (HN.out _).mono ?_
      rintro r W2 ⟨rfl, rfl⟩
      go_wp2_with fail
      refine (HPA.out _).mono ?_
      rintro r W3 ⟨rfl, rfl⟩
      go_upto_region 8 with fail
      (try simp only [hex])
      go_quiet (first | (go_at_call 85; with_reducible refine Calls.quiet_of (HIQ.out _ _)))
      have hbq : Below W3.heap.size W3 (W3.drewN nq) := below_drewN (Below.refl _ _) nq
      generalize W3.drewN nq = Wq at hbq ⊢
      clear c0 hfz
      have hq := HH.out.1.below hbq
      obtain ⟨g', c', hev', _, hfz', hcc', ht1, ht2⟩ := hq.text HH.out.2.1 (trimP e.t)
      simp only [Value.slice.injEq, Option.some.injEq, Addr.mk.injEq, and_true, true_and] at hev'
      obtain ⟨rfl, rfl⟩ := hev'
      rw [HH.out.2.2, HTS.out] at ht1
      rw [HTS.out] at ht2
      have c1 := cell_at hq.bx (j := 1) rfl
      have c2 := cell_at hq.bx (j := 2) rfl
      have hsz9 : Wq.heap.size = (Wq.setCell ⟨g, n * 4 + 3, none⟩ (.string TS)).heap.size := by simp
      have HT := hid (And.intro ht1 (And.intro ((HallF.of_below hbq).trans ht2) (Nat.le_trans hbq.size (Nat.le_of_eq hsz9))))
      clear hq ht1 ht2 hbq hsz9 HIQ HPA HN HM HH
      go_wp2_with fail
      go_region
      all_goals
        go_wp2_with fail
        generalize Wq.setCell ⟨g, n * 4 + 3, none⟩ (.string TS) = Wt at HT ⊢
        have hbd : Below Wt.heap.size Wt Wt.drew := below_drewN (Below.refl _ _) 1
        generalize Wt.drew = Wd at hbd ⊢
        refine (HEN.out Wd (HT.out.2.1.trans (HallF.of_below hbd)) (HT.out.1.below hbd)).mono ?_
        rintro r W5 ⟨stay, rfl, ⟨es', n', s', outv5, wv5, xs5, h5, ⟨hl5, hb5, hn5⟩, hr5, hp1, hp2, hp3⟩, hf5, hs5⟩
        have hlt : n < n' := by
          rcases hp3 with h6 | h6 | ⟨e6, h6, h7, _⟩
          · exact h6
          · rw [HLL.out.1] at h6; omega
          · rw [HLL.out.2] at h6
            obtain rfl := Option.some.inj h6
            have h8 : e.k = 1 := h7
            omega
        have hz : GoOut w0 W3 W5 ob b d es (.slice (some ⟨g, 0, none⟩) es.length c) R op stay (fun n' => stay ≤ op.length ∧ n < n') :=
          ⟨⟨es', n', s', outv5, wv5, xs5, h5, ⟨hl5.trans HLL.out.1, hb5, by rw [← HLL.out.1]; exact hn5⟩, hr5, hp1, hlt⟩, (HT.out.2.1.trans (HallF.of_below hbd)).trans hf5, Nat.le_trans (Nat.le_trans HT.out.2.2 hbd.size) hs5⟩
        have HZ := hid hz
        clear hz hf5 hs5 h5 hr5 hl5 hb5 hn5 hp3 HEN HT
        go_wp2_with fail
        go_ret
        exact ⟨stay, rfl, HZ.out⟩
end Go.Proofs.YtkcgmimldjeaiaaDoor

/-
  The reference's start: its walk.
-/
namespace Go.Proofs.YtkcgmimldjeaiaaDoor
open Go.RowKit Go.Lib Own

theorem land_count {d : Nat} {op : List (List UInt8)} {x : List UInt8} (ho : op.count aN ≤ 1) (h : landI d op x = (op.length : Int)) : (op ++ [x]).count aN ≤ 1 := by
  obtain ⟨p, _, _, _, _, hk, _⟩ := land_yes h
  rw [List.count_append, List.count_singleton]
  unfold reachP at hk
  by_cases hx : x = aN
  · subst hx
    rw [if_pos rfl] at hk
    have : aN ∉ op := fun hm => by have := List.idxOf_lt_length_iff.2 hm; omega
    rw [List.count_eq_zero_of_not_mem this, if_pos (by simp)]
    omega
  · rw [if_neg (by simpa using hx)]
    exact ho
theorem land_le (d : Nat) (op : List (List UInt8)) (x : List UInt8) : landI d op x ≤ (op.length : Int) := by
  have h1 := findP_le (clsX x) op (reachP op x)
  have h2 := reachP_le op x
  unfold landI
  split <;> omega
set_option maxHeartbeats 4000000 in
set_option maxRecDepth 100000 in
theorem enterVoid_any (w0 : World) (ob b d n : Nat) (op : List (List UInt8)) (pv : Value) (x : List UInt8) (es : List EvP) (s : List Ev × List UInt8) (ev outv wv av : Value) (al : List AttrP) (xs : List Value) (w : World) (hv : modX x = 9) (hsp : ∃ p c, pv = .slice p op.length c)
    (h : HallS w0 w ob b d es n s.1 s.2 ev outv wv xs) (hl : s.1.length ≤ 80000000) (hl2 : s.2.length ≤ 80000000) (ha : w.ownsRow ob 101 2 av al.length (attrsV al)) (hav : ∀ g, av.ownBlock = some g → NotIn g xs) :
    Calls Tryd.prog 86 #[.pointer (some ⟨b, 0, none⟩), pv, .string (bs x), av] w fun e w' => e = .returned (.int .i64 (op.length : Nat)) ∧ HallOut w0 w w' ob b d es n (flushE s ++ [.start x al]) [] ev := by
  have hvd : voidL x = true := by rw [void_mod, beq_iff_eq]; exact hv
  obtain ⟨pp, pc, rfl⟩ := hsp
  obtain ⟨ap, ac, rfl⟩ := row_shape ha
  have hput := putH_any w0 ob b d n es s.1 s.2 ev outv wv xs 1 (bs x) ⟨#[]⟩ ap al.length ac (.start x al) w h (by omega) (by omega) ⟨⟨rfl, rfl, ha, rfl⟩, trivial⟩ hav
  have hvo := fun W => refVoid_any (bs x) W
  rw [bs_toList, hvd] at hvo
  obtain ⟨BX, hBX⟩ : ∃ n, bs x = n := ⟨_, rfl⟩
  rw [hBX] at hput hvo ⊢
  have HP := hid hput
  have HV := hid hvo
  clear hput hvo hBX ha hav h hvd hv
  go_enter Tryd.func86, Tryd.ntmps86
  go_wp2_with fail
  refine HP.out.mono ?_
  rintro e W1 ⟨rfl, hh1⟩
  have H1 := hid hh1
  clear hh1 HP
  go_wp2_with fail
  refine (HV.out _).mono ?_
  rintro e W1b ⟨rfl, rfl⟩
  go_wp2_with fail
  go_ret
  exact ⟨rfl, H1.out⟩
set_option maxHeartbeats 8000000 in
set_option maxRecDepth 100000 in
theorem startH_any (w0 : World) (ob b d M : Nat) (hM : InsideC w0 ob b d M) (op : List (List UInt8)) (pv : Value) (e : EvP) (u : Value) (es : List EvP) (n : Nat) (s : List Ev × List UInt8) (ev outv wv : Value) (xs : List Value) (w : World) (he : es[n]? = some e) (h1 : e.k = 1) (hx : elemL e.n ≠ none) (hu : AttrsR w0 u e.a) (hmu : muL op es n ≤ M) (ho : OpenOk op)
    (hd : op.length ≤ d) (hd2 : d ≤ 256) (hes : EsB es) (h : HallS w0 w ob b d es n s.1 s.2 ev outv wv xs) (hp : PathR w pv op) (hpot : potS (putEs s (rawB d op (es.drop n))) ≤ 80000000) :
    Calls Tryd.prog 50 #[.pointer (some ⟨b, 0, none⟩), pv, .agg #[.int .i64 e.k, .string (bs e.n), u, .string (bs e.t)]] w fun r w' => Stay r (fun stay => GoOut w0 w w' ob b d es ev (putEs s (rawB d op (es.drop n))) op stay (fun n' => stay ≤ op.length ∧ n ≤ n' ∧ (n < n' ∨ UpAt d op es n stay))) := by
  have hnl := (List.getElem?_eq_some_iff.1 he).1
  have heb := hes.each e (List.mem_of_getElem? he)
  have hlen := hes.len
  obtain ⟨up, uc, rfl, _⟩ := id hu
  obtain ⟨W1, hW1⟩ : ∃ W1, w.alloc (.cells #[.int .i64 e.k, .string (bs e.n), .slice up e.a.length uc, .string (bs e.t)] 39) = W1 := ⟨_, rfl⟩
  have hb1 : Below w.heap.size w W1 := by rw [← hW1]; exact (Below.refl _ _).alloc (Nat.le_refl _) _
  have n1 : W1.heap[w.heap.size]? = some (.cells #[.int .i64 e.k, .string (bs e.n), .slice up e.a.length uc, .string (bs e.t)] 39 (0, 0)) := by rw [← hW1]; exact heap_alloc_new _ _
  have hh1 := h.below hb1
  have hp1 : PathR W1 pv op := hp.hall (HallF.of_below hb1)
  have hla := landing_any b d _ pv op e.n W1 hp1.words ho hx (by omega) _ hh1.bx rfl
  have hle := land_le d op e.n
  obtain ⟨pp, pc, rfl⟩ : ∃ p c, pv = .slice p op.length c := by
    obtain ⟨pb, h⟩ := hp
    exact row_shape h
  have hpt := Nat.le_trans (pot_puts _ s) hpot
  have hpl : s.1.length ≤ 80000000 ∧ s.2.length ≤ 80000000 := by
    have := potL_len s.1
    unfold potS at hpt
    omega
  obtain ⟨R, hR⟩ : ∃ R, putEs s (rawB d op (es.drop n)) = R := ⟨_, rfl⟩
  rw [hR] at hpot ⊢
  have hR0 := hR
  rw [drop_cons he] at hR
  have hnn := block_lt n1
  have e1 := cell_at n1 (j := 1) rfl
  by_cases hneg : landI d op e.n < 0
  · rw [raw_start_no h1 hneg] at hR
    obtain ⟨I, hI⟩ : ∃ I, landI d op e.n = I := ⟨_, rfl⟩
    rw [hI] at hla hneg
    obtain ⟨BX, hBX⟩ : ∃ n, bs e.n = n := ⟨_, rfl⟩
    rw [hBX] at hla hW1 e1 ⊢
    have HLA := hid hla
    have HH := hid (And.intro hh1 hb1)
    have HR := hid hR
    clear hla hh1 hb1 n1 hR hR0 hp1 hp hle hI hBX h hpot hpt ho hx hmu hM he hu h1
    go_enter Tryd.func50, Tryd.ntmps50
    go_upto_region 1 with fail
    clear hW1
    go_wp2_with fail
    refine HLA.out.mono ?_
    rintro r W2 ⟨rfl, hb2⟩
    have hq := HH.out.1.below hb2
    obtain ⟨g1, g2, g3⟩ := hq.next
    have c2 := cell_at hq.bx (j := 2) rfl
    have f2 := free_at hq.bx 2
    have w1 : IntKind.i64.wrap ((n : Int) + 1) = (n : Int) + 1 := by rw [IntKind.wrap_i64]; omega
    have hz : GoOut w0 w (W2.setCell ⟨b, 2, none⟩ (.int .i64 ((n : Int) + 1))) ob b d es ev R op op.length (fun n' => op.length ≤ op.length ∧ n ≤ n' ∧ (n < n' ∨ UpAt d op es n op.length)) :=
      ⟨⟨es, n + 1, s, _, _, _, g1, ⟨rfl, hes, hnl⟩, by rw [closeE_all, List.take_length, List.nil_append]; exact HR.out.symm, Nat.le_refl _, Nat.le_succ _, .inl (Nat.lt_succ_self _)⟩, ((HallF.of_below HH.out.2).trans (HallF.of_below hb2)).trans g2, Nat.le_trans (Nat.le_trans HH.out.2.size hb2.size) g3⟩
    have HZ := hid hz
    have d1 : decide (I < 0) = true := decide_eq_true hneg
    clear hz g1 g2 g3 hq HLA HH HR hb2 e1
    go_wp2_with fail
    go_ret
    exact ⟨_, rfl, HZ.out⟩
  · obtain ⟨k, hk⟩ : ∃ k : Nat, landI d op e.n = (k : Int) := ⟨(landI d op e.n).toNat, by omega⟩
    have hkl : k ≤ op.length := by omega
    rw [hk] at hla
    by_cases hup : k < op.length
    · rw [raw_start_up h1 hx hk, ← drop_cons he] at hR
      have hup2 : UpAt d op es n k := ⟨e, he, h1, hx, hk, hup⟩
      obtain ⟨BX, hBX⟩ : ∃ n, bs e.n = n := ⟨_, rfl⟩
      rw [hBX] at hla hW1 e1 ⊢
      have HLA := hid hla
      have HH := hid (And.intro hh1 hb1)
      have HR := hid (And.intro hR hup2)
      clear hla hh1 hb1 n1 hR hR0 hp1 hp hle hk hBX h hpot hpt ho hx hmu hM he hu h1 hup2 hneg
      go_enter Tryd.func50, Tryd.ntmps50
      go_upto_region 1 with fail
      clear hW1
      go_wp2_with fail
      refine HLA.out.mono ?_
      rintro r W2 ⟨rfl, hb2⟩
      have hq := HH.out.1.below hb2
      have hz : GoOut w0 w W2 ob b d es ev R op k (fun n' => k ≤ op.length ∧ n ≤ n' ∧ (n < n' ∨ UpAt d op es n k)) :=
        ⟨⟨es, n, s, _, _, _, hq, ⟨rfl, hes, Nat.le_of_lt hnl⟩, HR.out.1.symm, hkl, Nat.le_refl _, .inr HR.out.2⟩, (HallF.of_below HH.out.2).trans (HallF.of_below hb2), Nat.le_trans HH.out.2.size hb2.size⟩
      have HZ := hid hz
      have d1 : decide ((k : Int) < 0) = false := decide_eq_false (by omega)
      have d2 : decide ((k : Int) < (op.length : Int)) = true := decide_eq_true (by omega)
      have d3 : (k : Int) < (op.length : Int) := by omega
      clear hz hq HLA HH HR hb2 e1
      go_wp2_with fail
      go_ret
      exact ⟨_, rfl, HZ.out⟩
    · obtain rfl : k = op.length := by omega
      have hsays := land_says hk
      have hcb := known_bd e.n hx
      have hPl := nest_lt (modO op) (clsX e.n)
      have hsay := (say_plain _ hPl).1
      have hmq := fun W (hb : Below W1.heap.size W1 W) q => (modelAt_any (.slice pp op.length pc) op op.length (World.drewN W q) ((hp1.words.below hb).drewN q) (fun x hx => (ho.known x hx).1) (Nat.le_refl _) (by omega)).mono (fun _ _ (h : _ ∧ _) => And.intro h.1 (⟨0, h.2⟩ : ∃ q', _ = (World.drewN W q).drewN q'))
      rw [List.take_length] at hmq
      have hcq := fun W q => (classOf_any (bs e.n) (World.drewN W q)).mono (fun _ _ (h : _ ∧ _) => And.intro h.1 (⟨0, h.2⟩ : ∃ q', _ = (World.drewN W q).drewN q'))
      rw [bs_toList, class_word] at hcq
      have hnq := fun W q => (refNest_any (modO op) (clsX e.n) (World.drewN W q) ho.mod ⟨hcb.1, hcb.2.1⟩).mono (fun _ _ (h : _ ∧ _) => And.intro h.1 (⟨0, h.2⟩ : ∃ q', _ = (World.drewN W q).drewN q'))
      obtain ⟨S, hS⟩ : ∃ S, bs (sayW (nestP (modO op) (clsX e.n))) = S := ⟨_, rfl⟩
      have hSl : S.toList = sayW (nestP (modO op) (clsX e.n)) := by rw [← hS]; exact bs_toList _
      rw [hS] at hnq
      obtain ⟨BX, hBX⟩ : ∃ n, bs e.n = n := ⟨_, rfl⟩
      rw [hBX] at hla hW1 e1 hcq ⊢
      have HLA := hid hla
      have HMQ := hid hmq
      have HCQ := hid hcq
      have HNQ := hid hnq
      have HH := hid (And.intro hh1 (And.intro hb1 (And.intro hp1 n1)))
      have d1 : decide (((op.length : Nat) : Int) < 0) = false := decide_eq_false (by omega)
      have d2 : decide (((op.length : Nat) : Int) < (op.length : Int)) = false := decide_eq_false (by omega)
      by_cases hP2 : nestP (modO op) (clsX e.n) = 2
      · have hq1 : (S.toList == [116, 97, 107, 101]) = true := by rw [hSl, hsay]; exact decide_eq_true hP2
        rw [raw_start_take h1 hx hk hP2] at hR
        have hcnt := land_count ho.one hk
        have hdd : op.length + 1 ≤ d := by
          obtain ⟨_, _, _, _, _, _, hdd⟩ := land_yes hk
          omega
        have hmu2 : modX e.n ≠ 9 → muL (op ++ [e.n]) es (n + 1) < M := fun _ => by
          have h9 : muL (op ++ [e.n]) es (n + 1) ≤ 5 * (es.length - (n + 1)) + 3 := by
            unfold muL
            cases es[n + 1]? with
            | none => simp only; omega
            | some e2 => have := leftL_le (op ++ [e.n]) e2; simp only; omega
          rw [muL_at _ he] at hmu
          omega
        have HRR := hid (And.intro hR (And.intro hpot (And.intro hBX (And.intro hcnt (And.intro hmu2 (And.intro ho (And.intro hx hu)))))))
        clear hla hmq hcq hnq hh1 hb1 n1 hR hR0 hp1 hp hle hk hBX h hpot hpt ho hx hmu he hu h1 hneg hup hsays hcb hPl hsay hS hSl hP2 hcnt hmu2 hkl
        go_enter Tryd.func50, Tryd.ntmps50
        go_upto_region 1 with fail
        clear hW1
        go_wp2_with fail
        refine HLA.out.mono ?_
        rintro r W2 ⟨rfl, hb2⟩
        replace e1 := cell_low e1 hb2 hnn
        have hq := HH.out.1.below hb2
        have hmk := HMQ.out W2 hb2
        have HMK := hid hmk
        have HH2 := hid (And.intro hq hb2)
        clear hq hmk hb2 HLA HMQ
        go_upto_region 7 with fail
        go_quiet (first
          | (go_at_call 82; with_reducible refine Calls.quiet_of (HMK.out _))
          | (go_at_call 48; with_reducible refine Calls.quiet_of (HCQ.out _ _))
          | (go_at_call 83; with_reducible refine Calls.quiet_of (HNQ.out _ _)))
        have hbq : Below W2.heap.size W2 (W2.drewN nq) := below_drewN (Below.refl _ _) nq
        generalize W2.drewN nq = Wq at hbq ⊢
        have hb9 : Below W1.heap.size W1 Wq := HH2.out.2.trans (hbq.mono HH2.out.2.size)
        have hq := HH.out.1.below hb9
        obtain ⟨g1, g2, g3⟩ := hq.next
        have c2 := cell_at hq.bx (j := 2) rfl
        have f2 := free_at hq.bx 2
        have w1 : IntKind.i64.wrap ((n : Int) + 1) = (n : Int) + 1 := by rw [IntKind.wrap_i64]; omega
        have nq9 := (hb9.block _ hnn).trans HH.out.2.2.2
        have hnb : w.heap.size ≠ b := fun e9 => by
          have h4 := hq.bx
          rw [← e9, nq9] at h4
          simp only [Option.some.injEq, Obj.cells.injEq] at h4
          exact absurd h4.2.1 (by decide)
        have nn9 := ((just_set (j := 2) hq.bx (.int .i64 ((n : Int) + 1))).other _ hnb).trans nq9
        obtain ⟨Wn, hWn⟩ : ∃ Wn, Wq.setCell ⟨b, 2, none⟩ (.int .i64 ((n : Int) + 1)) = Wn := ⟨_, rfl⟩
        rw [hWn] at g1 g2 g3 nn9
        have hfn : HallF W1 Wn := (HallF.of_below hb9).trans g2
        have HG := hid (And.intro g1 (And.intro hfn (And.intro (Nat.le_trans (Nat.le_trans HH.out.2.1.size hb9.size) g3) nn9)))
        clear hbq hb9 hq g1 g2 g3 nq9 hnb nn9 hfn HH2 HMK HCQ HNQ e1
        go_upto_region 11 with fail
        (try simp only [hWn])
        clear hWn c2 f2
        have e1 := cell_at HG.out.2.2.2 (j := 1) rfl
        have e2 := cell_at HG.out.2.2.2 (j := 2) rfl
        have hn9 := block_lt HG.out.2.2.2
        have hb0 := heap_alloc_new Wn (.cells #[] 101)
        have hown0 : (Wn.alloc (.cells #[] 101)).ownsRow Wn.heap.size 101 2 (.slice (some ⟨Wn.heap.size, 0, none⟩) 0 0) ([] : List AttrP).length (attrsV []) := ⟨rfl, .inr ⟨Wn.heap.size, 0, #[], rfl, Nat.le_refl _, hb0, Nat.le_refl _, by decide, rfl, rfl⟩⟩
        have hbel0 : Below Wn.heap.size Wn (Wn.alloc (.cells #[] 101)) := (Below.refl Wn.heap.size Wn).alloc (Nat.le_refl _) _
        have hat := (HRR.out.2.2.2.2.2.2.2.below HG.out.1.evs.be).below hbel0
        have HO := hid hown0
        have HB := hid hbel0
        have HAT := hid hat
        have e2' := cell_low e2 hbel0 hn9
        clear hb0 hown0 hbel0 hat
        go_wp2_with (at_builtin; refine wpList_append_attrs rfl (.tmp 51) (.tmp 53) rfl Wn.heap.size _ _ [] e.a rfl rfl (by exact HO.out) (by exact HAT.out) HB.out.size (by simp; omega) ?_)
        intro v4 w4 hown4 hgrow4
        have hown4' : w4.ownsRow Wn.heap.size 101 2 v4 e.a.length (attrsV e.a) := hown4
        have hbel4 : Below Wn.heap.size Wn w4 := HB.out.grown hgrow4 HB.out.size (fun k hk => (HO.out.lt k hk).1)
        have e1' := cell_low e1 hbel4 hn9
        rw [HRR.out.2.2.1] at e1'
        obtain ⟨p4, c4, rfl⟩ := row_shape hown4'
        have h4 := HG.out.1.below hbel4
        have ha4 := row_low hown4' HG.out.1.hob
        have hav4 : ∀ g, (Value.slice p4 e.a.length c4).ownBlock = some g → NotIn g xs := fun g e9 => notIn_new (hown4'.lt g e9).1 xs s.1 HG.out.1.ma.evs
        have hf4 : HallF w w4 := ((HallF.of_below HH.out.2.1).trans HG.out.2.1).trans (HallF.of_below hbel4)
        have hs4 : w.heap.size ≤ w4.heap.size := Nat.le_trans HG.out.2.2.1 hbel4.size
        have hp4 : PathR w4 (.slice pp op.length pc) op := HH.out.2.2.1.hall (HG.out.2.1.trans (HallF.of_below hbel4))
        obtain ⟨hR, hpot, hBX, hcnt, hmu2, ho, hx, _⟩ := HRR.out
        by_cases hv : modX e.n = 9
        · rw [if_pos hv, List.append_nil] at hR
          have hent := enterVoid_any w0 ob b d (n + 1) op (.slice pp op.length pc) e.n es s ev outv wv _ e.a xs w4 hv ⟨_, _, rfl⟩ h4 hpl.1 hpl.2 ha4 hav4
          rw [hBX] at hent
          have HE := hid hent
          have HF := hid (And.intro hf4 (And.intro hs4 hR))
          clear hent hf4 hs4 hR hpot hBX hcnt hmu2 ho hx h4 ha4 hav4 hp4 hown4 hown4' hgrow4 hbel4 HO HB HAT HG HRR HH e1 e2 e2' hM hv
          go_wp2_with fail
          refine HE.out.mono ?_
          rintro r W5 ⟨rfl, ⟨outv5, wv5, xs5, h5⟩, hf5, hs5⟩
          have hz : GoOut w0 w W5 ob b d es ev R op op.length (fun n' => op.length ≤ op.length ∧ n ≤ n' ∧ (n < n' ∨ UpAt d op es n op.length)) :=
            ⟨⟨es, n + 1, (flushE s ++ [.start e.n e.a], []), outv5, wv5, xs5, h5, ⟨rfl, hes, hnl⟩, by rw [closeE_all, List.take_length, List.nil_append]; exact HF.out.2.2.symm, Nat.le_refl _, Nat.le_succ _, .inl (Nat.lt_succ_self _)⟩, HF.out.1.trans hf5, Nat.le_trans HF.out.2.1 hs5⟩
          have HZ := hid hz
          clear hz hf5 hs5 h5 HE HF
          go_wp2_with fail
          go_ret
          exact ⟨_, rfl, HZ.out⟩
        · rw [if_neg hv] at hR
          have hent := enter_any w0 ob b d M hM op (.slice pp op.length pc) e.n es (n + 1) s ev outv wv _ e.a xs w4 (hmu2 hv) ho hx hv hcnt hdd hd2 hnl hes h4 hp4 ha4 hav4 (by rw [hR]; exact hpot)
          rw [hR, hBX] at hent
          have HE := hid hent
          have HF := hid (And.intro hf4 hs4)
          clear hent hf4 hs4 hR hpot hBX hcnt hmu2 ho hx h4 ha4 hav4 hp4 hown4 hown4' hgrow4 hbel4 HO HB HAT HG HRR HH e1 e2 e2' hM hv
          go_wp2_with fail
          refine HE.out.mono ?_
          rintro r W5 ⟨stay, rfl, ⟨es', n', s', outv5, wv5, xs5, h5, ⟨hl5, hb5, hn5⟩, hr5, hp1, hp2, hp3⟩, hf5, hs5⟩
          have hz : GoOut w0 w W5 ob b d es ev R op stay (fun n' => stay ≤ op.length ∧ n ≤ n' ∧ (n < n' ∨ UpAt d op es n stay)) :=
            ⟨⟨es', n', s', outv5, wv5, xs5, h5, ⟨hl5, hb5, hn5⟩, hr5, hp1, by omega, .inl (by omega)⟩, HF.out.1.trans hf5, Nat.le_trans HF.out.2 hs5⟩
          have HZ := hid hz
          clear hz hf5 hs5 h5 hr5 hl5 hb5 hn5 hp3 HE HF
          go_wp2_with fail
          go_ret
          exact ⟨stay, rfl, HZ.out⟩
      · have hP3 : 3 ≤ nestP (modO op) (clsX e.n) := hsays.resolve_left hP2
        have hq1 : (S.toList == [116, 97, 107, 101]) = false := by rw [hSl, hsay]; exact decide_eq_false hP2
        obtain ⟨hraw, hl2⟩ := raw_start_imp (r := es.drop (n + 1)) ho h1 hx hk hP3
        obtain ⟨s1, s2, s3, s4, _, _, s7⟩ := say_next (modO op) (by have := ho.mod; omega) (clsX e.n) (by omega) hP3
        obtain ⟨_, hf5, _, _, hpn, _, hdd⟩ := land_yes hk
        rw [List.take_length] at hpn
        rw [hpn, s4] at hdd
        simp only [List.length_cons] at hdd
        obtain ⟨y, hy⟩ : ∃ y, sayW (nestP (modO op) (clsX e.n)) = y := ⟨_, rfl⟩
        rw [hy] at s1 s2 s3 s4 s7 hraw hS hl2
        have hmu2 : muL (op ++ [y]) es n < M := by
          rw [muL_at _ he, leftL_start _ h1, s4] at hmu
          rw [muL_at _ he, leftL_start _ h1, modO_snoc]
          simp only [List.length_cons] at hmu
          omega
        have hcnt : (op ++ [y]).count aN ≤ 1 := by
          rw [List.count_append, List.count_singleton, if_neg (by simpa using s7)]
          exact ho.one
        rw [hraw, ← drop_cons he] at hR
        have hent := fun W (hW : HallF W1 W) (hh : HallS w0 W ob b d es n s.1 s.2 ev outv wv xs) => enter_any w0 ob b d M hM op (.slice pp op.length pc) y es n s ev outv wv (.slice none 0 0) [] xs W hmu2 ho s1 (by omega) hcnt (by omega) hd2 (by omega) hes hh (hp1.hall hW) (World.ownsRow_nil _ _ _ _) (fun g e => by cases e) (by rw [hR]; exact hpot)
        rw [hR, hS] at hent
        have HEN := hid hent
        have HL2 := hid (And.intro he hl2)
        clear hla hmq hcq hnq hh1 hb1 n1 hR hR0 hp1 hp hle hk hBX h hpot hpt ho hx hmu hM he hu h1 hneg hup hsays hcb hPl hsay hS hSl hP2 hP3 hraw hl2 s1 s2 s3 s4 s7 hf5 hpn hdd hy hmu2 hcnt hent hkl
        go_enter Tryd.func50, Tryd.ntmps50
        go_upto_region 1 with fail
        clear hW1
        go_wp2_with fail
        refine HLA.out.mono ?_
        rintro r W2 ⟨rfl, hb2⟩
        replace e1 := cell_low e1 hb2 hnn
        have hq := HH.out.1.below hb2
        have hmk := HMQ.out W2 hb2
        have HMK := hid hmk
        have HH2 := hid (And.intro hq hb2)
        clear hq hmk hb2 HLA HMQ
        go_upto_region 7 with fail
        go_quiet (first
          | (go_at_call 82; with_reducible refine Calls.quiet_of (HMK.out _))
          | (go_at_call 48; with_reducible refine Calls.quiet_of (HCQ.out _ _))
          | (go_at_call 83; with_reducible refine Calls.quiet_of (HNQ.out _ _)))
        have hbq : Below W2.heap.size W2 (W2.drewN nq) := below_drewN (Below.refl _ _) nq
        generalize W2.drewN nq = Wq at hbq ⊢
        have hf9 : HallF W1 Wq := (HallF.of_below HH2.out.2).trans (HallF.of_below hbq)
        have hen9 := HEN.out Wq hf9 (HH2.out.1.below hbq)
        have HE9 := hid hen9
        have H9 := hid (And.intro ((HallF.of_below HH.out.2.1).trans hf9) (Nat.le_trans (Nat.le_trans HH.out.2.1.size HH2.out.2.size) hbq.size))
        clear hbq hf9 hen9 HEN HH2 HH HMK HCQ HNQ e1
        go_wp2_with fail
        refine HE9.out.mono ?_
        rintro r W5 ⟨stay, rfl, ⟨es', n', s', outv5, wv5, xs5, h5, ⟨hl5, hb5, hn5⟩, hr5, hp1, hp2, hp3⟩, hf5, hs5⟩
        have hlt : n < n' := by
          rcases hp3 with h6 | h6 | ⟨e6, h6, h7, _, h8, h9⟩
          · exact h6
          · omega
          · rw [HL2.out.1] at h6
            obtain rfl := Option.some.inj h6
            rw [HL2.out.2] at h8
            rw [List.length_append, List.length_singleton] at h9
            omega
        have hz : GoOut w0 w W5 ob b d es ev R op stay (fun n' => stay ≤ op.length ∧ n ≤ n' ∧ (n < n' ∨ UpAt d op es n stay)) :=
          ⟨⟨es', n', s', outv5, wv5, xs5, h5, ⟨hl5, hb5, hn5⟩, hr5, hp1, hp2, .inl hlt⟩, H9.out.1.trans hf5, Nat.le_trans H9.out.2 hs5⟩
        have HZ := hid hz
        clear hz hf5 hs5 h5 hr5 hl5 hb5 hn5 hp3 HE9 H9
        go_wp2_with fail
        go_ret
        exact ⟨stay, rfl, HZ.out⟩
end Go.Proofs.YtkcgmimldjeaiaaDoor

/-
  The reference's inside: its walk.
-/
namespace Go.Proofs.YtkcgmimldjeaiaaDoor
open Go.RowKit Go.Lib Own

/-- inside between two events -/
structure InAt (w0 w W : World) (ob b d : Nat) (op : List (List UInt8)) (es : List EvP) (n : Nat) (ev : Value) (R : List Ev × List UInt8) (es' : List EvP) (n' : Nat) : Prop where
  it : ∃ (s' : List Ev × List UInt8) (outv wv : Value) (xs : List Value), HallS w0 W ob b d es' n' s'.1 s'.2 ev outv wv xs ∧ R = putEs s' (rawB d op (es'.drop n'))
  fr : HallF w W
  sz : w.heap.size ≤ W.heap.size
  len : es'.length = es.length
  bd : EsB es'
  le : n' ≤ es.length
  ge : n ≤ n'
  go : n < n' ∨ (n' = n ∧ es' = es)
theorem InAt.below {w0 w W W' : World} {ob b d n n' : Nat} {op : List (List UInt8)} {es es' : List EvP} {ev : Value} {R : List Ev × List UInt8} (h : InAt w0 w W ob b d op es n ev R es' n') (hb : Below W.heap.size W W') : InAt w0 w W' ob b d op es n ev R es' n' := by
  obtain ⟨⟨s', outv, wv, xs, h1, h2⟩, h3, h4, h5, h6, h7, h8, h9⟩ := h
  exact ⟨⟨s', outv, wv, xs, h1.below hb, h2⟩, h3.trans (HallF.of_below hb), Nat.le_trans h4 hb.size, h5, h6, h7, h8, h9⟩
/-- where the hall stands, read out of the memory -/
def atOf (W : World) (b : Nat) : Nat := match W.cell? ⟨b, 2, none⟩ with | some v => (RowKit.intOf v).toNat | none => 0
theorem InAt.atE {w0 w W : World} {ob b d n n' : Nat} {op : List (List UInt8)} {es es' : List EvP} {ev : Value} {R : List Ev × List UInt8} (h : InAt w0 w W ob b d op es n ev R es' n') : atOf W b = n' := by
  obtain ⟨s', outv, wv, xs, h1, _⟩ := h.it
  unfold atOf
  rw [cell_at h1.bx (j := 2) rfl]
  rfl
theorem InAt.mu {w0 w W : World} {ob b d n n' M : Nat} {op : List (List UInt8)} {es es' : List EvP} {ev : Value} {R : List Ev × List UInt8} (h : InAt w0 w W ob b d op es n ev R es' n') (hl : n' < es.length) (hm : muL op es n < M + 1) : muL op es' n' ≤ M := by
  rcases h.go with h9 | ⟨rfl, rfl⟩
  · have h8 : muL op es' n' ≤ 5 * (es'.length - n') + 3 := by
      unfold muL
      cases es'[n']? with
      | none => simp only; omega
      | some e2 => have := leftL_le op e2; simp only; omega
    have h7 : 5 * (es.length - n) ≤ muL op es n := Nat.le_add_right _ _
    have := h.len
    omega
  · omega
/-- behind a call that took the event at hand -/
theorem InAt.after {w0 w W W5 : World} {ob b d n n' stay : Nat} {op : List (List UInt8)} {es es' : List EvP} {ev : Value} {R : List Ev × List UInt8} (h : InAt w0 w W ob b d op es n ev R es' n')
    (hg : GoOut w0 W W5 ob b d es' ev R op stay (fun n2 => stay ≤ op.length ∧ n' ≤ n2 ∧ (n' < n2 ∨ UpAt d op es' n' stay))) :
    (stay < op.length → GoOut w0 w W5 ob b d es ev R op stay (insideP d es n op stay)) ∧ (¬ stay < op.length → ∃ es2 n2, InAt w0 w W5 ob b d op es n ev R es2 n2 ∧ n' < n2) := by
  obtain ⟨⟨es2, n2, s2, outv2, wv2, xs2, g1, ⟨g2, g3, g4⟩, g5, g6, g7, g8⟩, g9, g10⟩ := hg
  have hl := h.len
  have hge := h.ge
  refine ⟨fun hs => ⟨⟨es2, n2, s2, outv2, wv2, xs2, g1, ⟨g2.trans hl, g3, by omega⟩, g5, .inl hs, by omega, ?_⟩, h.fr.trans g9, Nat.le_trans h.sz g10⟩, fun hs => ⟨es2, n2, ⟨⟨s2, outv2, wv2, xs2, g1, ?_⟩, h.fr.trans g9, Nat.le_trans h.sz g10, g2.trans hl, g3, by omega, by omega, ?_⟩, ?_⟩⟩
  · rcases h.go with h9 | ⟨h9, h8⟩
    · exact .inl (by omega)
    · rcases g8 with g | g
      · exact .inl (by omega)
      · subst h9 h8
        exact .inr (.inr g)
  · obtain rfl : stay = op.length := by omega
    rw [g5, closeE_all, List.take_length, List.nil_append]
  · rcases g8 with g | ⟨_, _, _, _, _, g⟩
    · exact .inl (by omega)
    · omega
  · rcases g8 with g | ⟨_, _, _, _, _, g⟩
    · exact g
    · omega
theorem clsW_known (x : List UInt8) : (clsW (clsX x) == []) = (elemL x).isNone := by
  refine elem_all (fun x => (clsW (clsX x) == []) = (elemL x).isNone) (by decide +kernel) (fun x h1 _ => ?_) x
  have h3 : clsX x = 0 := by unfold clsX; rw [h1]; rfl
  rw [h3, h1]
  rfl
/-- behind an event that does nothing, or closes -/
theorem InAt.step {w0 w W W5 : World} {ob b d n n' : Nat} {op : List (List UInt8)} {es es' : List EvP} {ev outv wv : Value} {R : List Ev × List UInt8} {s' : List Ev × List UInt8} {xs : List Value} (h : InAt w0 w W ob b d op es n ev R es' n') (hl : n' < es.length) (hh : HallS w0 W5 ob b d es' (n' + 1) s'.1 s'.2 ev outv wv xs) (hf : HallF W W5) (hs : W.heap.size ≤ W5.heap.size)
    {stay : Nat} (hst : stay ≤ op.length) (hR : R = putEs s' (closeE stay op ++ rawB d (op.take stay) (es'.drop (n' + 1)))) : GoOut w0 W W5 ob b d es' ev R op stay (fun n2 => stay ≤ op.length ∧ n' ≤ n2 ∧ (n' < n2 ∨ UpAt d op es' n' stay)) :=
  ⟨⟨es', n' + 1, s', outv, wv, xs, hh, ⟨rfl, h.bd, by have := h.len; omega⟩, hR, hst, by omega, .inl (by omega)⟩, hf, hs⟩
set_option maxHeartbeats 16000000 in
set_option maxRecDepth 100000 in
theorem inside_of (w0 : World) (ob b d M : Nat) (hM : InsideC w0 ob b d M) : InsideC w0 ob b d (M + 1) := by
  intro op pv es n s ev outv wv xs w hmu ho hd hd2 hn hes h hp hpot
  obtain ⟨pp, pc, rfl⟩ : ∃ p c, pv = .slice p op.length c := by
    obtain ⟨pb, h⟩ := hp
    exact row_shape h
  obtain ⟨evp, evc, hev⟩ := h.evs.shape
  obtain ⟨R, hR⟩ : ∃ R, putEs s (rawB d op (es.drop n)) = R := ⟨_, rfl⟩
  rw [hR] at hpot ⊢
  have h0 : InAt w0 w w ob b d op es n ev R es n := ⟨⟨s, outv, wv, xs, h, hR.symm⟩, HallF.refl _, Nat.le_refl _, rfl, hes, hn, Nat.le_refl _, .inr ⟨rfl, rfl⟩⟩
  subst hev
  have H0 := hid h0
  have HP := hid hp
  clear h0 h hR hp
  go_enter Tryd.func22, Tryd.ntmps22
  go_wp2_with fail
  go_loopw [] (fun wr => ∃ (es' : List EvP) (n' : Nat), Hid (InAt w0 w wr ob b d op es n (.slice evp es.length evc) R es' n')) (fun wr => es.length - atOf wr b)
  case atStart => exact ⟨es, n, H0⟩
  case round =>
    clear H0
    obtain ⟨es', n', HX⟩ := hrel
    obtain ⟨s', outv', wv', xs', h1, hR1⟩ := HX.out.it
    have hlen := HX.out.bd.len
    have hl1 := HX.out.len
    have hle := HX.out.le
    have c1 := cell_at h1.bx (j := 1) rfl
    have c2 := cell_at h1.bx (j := 2) rfl
    by_cases hend : n' = es.length
    · have d1 : decide ((n' : Int) < (es.length : Int)) = false := decide_eq_false (by omega)
      have HH := hid (And.intro h1 hR1)
      clear h1 hR1
      go_upto_region 1 with fail
      go_quiet (fail)
      have hbq : Below wr.heap.size wr (wr.drewN nq) := below_drewN (Below.refl _ _) nq
      generalize wr.drewN nq = Wq at hbq ⊢
      have hz : GoOut w0 w Wq ob b d es (.slice evp es.length evc) R op 0 (insideP d es n op 0) := by
        refine ⟨⟨es', n', s', outv', wv', xs', HH.out.1.below hbq, ⟨hl1, HX.out.bd, hle⟩, ?_, ?_, HX.out.ge, ?_⟩, HX.out.fr.trans (HallF.of_below hbq), Nat.le_trans HX.out.sz hbq.size⟩
        · rw [HH.out.2, List.drop_of_length_le (by omega), raw_nil]
        · cases op with
          | nil => exact .inr ⟨rfl, rfl, by omega⟩
          | cons x r => exact .inl (Nat.succ_pos _)
        · rcases HX.out.go with h9 | ⟨h9, _⟩
          · exact .inl h9
          · exact .inr (.inl (by omega))
      have HZ := hid hz
      clear hz hbq HH HX c1 c2
      go_wp2_with fail
      go_ret
      exact ⟨0, rfl, HZ.out⟩
    · have hnl : n' < es.length := by omega
      obtain ⟨e, he⟩ : ∃ e, es'[n']? = some e := ⟨_, List.getElem?_eq_getElem (by omega)⟩
      have d1 : decide ((n' : Int) < (es.length : Int)) = true := decide_eq_true (by omega)
      obtain ⟨prs, hp1, hp2, hp3, hp4, hp5⟩ := id h1.evs
      have hpl : prs.length = es'.length := by rw [← hp1, List.length_map]
      obtain ⟨x, hxp⟩ : ∃ x, prs[n']? = some x := ⟨_, List.getElem?_eq_getElem (by omega)⟩
      have hxe : x.1 = e := by
        have : (prs.map Prod.fst)[n']? = some x.1 := by rw [List.getElem?_map, hxp]; rfl
        rw [hp1, he] at this
        exact (Option.some.inj this).symm
      have hxu := hp3 x (List.mem_of_getElem? hxp)
      have hxc := ecells_at prs n' x hxp
      obtain ⟨xe, u⟩ := x
      simp only at hxe hxu hxc
      subst hxe
      obtain ⟨g, cap, hvs, _, _, hcell⟩ := row_at hp2 (by omega)
      simp only [Value.slice.injEq] at hvs
      obtain ⟨rfl, hll, rfl⟩ := hvs
      have q0 := (hcell (n' * 4) (by omega)).trans hxc.1
      have q1 := (hcell (n' * 4 + 1) (by omega)).trans hxc.2.1
      have q2 := (hcell (n' * 4 + 2) (by omega)).trans hxc.2.2.1
      have q3 := (hcell (n' * 4 + 3) (by omega)).trans hxc.2.2.2
      obtain ⟨up, uc, rfl, _⟩ := id hxu
      have HH := hid (And.intro h1 (And.intro hR1 (And.intro he hxu)))
      clear h1 hR1 hp1 hp2 hp3 hp4 hp5 hpl hxp hxu hxc hcell he
      go_upto_region 1 with fail
      go_quiet (fail)
      have hbq : Below wr.heap.size wr (wr.drewN nq) := below_drewN (Below.refl _ _) nq
      have hgs : g < (wr.drewN nq).heap.size := Nat.lt_of_lt_of_le (cell_block q0) hbq.size
      have hbs : b < (wr.drewN nq).heap.size := Nat.lt_of_lt_of_le (cell_block c1) hbq.size
      replace c1 := cell_low c1 hbq (cell_block c1)
      replace c2 := cell_low c2 hbq (cell_block c2)
      replace q0 := cell_low q0 hbq (cell_block q0)
      replace q1 := cell_low q1 hbq (cell_block q1)
      replace q2 := cell_low q2 hbq (cell_block q2)
      replace q3 := cell_low q3 hbq (cell_block q3)
      generalize wr.drewN nq = Wq at hbq hgs hbs c1 c2 q0 q1 q2 q3 ⊢
      go_upto_region 3 with fail
      go_region
      obtain ⟨h1, hR1, he, hxu⟩ := HH.out
      have hbd : Below Wq.heap.size Wq (Wq.alloc (.cells #[.int .i64 xe.k, .string (bs xe.n), .slice up xe.a.length uc, .string (bs xe.t)] 39)).drew := below_drewN ((Below.refl _ _).alloc (Nat.le_refl _) _) 1
      have nd : (Wq.alloc (.cells #[.int .i64 xe.k, .string (bs xe.n), .slice up xe.a.length uc, .string (bs xe.t)] 39)).drew.heap[Wq.heap.size]? = some (.cells #[.int .i64 xe.k, .string (bs xe.n), .slice up xe.a.length uc, .string (bs xe.t)] 39 (0, 0)) := heap_alloc_new _ _
      generalize (Wq.alloc (.cells #[.int .i64 xe.k, .string (bs xe.n), .slice up xe.a.length uc, .string (bs xe.t)] 39)).drew = Wd at hbd nd ⊢
      have hbd2 : Below wr.heap.size wr Wd := hbq.trans (hbd.mono hbq.size)
      have hh := h1.below hbd2
      have hX := HX.out.below hbd2
      have hpd : PathR Wd (.slice pp op.length pc) op := HP.out.hall hX.fr
      have hmu2 := hX.mu hnl hmu
      obtain ⟨D, hD⟩ : ∃ D, Wq.heap.size = D := ⟨_, rfl⟩
      rw [hD] at nd
      simp only [hD]
      have d0 := cell_at nd (j := 0) rfl
      have e1 := cell_at nd (j := 1) rfl
      have e2 := cell_at nd (j := 2) rfl
      have e3 := cell_at nd (j := 3) rfl
      have hcl := fun W => classOf_any (bs xe.n) W
      rw [bs_toList, class_word] at hcl
      obtain ⟨CW, hCW⟩ : ∃ n, bs (clsW (clsX xe.n)) = n := ⟨_, rfl⟩
      have hkn : (CW.toList == []) = (elemL xe.n).isNone := by rw [← hCW, bs_toList]; exact clsW_known _
      rw [hCW] at hcl
      have HCL := hid hcl
      clear hCW
      have HS := hid (And.intro hX (And.intro hh (And.intro hpd (And.intro hmu2 (And.intro hR1 (And.intro he (And.intro hxu nd)))))))
      have HX0 := HX
      clear hbd hbd2 hh hX hpd hmu2 h1 hR1 he hxu hcl hD hbq c1 c2 q0 q1 q2 q3 HH HX hgs hbs nd
      have HAT0 := hid HX0.out.atE
      go_wp2_with fail
      refine (HCL.out _).mono ?_
      rintro r Wc ⟨rfl, rfl⟩
      by_cases h3 : xe.k = 3
      · have k3 : (xe.k == 3) = true := by rw [beq_iff_eq]; exact h3
        have htx := text_any w0 ob b d M hM op (.slice pp op.length pc) xe es' n' s' _ outv' wv' xs' Wc HS.out.2.2.2.2.2.1 h3 HS.out.2.2.2.1 ho hd hd2 HS.out.1.bd HS.out.2.1 HS.out.2.2.1 (by rw [← HS.out.2.2.2.2.1]; exact hpot)
        rw [← HS.out.2.2.2.2.1] at htx
        have hty := htx.mono (fun r w' (q : Stay r _) => (⟨by
          obtain ⟨st, q1, ⟨e9, m9, t9, o9, v9, x9, y1, y2, y3, y4, y5⟩, y6, y7⟩ := q
          exact ⟨st, q1, ⟨e9, m9, t9, o9, v9, x9, y1, y2, y3, y4, by omega, .inl y5⟩, y6, y7⟩⟩ : Stay r (fun stay => GoOut w0 Wc w' ob b d es' _ R op stay (fun n2 => stay ≤ op.length ∧ n' ≤ n2 ∧ (n' < n2 ∨ UpAt d op es' n' stay)))))
        have HCALL := hid hty
        clear htx hty HCL hM
        go_wp2_with fail
        refine HCALL.out.mono ?_
        rintro r W5 ⟨stay, rfl, hgo⟩
        obtain ⟨ha1, ha2⟩ := HS.out.1.after hgo
        have hst : stay ≤ op.length := by
          obtain ⟨_, _, _, _, _, _, _, _, _, g6, _⟩ := hgo.it
          exact g6
        have hat := HS.out.1.atE
        clear hgo HCALL d0 e1 e2 e3
        by_cases hs : stay < op.length
        · have d5 : decide ((stay : Int) < (op.length : Int)) = true := decide_eq_true (by omega)
          have d6 : (stay : Int) < (op.length : Int) := by omega
          have HZ := hid (ha1 hs)
          clear ha1 ha2 HS
          go_wp2_with fail
          go_ret
          exact ⟨stay, rfl, HZ.out⟩
        · obtain ⟨es2, n2, hz, hn2⟩ := ha2 hs
          obtain rfl : stay = op.length := by omega
          have hat2 := hz.atE
          have hle2 := hz.le
          have HZ := hid hz
          have d5 : decide (((op.length : Nat) : Int) < (op.length : Int)) = false := decide_eq_false (by omega)
          have HA := hid (And.intro HAT0.out (And.intro hat2 (And.intro hn2 hle2)))
          clear ha1 ha2 HS hz hat2 hn2 hle2 hat
          go_wp2_with fail
          go_roundw
          case rel => exact ⟨es2, n2, HZ⟩
          case measure => rw [HA.out.1, HA.out.2.1]; have := HA.out.2.2; omega
      · have k3 : (xe.k == 3) = false := by rw [beq_eq_false_iff_ne]; exact h3
        by_cases hst1 : xe.k = 1 ∧ elemL xe.n ≠ none
        · obtain ⟨h1, hx⟩ := hst1
          have k1 : (xe.k == 1) = true := by rw [beq_iff_eq]; exact h1
          have kn : (CW.toList == []) = false := by
            rw [hkn]
            cases hc : elemL xe.n with
            | none => exact absurd hc hx
            | some y => rfl
          have hsx := startH_any w0 ob b d M hM op (.slice pp op.length pc) xe (.slice up xe.a.length uc) es' n' s' _ outv' wv' xs' Wc HS.out.2.2.2.2.2.1 h1 hx HS.out.2.2.2.2.2.2.1 HS.out.2.2.2.1 ho hd hd2 HS.out.1.bd HS.out.2.1 HS.out.2.2.1 (by rw [← HS.out.2.2.2.2.1]; exact hpot)
          rw [← HS.out.2.2.2.2.1] at hsx
          have HCALL := hid hsx
          clear hsx HCL hM hkn hmu hd hd2 hn hes hpot hend hlen hl1 hle h1 hx h3 ho
          go_upto_region 8 with fail
          go_upto_region 9 with fail
          go_wp2_with fail
          refine HCALL.out.mono ?_
          rintro r W5 ⟨stay, rfl, hgo⟩
          obtain ⟨ha1, ha2⟩ := HS.out.1.after hgo
          have hst : stay ≤ op.length := by
            obtain ⟨_, _, _, _, _, _, _, _, _, g6, _⟩ := hgo.it
            exact g6
          clear hgo HCALL d0 e1 e2 e3
          by_cases hs : stay < op.length
          · have d5 : decide ((stay : Int) < (op.length : Int)) = true := decide_eq_true (by omega)
            have d6 : (stay : Int) < (op.length : Int) := by omega
            have HZ := hid (ha1 hs)
            clear ha1 ha2 HS
            go_wp2_with fail
            go_ret
            exact ⟨stay, rfl, HZ.out⟩
          · obtain ⟨es2, n2, hz, hn2⟩ := ha2 hs
            obtain rfl : stay = op.length := by omega
            have hat2 := hz.atE
            have hle2 := hz.le
            have HZ := hid hz
            have d5 : decide (((op.length : Nat) : Int) < (op.length : Int)) = false := decide_eq_false (by omega)
            have HA := hid (And.intro HAT0.out (And.intro hat2 (And.intro hn2 hle2)))
            clear ha1 ha2 HS hz hat2 hn2 hle2
            go_wp2_with fail
            go_roundw
            case rel => exact ⟨es2, n2, HZ⟩
            case measure => rw [HA.out.1, HA.out.2.1]; have := HA.out.2.2; omega
        · clear hM
          obtain ⟨g1, g2, g3⟩ := HS.out.2.1.next
          have c2 := cell_at HS.out.2.1.bx (j := 2) rfl
          have f2 := free_at HS.out.2.1.bx 2
          have w1 : IntKind.i64.wrap ((n' : Int) + 1) = (n' : Int) + 1 := by rw [IntKind.wrap_i64]; omega
          have hRe := HS.out.2.2.2.2.1
          rw [drop_cons HS.out.2.2.2.2.2.1] at hRe
          by_cases h2 : xe.k = 2
          · have k2 : (xe.k == 2) = true := by rw [beq_iff_eq]; exact h2
            have k1 : (xe.k == 1) = false := by rw [beq_eq_false_iff_ne]; omega
            have hnb : D ≠ b := fun e9 => by
              have h4 := HS.out.2.1.bx
              rw [← e9, HS.out.2.2.2.2.2.2.2] at h4
              simp only [Option.some.injEq, Obj.cells.injEq] at h4
              exact absurd h4.2.1 (by decide)
            have nn9 := ((just_set (j := 2) HS.out.2.1.bx (.int .i64 ((n' : Int) + 1))).other _ hnb).trans HS.out.2.2.2.2.2.2.2
            obtain ⟨Wn, hWn⟩ : ∃ Wn, Wc.setCell ⟨b, 2, none⟩ (.int .i64 ((n' : Int) + 1)) = Wn := ⟨_, rfl⟩
            rw [hWn] at g1 g2 g3 nn9
            have hcc := closes_any (.slice pp op.length pc) op (bs xe.n) Wn (HS.out.2.2.1.hall g2).words (by omega)
            rw [bs_toList] at hcc
            have HND := hid nn9
            rcases raw_end (d := d) (r := es'.drop (n' + 1)) h2 (fun x hx => (ho.known x hx).1) with ⟨hc9, hr9⟩ | ⟨kk, hkk, hc9, hr9⟩
            · rw [hc9] at hcc
              rw [hr9] at hRe
              have HCC := hid hcc
              have hgo := HS.out.1.step hnl g1 g2 g3 (Nat.le_refl op.length) (by rw [closeE_all, List.take_length, List.nil_append]; exact hRe)
              obtain ⟨es2, n2, hz, hn2⟩ := (HS.out.1.after hgo).2 (Nat.lt_irrefl _)
              have hat2 := hz.atE
              have hle2 := hz.le
              have HZ := hid hz
              have HA := hid (And.intro HAT0.out (And.intro hat2 (And.intro hn2 hle2)))
              have d5 : decide (((op.length : Nat) : Int) < (op.length : Int)) = false := decide_eq_false (by omega)
              clear hz hgo hat2 hn2 hle2 HS HCL hcc hc9 hr9 nn9 hnb hkn hmu hd hd2 hn hes hpot hend hlen hl1 hle h2 h3 hst1 ho hRe g1 g2 g3
              go_upto_region 8 with fail
              go_upto_region 12 with fail
              (try simp only [hWn])
              clear hWn d0 e1 e2 e3 c2 f2
              have e1 := cell_at HND.out (j := 1) rfl
              go_wp2_with fail
              refine HCC.out.mono ?_
              rintro r W5 ⟨rfl, rfl⟩
              go_wp2_with fail
              go_roundw
              case rel => exact ⟨es2, n2, HZ⟩
              case measure => rw [HA.out.1, HA.out.2.1]; have := HA.out.2.2; omega
            · rw [hc9] at hcc
              rw [hr9] at hRe
              have HCC := hid hcc
              have hgo := HS.out.1.step hnl g1 g2 g3 (Nat.le_of_lt hkk) hRe
              have HZ := hid ((HS.out.1.after hgo).1 hkk)
              have d5 : decide ((kk : Int) < (op.length : Int)) = true := decide_eq_true (by omega)
              have d6 : (kk : Int) < (op.length : Int) := by omega
              have d7 : decide ((0 : Int) ≤ (kk : Int)) = true := decide_eq_true (by omega)
              clear hgo HS HCL hcc hc9 hr9 nn9 hnb hkn hmu hd hd2 hn hes hpot hend hlen hl1 hle h2 h3 hst1 ho hRe g1 g2 g3
              go_upto_region 8 with fail
              go_upto_region 12 with fail
              (try simp only [hWn])
              clear hWn d0 e1 e2 e3 c2 f2
              have e1 := cell_at HND.out (j := 1) rfl
              go_wp2_with fail
              refine HCC.out.mono ?_
              rintro r W5 ⟨rfl, rfl⟩
              go_wp2_with fail
              go_ret
              exact ⟨kk, rfl, HZ.out⟩
          · have k2 : (xe.k == 2) = false := by rw [beq_eq_false_iff_ne]; exact h2
            have hr9 : rawB d op (xe :: es'.drop (n' + 1)) = rawB d op (es'.drop (n' + 1)) := by
              by_cases h1 : xe.k = 1
              · refine raw_unknown h1 ?_
                cases hc : elemL xe.n with
                | none => rfl
                | some y => exact absurd ⟨h1, by rw [hc]; exact fun q => by cases q⟩ hst1
              · exact raw_other h1 h2 h3
            rw [hr9] at hRe
            have hgo := HS.out.1.step hnl g1 g2 g3 (Nat.le_refl op.length) (by rw [closeE_all, List.take_length, List.nil_append]; exact hRe)
            obtain ⟨es2, n2, hz, hn2⟩ := (HS.out.1.after hgo).2 (Nat.lt_irrefl _)
            have hat2 := hz.atE
            have hle2 := hz.le
            have HZ := hid hz
            have HA := hid (And.intro HAT0.out (And.intro hat2 (And.intro hn2 hle2)))
            have d5 : decide (((op.length : Nat) : Int) < (op.length : Int)) = false := decide_eq_false (by omega)
            by_cases h1 : xe.k = 1
            · have k1 : (xe.k == 1) = true := by rw [beq_iff_eq]; exact h1
              have kn : (CW.toList == []) = true := by
                rw [hkn]
                cases hc : elemL xe.n with
                | none => rfl
                | some y => exact absurd ⟨h1, by rw [hc]; exact fun q => by cases q⟩ hst1
              clear hz hgo hat2 hn2 hle2 HS HCL hkn hmu hd hd2 hn hes hpot hend hlen hl1 hle h1 h2 h3 hst1 ho hr9 hRe g1 g2 g3
              go_upto_region 8 with fail
              go_wp2_with fail
              go_roundw
              case rel => exact ⟨es2, n2, HZ⟩
              case measure => rw [HA.out.1, HA.out.2.1]; have := HA.out.2.2; omega
            · have k1 : (xe.k == 1) = false := by rw [beq_eq_false_iff_ne]; exact h1
              clear hz hgo hat2 hn2 hle2 HS HCL hkn hmu hd hd2 hn hes hpot hend hlen hl1 hle h1 h2 h3 hst1 ho hr9 hRe g1 g2 g3
              go_upto_region 8 with fail
              go_wp2_with fail
              go_roundw
              case rel => exact ⟨es2, n2, HZ⟩
              case measure => rw [HA.out.1, HA.out.2.1]; have := HA.out.2.2; omega
end Go.Proofs.YtkcgmimldjeaiaaDoor

/-
  The reference's inside, for every measure; and of the empty path.
-/
namespace Go.Proofs.YtkcgmimldjeaiaaDoor
open Go.RowKit Go.Lib Own

theorem hallInside_any (w0 : World) (ob b d : Nat) : ∀ M, InsideC w0 ob b d M
  | 0 => fun _ _ _ _ _ _ _ _ _ _ hmu => absurd hmu (Nat.not_lt_zero _)
  | M + 1 => inside_of w0 ob b d M (hallInside_any w0 ob b d M)
/-- inside of no element: all events are taken -/
theorem insideAll_any (w0 : World) (ob b d : Nat) (pv : Value) (es : List EvP) (ev outv wv : Value) (xs : List Value) (w : World) (hd2 : d ≤ 256) (hes : EsB es) (h : HallS w0 w ob b d es 0 [] [] ev outv wv xs) (hp : PathR w pv []) (hpot : potS (putEs ([], []) (rawB d [] es)) ≤ 80000000) :
    Calls Tryd.prog 22 #[.pointer (some ⟨b, 0, none⟩), pv] w fun e w' => Stay e (fun _ => ∃ es' n', HallOut w0 w w' ob b d es' n' (putEs ([], []) (rawB d [] es)).1 (putEs ([], []) (rawB d [] es)).2 ev) := by
  refine (hallInside_any w0 ob b d (muL [] es 0 + 1) [] pv es 0 ([], []) ev outv wv xs w (Nat.lt_succ_self _) OpenOk.nil (Nat.zero_le _) hd2 (Nat.zero_le _) hes h hp hpot).mono ?_
  rintro e w' ⟨stay, rfl, ⟨es', n', s', outv', wv', xs', h1, ⟨h2, h3, h4⟩, h5, h6, _⟩, hf, hs⟩
  refine ⟨stay, rfl, es', n', ?_⟩
  rcases h6 with h6 | ⟨_, rfl, h7⟩
  · exact absurd h6 (Nat.not_lt_zero _)
  · have hdr : es'.drop n' = [] := List.drop_of_length_le (by omega)
    rw [hdr] at h5
    have h8 : putEs ([], []) (rawB d [] es) = s' := h5
    rw [h8]
    exact ⟨⟨outv', wv', xs', h1⟩, hf, hs⟩
end Go.Proofs.YtkcgmimldjeaiaaDoor

/-
  The balancer's Take, End and New: their walks.
-/
namespace Go.Proofs.YtkcgmimldjeaiaaDoor
open Go.RowKit Go.Lib Own

/-- its list begins anew -/
theorem BalS.reset {w0 W : World} {ob b : Nat} {d : Int} {op : List (List UInt8)} {ov outv : Value} {J : List Ev} {xs : List Value} (h : BalS w0 W ob b d op ov outv J xs) {ob' : Nat} (h1 : w0.heap.size ≤ ob') (h2 : ob' ≤ W.heap.size) :
    BalS w0 (W.setCell ⟨b, 2, none⟩ (.slice none 0 0)) ob' b d op ov (.slice none 0 0) [] [] ∧ BalF b ov (.slice none 0 0) ov (.slice none 0 0) W (W.setCell ⟨b, 2, none⟩ (.slice none 0 0)) := by
  have j := just_put (j := 2) (cs2 := #[.int .i64 d, ov, .slice none 0 0]) h.at_.bx (.slice none 0 0) (by simp)
  have ho : OpenR (W.setCell ⟨b, 2, none⟩ (.slice none 0 0)) w0.heap.size ov op := row_just h.at_.op h.at_.bx (by decide) j.other
  have hf : BalF b ov (.slice none 0 0) ov (.slice none 0 0) W (W.setCell ⟨b, 2, none⟩ (.slice none 0 0)) :=
    ⟨j.os, j.tape, j.output, by rw [j.size]; exact Nat.le_refl _, fun x _ hx _ _ => j.other x hx, fun g hg => .inl hg, fun g hg => .inl hg⟩
  exact ⟨⟨⟨h.at_.lo, j.at_, ho, MadeE.nil _ _⟩, h.be.trans (just_low j h.at_.lo), h.kt, h.nt, h1, by rw [j.size]; exact h2⟩, hf⟩
/-- what Take and End answer -/
structure TakeOut (w0 w : World) (b : Nat) (d : Int) (ov : Value) (R : List (List UInt8) × List Ev) (e : Ending) (w' : World) : Prop where
  it : ∃ ov' outv' xs', e = .returned outv' ∧ BalS w0 w' w.heap.size b d R.1 ov' outv' R.2 xs' ∧ BalF b ov (.slice none 0 0) ov' outv' w w'
theorem balS_one {d : Nat} {op : List (List UInt8)} {e : EvP} (h : e.k = 1) : balS d op e = startP d op e.n e.a := if_pos h
theorem balS_two {d : Nat} {op : List (List UInt8)} {e : EvP} (h : e.k = 2) : balS d op e = endP op e.n := by unfold balS; rw [if_neg (by omega), if_pos h]
theorem balS_three {d : Nat} {op : List (List UInt8)} {e : EvP} (h : e.k = 3) : balS d op e = textP d op e.t := by unfold balS; rw [if_neg (by omega), if_neg (by omega), if_pos h]
theorem balS_else {d : Nat} {op : List (List UInt8)} {e : EvP} (h1 : e.k ≠ 1) (h2 : e.k ≠ 2) (h3 : e.k ≠ 3) : balS d op e = (op, []) := by unfold balS; rw [if_neg h1, if_neg h2, if_neg h3]

set_option maxHeartbeats 8000000 in
set_option maxRecDepth 100000 in
theorem takeB_any (w0 : World) (ob b d : Nat) (op : List (List UInt8)) (ov outv : Value) (J : List Ev) (xs : List Value) (e : EvP) (av : Value) (w : World) (h : BalS w0 w ob b d op ov outv J xs) (ha : AttrsR w0 av e.a) (hal : e.a.length ≤ 4000000) (hop : op.length ≤ 800000) :
    Calls Tryd.prog 27 #[.pointer (some ⟨b, 0, none⟩), .agg #[.int .i64 e.k, .string (bs e.n), av, .string (bs e.t)]] w (TakeOut w0 w b d ov (balS d op e)) := by
  obtain ⟨ap, ac, rfl⟩ := ha.len
  obtain ⟨R, hR⟩ : ∃ R, balS d op e = R := ⟨_, rfl⟩
  rw [hR]
  have HR := hid hR
  obtain ⟨W1, hW1⟩ : ∃ W1, w.alloc (.cells #[.int .i64 e.k, .string (bs e.n), .slice ap e.a.length ac, .string (bs e.t)] 39) = W1 := ⟨_, rfl⟩
  have hb1 : Below w.heap.size w W1 := by rw [← hW1]; exact (Below.refl _ _).alloc (Nat.le_refl _) _
  have n1 : W1.heap[w.heap.size]? = some (.cells #[.int .i64 e.k, .string (bs e.n), .slice ap e.a.length ac, .string (bs e.t)] 39 (0, 0)) := by rw [← hW1]; exact heap_alloc_new _ _
  have h1 := h.below hb1
  have hnb : w.heap.size ≠ b := fun e => by have := block_lt h.at_.bx; omega
  obtain ⟨h2, f2⟩ := h1.reset h.base hb1.size
  have j := just_put (j := 2) (cs2 := #[.int .i64 d, ov, .slice none 0 0]) h1.at_.bx (.slice none 0 0) (by simp)
  have n2 := (j.other _ hnb).trans n1
  have c2 := cell_at h1.at_.bx (j := 2) rfl
  have y2 := free_at h1.at_.bx 2
  have hbb := block_lt h1.at_.bx
  have H2 := hid (And.intro h2 (And.intro ((BalF.of_below hb1).trans f2) hb1.size))
  have HN := hid n2
  have HA := hid ha
  clear h hR hb1 n1 h1 h2 f2 j n2 ha
  go_enter Tryd.func27, Tryd.ntmps27
  go_upto_region 2 with fail
  obtain ⟨W2, hW2⟩ : ∃ W2, W1.setCell ⟨b, 2, none⟩ (.slice none 0 0) = W2 := ⟨_, rfl⟩
  rw [hW2] at H2 HN
  simp only [hW2]
  clear hW2 hW1 c2 y2 hbb
  have e0 := cell_at HN.out (j := 0) rfl
  have e1 := cell_at HN.out (j := 1) rfl
  have e2 := cell_at HN.out (j := 2) rfl
  have e3 := cell_at HN.out (j := 3) rfl
  by_cases k1 : e.k = 1
  · have hfin := balS_one (d := d) (op := op) k1
    rw [HR.out] at hfin
    subst hfin
    have hst := startB_any w0 w.heap.size b d op ov _ [] [] (bs e.n) (.slice ap e.a.length ac) e.a W2 H2.out.1 HA.out hal (by simp) hop
    rw [bs_toList] at hst
    rw [k1] at e0
    have HS := hid hst
    obtain ⟨BN, hBN⟩ : ∃ n, bs e.n = n := ⟨_, rfl⟩
    rw [hBN] at HS e1
    clear hst k1 hBN HN
    go_wp2_with fail
    refine HS.out.mono ?_
    rintro e W3 ⟨rfl, ov3, outv3, xs3, hs3, hf3⟩
    have c2 := cell_at hs3.at_.bx (j := 2) rfl
    have HZ := hid (And.intro hs3 (H2.out.2.1.trans hf3))
    clear hs3 hf3 HS e0 e1 e2 e3
    go_wp2_with fail
    go_ret
    exact ⟨_, _, _, rfl, HZ.out.1, HZ.out.2⟩
  · have q1 : (e.k == 1) = false := by rw [Bool.eq_false_iff]; intro h; rw [beq_iff_eq] at h; exact k1 h
    by_cases k2 : e.k = 2
    · have hfin := balS_two (d := d) (op := op) k2
      rw [HR.out] at hfin
      subst hfin
      have hst := endB_any w0 w.heap.size b d op ov _ [] [] (bs e.n) W2 H2.out.1 (by simp) (by omega)
      rw [bs_toList] at hst
      rw [k2] at e0
      have HS := hid hst
      obtain ⟨BN, hBN⟩ : ∃ n, bs e.n = n := ⟨_, rfl⟩
      rw [hBN] at HS e1
      clear hst k2 hBN HN q1 k1
      go_wp2_with fail
      refine HS.out.mono ?_
      rintro e W3 ⟨rfl, ov3, outv3, xs3, hs3, hf3⟩
      have c2 := cell_at hs3.at_.bx (j := 2) rfl
      have HZ := hid (And.intro hs3 (H2.out.2.1.trans hf3))
      clear hs3 hf3 HS e0 e1 e2 e3
      go_wp2_with fail
      go_ret
      exact ⟨_, _, _, rfl, HZ.out.1, HZ.out.2⟩
    · have q2 : (e.k == 2) = false := by rw [Bool.eq_false_iff]; intro h; rw [beq_iff_eq] at h; exact k2 h
      by_cases k3 : e.k = 3
      · have hfin := balS_three (d := d) (op := op) k3
        rw [HR.out] at hfin
        subst hfin
        have hst := addText_any w0 w.heap.size b d op ov _ [] [] e.t W2 H2.out.1 (by simp) hop
        rw [k3] at e0
        have HS := hid hst
        obtain ⟨BN, hBN⟩ : ∃ n, bs e.t = n := ⟨_, rfl⟩
        rw [hBN] at HS e3
        clear hst k3 hBN HN q1 k1 q2 k2
        go_wp2_with fail
        refine HS.out.mono ?_
        rintro e W3 ⟨rfl, ov3, outv3, xs3, hs3, hf3⟩
        have c2 := cell_at hs3.at_.bx (j := 2) rfl
        have HZ := hid (And.intro hs3 (H2.out.2.1.trans hf3))
        clear hs3 hf3 HS e0 e1 e2 e3
        go_wp2_with fail
        go_ret
        exact ⟨_, _, _, rfl, HZ.out.1, HZ.out.2⟩
      · have q3 : (e.k == 3) = false := by rw [Bool.eq_false_iff]; intro h; rw [beq_iff_eq] at h; exact k3 h
        have hfin := balS_else (d := d) (op := op) k1 k2 k3
        rw [HR.out] at hfin
        subst hfin
        have c2 := cell_at H2.out.1.at_.bx (j := 2) rfl
        obtain ⟨K, hK⟩ : ∃ k, e.k = k := ⟨_, rfl⟩
        rw [hK] at q1 q2 q3 e0
        clear HN k1 k2 k3 e1 e2 e3 hK
        go_wp2_with fail
        go_ret
        exact ⟨_, _, _, rfl, H2.out.1, H2.out.2.1⟩

set_option maxHeartbeats 4000000 in
set_option maxRecDepth 100000 in
theorem endAllB_any (w0 : World) (ob b d : Nat) (op : List (List UInt8)) (ov outv : Value) (J : List Ev) (xs : List Value) (w : World) (h : BalS w0 w ob b d op ov outv J xs) (hop : op.length ≤ 800000) :
    Calls Tryd.prog 28 #[.pointer (some ⟨b, 0, none⟩)] w (TakeOut w0 w b d ov ([], closeE 0 op)) := by
  obtain ⟨h2, f2⟩ := h.reset h.base (Nat.le_refl _)
  have c2 := cell_at h.at_.bx (j := 2) rfl
  have y2 := free_at h.at_.bx 2
  have H2 := hid (And.intro h2 f2)
  clear h h2 f2
  go_enter Tryd.func28, Tryd.ntmps28
  go_upto_region 2 with fail
  obtain ⟨W2, hW2⟩ : ∃ W2, w.setCell ⟨b, 2, none⟩ (.slice none 0 0) = W2 := ⟨_, rfl⟩
  rw [hW2] at H2
  simp only [hW2]
  clear hW2 c2 y2
  have hct := closeTo_any w0 w.heap.size b d op ov _ [] [] 0 W2 H2.out.1 (Nat.zero_le _) (by simp) (by omega)
  have HC := hid hct
  clear hct
  go_wp2_with fail
  refine HC.out.mono ?_
  rintro e W3 ⟨rfl, ov3, outv3, xs3, hs3, hf3⟩
  have c2 := cell_at hs3.at_.bx (j := 2) rfl
  have HZ := hid (And.intro hs3 (H2.out.2.trans hf3))
  clear hs3 hf3 HC
  go_wp2_with fail
  go_ret
  exact ⟨_, _, _, rfl, HZ.out.1, HZ.out.2⟩
theorem newB_any (d : Int) (w : World) : Calls Tryd.prog 25 #[.int .i64 d] w fun e w' => e = .returned (.pointer (some ⟨w.heap.size, 0, none⟩)) ∧ w' = w.alloc (.cells #[.int .i64 d, .slice none 0 0, .slice none 0 0] 104) := by
  go_enter Tryd.func25, Tryd.ntmps25
  go_wp2
  go_ret
  exact ⟨rfl, rfl⟩
end Go.Proofs.YtkcgmimldjeaiaaDoor

/-
  Balance: how much it puts out; its state through the walk.
-/
namespace Go.Proofs.YtkcgmimldjeaiaaDoor
open Go.RowKit Go.Lib Own

theorem closeE_len (k : Nat) (op : List (List UInt8)) : (closeE k op).length = op.length - k := by unfold closeE; simp
theorem openE_len (l : List (List UInt8)) : (openE l).length = l.length := by unfold openE; simp
theorem known_ne {x : List UInt8} (h : elemL x ≠ none) : x ≠ [] := fun e => by
  subst e
  exact h (by decide +kernel)
/-- never more open than the depth -/
theorem start_len {d : Nat} {op : List (List UInt8)} {x : List UInt8} {al : List AttrP} (h : op.length ≤ d) : (startP d op x al).1.length ≤ d ∧ (startP d op x al).2.length + (startP d op x al).1.length ≤ op.length + 8 * min 1 x.length := by
  by_cases h1 : elemL x = none
  · rw [startP_unknown h1]
    exact ⟨h, by simp⟩
  · by_cases h2 : (findP (clsX x) op (reachP op x)).2 = 0 ∨ d < (findP (clsX x) op (reachP op x)).1 + (impP (findP (clsX x) op (reachP op x)).2).length + 1
    · rw [startP_no h1 h2]
      exact ⟨h, by simp⟩
    · rw [startP_yes h1 h2]
      have h3 := imp_len (findP (clsX x) op (reachP op x)).2
      have h4 : (findP (clsX x) op (reachP op x)).1 ≤ op.length := Nat.le_trans (findP_le _ _ _) (reachP_le _ _)
      have h5 : 1 ≤ x.length := List.length_pos_iff.2 (known_ne h1)
      have h6 : min 1 x.length = 1 := by omega
      have h7 : (if modX x = 9 then ([] : List (List UInt8)) else [x]).length ≤ 1 := by split <;> simp
      simp only [List.length_append, List.length_take, closeE_len, openE_len, List.length_cons, List.length_nil]
      rw [h6]
      omega
theorem text_len {d : Nat} {op : List (List UInt8)} {t : List UInt8} (h : op.length ≤ d) : (textP d op t).1.length ≤ d ∧ (textP d op t).2.length + (textP d op t).1.length ≤ op.length + 8 * min 1 t.length := by
  by_cases h1 : nestP (modO op) 3 = 2
  · rw [textP_take h1]
    refine ⟨h, ?_⟩
    by_cases ht : t = []
    · rw [if_pos ht]; simp
    · rw [if_neg ht]
      have h5 : 1 ≤ t.length := List.length_pos_iff.2 ht
      have h6 : min 1 t.length = 1 := by omega
      rw [h6]
      simp only [List.length_cons, List.length_nil]
      omega
  · by_cases h2 : trimP t = [] ∨ d < op.length + (impP (nestP (modO op) 3)).length
    · rw [textP_none h1 h2]
      exact ⟨h, by simp⟩
    · rw [textP_imp h1 h2]
      have h3 := imp_len (nestP (modO op) 3)
      have ht : t ≠ [] := fun e => by subst e; exact h2 (.inl rfl)
      have h5 : 1 ≤ t.length := List.length_pos_iff.2 ht
      have h6 : min 1 t.length = 1 := by omega
      simp only [List.length_append, openE_len, List.length_cons, List.length_nil]
      rw [h6]
      omega
theorem end_len {d : Nat} {op : List (List UInt8)} {x : List UInt8} (h : op.length ≤ d) : (endP op x).1.length ≤ d ∧ (endP op x).2.length + (endP op x).1.length ≤ op.length := by
  by_cases h1 : elemL x = none
  · unfold endP
    rw [if_pos h1]
    exact ⟨h, by simp⟩
  · rw [endP_eq op x h1]
    cases hc : closesP op x op.length with
    | none => exact ⟨h, by simp [endR]⟩
    | some k =>
      have := closes_lt hc
      simp only [endR, List.length_take, closeE_len]
      omega
theorem balS_len {d : Nat} {op : List (List UInt8)} {e : EvP} (h : op.length ≤ d) : (balS d op e).1.length ≤ d ∧ (balS d op e).2.length + (balS d op e).1.length ≤ op.length + 4 * (e.n.length + e.t.length + bulkA e.a + 1) := by
  by_cases k1 : e.k = 1
  · rw [balS_one k1]
    have := start_len (x := e.n) (al := e.a) h
    omega
  · by_cases k2 : e.k = 2
    · rw [balS_two k2]
      have := end_len (x := e.n) h
      omega
    · by_cases k3 : e.k = 3
      · rw [balS_three k3]
        have := text_len (t := e.t) h
        omega
      · rw [balS_else k1 k2 k3]
        exact ⟨h, by simp only [List.length_nil]; omega⟩
/-- the bytes of texts -/
def txtN (L : List Ev) : Nat := (L.map fun e => (evT e).length).sum
theorem txtN_app (a b : List Ev) : txtN (a ++ b) = txtN a + txtN b := by unfold txtN; rw [List.map_append, List.sum_append]
theorem txtN_open (l : List (List UInt8)) : txtN (openE l) = 0 := by
  induction l with
  | nil => rfl
  | cons x r ih => show (evT (.start x [])).length + txtN (openE r) = 0; rw [ih]; rfl
theorem txtN_stops : ∀ l : List (List UInt8), txtN (l.map .stop) = 0
  | [] => rfl
  | x :: r => by show (evT (.stop x)).length + txtN (r.map .stop) = 0; rw [txtN_stops r]; rfl
theorem txtN_close (k : Nat) (op : List (List UInt8)) : txtN (closeE k op) = 0 := txtN_stops _
theorem balS_txt (d : Nat) (op : List (List UInt8)) (e : EvP) : txtN (balS d op e).2 ≤ e.t.length := by
  by_cases k1 : e.k = 1
  · rw [balS_one k1]
    unfold startP
    split
    · exact Nat.zero_le _
    · split
      · exact Nat.zero_le _
      · rw [txtN_app, txtN_app, txtN_close, txtN_open]
        exact Nat.zero_le _
  · by_cases k2 : e.k = 2
    · rw [balS_two k2]
      unfold endP
      split
      · exact Nat.zero_le _
      · split
        · exact Nat.zero_le _
        · rw [txtN_close]; exact Nat.zero_le _
    · by_cases k3 : e.k = 3
      · rw [balS_three k3]
        unfold textP
        split
        · simp only
          split
          · exact Nat.zero_le _
          · show (evT (.text e.t)).length + 0 ≤ _; exact Nat.le_refl _
        · split
          · exact Nat.zero_le _
          · rw [txtN_app, txtN_open]
            have : (trimP e.t).length ≤ e.t.length := (List.dropWhile_sublist _).length_le
            show 0 + ((trimP e.t).length + 0) ≤ _
            omega
      · rw [balS_else k1 k2 k3]; exact Nat.zero_le _
theorem putEs_pend : ∀ (L : List Ev) (s : List Ev × List UInt8), (putEs s L).2.length ≤ s.2.length + txtN L
  | [], s => Nat.le_add_right _ _
  | e :: L, s => by
    have h := putEs_pend L (putE s e)
    have h2 : (putE s e).2.length ≤ s.2.length + (evT e).length := by
      by_cases h3 : evK e = 3
      · cases e with
        | text t => rw [putE_text]; simp only [List.length_append]; exact Nat.le_refl _
        | start n a => exact absurd h3 (by show (1 : Nat) ≠ 3; omega)
        | stop n => exact absurd h3 (by show (2 : Nat) ≠ 3; omega)
      · rw [putE_other s e h3]; exact Nat.zero_le _
    have h3 : txtN (e :: L) = (evT e).length + txtN L := rfl
    show (putEs (putE s e) L).2.length ≤ _
    omega
theorem txtN_take (L : List Ev) (k : Nat) : txtN (L.take k) ≤ txtN L := by
  have h := txtN_app (L.take k) (L.drop k)
  rw [List.take_append_drop] at h
  omega
theorem txtN_mem {L : List Ev} {e : Ev} (h : e ∈ L) : (evT e).length ≤ txtN L := by
  obtain ⟨k, hk⟩ := List.getElem?_of_mem h
  exact sum_get (fun e : Ev => (evT e).length) L k e hk
theorem bulkE_next {es : List EvP} {k : Nat} {e : EvP} (h : es[k]? = some e) : bulkE (es.take (k + 1)) = bulkE (es.take k) + (e.n.length + e.t.length + bulkA e.a + 1) := by
  rw [List.take_add_one, h]
  unfold bulkE
  rw [List.map_append, List.sum_append]
  simp
theorem bulkE_take (es : List EvP) (k : Nat) : bulkE (es.take k) ≤ bulkE es := by
  have h : bulkE (es.take k ++ es.drop k) = bulkE (es.take k) + bulkE (es.drop k) := by unfold bulkE; rw [List.map_append, List.sum_append]
  rw [List.take_append_drop] at h
  omega
theorem rawB_next {d : Nat} {op : List (List UInt8)} {es : List EvP} {k : Nat} {e : EvP} (h : es[k]? = some e) : rawB d op (es.drop k) = (balS d op e).2 ++ rawB d (balS d op e).1 (es.drop (k + 1)) := by
  rw [drop_at h, rawB_step]
/-- the attributes of a list that a call made are new to what lay there -/
theorem free_new {W W1 : World} {ob base : Nat} {lv : Value} {L : List Ev} {ys : List Value} {evs : List Ev} {xs : List Value} (hm : MadeE W ob lv L ys) (he : EvsAt W1 base xs evs) (ho : W1.heap.size ≤ ob) : FreeFrom ys xs 0 := fun j a g _ hja hag => by
  have hlen := evs_len ys L hm.evs
  have hj := (List.getElem?_eq_some_iff.1 hja).1
  obtain ⟨e, he0⟩ : ∃ e, L[j]? = some e := ⟨_, List.getElem?_eq_getElem (by omega)⟩
  obtain ⟨a', _, _, h3, _, h5, _⟩ := evs_get ys L j e hm.evs he0
  obtain rfl := Option.some.inj (hja.symm.trans h3)
  exact notIn_new (Nat.le_trans ho (h5.lt g hag).1) _ _ he
/-- the stream stays while the balancer works -/
theorem StrX.bal {W W' : World} {base b bb B : Nat} {ev p v : Value} {evs : List Ev} {pend : List UInt8} {xs : List Value} (h : StrX W base b ev p v evs pend xs) {op : List (List UInt8)} {ov ov' outv' : Value} {cs : Array Value}
    (hf : BalF bb ov (.slice none 0 0) ov' outv' W W') (hbx : W.heap[bb]? = some (.cells cs 104 (0, 0))) (hop : OpenR W B ov op) : StrX W' base b ev p v evs pend xs := by
  refine h.keep (fun k cs2 T fz hk hT => hf.other k (Array.getElem?_eq_some_iff.1 hk).1 (fun e => ?_) (fun e => ?_) (fun e => by cases e))
  · subst e
    rw [hbx] at hk
    simp only [Option.some.injEq, Obj.cells.injEq] at hk
    rw [← hk.2.1] at hT
    revert hT
    decide
  · rcases hop.2 with ⟨rfl, _⟩ | ⟨g', cap, cur, rfl, _, hg1, _⟩
    · cases e
    · obtain rfl := Option.some.inj e
      rw [hg1] at hk
      simp only [Option.some.injEq, Obj.cells.injEq] at hk
      rw [← hk.2.1] at hT
      revert hT
      decide
/-- the balancer stays while the stream takes its list -/
theorem BalS.put {w0 W W' : World} {ob b bs_ base n : Nat} {d : Int} {op : List (List UInt8)} {ov outv : Value} {J evs : List Ev} {xs : List Value} {pend : List UInt8} (h : BalS w0 W ob b d op ov outv J xs) (hp : PutAt W W' base ob bs_ outv J xs n evs pend) (hb : base = w0.heap.size) : BalS w0 W' ob b d op ov outv J xs := by
  subst hb
  refine ⟨⟨h.at_.lo, (hp.bk _ _ _ _ h.at_.bx (.inl rfl)).trans h.at_.bx, row_of_block h.at_.op (fun g hg => ?_), hp.ma⟩, h.be.trans hp.be, h.kt, h.nt, h.h1, Nat.le_trans h.h2 hp.be.size⟩
  rcases h.at_.op.2 with ⟨rfl, _⟩ | ⟨g', cap, cur, rfl, _, hg1, _⟩
  · cases hg
  · obtain rfl := Option.some.inj hg
    exact hp.bk _ _ _ _ hg1 (.inr rfl)
end Go.Proofs.YtkcgmimldjeaiaaDoor

/-
  How much the reference's Balance puts out.
-/
namespace Go.Proofs.YtkcgmimldjeaiaaDoor
open Go.RowKit Go.Lib Own

theorem pot_puts_le : ∀ (L : List Ev) (s : List Ev × List UInt8), potS (putEs s L) ≤ potS s + 2 * L.length + txtN L
  | [], s => by show potS s ≤ _; omega
  | e :: L, s => by
    have h := pot_puts_le L (putE s e)
    have h3 : txtN (e :: L) = (evT e).length + txtN L := rfl
    have h2 : potS (putE s e) ≤ potS s + 2 + (evT e).length := by
      cases e with
      | text b =>
        show potL s.1 + (s.2 ++ b).length ≤ potL s.1 + s.2.length + 2 + b.length
        rw [List.length_append]
        omega
      | start n a =>
        rw [putE_other s _ (by show (1 : Nat) ≠ 3; omega)]
        unfold potS flushE
        split
        · rw [potL_app]; show potL s.1 + (1 + 0) + 0 ≤ _; omega
        · rw [potL_app, potL_app]; show potL s.1 + ((1 + s.2.length) + 0) + (1 + 0) + 0 ≤ _; omega
      | stop n =>
        rw [putE_other s _ (by show (2 : Nat) ≠ 3; omega)]
        unfold potS flushE
        split
        · rw [potL_app]; show potL s.1 + (1 + 0) + 0 ≤ _; omega
        · rw [potL_app, potL_app]; show potL s.1 + ((1 + s.2.length) + 0) + (1 + 0) + 0 ≤ _; omega
    show potS (putEs (putE s e) L) ≤ _
    simp only [List.length_cons]
    omega
theorem rawB_bd (d : Nat) : ∀ (es : List EvP) (op : List (List UInt8)), op.length ≤ d → (rawB d op es).length ≤ op.length + 4 * bulkE es ∧ txtN (rawB d op es) ≤ bulkE es
  | [], op, _ => by
    show (closeE 0 op).length ≤ _ ∧ txtN (closeE 0 op) ≤ _
    rw [txtN_close]
    refine ⟨?_, Nat.zero_le _⟩
    unfold closeE
    rw [List.length_map, List.length_reverse, List.length_drop]
    omega
  | e :: r, op, h => by
    obtain ⟨h1, h2⟩ := balS_len (e := e) h
    have h3 := balS_txt d op e
    obtain ⟨h4, h5⟩ := rawB_bd d r (balS d op e).1 h1
    have h6 : bulkE (e :: r) = e.n.length + e.t.length + bulkA e.a + 1 + bulkE r := rfl
    rw [rawB_step, List.length_append, txtN_app, h6]
    omega
theorem pot_all (d : Nat) (es : List EvP) (h : bulkE es ≤ 1100000) : potS (putEs ([], []) (rawB d [] es)) ≤ 80000000 := by
  have h1 := pot_puts_le (rawB d [] es) ([], [])
  obtain ⟨h2, h3⟩ := rawB_bd d es [] (Nat.zero_le _)
  have h4 : potS (([] : List Ev), ([] : List UInt8)) = 0 := rfl
  simp only [List.length_nil] at h2
  omega
end Go.Proofs.YtkcgmimldjeaiaaDoor

/-
  balance.Balance: its walk.
-/
namespace Go.Proofs.YtkcgmimldjeaiaaDoor
open Go.RowKit Go.Lib Own

/-- Balance's answer at any depth -/
def balC (dz : Int) (es : List EvP) : List Ev := if dz < 1 ∨ 256 < dz then [] else balP dz.toNat es
/-- a list of events is answered, in memory of its own -/
structure MadeOut (w : World) (R : List Ev) (e : Ending) (w' : World) : Prop where
  it : ∃ v xs, e = .returned v ∧ MadeE w' w.heap.size v R xs ∧ Below w.heap.size w w'
/-- where the loop stands -/
def BalLoop (w wr : World) (d : Nat) (es : List EvP) (k : Nat) : Prop :=
  ∃ (op : List (List UInt8)) (ov outv : Value) (J : List Ev) (ys : List Value) (ob : Nat) (ev p v : Value) (evs : List Ev) (pend : List UInt8) (xs : List Value) (raw : List Ev),
    BalS w wr ob w.heap.size d op ov outv J ys ∧ StrX wr w.heap.size (w.heap.size + 1) ev p v evs pend xs ∧ op.length ≤ d ∧ rawB d [] es = raw ++ rawB d op (es.drop k) ∧ putEs ([], []) raw = (evs, pend) ∧ raw.length + op.length ≤ 4 * bulkE (es.take k) ∧ txtN raw ≤ bulkE (es.take k)
theorem loop_start (w W : World) (d : Nat) (es : List EvP) (hK : KindsTab w) (hN : NestTab w) (hW : W = (w.alloc (.cells #[.int .i64 d, .slice none 0 0, .slice none 0 0] 104)).alloc (.cells #[.slice none 0 0, .pointer none, .slice none 0 0] 61)) : BalLoop w W d es 0 := by
  subst hW
  have hb : Below w.heap.size w ((w.alloc (.cells #[.int .i64 d, .slice none 0 0, .slice none 0 0] 104)).alloc (.cells #[.slice none 0 0, .pointer none, .slice none 0 0] 61)) := ((Below.refl _ _).alloc (Nat.le_refl _) _).alloc (by simp) _
  refine ⟨[], .slice none 0 0, .slice none 0 0, [], [], w.heap.size, .slice none 0 0, .pointer none, .slice none 0 0, [], [], [], [], ⟨⟨Nat.le_refl _, ?_, World.ownsRow_nil _ _ _ _, MadeE.nil _ _⟩, hb, hK, hN, Nat.le_refl _, hb.size⟩, StrX.mk ⟨?_, by omega, rfl, rfl, .inl rfl, ⟨rfl, .inl ⟨rfl, rfl⟩⟩, fun e => by cases e⟩ (World.ownsRow_nil _ _ _ _) trivial trivial, Nat.zero_le _, rfl, rfl, by simp, by simp [txtN]⟩
  · exact (Go.Lib.alloc_old _ _ _ (by simp)).trans (heap_alloc_new w _)
  · have := heap_alloc_new (w.alloc (.cells #[.int .i64 d, .slice none 0 0, .slice none 0 0] 104)) (.cells #[.slice none 0 0, .pointer none, .slice none 0 0] 61)
    simpa using this

set_option maxHeartbeats 16000000 in
set_option maxRecDepth 100000 in
theorem balance_any (dz : Int) (evv : Value) (es : List EvP) (w : World) (he : EvsR w evv es) (hs : bulkE es ≤ 1100000) (hK : KindsTab w) (hN : NestTab w) :
    Calls Tryd.prog 8 #[.int .i64 dz, evv] w (MadeOut w (balC dz es)) := by
  obtain ⟨ep, ec, rfl, _, _, hcell⟩ := he
  obtain ⟨R, hR⟩ : ∃ R, balC dz es = R := ⟨_, rfl⟩
  rw [hR]
  have hlen := bulkE_len es
  by_cases h1 : dz < 1
  · have hfin : balC dz es = [] := by unfold balC; rw [if_pos (.inl h1)]
    rw [hR] at hfin
    subst hfin
    clear hR hcell
    go_enter Tryd.func8, Tryd.ntmps8
    go_wp2
    go_ret
    exact ⟨_, _, rfl, MadeE.nil _ _, Below.refl _ _⟩
  by_cases h2 : 256 < dz
  · have hfin : balC dz es = [] := by unfold balC; rw [if_pos (.inr h2)]
    rw [hR] at hfin
    subst hfin
    clear hR hcell
    go_enter Tryd.func8, Tryd.ntmps8
    go_wp2
    go_ret
    exact ⟨_, _, rfl, MadeE.nil _ _, Below.refl _ _⟩
  obtain ⟨d, rfl⟩ : ∃ d : Nat, dz = (d : Int) := ⟨dz.toNat, by omega⟩
  have hd : d ≤ 256 := by omega
  have hbal : balP d es = R := by
    unfold balC at hR
    rw [if_neg (fun h => h.elim h1 h2)] at hR
    exact hR
  have HR := hid hbal
  have HC := hid hcell
  have HL0 := fun W hW => hid (loop_start w W d es hK hN hW)
  clear hR hbal hcell hK hN
  go_enter Tryd.func8, Tryd.ntmps8
  go_wp2_with fail
  refine (newB_any _ _).mono ?_
  rintro e W1 ⟨rfl, hW1⟩
  go_upto_region 5 with fail
  obtain ⟨W2, hW2⟩ : ∃ W2, (w.alloc (.cells #[.int .i64 d, .slice none 0 0, .slice none 0 0] 104)).alloc (.cells #[.slice none 0 0, .pointer none, .slice none 0 0] 61) = W2 := ⟨_, rfl⟩
  have HL := HL0 W2 hW2.symm
  simp only [hW2]
  clear hW2 hW1 HL0
  go_wp2_with fail
  go_loopw [19] (fun iv wr => ∃ k : Nat, iv = .int .i64 k ∧ k ≤ es.length ∧ Hid (BalLoop w wr d es k)) (fun iv _ => es.length - (RowKit.intOf iv).toNat)
  case atStart => exact ⟨0, rfl, Nat.zero_le _, HL⟩
  case round =>
    clear HL
    obtain ⟨k, rfl, hk, HX⟩ := hrel
    obtain ⟨op, ov, outv, J, ys, ob, ev, p, v, evs, pend, xs, raw, hS, hX, hol, hraw, hput, hln, htx⟩ := HX.out
    have hbt := bulkE_take es k
    have hbw := hS.base
    have hbb := block_lt hX.parts.1.at_
    by_cases hkl : k < es.length
    · obtain ⟨e, he⟩ : ∃ e, es[k]? = some e := ⟨_, List.getElem?_eq_getElem hkl⟩
      obtain ⟨b, o, u, rfl, q0, q1, q2, q3, q4⟩ := HC.out k e he
      replace q0 := cell_low q0 hS.be (cell_block q0)
      replace q1 := cell_low q1 hS.be (cell_block q1)
      replace q2 := cell_low q2 hS.be (cell_block q2)
      replace q3 := cell_low q3 hS.be (cell_block q3)
      have hbe := bulkE_get he
      have hal := bulkA_len e.a
      obtain ⟨up, uc, rfl⟩ := q4.len
      obtain ⟨W3, hW3⟩ : ∃ W3, wr.alloc (.cells #[.int .i64 e.k, .string (bs e.n), .slice up e.a.length uc, .string (bs e.t)] 39) = W3 := ⟨_, rfl⟩
      have hb3 : Below wr.heap.size wr W3 := by rw [← hW3]; exact (Below.refl _ _).alloc (Nat.le_refl _) _
      have n3 : W3.heap[wr.heap.size]? = some (.cells #[.int .i64 e.k, .string (bs e.n), .slice up e.a.length uc, .string (bs e.t)] 39 (0, 0)) := by rw [← hW3]; exact heap_alloc_new _ _
      have hS3 := hS.below hb3
      have hX3 := hX.below hb3
      have htk := takeB_any w ob w.heap.size d op ov outv J ys e (.slice up e.a.length uc) W3 hS3 q4 (by omega) (by omega)
      have HT := hid htk
      have H3 := hid (And.intro hS3 (And.intro hX3 (And.intro hol (And.intro hraw (And.intro hput (And.intro hln (And.intro htx he)))))))
      have x0 := cell_at n3 (j := 0) rfl
      have x1 := cell_at n3 (j := 1) rfl
      have x2 := cell_at n3 (j := 2) rfl
      have x3 := cell_at n3 (j := 3) rfl
      clear htk hS3 hX3 hol hraw hput hln htx he q4 hS hX HX hb3 n3
      go_upto_region 8 with fail
      clear hW3 q0 q1 q2 q3
      go_wp2_with fail
      refine HT.out.mono ?_
      rintro e5 W4 ⟨ov4, outv4, ys4, rfl, hS4, hf4⟩
      obtain ⟨hS3, hX3, hol, hraw, hput, hln, htx, he⟩ := H3.out
      have hX4 := hX3.bal hf4 hS3.at_.bx hS3.at_.op
      obtain ⟨hl1, hl2⟩ := balS_len (e := e) hol
      have htt := balS_txt d op e
      have hn1 := bulkE_next he
      have hn2 := bulkE_take es (k + 1)
      have hevl : evs.length ≤ 2 * raw.length := by have h := putEs_len raw ([], []); rw [hput] at h; simpa using h
      have hpel : pend.length ≤ txtN raw := by have h := putEs_pend raw ([], []); rw [hput] at h; simpa using h
      have hpl := putL_any w.heap.size W3.heap.size (w.heap.size + 1) ev p v evs pend xs outv4 (balS d op e).2 ys4 W4 hX4 hS4.at_.out (fun g hg => (hX3.parts.2.1.lt g hg).2) (free_new hS4.at_.out hX3.parts.2.2.1 (Nat.le_refl _)) hS3.base (by omega)
        (fun j => by have h := putEs_pend ((balS d op e).2.take j) (evs, pend); have h2 := txtN_take (balS d op e).2 j; simp only at h; omega) (fun y hy => by have := txtN_mem hy; omega)
      have HP := hid hpl
      have hraw2 : rawB d [] es = (raw ++ (balS d op e).2) ++ rawB d (balS d op e).1 (es.drop (k + 1)) := by rw [hraw, rawB_next he, List.append_assoc]
      have hput2 : putEs ([], []) (raw ++ (balS d op e).2) = putEs (evs, pend) (balS d op e).2 := by rw [putEs_app, hput]
      have hln2 : (raw ++ (balS d op e).2).length + (balS d op e).1.length ≤ 4 * bulkE (es.take (k + 1)) := by rw [List.length_append, hn1]; omega
      have htx2 : txtN (raw ++ (balS d op e).2) ≤ bulkE (es.take (k + 1)) := by rw [txtN_app, hn1]; omega
      have H4 := hid (And.intro hS4 (And.intro hl1 (And.intro hraw2 (And.intro hput2 (And.intro hln2 htx2)))))
      obtain ⟨o4p, o4n, o4c, rfl⟩ : ∃ p n c, outv4 = .slice p n c := by obtain ⟨p, c, e⟩ := row_shape hS4.at_.out.row; exact ⟨p, _, c, e⟩
      clear hS3 hX3 hol hraw hput hln htx he hX4 hl1 hl2 htt hn1 hn2 hevl hpel hpl hraw2 hput2 hln2 htx2 hS4 hf4 H3 HT x0 x1 x2 x3
      go_wp2_with fail
      refine HP.out.mono ?_
      rintro e6 W5 ⟨rfl, hpa⟩
      obtain ⟨hS4, hl1, hraw2, hput2, hln2, htx2⟩ := H4.out
      have hS5 := hS4.put hpa rfl
      obtain ⟨⟨ev5, p5, v5, xs5, hX5, _, _⟩, _, _, _⟩ := hpa
      have HF : Hid (BalLoop w W5 d es (k + 1)) := ⟨_, _, _, _, _, _, ev5, p5, v5, _, _, xs5, _, hS5, hX5, hl1, hraw2, hput2, hln2, htx2⟩
      clear hS4 hl1 hraw2 hput2 hln2 htx2 hS5 hX5 H4 HP
      go_wp2_with fail
      go_roundw
      case rel => exact ⟨k + 1, rfl, by omega, HF⟩
      case measure => simp [RowKit.intOf]; omega
    · obtain rfl : k = es.length := by omega
      rw [List.drop_length] at hraw
      have hen := endAllB_any w ob w.heap.size d op ov outv J ys wr hS (by omega)
      have HE := hid hen
      have H3 := hid (And.intro hS (And.intro hX (And.intro hol (And.intro hraw (And.intro hput (And.intro hln htx))))))
      clear hen hS hX hol hraw hput hln htx HX
      go_wp2_with fail
      refine HE.out.mono ?_
      rintro e5 W4 ⟨ov4, outv4, ys4, rfl, hS4, hf4⟩
      obtain ⟨hS3, hX3, hol, hraw, hput, hln, htx⟩ := H3.out
      have hX4 := hX3.bal hf4 hS3.at_.bx hS3.at_.op
      have hcl := closeE_len 0 op
      have hct := txtN_close 0 op
      have hevl : evs.length ≤ 2 * raw.length := by have h := putEs_len raw ([], []); rw [hput] at h; simpa using h
      have hpel : pend.length ≤ txtN raw := by have h := putEs_pend raw ([], []); rw [hput] at h; simpa using h
      have hpl := putL_any w.heap.size wr.heap.size (w.heap.size + 1) ev p v evs pend xs outv4 (closeE 0 op) ys4 W4 hX4 hS4.at_.out (fun g hg => (hX3.parts.2.1.lt g hg).2) (free_new hS4.at_.out hX3.parts.2.2.1 (Nat.le_refl _)) hS3.base (by omega)
        (fun j => by have h := putEs_pend ((closeE 0 op).take j) (evs, pend); have h2 := txtN_take (closeE 0 op) j; simp only at h; omega) (fun y hy => by have := txtN_mem hy; omega)
      have HP := hid hpl
      have hfin : balP d es = flushE (putEs (evs, pend) (closeE 0 op)) := by
        unfold balP
        rw [hraw, putEs_app, hput]
        rfl
      have hel : (putEs (evs, pend) (closeE 0 op)).1.length ≤ 10000000 := by have h := putEs_len (closeE 0 op) (evs, pend); simp only at h; omega
      have H4 := hid (And.intro hS4 (And.intro hfin hel))
      obtain ⟨o4p, o4n, o4c, rfl⟩ : ∃ p n c, outv4 = .slice p n c := by obtain ⟨p, c, e⟩ := row_shape hS4.at_.out.row; exact ⟨p, _, c, e⟩
      clear hS3 hX3 hol hraw hput hln htx hX4 hcl hct hevl hpel hpl hfin hel hS4 hf4 H3 HE
      go_wp2_with fail
      refine HP.out.mono ?_
      rintro e6 W5 ⟨rfl, hpa⟩
      obtain ⟨hS4, hfin, hel⟩ := H4.out
      have hb5 := hS4.be.trans hpa.be
      obtain ⟨⟨ev5, p5, v5, xs5, hX5, _, _⟩, _, _, _⟩ := hpa
      have hev := events_ap w.heap.size (w.heap.size + 1) 0 #[ev5, p5, v5] 61 _ _ W5 (StreamX.at hX5) (strT ev5 p5 v5) hel
      have hfin2 := HR.out.symm.trans hfin
      have HV := hid hev
      have HB5 := hid hb5
      obtain ⟨F, hF⟩ : ∃ F, flushE (putEs (evs, pend) (closeE 0 op)) = F := ⟨_, rfl⟩
      have hV2 := HV.out
      have hpe : flushE ((putEs (evs, pend) (closeE 0 op)).1, (putEs (evs, pend) (closeE 0 op)).2) = F := hF
      rw [hpe] at hV2
      rw [hF] at hfin2
      subst hfin2
      have HV2 := hid hV2
      clear hS4 hfin hel hev hX5 hb5 H4 HP HV hV2 hpe hF
      go_wp2_with fail
      refine HV2.out.mono ?_
      rintro e7 W6 ⟨rv, rxs, rfl, r1, r2, r3, r4⟩
      have HZ := hid (And.intro (MadeE.mk r1 r2 r4) (HB5.out.trans r3))
      clear r1 r2 r3 r4 HV2
      go_wp2_with fail
      go_ret
      exact ⟨_, _, rfl, HZ.out.1, HZ.out.2⟩
end Go.Proofs.YtkcgmimldjeaiaaDoor

/-
  The reference's Balance: its walk.
-/
namespace Go.Proofs.YtkcgmimldjeaiaaDoor
open Go.RowKit Go.Lib Own

set_option maxHeartbeats 4000000 in
set_option maxRecDepth 100000 in
theorem refBalance_out (dz : Int) (evv : Value) (es : List EvP) (w : World) (he : EvsR w evv es) (hdz : dz < 1 ∨ 256 < dz) :
    Calls Tryd.prog 6 #[.int .i64 dz, evv] w (MadeOut w (balC dz es)) := by
  obtain ⟨ep, ec, rfl, _⟩ := he
  have hb : balC dz es = [] := by unfold balC; rw [if_pos hdz]
  rw [hb]
  have HZ : Hid (MadeOut w [] (.returned (.slice none 0 0)) w) := hid ⟨⟨_, _, rfl, MadeE.nil _ _, Below.refl _ _⟩⟩
  by_cases h1 : dz < 1
  · have d1 : decide (dz < 1) = true := decide_eq_true h1
    clear hb hdz
    go_enter Tryd.func6, Tryd.ntmps6
    go_wp2_with fail
    go_ret
    exact HZ.out
  · have d1 : decide (dz < 1) = false := decide_eq_false h1
    have h2 : 256 < dz := hdz.resolve_left h1
    have d2 : decide (256 < dz) = true := decide_eq_true h2
    clear hb hdz
    go_enter Tryd.func6, Tryd.ntmps6
    go_wp2_with fail
    go_ret
    exact HZ.out
end Go.Proofs.YtkcgmimldjeaiaaDoor

/-
  A list of events that can be read, as pairs of an event and its list of attributes.
-/
namespace Go.Proofs.YtkcgmimldjeaiaaDoor
open Go.RowKit Go.Lib Own

theorem EvsR.pairs {W : World} {b o n c : Nat} {es : List EvP} (h : EvsR W (.slice (some ⟨b, o, none⟩) n c) es) : ∀ m, m ≤ es.length → ∃ qrs : List (EvP × Value), qrs.map Prod.fst = es.take m ∧ (∀ j u, (ecells qrs)[j]? = some u → W.cell? ⟨b, o + j, none⟩ = some u) ∧ ∀ x ∈ qrs, AttrsR W x.2 x.1.a
  | 0, _ => ⟨[], rfl, fun j u hj => by simp [ecells] at hj, fun x hx => by cases hx⟩
  | m + 1, hm => by
    obtain ⟨qrs, h1, h2, h3⟩ := EvsR.pairs h m (by omega)
    obtain ⟨p, c', hp, _, _, hcell⟩ := h
    cases hp
    obtain ⟨e, he⟩ : ∃ e, es[m]? = some e := ⟨_, List.getElem?_eq_getElem (by omega)⟩
    obtain ⟨b', o', u, hb, q0, q1, q2, q3, q4⟩ := hcell m e he
    cases hb
    have hl : (ecells qrs).length = m * 4 := by
      rw [ecells_len, ← List.length_map (f := Prod.fst), h1, List.length_take]
      omega
    refine ⟨qrs ++ [(e, u)], by rw [List.map_append, h1, List.take_add_one, he]; rfl, fun j v hj => ?_, fun x hx => ?_⟩
    · rw [ecells_app] at hj
      by_cases hjl : j < (ecells qrs).length
      · rw [List.getElem?_append_left hjl] at hj
        exact h2 j v hj
      · rw [List.getElem?_append_right (by omega), hl] at hj
        have hlt := (List.getElem?_eq_some_iff.1 hj).1
        have hl4 : (ecells [(e, u)]).length = 4 := rfl
        rw [hl4] at hlt
        rw [hl] at hjl
        rcases (show j = m * 4 ∨ j = m * 4 + 1 ∨ j = m * 4 + 2 ∨ j = m * 4 + 3 by omega) with rfl | rfl | rfl | rfl
        · rw [Nat.sub_self] at hj; cases hj; exact q0
        · rw [show m * 4 + 1 - m * 4 = 1 by omega] at hj; cases hj; exact q1
        · rw [show m * 4 + 2 - m * 4 = 2 by omega] at hj; cases hj; exact q2
        · rw [show m * 4 + 3 - m * 4 = 3 by omega] at hj; cases hj; exact q3
    · rcases List.mem_append.1 hx with h5 | h5
      · exact h3 x h5
      · rw [List.mem_singleton] at h5; subst h5; exact q4
end Go.Proofs.YtkcgmimldjeaiaaDoor

/-
  The reference's Balance: the branch within bounds.
-/
namespace Go
theorem run_append_owned_noneC {P : Program} {w : World} (base : Nat) (t ty e : TypeId) (i : TypeInfo) (size c : Nat) (ht : P.underlying t = some (.slice e)) (hi : P.info? e = some i)
    (v : Value) (n : Nat) (xs : List Value) (hown : w.ownsRow base e size v n xs) :
    (Builtin.append_ #[t, t] ty #[v, .slice none 0 c]).run P w = .ok v w := by
  rcases hown.2 with ⟨rfl, rfl⟩ | ⟨g, cap, cur, rfl, _, _, hnc, _⟩
  · simp [Builtin.append_, run_underlying ht, sizeOf, typeInfo, hi, Builtin.lenOf, Builtin.firstCells]
  · simp [Builtin.append_, run_underlying ht, sizeOf, typeInfo, hi, Builtin.lenOf, Builtin.firstCells, hnc, storeCells]
theorem wpList_append_own_noneC {P : Program} {w : World} {ops : Array Oper} {rest : List Oper} {o : Oper} {a : Act} {Q : Exit → Act → World → Prop} (hgd : o.guard = none) (s x : Operand) (t : TypeId)
    (ho : o.op = .call { callee := .builtin .append, args := #[s, x], argTypes := #[t, t] })
    (base : Nat) (e : TypeId) (i : TypeInfo) (size c : Nat) (ht : P.underlying t = some (.slice e)) (hi : P.info? e = some i)
    (v : Value) (n : Nat) (xs : List Value) (hs : a.eval s = v) (hown : w.ownsRow base e size v n xs) (hx : a.eval x = .slice none 0 c)
    (h : wpList P ops Q rest (a.put o.dst v) w) : wpList P ops Q (o :: rest) a w := by
  refine wpList_plain hgd fun K hK => ?_
  have hrun := run_append_owned_noneC (P := P) (w := w) base t o.type e i size c ht hi v n xs hown
  unfold Oper.wp
  simp [execOp, ho, resolve, invoke, builtin, hs, hx, hrun, Result.andThen]
  exact hK _ _ h
end Go
namespace Go.Proofs.YtkcgmimldjeaiaaDoor
open Go.RowKit Go.Lib Own

theorem add_noneE (b o : Nat) (n : Nat) : (⟨b, o, none⟩ : Addr).add n = ⟨b, o + n, none⟩ := by unfold Addr.add; split <;> simp_all
/-- events that can be read, appended to a row of events -/
theorem wpList_append_evsR {w : World} {ops : Array Oper} {rest : List Oper} {o : Oper} {a : Act} {Q : Exit → Act → World → Prop} (hgd : o.guard = none) (s x : Operand)
    (ho : o.op = .call { callee := .builtin .append, args := #[s, x], argTypes := #[22, 22] }) (w0 : World) (base : Nat) (v vx : Value) (l m : List EvP) (hs : a.eval s = v) (hx : a.eval x = vx)
    (hown : RowE w0 base w v l) (hbase : base ≤ w.heap.size) (hw : EvsR w0 vx m) (hsz : l.length + m.length ≤ 1000000000)
    (h : ∀ v' w', RowE w0 base w' v' (l ++ m) → Below base w w' → wpList Tryd.prog ops Q rest (a.put o.dst v') w') : wpList Tryd.prog ops Q (o :: rest) a w := by
  obtain ⟨p, c, rfl, hc1, hc2, hcell⟩ := id hw
  by_cases hm : m = []
  · subst hm
    cases p with
    | none =>
      obtain ⟨i0, hi, _⟩ := info_parts info_event4
      obtain ⟨prs, rfl, hr, _⟩ := id hown
      refine wpList_append_own_noneC hgd s x 22 ho base 39 i0 4 c Tryd.underlying22 hi v prs.length (ecells prs) hs hr hx ?_
      refine h v w ?_ (Below.refl _ _)
      rw [List.append_nil]
      exact hown
    | some ad => exact wpList_append_evcells hgd s x ho w0 w base v l hs hown hbase (Below.refl _ _) ad c [] hx (fun j u hj => by simp [ecells] at hj) (fun x hx => by cases hx) hsz h
  · obtain ⟨e, he⟩ : ∃ e, m[0]? = some e := ⟨_, List.getElem?_eq_getElem (List.length_pos_iff.2 hm)⟩
    obtain ⟨b, o0, u, rfl, _⟩ := hcell 0 e he
    obtain ⟨qrs, h1, h2, h3⟩ := EvsR.pairs hw m.length (Nat.le_refl _)
    rw [List.take_length] at h1
    subst h1
    rw [List.length_map] at hx hsz
    refine wpList_append_evcells hgd s x ho w0 w base v l hs hown hbase (Below.refl _ _) ⟨b, o0, none⟩ c qrs hx (fun j u hj => ?_) h3 hsz h
    have h4 := h2 j u hj
    rw [add_noneE]
    exact cell_low h4 hown.be (cell_block h4)
end Go.Proofs.YtkcgmimldjeaiaaDoor

/-
  The reference's Balance: its walk.
-/
namespace Go.Proofs.YtkcgmimldjeaiaaDoor
open Go.RowKit Go.Lib Own

/-- the hall as it stands ahead of the first event -/
theorem hall_start {w w3 : World} {d : Nat} {es : List EvP} {v3 : Value} (h : RowE w w.heap.size w3 v3 es) : HallS w (w3.alloc (.cells #[.int .i64 d, v3, .int .i64 (0 : Nat), .slice none 0 0, .slice none 0 0] 52)) (w3.heap.size + 1) w3.heap.size d es 0 [] [] v3 (.slice none 0 0) (.slice none 0 0) [] := by
  have hb : Below w3.heap.size w3 (w3.alloc (.cells #[.int .i64 d, v3, .int .i64 (0 : Nat), .slice none 0 0, .slice none 0 0] 52)) := (Below.refl _ _).alloc (Nat.le_refl _) _
  exact ⟨heap_alloc_new w3 _, h.below hb, MadeE.nil _ _, World.ownsRowF_nil _ _ _ _, fun g hg => by have := (h.lt hg).2.1; omega, ⟨h.be.size, Nat.lt_succ_self _⟩, by simp⟩

set_option maxHeartbeats 8000000 in
set_option maxRecDepth 100000 in
theorem refBalance_any (dz : Int) (evv : Value) (es : List EvP) (w : World) (he : EvsR w evv es) (hs : bulkE es ≤ 1100000) :
    Calls Tryd.prog 6 #[.int .i64 dz, evv] w (MadeOut w (balC dz es)) := by
  by_cases hdz : dz < 1 ∨ 256 < dz
  · exact refBalance_out dz evv es w he hdz
  obtain ⟨d, rfl⟩ : ∃ d : Nat, dz = (d : Int) := ⟨dz.toNat, by omega⟩
  have hd : d ≤ 256 := by omega
  have hlen := bulkE_len es
  have hes : EsB es := ⟨by omega, fun e h => by
    obtain ⟨k, hk⟩ := List.getElem?_of_mem h
    have h1 := bulkE_get hk
    have h2 := bulkA_len e.a
    omega⟩
  obtain ⟨R, hR⟩ : ∃ R, balC (d : Int) es = R := ⟨_, rfl⟩
  have hR2 : flushE (putEs ([], []) (rawB d [] es)) = R := by
    rw [← hR]
    unfold balC
    rw [if_neg hdz]
    rfl
  rw [hR]
  have hpot := pot_all d es hs
  have hpl : (putEs ([], []) (rawB d [] es)).1.length ≤ 80000000 ∧ (putEs ([], []) (rawB d [] es)).2.length ≤ 80000000 := by
    have := potL_len (putEs ([], []) (rawB d [] es)).1
    unfold potS at hpot
    omega
  have d1 : decide ((d : Int) < 1) = false := decide_eq_false (by omega)
  have d2 : decide (256 < (d : Int)) = false := decide_eq_false (by omega)
  obtain ⟨ep, ec, rfl, _⟩ := id he
  have HE := hid he
  have HX := hid (And.intro hes (And.intro hpot (And.intro hpl (And.intro hR2 hs))))
  have H0 := hid (RowE.empty (Below.refl w.heap.size w))
  clear he hdz hlen hes hR hR2 hpot hpl hs
  go_enter Tryd.func6, Tryd.ntmps6
  go_upto_region 3 with fail
  go_wp2_with (at_builtin; refine wpList_append_evsR rfl (.tmp 13) (.tmp 14) rfl w w.heap.size _ _ [] es rfl rfl (by exact H0.out) (by simp) (by exact HE.out) (by have := HX.out.2.2.2.2; have := bulkE_len es; simp only [List.length_nil]; omega) ?_)
  intro v3 w3 hrow3 hbel3
  have hst := hall_start (d := d) hrow3
  obtain ⟨p3, c3, rfl⟩ := hrow3.shape
  have HS := hid hst
  clear hst hbel3 hrow3 H0 HE
  go_upto_region 5 with fail
  simp only [Int.natCast_zero] at HS
  obtain ⟨W4, hW4⟩ : ∃ W4, w3.alloc (.cells #[.int .i64 d, .slice p3 es.length c3, .int .i64 0, .slice none 0 0, .slice none 0 0] 52) = W4 := ⟨_, rfl⟩
  rw [hW4] at HS
  (try simp only [hW4])
  clear hW4
  have hb5 : Below W4.heap.size W4 (W4.alloc (.cells #[] 9)) := (Below.refl _ _).alloc (Nat.le_refl _) _
  have hown0 : (W4.alloc (.cells #[] 9)).ownsRow W4.heap.size 9 1 (.slice (some ⟨W4.heap.size, 0, none⟩) 0 0) ([] : List (List UInt8)).length (wordsV []) := ⟨rfl, .inr ⟨W4.heap.size, 0, #[], rfl, Nat.le_refl _, heap_alloc_new W4 _, Nat.le_refl _, by decide, rfl, rfl⟩⟩
  have hins := insideAll_any w _ _ d _ es _ _ _ _ _ hd HX.out.1 (HS.out.below hb5) ⟨_, hown0⟩ HX.out.2.1
  have HI := hid hins
  clear hins hown0 hb5
  go_wp2_with fail
  refine HI.out.mono ?_
  rintro e W6 ⟨stay, rfl, es6, n6, ⟨outv6, wv6, xs6, h6⟩, hf6, hs6⟩
  have hjn := joined_any w _ _ d n6 es6 _ _ _ outv6 wv6 xs6 W6 h6 (by have := HX.out.2.2.1.1; omega) (by have := HX.out.2.2.1.2; omega)
  have HJ := hid hjn
  clear hjn h6 hf6 hs6 HI
  go_wp2_with fail
  refine HJ.out.mono ?_
  rintro e W7 ⟨rfl, ⟨outv7, wv7, xs7, h7, _⟩, hf7, hs7, _⟩
  have c3' := cell_at h7.bx (j := 3) rfl
  have hz : MadeOut w R (.returned outv7) W7 := by
    refine ⟨outv7, xs7, rfl, ?_, h7.evs.be⟩
    have h8 := h7.ma.low (base := w.heap.size) (Nat.le_trans h7.lo.1 (Nat.le_of_lt h7.lo.2))
    have h9 := HX.out.2.2.2.1
    rw [← h9]
    exact h8
  have HZ := hid hz
  clear h7 hf7 hs7 HJ hz HS
  go_wp2_with fail
  go_ret
  exact HZ.out
end Go.Proofs.YtkcgmimldjeaiaaDoor

/-
  How many events Balance puts out, and how long their lists of attributes are.
-/
namespace Go.Proofs.YtkcgmimldjeaiaaDoor
open Go.RowKit Go.Lib Own

def cntS (s : List Ev × List UInt8) : Nat := (flushE s).length
theorem flush_nil (l : List Ev) : flushE (l, []) = l := rfl
theorem cnt_put (s : List Ev × List UInt8) (e : Ev) : cntS (putE s e) ≤ cntS s + 1 := by
  cases e with
  | text b =>
    show (flushE (s.1, s.2 ++ b)).length ≤ (flushE s).length + 1
    unfold flushE
    split <;> split <;> simp only [List.length_append, List.length_cons, List.length_nil] <;> omega
  | start n a =>
    show (flushE (flushE s ++ [.start n a], [])).length ≤ _
    rw [flush_nil, List.length_append]
    exact Nat.le_refl _
  | stop n =>
    show (flushE (flushE s ++ [.stop n], [])).length ≤ _
    rw [flush_nil, List.length_append]
    exact Nat.le_refl _
theorem cnt_puts : ∀ (L : List Ev) (s : List Ev × List UInt8), cntS (putEs s L) ≤ cntS s + L.length
  | [], _ => Nat.le_refl _
  | e :: L, s => by
    have h1 := cnt_puts L (putE s e)
    have h2 := cnt_put s e
    show cntS (putEs (putE s e) L) ≤ _
    rw [List.length_cons]
    omega
theorem balC_len (dz : Int) (es : List EvP) : (balC dz es).length ≤ 4 * bulkE es := by
  unfold balC
  split
  · exact Nat.zero_le _
  · have h1 := cnt_puts (rawB dz.toNat [] es) ([], [])
    have h2 := (rawB_bd dz.toNat es [] (Nat.zero_le _)).1
    have h3 : cntS (([] : List Ev), ([] : List UInt8)) = 0 := rfl
    simp only [List.length_nil] at h2
    show cntS (putEs ([], []) (rawB dz.toNat [] es)) ≤ _
    omega
/-- no list of attributes is longer -/
def FewA (N : Nat) (l : List Ev) : Prop := ∀ v ∈ l, (evA v).length ≤ N
theorem FewA.app {N : Nat} {a b : List Ev} (h1 : FewA N a) (h2 : FewA N b) : FewA N (a ++ b) := fun v hv => (List.mem_append.1 hv).elim (h1 v) (h2 v)
theorem FewA.one {N : Nat} {e : Ev} (h : (evA e).length ≤ N) : FewA N [e] := fun v hv => by rw [List.mem_singleton.1 hv]; exact h
theorem FewA.none (N : Nat) : FewA N [] := fun v hv => by cases hv
theorem few_flush {N : Nat} {s : List Ev × List UInt8} (h : FewA N s.1) : FewA N (flushE s) := by
  unfold flushE
  split
  · exact h
  · exact h.app (FewA.one (Nat.zero_le _))
theorem few_put {N : Nat} {s : List Ev × List UInt8} {e : Ev} (h : FewA N s.1) (he : (evA e).length ≤ N) : FewA N (putE s e).1 := by
  cases e with
  | text b => exact h
  | start n a => exact (few_flush h).app (FewA.one he)
  | stop n => exact (few_flush h).app (FewA.one he)
theorem few_puts {N : Nat} : ∀ (L : List Ev) (s : List Ev × List UInt8), FewA N s.1 → FewA N L → FewA N (putEs s L).1
  | [], _, h, _ => h
  | e :: L, s, h, hL => few_puts L (putE s e) (few_put h (hL e (List.mem_cons_self ..))) fun v hv => hL v (List.mem_cons_of_mem _ hv)
theorem few_close (N k : Nat) (op : List (List UInt8)) : FewA N (closeE k op) := fun v hv => by
  unfold closeE at hv
  obtain ⟨x, _, rfl⟩ := List.mem_map.1 hv
  exact Nat.zero_le _
theorem few_open (N : Nat) (l : List (List UInt8)) : FewA N (openE l) := fun v hv => by
  unfold openE at hv
  obtain ⟨x, _, rfl⟩ := List.mem_map.1 hv
  exact Nat.zero_le _
theorem few_balS {N d : Nat} {op : List (List UInt8)} {e : EvP} (h : e.a.length ≤ N) : FewA N (balS d op e).2 := by
  unfold balS
  split
  · unfold startP
    split
    · exact FewA.none N
    · split
      · exact FewA.none N
      · exact ((few_close N _ op).app (few_open N _)).app (FewA.one h)
  · split
    · unfold endP
      split
      · exact FewA.none N
      · split
        · exact FewA.none N
        · exact few_close N _ op
    · split
      · unfold textP
        split
        · split
          · exact FewA.none N
          · exact FewA.one (Nat.zero_le _)
        · split
          · exact FewA.none N
          · exact (few_open N _).app (FewA.one (Nat.zero_le _))
      · exact FewA.none N
theorem few_raw {N d : Nat} : ∀ (es : List EvP) (op : List (List UInt8)), (∀ e ∈ es, e.a.length ≤ N) → FewA N (rawB d op es)
  | [], op, _ => few_close N 0 op
  | e :: r, op, h => by
    rw [rawB_step]
    exact (few_balS (h e (List.mem_cons_self ..))).app (few_raw r _ fun x hx => h x (List.mem_cons_of_mem _ hx))
theorem balC_few (dz : Int) {N : Nat} (es : List EvP) (h : ∀ e ∈ es, e.a.length ≤ N) : FewA N (balC dz es) := by
  unfold balC
  split
  · exact FewA.none N
  · exact few_flush (few_puts _ _ (FewA.none N) (few_raw es [] h))
end Go.Proofs.YtkcgmimldjeaiaaDoor

/-
  The law LawBalance: its walk.
-/
namespace Go.Proofs.YtkcgmimldjeaiaaDoor
open Go.RowKit Go.Lib Own

set_option maxHeartbeats 16000000 in
set_option maxRecDepth 100000 in
theorem lawBalance_walk (dz : Int) (ev mv : Value) (es : List EvP) (ms : List (List UInt8)) (w : World) (he : EvsR w ev es) (hs : bulkE es ≤ 1100000) (hM : Words w mv ms) (hm : ms.length ≤ 2000000) (hK : KindsTab w) (hN : NestTab w) (hP : PowB w.heap.size w) :
    Calls Tryd.prog 3 #[.int .i64 dz, ev, mv] w fun e w' => e = .returned (.bool true) ∧ Below w.heap.size w w' := by
  obtain ⟨mp, mn, mc, rfl⟩ := hM.shape
  obtain ⟨ep, en, ec, rfl⟩ := he.shape
  have hlen := bulkE_len es
  have hatt : ∀ e ∈ es, e.a.length ≤ 2000000 := fun e he => by
    obtain ⟨k, hk⟩ := List.getElem?_of_mem he
    have h1 := bulkE_get hk
    have h2 := bulkA_len e.a
    omega
  -- the answer that is due
  obtain ⟨J, hJ⟩ : ∃ J, balC dz es = J := ⟨_, rfl⟩
  have hJb : J.length ≤ 5000000 ∧ ∀ e ∈ J, (evA e).length ≤ 5000000 := by
    rw [← hJ]
    exact ⟨Nat.le_trans (balC_len dz es) (by omega), fun e he => Nat.le_trans (balC_few dz es hatt e he) (by omega)⟩
  obtain ⟨hmn, hwa⟩ := words_at hM
  have hr1 := fun W (hW : Below w.heap.size w W) => refBalance_any dz _ es W (he.below hW) (by omega)
  have hr4 := fun W (hW : Below w.heap.size w W) => lendEvents_any _ _ es ms W (he.below hW) (hM.below hW) (by omega) hatt hm
  have hr5 := fun W (hW : Below w.heap.size w W) x (hx : EvsR W x es) => balance_any dz x es W hx (by omega) (hK.below hW) (hN.below hW)
  have hr7 := fun W (hW : Below w.heap.size w W) q (hq : LentE W q es (moreEvents ms) (namesA ms)) => keptEvents_any q _ _ es ms W hq (he.below hW) (hM.below hW) (by omega) hatt hm
  simp only [hJ] at hr1 hr5
  have hr8 := fun (W : World) (hW : Below w.heap.size w W) (B1 B2 : Nat) gv dv xs ys (hB1 : w.heap.size ≤ B1) (hb1 : B1 ≤ W.heap.size) (m1 : MadeE W B1 gv J xs) (m2 : MadeE W B2 dv J ys) =>
    fresh_any B1 B2 gv dv xs ys J mp mc (ms.map bs) W m1.row m1.evs m1.ap m2.row m2.evs hJb.1 hJb.2 hb1 (by rw [List.length_map]; omega) ((hwa.below hW).up hB1) ((hP.below hW).up hB1)
  simp only [List.length_map, ← hmn] at hr8
  have hr9 := fun (W : World) (B1 B2 : Nat) gv dv xs ys (m1 : MadeE W B1 gv J xs) (m2 : MadeE W B2 dv J ys) => sameEvents_any B1 B2 gv dv xs ys J W m1.row m1.evs m2.row m2.evs
  have H1 := hid hr1
  have H4 := hid hr4
  have H5 := hid hr5
  have H7 := hid hr7
  have H8 := hid hr8
  have H9 := hid hr9
  have HP0 := hid he
  clear hM hm hK hN hP hs hlen hatt hJ hJb hwa hr1 hr4 hr5 hr7 hr8 hr9 he hmn
  go_enter Tryd.func3, Tryd.ntmps3
  go_wp2_with fail
  refine (H1.out _ (Below.refl _ _)).mono ?_
  rintro e w1 ⟨dv, ys, rfl, mdue, hb1⟩
  obtain ⟨dvp, dvc, rfl⟩ := row_shape mdue.row
  have HK1 := hid hb1
  have HD1 := hid mdue
  clear hb1 mdue
  go_wp2_with fail
  refine (H4.out _ HK1.out).mono ?_
  rintro e w4 ⟨qv, rfl, hlentE, hb4⟩
  have HQ4 := hid hlentE
  obtain ⟨vf, vw, va, rfl, l1, l2, l3⟩ := hlentE
  obtain ⟨f1, f2, f3, rfl⟩ := l1.shape
  obtain ⟨w1', w2', w3', rfl⟩ := l2.shape
  obtain ⟨a1, a2, a3, rfl⟩ := l3.shape
  obtain ⟨W5, hW5⟩ : ∃ W5, w4.alloc (.cells #[.slice f1 f2 f3, .slice w1' w2' w3', .slice a1 a2 a3] 27) = W5 := ⟨_, rfl⟩
  have hb5 : Below w4.heap.size w4 W5 := by rw [← hW5]; exact (Below.refl _ _).alloc (Nat.le_refl _) _
  have hn5 : W5.heap[w4.heap.size]? = some (.cells #[.slice f1 f2 f3, .slice w1' w2' w3', .slice a1 a2 a3] 27 (0, 0)) := by rw [← hW5]; exact heap_alloc_new _ _
  have hb35 := hb4.trans (hb5.mono hb4.size)
  have HK5 := hid (HK1.out.trans (hb35.mono HK1.out.size))
  have HD5 := hid (HD1.out.below hb35)
  have HQ5 := hid (HQ4.out.below hb5)
  have HX5 := hid (l1.below hb5)
  have HM5 := hid hn5
  clear l1 l2 l3 hb4 hb5 hb35 hn5 HK1 HD1 HQ4
  go_upto_region 3 with fail
  obtain ⟨L5, hL5⟩ : ∃ L5, w4.heap.size = L5 := ⟨_, rfl⟩
  rw [hL5] at HM5
  simp only [hL5]
  clear hW5 hL5
  have y0 := cell_at HM5.out (j := 0) rfl
  have y1 := cell_at HM5.out (j := 1) rfl
  have y2 := cell_at HM5.out (j := 2) rfl
  have hgot := H5.out W5 HK5.out _ HX5.out
  have HG := hid hgot
  have hl5 : w.heap.size ≤ W5.heap.size := HK5.out.size
  have hb5m := block_lt HM5.out
  clear hgot
  go_wp2_with fail
  refine HG.out.mono ?_
  rintro e w6 ⟨gv, xs, rfl, mgot, hb6⟩
  obtain ⟨gvp, gvc, rfl⟩ := row_shape mgot.row
  have hk6 := HK5.out.trans (hb6.mono HK5.out.size)
  have hfr := H8.out w6 hk6 W5.heap.size _ _ _ _ _ hl5 hb6.size mgot (HD5.out.below hb6)
  have HFR := hid hfr
  have HK6 := hid (And.intro hk6 hb6)
  clear mgot hfr hk6 hb6 HG y0 y1 y2
  go_wp2_with fail
  refine HFR.out.mono ?_
  rintro e w7 ⟨rfl, hb7, -⟩
  -- all that lay below the answer is as it was
  have hb57 : Below W5.heap.size W5 w7 := HK6.out.2.trans hb7
  have HK7 := hid (HK5.out.trans (hb57.mono HK5.out.size))
  have HD7 := hid (HD5.out.below hb57)
  have HQ7 := hid (HQ5.out.below hb57)
  have HM7 := hid ((hb57.block _ hb5m).trans HM5.out)
  clear hb7 hb57 HK5 HD5 HQ5 HM5 HX5 HK6 HFR hl5 hb5m
  have y0 := cell_at HM7.out (j := 0) rfl
  have y1 := cell_at HM7.out (j := 1) rfl
  have y2 := cell_at HM7.out (j := 2) rfl
  go_wp2_with fail
  refine (H7.out _ HK7.out _ HQ7.out).mono ?_
  rintro e w9 ⟨rfl, hb9⟩
  have HK9 := hid (HK7.out.trans (hb9.mono HK7.out.size))
  have HD9 := hid (HD7.out.below hb9)
  have hgot := H5.out w9 HK9.out _ (HP0.out.below HK9.out)
  have HG := hid hgot
  clear hb9 HK7 HD7 HQ7 HM7 y0 y1 y2 hgot
  go_wp2_with fail
  refine HG.out.mono ?_
  rintro e w10 ⟨gv, xs2, rfl, mgot, hb10⟩
  obtain ⟨gvp2, gvc2, rfl⟩ := row_shape mgot.row
  have hse := H9.out w10 _ _ _ _ _ _ mgot (HD9.out.below hb10)
  have HSE := hid hse
  have HK10 := hid (HK9.out.trans (hb10.mono HK9.out.size))
  clear mgot hse hb10 HG HK9 HD9
  go_wp2_with fail
  refine HSE.out.mono ?_
  rintro e w11 ⟨rfl, n11, rfl⟩
  go_wp2_with fail
  go_ret
  exact ⟨rfl, below_drewN HK10.out n11⟩
end Go.Proofs.YtkcgmimldjeaiaaDoor

/-
  From what a row says of a policy and of words to what lies in memory.
-/
namespace Go.Proofs.YtkcgmimldjeaiaaDoor
open Go.RowKit Go.Lib Go.ChangeShapes Go.WideShapes Go.Joins Go.Deep Go.ChangeAt

section
variable {H : Type} {enc : TypeId × Value → H} {W : World}

theorem bulk_pos (d : DataW H) : 1 ≤ Rows.uptoBulk d := by
  cases d with
  | lit l => cases l <;> simp [Rows.uptoBulk]
  | _ => simp [Rows.uptoBulk]
theorem bulkAll_mem : ∀ (l : List (DataW H)) (d : DataW H), d ∈ l → Rows.uptoBulk d ≤ Rows.uptoBulkAll l
  | [], d, h => by simp at h
  | x :: r, d, h => by
    simp only [Rows.uptoBulkAll]
    rcases List.mem_cons.1 h with rfl | h1
    · omega
    · have := bulkAll_mem r d h1
      omega
theorem bulkAll_len : ∀ l : List (DataW H), l.length ≤ Rows.uptoBulkAll l
  | [] => by simp
  | x :: r => by
    have h1 := bulkAll_len r
    have h2 := bulk_pos x
    simp only [Rows.uptoBulkAll, List.length_cons]
    omega
theorem add_none (b o : Nat) (n : Nat) : (⟨b, o, none⟩ : Addr).add n = ⟨b, o + n, none⟩ := by unfold Addr.add; split <;> simp_all
theorem add_zero' (a : Addr) : a.add 0 = a := by simp [Addr.add]

/-- a []string that is read -/
theorem words_ofB (B : Nat) {held : Bool} {fuel : Nat} {v : Value} {x : DataW H × List MemPlace} (h : DataW.trod enc Tryd.prog W 0 (fun _ => true) held fuel 23 [v] = some x) (hb : Rows.uptoBulk x.1 ≤ B) :
    ∃ ss, Words W v ss ∧ ss.length ≤ B ∧ ∀ s ∈ ss, s.length ≤ B := by
  rcases open_strings Tryd.underlying23 Tryd.underlying9 (by kernel_rfl) h with ⟨hcs, hx⟩ | ⟨a, len, cap, ss, hcs, _, hl, hm9, hz, hx, hcell, hsz⟩
  · obtain rfl := (List.cons.inj hcs).1
    exact ⟨[], Words.nil W, by simp, fun s hs => by simp at hs⟩
  · obtain rfl := (List.cons.inj hcs).1
    subst hx
    simp only [if_true] at hz
    have hlen : ((ss.take len).map fun s => s.data.toList).length = len := by rw [List.length_map, List.length_take]; omega
    simp only [Rows.uptoBulk] at hb
    have hb1 := bulkAll_len (H := H) (strs (ss.take len))
    have hsl : (strs (H := H) (ss.take len)).length = len := by unfold strs; rw [List.length_map, List.length_take]; omega
    rw [hsl] at hb1
    refine ⟨(ss.take len).map fun s => s.data.toList, ⟨some a, cap, by rw [hlen], by rw [hlen]; exact hl, by unfold maxLen at hm9; omega, fun j s hj => ?_, fun h => by cases h⟩, by omega, fun s hs => ?_⟩
    · have hjl : j < len := by rw [← hlen]; exact (List.getElem?_eq_some_iff.1 hj).1
      rw [List.getElem?_map] at hj
      obtain ⟨s0, hs0, rfl⟩ := Option.map_eq_some_iff.1 hj
      rw [List.getElem?_take_of_lt hjl] at hs0
      have hc0 := hcell 0 (by omega)
      have hc := hcell j (by omega)
      obtain ⟨b, o, sp⟩ := a
      rw [add_zero'] at hc0
      obtain rfl := cell_spot hc0
      rw [add_none] at hc
      refine ⟨b, o, rfl, ?_⟩
      rw [hc, List.getD_eq_getElem?_getD, hs0]
      rfl
    · obtain ⟨s0, hs0, rfl⟩ := List.mem_map.1 hs
      have hm := bulkAll_mem (H := H) (strs (ss.take len)) (.lit (.string s0.data.toList)) (List.mem_map.2 ⟨s0, hs0, rfl⟩)
      simp only [Rows.uptoBulk] at hm
      omega
theorem words_of {held : Bool} {fuel : Nat} {v : Value} {x : DataW H × List MemPlace} (h : DataW.trod enc Tryd.prog W 0 (fun _ => true) held fuel 23 [v] = some x) (hb : Rows.uptoBulk x.1 ≤ 1048576) :
    ∃ ss, Words W v ss ∧ ss.length ≤ 1048576 ∧ ∀ s ∈ ss, s.length ≤ 1048576 := words_ofB 1048576 h hb
theorem sum_bulk {D : Nat → DataW H} {f : Nat → Nat} : ∀ l : List Nat, (∀ i ∈ l, f i ≤ Rows.uptoBulk (D i)) → (l.map f).sum ≤ Rows.uptoBulkAll (l.map D)
  | [], _ => by simp
  | i :: l, h => by
    have h1 := sum_bulk l (fun j hj => h j (List.mem_cons_of_mem _ hj))
    have h2 := h i (List.mem_cons_self ..)
    simp only [List.map_cons, List.sum_cons, Rows.uptoBulkAll]
    omega
/-- how many words all rules list -/
def attrsN (rs : List RuleP) : Nat := (rs.map fun r => r.2.length).sum
/-- a []Rule that is read -/
theorem rules_ofS {held : Bool} {fuel : Nat} {v : Value} {x : DataW H × List MemPlace} (h : DataW.trod enc Tryd.prog W 0 (fun _ => true) held fuel 33 [v] = some x) (hb : Rows.uptoBulk x.1 ≤ 1048576) :
    ∃ rs, RulesR W v rs ∧ rs.length ≤ 1048576 ∧ (∀ r ∈ rs, r.2.length ≤ 1048576 ∧ r.1.length ≤ 1048576 ∧ ∀ a ∈ r.2, a.length ≤ 1048576) ∧ attrsN rs ≤ 1048576 := by
  rcases open_slice_pairs Tryd.underlying33 Tryd.underlying73 (by kernel_rfl) rfl rfl (by kernel_rfl) (by kernel_rfl) h with ⟨hcs, hx⟩ | ⟨a, len, cap, m, n, V0, V1, D0, D1, P0, P1, hcs, _, hl, hm9, hm, hx, hall⟩
  · obtain rfl := (List.cons.inj hcs).1
    exact ⟨[], ⟨none, 0, rfl, Nat.le_refl _, by omega, fun j r hj => by simp at hj⟩, by simp, fun r hr => by simp at hr, by simp [attrsN]⟩
  · obtain rfl := (List.cons.inj hcs).1
    subst hx
    simp only [if_true] at hm
    subst hm
    simp only [Rows.uptoBulk] at hb
    have hb1 := bulkAll_len (H := H) ((List.range len).map fun i => .agg [D0 i, D1 i])
    rw [List.length_map, List.length_range] at hb1
    have each : ∀ i, i < len → ∃ q : RuleP, V0 i = .string (bs q.1) ∧ Words W (V1 i) q.2 ∧ q.2.length ≤ 1048576 ∧ q.1.length ≤ 1048576 ∧ (∀ a ∈ q.2, a.length ≤ 1048576) ∧ q.2.length ≤ Rows.uptoBulk (.agg [D0 i, D1 i]) := fun i hi => by
      obtain ⟨_, _, h0, h1⟩ := hall i (by omega)
      have hbi := bulkAll_mem (H := H) ((List.range len).map fun i => .agg [D0 i, D1 i]) (.agg [D0 i, D1 i]) (List.mem_map.2 ⟨i, by simpa using hi, rfl⟩)
      simp only [Rows.uptoBulk, Rows.uptoBulkAll] at hbi
      obtain ⟨s, e0, e1, _⟩ := DataW.trod_string Tryd.underlying9 h0
      obtain ⟨ss, w1, w2, w3⟩ := words_ofB (Rows.uptoBulk (D1 i)) h1 (Nat.le_refl _)
      simp only [Prod.mk.injEq] at e1
      rw [e1.1] at hbi
      simp only [Rows.uptoBulk] at hbi
      exact ⟨(s.data.toList, ss), (List.cons.inj e0).1, w1, Nat.le_trans w2 (by omega), by show s.data.toList.length ≤ _; omega, fun a ha => Nat.le_trans (w3 a ha) (by omega), by simp only [Rows.uptoBulk, Rows.uptoBulkAll]; show ss.length ≤ _; omega⟩
    obtain ⟨Q, hQ⟩ := choose_lt each
    have hlen : ((List.range len).map Q).length = len := by simp
    refine ⟨(List.range len).map Q, ⟨some a, m, by rw [hlen], by rw [hlen]; exact hl, by unfold maxLen at hm9; omega, fun j r hj => ?_⟩, by rw [hlen]; omega, fun r hr => ?_, ?_⟩
    · have hjl : j < len := by rw [← hlen]; exact (List.getElem?_eq_some_iff.1 hj).1
      rw [List.getElem?_map, List.getElem?_range hjl] at hj
      obtain rfl := Option.some.inj hj
      obtain ⟨hc0, _, _, _⟩ := hall 0 (by omega)
      obtain ⟨k0, k1, _, _⟩ := hall j (by omega)
      obtain ⟨q0, q1, _⟩ := hQ j hjl
      obtain ⟨b, o, sp⟩ := a
      rw [Nat.zero_mul, add_zero'] at hc0
      obtain rfl := cell_spot hc0
      rw [add_none] at k0 k1
      exact ⟨b, o, V1 j, rfl, by rw [k0, q0], by rw [Nat.add_assoc]; exact k1, q1⟩
    · obtain ⟨i, hi, rfl⟩ := List.mem_map.1 hr
      obtain ⟨_, _, q2, q3, q4, _⟩ := hQ i (by simpa using hi)
      exact ⟨q2, q3, q4⟩
    · have h1 := sum_bulk (D := fun i => .agg [D0 i, D1 i]) (f := fun i => (Q i).2.length) (List.range len) (fun i hi => (hQ i (by simpa using hi)).2.2.2.2.2)
      unfold attrsN
      rw [List.map_map]
      exact Nat.le_trans h1 (by omega)
theorem rules_of {held : Bool} {fuel : Nat} {v : Value} {x : DataW H × List MemPlace} (h : DataW.trod enc Tryd.prog W 0 (fun _ => true) held fuel 33 [v] = some x) (hb : Rows.uptoBulk x.1 ≤ 1048576) :
    ∃ rs, RulesR W v rs ∧ rs.length ≤ 1048576 ∧ ∀ r ∈ rs, r.2.length ≤ 1048576 ∧ r.1.length ≤ 1048576 ∧ ∀ a ∈ r.2, a.length ≤ 1048576 := by
  obtain ⟨rs, h1, h2, h3, _⟩ := rules_ofS h hb
  exact ⟨rs, h1, h2, h3⟩
theorem i64_wf {n : Int} (h : (Lit.int .i64 n).wf = true) : -9223372036854775808 ≤ n ∧ n ≤ 9223372036854775807 := by
  simp only [Lit.wf, Bool.and_eq_true, decide_eq_true_eq] at h
  first | exact h | simpa [IntKind.min, IntKind.max] using h
theorem array5 {α : Type} {cs : Array α} (h : cs.size = 5) : ∃ c0 c1 c2 c3 c4, cs = #[c0, c1, c2, c3, c4] := by
  obtain ⟨l⟩ := cs
  match l, h with
  | [c0, c1, c2, c3, c4], _ => exact ⟨c0, c1, c2, c3, c4, rfl⟩
set_option maxRecDepth 100000 in
/-- a policy that is read -/
theorem policy_ofS {r : Reach} {b0 : Nat} {held : Bool} {v : Value} {d : DataW H} {p : List MemPlace} (hv : Value.okWide Tryd.prog W r b0 35 v) (h : DataW.Trod enc Tryd.prog W 0 (fun _ => true) held 35 v d p) (hb : Rows.uptoBulk d ≤ 1048576) :
    ∃ (vr vs vd : Value) (P : PolP), v = .agg (polC vr vs vd P) ∧ PolR W vr vs vd P ∧ P.Few ∧ attrsN P.rules ≤ 1048576 := by
  obtain ⟨cs, rfl, hsz⟩ := okWide_struct Tryd.underlying35 hv
  obtain ⟨c0, c1, c2, c3, c4, rfl⟩ := array5 (hsz.trans (by kernel_rfl))
  obtain ⟨fuel, hf⟩ := h
  obtain ⟨xs, n, _, hx, hl, hlen, hfs⟩ := DataW.trod_struct Tryd.underlying35 hf
  match xs, hlen with
  | [y0, y1, y2, y3, y4], _ =>
    have k22 : Tryd.prog.cellsOf 33 = 1 := by kernel_rfl
    have k23 : Tryd.prog.cellsOf 23 = 1 := by kernel_rfl
    have k3 : Tryd.prog.cellsOf 3 = 1 := by kernel_rfl
    have g0 : DataW.trod enc Tryd.prog W 0 (fun _ => true) held n 33 [c0] = some y0 := by
      have := hfs 0 _ rfl
      simpa [Value.cells, k22] using this
    have g1 : DataW.trod enc Tryd.prog W 0 (fun _ => true) held n 23 [c1] = some y1 := by
      have := hfs 1 _ rfl
      simpa [Value.cells, k23] using this
    have g2 : DataW.trod enc Tryd.prog W 0 (fun _ => true) held n 23 [c2] = some y2 := by
      have := hfs 2 _ rfl
      simpa [Value.cells, k23] using this
    have g3 : DataW.trod enc Tryd.prog W 0 (fun _ => true) held n 3 [c3] = some y3 := by
      have := hfs 3 _ rfl
      simpa [Value.cells, k3] using this
    have g4 : DataW.trod enc Tryd.prog W 0 (fun _ => true) held n 3 [c4] = some y4 := by
      have := hfs 4 _ rfl
      simpa [Value.cells, k3] using this
    simp only [Prod.mk.injEq, List.map_cons, List.map_nil] at hx
    rw [hx.1] at hb
    simp only [Rows.uptoBulk, Rows.uptoBulkAll] at hb
    obtain ⟨rs, r1, r2, r3, r4⟩ := rules_ofS g0 (by omega)
    obtain ⟨ss, s1, s2, s3⟩ := words_of g1 (by omega)
    obtain ⟨ds, d1, d2, d3⟩ := words_of g2 (by omega)
    obtain ⟨z3, e3, _, h3⟩ := DataW.trod_int Tryd.underlying3 g3
    obtain ⟨z4, e4, _, h4⟩ := DataW.trod_int Tryd.underlying3 g4
    obtain rfl := (List.cons.inj e3).1
    obtain rfl := (List.cons.inj e4).1
    refine ⟨c0, c1, c2, ⟨rs, ss, ds, z3, z4⟩, rfl, ⟨r1, s1, d1⟩, ?_, r4⟩
    exact ⟨Nat.le_trans r2 (by omega), Nat.le_trans s2 (by omega), Nat.le_trans d2 (by omega), fun r hr => Nat.le_trans (r3 r hr).1 (by omega), fun r hr => ⟨Nat.le_trans (r3 r hr).2.1 (by omega), fun a ha => Nat.le_trans ((r3 r hr).2.2 a ha) (by omega)⟩, fun x hx => Nat.le_trans (s3 x hx) (by omega), fun x hx => Nat.le_trans (d3 x hx) (by omega), (i64_wf h3).1, (i64_wf h3).2, (i64_wf h4).1, (i64_wf h4).2⟩
set_option maxRecDepth 100000 in
theorem policy_of {r : Reach} {b0 : Nat} {held : Bool} {v : Value} {d : DataW H} {p : List MemPlace} (hv : Value.okWide Tryd.prog W r b0 35 v) (h : DataW.Trod enc Tryd.prog W 0 (fun _ => true) held 35 v d p) (hb : Rows.uptoBulk d ≤ 1048576) :
    ∃ (vr vs vd : Value) (P : PolP), v = .agg (polC vr vs vd P) ∧ PolR W vr vs vd P ∧ P.Few := by
  obtain ⟨vr, vs, vd, P, h1, h2, h3, _⟩ := policy_ofS hv h hb
  exact ⟨vr, vs, vd, P, h1, h2, h3⟩
end
end Go.Proofs.YtkcgmimldjeaiaaDoor

/-
  From what a row says of events, of nodes and of their attributes to what lies in memory.
-/
namespace Go.Proofs.YtkcgmimldjeaiaaDoor
open Go.RowKit Go.Lib Go.ChangeShapes Go.WideShapes Go.Joins Go.Deep Go.ChangeAt

section
variable {H : Type} {enc : TypeId × Value → H} {W : World}

/-- a []Attr that is read -/
theorem attrs_of {held : Bool} {fuel : Nat} {v : Value} {x : DataW H × List MemPlace} (h : DataW.trod enc Tryd.prog W 0 (fun _ => true) held fuel 37 [v] = some x) : ∃ al, AttrsR W v al ∧ bulkA al ≤ Rows.uptoBulk x.1 := by
  rcases open_slice_pairs Tryd.underlying37 Tryd.underlying101 (by kernel_rfl) rfl rfl (by kernel_rfl) (by kernel_rfl) h with ⟨hcs, hx⟩ | ⟨a, len, cap, m, n, V0, V1, D0, D1, P0, P1, hcs, _, hl, hm9, hm, hx, hall⟩
  · obtain rfl := (List.cons.inj hcs).1
    exact ⟨[], AttrsR.nil W, Nat.zero_le _⟩
  · obtain rfl := (List.cons.inj hcs).1
    subst hx
    simp only [if_true] at hm
    subst hm
    have each : ∀ i, i < len → ∃ q : AttrP, V0 i = .string (bs q.1) ∧ V1 i = .string (bs q.2) ∧ q.1.length + q.2.length + 1 ≤ Rows.uptoBulk (.agg [D0 i, D1 i]) := fun i hi => by
      obtain ⟨_, _, h0, h1⟩ := hall i (by omega)
      obtain ⟨s, e0, e1, _⟩ := DataW.trod_string Tryd.underlying9 h0
      obtain ⟨s', e0', e1', _⟩ := DataW.trod_string Tryd.underlying9 h1
      simp only [Prod.mk.injEq] at e1 e1'
      refine ⟨(s.data.toList, s'.data.toList), (List.cons.inj e0).1, (List.cons.inj e0').1, ?_⟩
      rw [e1.1, e1'.1]
      simp only [Rows.uptoBulk, Rows.uptoBulkAll]
      omega
    obtain ⟨Q, hQ⟩ := choose_lt each
    have hlen : ((List.range len).map Q).length = len := by simp
    refine ⟨(List.range len).map Q, ⟨some a, m, by rw [hlen], by rw [hlen]; exact hl, by unfold maxLen at hm9; omega, fun j r hj => ?_, fun e => by cases e⟩, ?_⟩
    · have hjl : j < len := by rw [← hlen]; exact (List.getElem?_eq_some_iff.1 hj).1
      rw [List.getElem?_map, List.getElem?_range hjl] at hj
      obtain rfl := Option.some.inj hj
      obtain ⟨hc0, _, _, _⟩ := hall 0 (by omega)
      obtain ⟨k0, k1, _, _⟩ := hall j (by omega)
      obtain ⟨q0, q1, _⟩ := hQ j hjl
      obtain ⟨b, o, sp⟩ := a
      rw [Nat.zero_mul, add_zero'] at hc0
      obtain rfl := cell_spot hc0
      rw [add_none] at k0 k1
      exact ⟨b, o, rfl, by rw [k0, q0], by rw [Nat.add_assoc, k1, q1]⟩
    · have h1 := sum_bulk (D := fun i => .agg [D0 i, D1 i]) (f := fun i => (Q i).1.length + (Q i).2.length + 1) (List.range len) (fun i hi => (hQ i (by simpa using hi)).2.2)
      unfold bulkA
      rw [List.map_map]
      simp only [Rows.uptoBulk]
      exact Nat.le_trans h1 (by omega)
instance : Inhabited EvP := ⟨⟨0, [], [], []⟩⟩
set_option maxRecDepth 100000 in
/-- a slice of structs of a number, a name, attributes and a text -/
theorem recs_of {t e : TypeId} {f0 f1 f2 f3 : Field} (ht : Tryd.prog.underlying t = some (.slice e)) (he : Tryd.prog.underlying e = some (.struct #[f0, f1, f2, f3])) (ce : Tryd.prog.cellsOf e = 4) (o : f0.offset = 0 ∧ f1.offset = 1 ∧ f2.offset = 2 ∧ f3.offset = 3)
    (g : f0.type = 3 ∧ f1.type = 9 ∧ f2.type = 37 ∧ f3.type = 9)
    {held : Bool} {fuel : Nat} {v : Value} {x : DataW H × List MemPlace} (h : DataW.trod enc Tryd.prog W 0 (fun _ => true) held fuel t [v] = some x) : ∃ es, EvsR W v es ∧ bulkE es ≤ Rows.uptoBulk x.1 ∧ ∀ e ∈ es, -9223372036854775808 ≤ e.k ∧ e.k ≤ 9223372036854775807 := by
  rcases open_slice ht h with ⟨hcs, hx⟩ | ⟨a, len, cap, m, n, D, Pl, hcs, _, hl, hm9, hm, hx, hall⟩
  · obtain rfl := (List.cons.inj hcs).1
    exact ⟨[], EvsR.nil W, Nat.zero_le _, fun e h => by cases h⟩
  · obtain rfl := (List.cons.inj hcs).1
    subst hx
    simp only [if_true] at hm
    subst hm
    have ci : Tryd.prog.cellsOf 3 = 1 := by kernel_rfl
    have cs1 : Tryd.prog.cellsOf 9 = 1 := by kernel_rfl
    have ca : Tryd.prog.cellsOf 37 = 1 := by kernel_rfl
    obtain ⟨o0, o1, o2, o3⟩ := o
    obtain ⟨g0, g1, g2, g3⟩ := g
    have each : ∀ i, i < len → ∃ q : EvP × Value, W.cell? (a.add (i * 4)) = some (.int .i64 q.1.k) ∧ W.cell? (a.add (i * 4 + 1)) = some (.string (bs q.1.n)) ∧ W.cell? (a.add (i * 4 + 2)) = some q.2 ∧ W.cell? (a.add (i * 4 + 3)) = some (.string (bs q.1.t)) ∧ AttrsR W q.2 q.1.a ∧
        q.1.n.length + q.1.t.length + bulkA q.1.a + 1 ≤ Rows.uptoBulk (D i) ∧ (-9223372036854775808 ≤ q.1.k ∧ q.1.k ≤ 9223372036854775807) := by
      intro i hi
      obtain ⟨cs', h1, h2⟩ := hall i (by omega)
      rw [ce] at h1
      obtain ⟨_, hlen, hcell⟩ := World.cells?_some h1
      obtain ⟨xs, k, hk, hxy, _, hxl, hf⟩ := DataW.trod_struct he h2
      match xs, hxl, cs', hlen with
      | [y0, y1, y2, y3], _, [v0, v1, v2, v3], _ =>
        have q0 := hf 0 f0 rfl
        have q1 := hf 1 f1 rfl
        have q2 := hf 2 f2 rfl
        have q3 := hf 3 f3 rfl
        simp [o0, o1, o2, o3, g0, g1, g2, g3, ci, cs1, ca] at q0 q1 q2 q3
        have e0 := hcell 0 (by omega)
        have e1 := hcell 1 (by omega)
        have e2 := hcell 2 (by omega)
        have e3 := hcell 3 (by omega)
        rw [add_add] at e0 e1 e2 e3
        simp only [Prod.mk.injEq] at hxy
        obtain ⟨z, w0, w1, wf⟩ := DataW.trod_int Tryd.underlying3 q0
        obtain ⟨s, s0, s1, _⟩ := DataW.trod_string Tryd.underlying9 q1
        obtain ⟨al, al1, al2⟩ := attrs_of q2
        obtain ⟨t', t0, t1, _⟩ := DataW.trod_string Tryd.underlying9 q3
        obtain rfl := (List.cons.inj w0).1
        obtain rfl := (List.cons.inj s0).1
        obtain rfl := (List.cons.inj t0).1
        refine ⟨(⟨z, s.data.toList, al, t'.data.toList⟩, v2), by simpa using e0, by rw [bs_of]; simpa using e1, by simpa using e2, by rw [bs_of]; simpa using e3, al1, ?_, i64_wf wf⟩
        rw [hxy.1]
        simp only [List.map_cons, List.map_nil, Rows.uptoBulk, Rows.uptoBulkAll, w1, s1, t1]
        omega
    obtain ⟨Q, hQ⟩ := choose_lt each
    have hlen : ((List.range len).map fun i => (Q i).1).length = len := by simp
    refine ⟨(List.range len).map fun i => (Q i).1, ⟨some a, m, by rw [hlen], by rw [hlen]; exact hl, by unfold maxLen at hm9; omega, fun j r hj => ?_⟩, ?_, fun e he => ?_⟩
    · have hjl : j < len := by rw [← hlen]; exact (List.getElem?_eq_some_iff.1 hj).1
      rw [List.getElem?_map, List.getElem?_range hjl] at hj
      obtain rfl := Option.some.inj hj
      obtain ⟨q0, q1, q2, q3, q4, _⟩ := hQ j hjl
      obtain ⟨b, o, sp⟩ := a
      have hc0 := (hQ 0 (by omega)).1
      rw [Nat.zero_mul, add_zero'] at hc0
      obtain rfl := cell_spot hc0
      rw [add_none] at q0 q1 q2 q3
      exact ⟨b, o, (Q j).2, rfl, q0, by rw [Nat.add_assoc]; exact q1, by rw [Nat.add_assoc]; exact q2, by rw [Nat.add_assoc]; exact q3, q4⟩
    · have h1 := sum_bulk (D := D) (f := fun i => (Q i).1.n.length + (Q i).1.t.length + bulkA (Q i).1.a + 1) (List.range len) (fun i hi => (hQ i (by simpa using hi)).2.2.2.2.2.1)
      unfold bulkE
      rw [List.map_map]
      simp only [Rows.uptoBulk]
      exact Nat.le_trans h1 (by omega)
    · obtain ⟨i, hi, rfl⟩ := List.mem_map.1 he
      exact (hQ i (by simpa using hi)).2.2.2.2.2.2
theorem events_of {held : Bool} {fuel : Nat} {v : Value} {x : DataW H × List MemPlace} (h : DataW.trod enc Tryd.prog W 0 (fun _ => true) held fuel 22 [v] = some x) : ∃ es, EvsR W v es ∧ bulkE es ≤ Rows.uptoBulk x.1 ∧ ∀ e ∈ es, -9223372036854775808 ≤ e.k ∧ e.k ≤ 9223372036854775807 :=
  recs_of Tryd.underlying22 Tryd.underlying39 (by kernel_rfl) ⟨rfl, rfl, rfl, rfl⟩ ⟨rfl, rfl, rfl, rfl⟩ h
theorem nodes_of {held : Bool} {fuel : Nat} {v : Value} {x : DataW H × List MemPlace} (h : DataW.trod enc Tryd.prog W 0 (fun _ => true) held fuel 44 [v] = some x) : ∃ es, EvsR W v es ∧ bulkE es ≤ Rows.uptoBulk x.1 ∧ ∀ e ∈ es, -9223372036854775808 ≤ e.k ∧ e.k ≤ 9223372036854775807 :=
  recs_of Tryd.underlying44 Tryd.underlying84 (by kernel_rfl) ⟨rfl, rfl, rfl, rfl⟩ ⟨rfl, rfl, rfl, rfl⟩ h
end
end Go.Proofs.YtkcgmimldjeaiaaDoor
