/-
  The reader's readReference: its walk.
-/
import Derived.Test.YtolbahmihkdmiaaDoorStepB
namespace Go.Proofs.YtolbahmihkdmiaaDoor
open Go.RowKit Go.Lib Own

theorem let_C (c : UInt8) : isLetZ (c.toNat : Int) = letterC c := by
  have := u8_all (p := fun c => isLetZ (c.toNat : Int) == letterC c) (by decide +kernel) c
  exact beq_iff_eq.1 this
theorem dig_C (c : UInt8) : isDigZ (c.toNat : Int) = digD c := by
  have := u8_all (p := fun c => isDigZ (c.toNat : Int) == digD c) (by decide +kernel) c
  exact beq_iff_eq.1 this
/-- the run of a reference, from its byte k on -/
def RunAt (L : List UInt8) (k R : Nat) : Prop := k + (((L.drop k).take (32 - k)).takeWhile alnumC).length = R
theorem run_more' {L : List UInt8} {k R : Nat} {x : UInt8} (h : RunAt L k R) (hk : k < 32) (hx : L[k]? = some x) (ha : alnumC x = true) : RunAt L (k + 1) R := by
  unfold RunAt at h ⊢
  obtain ⟨h1, h2⟩ := List.getElem?_eq_some_iff.1 hx
  rw [List.drop_eq_getElem_cons h1, h2, show 32 - k = (32 - (k + 1)) + 1 by omega, List.take_succ_cons, List.takeWhile_cons, if_pos ha, List.length_cons] at h
  omega
theorem run_stop {L : List UInt8} {k R : Nat} (h : RunAt L k R) (hx : 32 ≤ k ∨ L.length ≤ k ∨ ∃ x, L[k]? = some x ∧ alnumC x = false) : k = R := by
  unfold RunAt at h
  rcases hx with hk | hk | ⟨x, hx, ha⟩
  · rw [show 32 - k = 0 by omega] at h
    simpa using h
  · rw [List.drop_of_length_le hk] at h
    simpa using h
  · obtain ⟨h1, h2⟩ := List.getElem?_eq_some_iff.1 hx
    by_cases hk : k < 32
    · rw [List.drop_eq_getElem_cons h1, h2, show 32 - k = (32 - (k + 1)) + 1 by omega, List.take_succ_cons, List.takeWhile_cons, if_neg (by rw [ha]; simp)] at h
      simpa using h
    · rw [show 32 - k = 0 by omega] at h
      simpa using h
theorem put_unit (E : List Ev) (P : List UInt8) (st : LS) (u : List UInt8) : putAll (E, P) (unitL2 st u) = (E, if st.eat = true ∧ u = [10] then P else P ++ u) := by
  unfold unitL2
  split <;> rfl
set_option maxHeartbeats 8000000 in
set_option maxRecDepth 10000 in
theorem readRef_any (base b : Nat) (win : Int) (data : ByteArray) (pos mode : Nat) (eat : Bool) (evs : List Ev) (pend : List UInt8) (m : Int) (w : World) (h : Rdr w base b win data pos mode 0 eat evs pend) (hd : data.size ≤ 10000000) (hp : pos < data.size) (hpend : pend.length ≤ 40000000)
    (hT : ChTabs w) (hm : w.cell? ⟨1, 0, none⟩ = some (.int .i64 m)) :
    Calls Tryd.prog 49 #[.pointer (some ⟨b, 0, none⟩)] w fun e w' => StepAt w w' base b win data pos evs pend e (refRes ⟨mode, 0, eat⟩ (data.data.toList.drop pos)) := by
  obtain ⟨⟨c0, c1, c2, c3, c4, c5⟩, hf, _⟩ := h.cells
  have f2 := hf 2
  obtain ⟨L, hL⟩ : ∃ L, data.data.toList.drop pos = L := ⟨_, rfl⟩
  have hLl : L.length = data.size - pos := by rw [← hL, List.length_drop, ← size_eq]
  have hLx : ∀ (k : Nat) (hk : pos + k < data.size), L[k]? = some (data[pos + k]'hk) := fun k hk => by rw [← hL, List.getElem?_drop]; exact getElem_list hk rfl
  rw [hL]
  obtain ⟨R, hR⟩ : ∃ R, refRun L = R := ⟨_, rfl⟩
  have hend0 := refEnd_eq L
  rw [hR] at hend0
  have hw1 : IntKind.i64.wrap ((pos : Int) + 32) = (pos : Int) + 32 := by rw [IntKind.wrap_i64]; omega
  have hw2 : IntKind.i64.wrap ((pos : Int) + 1) = ((pos + 1 : Nat) : Int) := by rw [IntKind.wrap_i64]; omega
  have hw3 : IntKind.i64.wrap (((pos + 1 : Nat) : Int) + 1) = ((pos + 2 : Nat) : Int) := by rw [IntKind.wrap_i64]; omega
  obtain ⟨mn, hmn⟩ : ∃ mn, min data.size (pos + 32) = mn := ⟨_, rfl⟩
  have hmin : min (data.size : Int) ((pos : Int) + 32) = (mn : Int) := by omega
  have hm1 : mn ≤ data.size := by omega
  have hm2 : mn ≤ pos + 32 := by omega
  have hm3 : mn = data.size ∨ mn = pos + 32 := by omega
  have H0 : Hid (True → RunAt L (if L[1]? = some 35 then 2 else 1) R) := hid (fun _ => hR)
  have HX := hid (fun (_ : True) => hend0)
  have HLX := hid (fun (_ : True) => hLx)
  have HL := hid (fun (_ : True) => And.intro hL hLl)
  have HR := hid h
  have HT := hid hT
  have HM := hid hm
  obtain ⟨s0, hs0⟩ : ∃ s0, (if L[1]? = some 35 then 2 else 1) = s0 := ⟨_, rfl⟩
  rw [hs0] at H0
  have start : (s0 = 2 ∧ ∃ hk : pos + 1 < data.size, (((data[pos + 1]'hk).toNat : Int) == 35) = true) ∨ (s0 = 1 ∧ (¬ pos + 1 < data.size ∨ ∃ hk : pos + 1 < data.size, (((data[pos + 1]'hk).toNat : Int) == 35) = false)) := by
    by_cases hk : pos + 1 < data.size
    · have hx := hLx 1 hk
      by_cases h35 : data[pos + 1]'hk = 35
      · rw [h35] at hx
        rw [if_pos hx] at hs0
        exact .inl ⟨hs0.symm, hk, by rw [h35]; rfl⟩
      · rw [if_neg (by rw [hx]; simpa using h35)] at hs0
        refine .inr ⟨hs0.symm, .inr ⟨hk, ?_⟩⟩
        rw [beq_eq_false_iff_ne]
        intro e
        exact h35 (UInt8.toNat_inj.1 (by simp; omega))
    · have hn : ¬ L[1]? = some 35 := fun e => by
        have := (List.getElem?_eq_some_iff.1 e).1
        omega
      rw [if_neg hn] at hs0
      exact .inr ⟨hs0.symm, .inl hk⟩
  clear hR hend0 hLx hL hLl h hT hm hf hs0 hmn
  go_enter Tryd.func49, Tryd.ntmps49
  rcases start with ⟨rfl, hk1, q1⟩ | ⟨rfl, hq | ⟨hk1, q1⟩⟩
  · go_wp2
    go_loopw [4] (fun iv wr => ∃ n : Nat, iv = .int .i64 (n : Int) ∧ wr = w ∧ pos + 1 ≤ n ∧ n ≤ pos + 32 ∧ n ≤ data.size ∧ Hid (True → RunAt L (n - pos) R)) (fun iv _ => data.size - (RowKit.intOf iv).toNat)
    case atStart =>
      exact ⟨pos + 2, rfl, (by trivial), by omega, by omega, by omega, by rw [show pos + 2 - pos = 2 by omega]; exact H0⟩
    case round =>
      obtain ⟨n, rfl, rfl, hn1, hn2, hn3, HA⟩ := hrel
      clear H0 hw2 hw3
      clear q1
      by_cases hkm : n < mn
      · have hns : n < data.size := by omega
        obtain ⟨x, hx⟩ : ∃ x, data[n]'hns = x := ⟨_, rfl⟩
        have hlx : L[n - pos]? = some x := by
          have := HLX.out trivial (n - pos) (by omega)
          rw [this]
          have e : pos + (n - pos) = n := by omega
          simp only [e, hx]
        have hlt := x.toNat_lt
        have hlet := fun W => let_any (x.toNat : Int) (by omega) (by omega) W
        have hdig := fun W => dig_any (x.toNat : Int) (by omega) (by omega) W
        rw [let_C] at hlet
        rw [dig_C] at hdig
        have hwn : IntKind.i64.wrap ((n : Int) + 1) = ((n + 1 : Nat) : Int) := by rw [IntKind.wrap_i64]; omega
        by_cases hal : alnumC x = true
        · have HB : Hid (True → RunAt L (n + 1 - pos) R) := hid (fun _ => by
            have := run_more' (HA.out trivial) (by omega) hlx hal
            rwa [show n - pos + 1 = n + 1 - pos by omega] at this)
          have hor : letterC x = true ∨ letterC x = false ∧ digD x = true := by
            unfold alnumC at hal
            cases h1 : letterC x
            · rw [h1] at hal; exact .inr ⟨rfl, by simpa using hal⟩
            · exact .inl rfl
          clear hal hlx HA
          rcases hor with h1 | ⟨h1, h2⟩
          · rw [h1] at hlet
            go_wp2_with (first | (go_at_call 63; refine (hlet _).mono ?_; rintro e w' ⟨rfl, rfl⟩) | (go_at_call 65; refine (hdig _).mono ?_; rintro e w' ⟨rfl, rfl⟩))
            go_roundw
            case rel => exact ⟨n + 1, rfl, (by trivial), by omega, by omega, by omega, HB⟩
            case measure => simp [RowKit.intOf]; omega
          · rw [h1] at hlet
            rw [h2] at hdig
            go_wp2_with (first | (go_at_call 63; refine (hlet _).mono ?_; rintro e w' ⟨rfl, rfl⟩) | (go_at_call 65; refine (hdig _).mono ?_; rintro e w' ⟨rfl, rfl⟩))
            go_roundw
            case rel => exact ⟨n + 1, rfl, (by trivial), by omega, by omega, by omega, HB⟩
            case measure => simp [RowKit.intOf]; omega
        · have halF : alnumC x = false := by simpa using hal
          have hkR := run_stop (HA.out trivial) (.inr (.inr ⟨x, hlx, halF⟩))
          have h1 : letterC x = false := by unfold alnumC at halF; simp at halF; exact halF.1
          have h2 : digD x = false := by unfold alnumC at halF; simp at halF; exact halF.2
          rw [h1] at hlet
          rw [h2] at hdig
          have hend := HX.out trivial
          rw [← hkR, if_pos (by omega), if_neg (by have := (HL.out trivial).2; omega), hlx] at hend
          have hlim : (n : Int) < (pos : Int) + 32 := by omega
          have q2 : ((n : Int) == (data.size : Int)) = false := beq_eq_false_iff_ne.2 (by omega)
          clear hal halF h1 h2 hlx
          by_cases h59 : x = 59
          · rw [if_pos (by rw [h59]), show n - pos + 1 = n + 1 - pos by omega] at hend
            have q3 : ((x.toNat : Int) == 59) = true := by rw [h59]; rfl
            clear h59 hkR HA HX HLX
            subst hx
            have hres : refRes ⟨mode, 0, eat⟩ L = .done (n + 1 - pos) ⟨mode, 0, false⟩ (unitL2 ⟨mode, 0, eat⟩ (unr false (L.take (n + 1 - pos)))) := by unfold refRes; rw [hend]; rfl
            have hpl : (data.extract pos (n + 1)).data.toList = L.take (n + 1 - pos) := by rw [part_slice, ← (HL.out trivial).1, List.drop_take]
            have hps : (data.extract pos (n + 1)).size ≤ 10000000 := by rw [ByteArray.size_extract]; omega
            obtain ⟨U, hU⟩ : ∃ U, unr false (L.take (n + 1 - pos)) = U := ⟨_, rfl⟩
            have hul : U.length ≤ 4 * (L.take (n + 1 - pos)).length := by rw [← hU]; exact unr_len false _ _ (Nat.le_refl _)
            have hul2 : (L.take (n + 1 - pos)).length ≤ 10000000 := by rw [List.length_take]; omega
            rw [hU] at hres
            have hun := fun W hTW hmW => unref_any (data.extract pos (n + 1)) false m W hps hTW hmW
            rw [hpl, hU] at hun
            obtain ⟨ub, hub⟩ : ∃ ub : ByteArray, (⟨U.toArray⟩ : ByteArray) = ub := ⟨_, rfl⟩
            have hubl : ub.data.toList = U := by rw [← hub]
            have hubz : ub.size ≤ 40000000 := by rw [size_eq, hubl]; omega
            rw [hub] at hun
            have hunit := fun W hW => unit_any base b win data pos mode 0 eat evs pend ub W hW (by omega)
            rw [hubl] at hunit
            have hput := put_unit evs pend ⟨mode, 0, eat⟩ U
            simp only at hput
            have hfin : ∀ W', Rdr W' base b win data ((n + 1 : Nat) : Int) mode 0 false evs (if eat = true ∧ U = [10] then pend else pend ++ U) → Below base wr W' → StepAt wr W' base b win data pos evs pend (.returned (.bool true)) (refRes ⟨mode, 0, eat⟩ L) := fun W' h1 h2 => by
              rw [hres]
              exact ⟨rfl, by rw [hput, show pos + (n + 1 - pos) = n + 1 by omega]; exact h1, h2⟩
            generalize (if eat = true ∧ U = [10] then pend else pend ++ U) = P at hunit hfin
            have HF := hid hfin
            clear hfin
            have HU := hid hun
            have HN := hid hunit
            clear hun hunit hput hres hpl hps hU hul hul2 hub hubl hubz hend hpend
            have hq3 : pos ≤ n + 1 := by omega
            have hq0 : 0 ≤ (n : Int) + 1 := by omega
            have hq1 : (n : Int) + 1 ≤ (data.size : Int) := by omega
            have hq2 : (pos : Int) ≤ (n : Int) + 1 := by omega
            go_wp2_with (first | (go_at_call 63; refine (hlet _).mono ?_; rintro e w' ⟨rfl, hw9⟩; rw [hw9]; clear hw9 w') | (go_at_call 65; refine (hdig _).mono ?_; rintro e w' ⟨rfl, hw9⟩; rw [hw9]; clear hw9 w') | fail)
            go_region_law (first | (go_simp; go_at_call 22; refine (HU.out _ (by exact ⟨HT.out.names, HT.out.repl⟩) (by exact HM.out)).mono ?_; rintro e w1 ⟨rfl, b1⟩; have hr1 := HR.out.drew.below b1; have hb1 : Below base wr w1 := Below.mono (B := wr.heap.size) ⟨b1.os, b1.tape, b1.output, b1.size, b1.block⟩ HR.out.size) | (go_simp; go_at_call 21; refine (HN.out _ (by exact hr1)).mono ?_; rintro e w2 ⟨rfl, hr2, b2⟩; obtain ⟨⟨k0, k1, k2, k3, k4, k5⟩, kf, _⟩ := hr2.cells; have kf2 := kf 2; clear kf))
            all_goals
              obtain ⟨r3, b3⟩ := hr2.setPos ((n + 1 : Nat) : Int)
              have H3 := hid r3
              have HB := hid ((hb1.trans b2).trans b3)
              clear hr1 hr2 r3 b1 b2 b3 hb1
              go_wp2
              go_ret
              exact HF.out _ H3.out HB.out
          · rw [if_neg (by simpa using h59)] at hend
            have q3 : ((x.toNat : Int) == 59) = false := beq_eq_false_iff_ne.2 (fun e => h59 (UInt8.toNat_inj.1 (by simp; omega)))
            clear h59 hkR HA HX HLX hwn
            subst hx
            have hres : refRes ⟨mode, 0, eat⟩ L = .done (n - pos) ⟨mode, 0, false⟩ (unitL2 ⟨mode, 0, eat⟩ (unr false (L.take (n - pos)))) := by unfold refRes; rw [hend]; rfl
            have hpl : (data.extract pos (n)).data.toList = L.take (n - pos) := by rw [part_slice, ← (HL.out trivial).1, List.drop_take]
            have hps : (data.extract pos (n)).size ≤ 10000000 := by rw [ByteArray.size_extract]; omega
            obtain ⟨U, hU⟩ : ∃ U, unr false (L.take (n - pos)) = U := ⟨_, rfl⟩
            have hul : U.length ≤ 4 * (L.take (n - pos)).length := by rw [← hU]; exact unr_len false _ _ (Nat.le_refl _)
            have hul2 : (L.take (n - pos)).length ≤ 10000000 := by rw [List.length_take]; omega
            rw [hU] at hres
            have hun := fun W hTW hmW => unref_any (data.extract pos (n)) false m W hps hTW hmW
            rw [hpl, hU] at hun
            obtain ⟨ub, hub⟩ : ∃ ub : ByteArray, (⟨U.toArray⟩ : ByteArray) = ub := ⟨_, rfl⟩
            have hubl : ub.data.toList = U := by rw [← hub]
            have hubz : ub.size ≤ 40000000 := by rw [size_eq, hubl]; omega
            rw [hub] at hun
            have hunit := fun W hW => unit_any base b win data pos mode 0 eat evs pend ub W hW (by omega)
            rw [hubl] at hunit
            have hput := put_unit evs pend ⟨mode, 0, eat⟩ U
            simp only at hput
            have hfin : ∀ W', Rdr W' base b win data ((n : Nat) : Int) mode 0 false evs (if eat = true ∧ U = [10] then pend else pend ++ U) → Below base wr W' → StepAt wr W' base b win data pos evs pend (.returned (.bool true)) (refRes ⟨mode, 0, eat⟩ L) := fun W' h1 h2 => by
              rw [hres]
              exact ⟨rfl, by rw [hput, show pos + (n - pos) = n by omega]; exact h1, h2⟩
            generalize (if eat = true ∧ U = [10] then pend else pend ++ U) = P at hunit hfin
            have HF := hid hfin
            clear hfin
            have HU := hid hun
            have HN := hid hunit
            clear hun hunit hput hres hpl hps hU hul hul2 hub hubl hubz hend hpend
            have hq3 : pos ≤ n := by omega
            have hq0 : 0 ≤ (n : Int) := by omega
            have hq1 : (n : Int) ≤ (data.size : Int) := by omega
            have hq2 : (pos : Int) ≤ (n : Int) := by omega
            go_wp2_with (first | (go_at_call 63; refine (hlet _).mono ?_; rintro e w' ⟨rfl, hw9⟩; rw [hw9]; clear hw9 w') | (go_at_call 65; refine (hdig _).mono ?_; rintro e w' ⟨rfl, hw9⟩; rw [hw9]; clear hw9 w') | fail)
            go_region_law (first | (go_simp; go_at_call 22; refine (HU.out _ (by exact ⟨HT.out.names, HT.out.repl⟩) (by exact HM.out)).mono ?_; rintro e w1 ⟨rfl, b1⟩; have hr1 := HR.out.drew.below b1; have hb1 : Below base wr w1 := Below.mono (B := wr.heap.size) ⟨b1.os, b1.tape, b1.output, b1.size, b1.block⟩ HR.out.size) | (go_simp; go_at_call 21; refine (HN.out _ (by exact hr1)).mono ?_; rintro e w2 ⟨rfl, hr2, b2⟩; obtain ⟨⟨k0, k1, k2, k3, k4, k5⟩, kf, _⟩ := hr2.cells; have kf2 := kf 2; clear kf))
            all_goals
              obtain ⟨r3, b3⟩ := hr2.setPos ((n : Nat) : Int)
              have H3 := hid r3
              have HB := hid ((hb1.trans b2).trans b3)
              clear hr1 hr2 r3 b1 b2 b3 hb1
              go_wp2
              go_ret
              exact HF.out _ H3.out HB.out
      · have hnm : n = mn := by omega
        have hnl : ¬ (n : Int) < (mn : Int) := by omega
        by_cases h32 : n = pos + 32
        · subst hnm
          have hkR := run_stop (HA.out trivial) (.inl (by omega))
          have hend := HX.out trivial
          rw [← hkR, if_neg (by omega)] at hend
          have hlim : ¬ (n : Int) < (pos : Int) + 32 := by omega
          clear hkR HA HX HLX h32
          have hres : refRes ⟨mode, 0, eat⟩ L = .done (n - pos) ⟨mode, 0, false⟩ (unitL2 ⟨mode, 0, eat⟩ (unr false (L.take (n - pos)))) := by unfold refRes; rw [hend]; rfl
          have hpl : (data.extract pos (n)).data.toList = L.take (n - pos) := by rw [part_slice, ← (HL.out trivial).1, List.drop_take]
          have hps : (data.extract pos (n)).size ≤ 10000000 := by rw [ByteArray.size_extract]; omega
          obtain ⟨U, hU⟩ : ∃ U, unr false (L.take (n - pos)) = U := ⟨_, rfl⟩
          have hul : U.length ≤ 4 * (L.take (n - pos)).length := by rw [← hU]; exact unr_len false _ _ (Nat.le_refl _)
          have hul2 : (L.take (n - pos)).length ≤ 10000000 := by rw [List.length_take]; omega
          rw [hU] at hres
          have hun := fun W hTW hmW => unref_any (data.extract pos (n)) false m W hps hTW hmW
          rw [hpl, hU] at hun
          obtain ⟨ub, hub⟩ : ∃ ub : ByteArray, (⟨U.toArray⟩ : ByteArray) = ub := ⟨_, rfl⟩
          have hubl : ub.data.toList = U := by rw [← hub]
          have hubz : ub.size ≤ 40000000 := by rw [size_eq, hubl]; omega
          rw [hub] at hun
          have hunit := fun W hW => unit_any base b win data pos mode 0 eat evs pend ub W hW (by omega)
          rw [hubl] at hunit
          have hput := put_unit evs pend ⟨mode, 0, eat⟩ U
          simp only at hput
          have hfin : ∀ W', Rdr W' base b win data ((n : Nat) : Int) mode 0 false evs (if eat = true ∧ U = [10] then pend else pend ++ U) → Below base wr W' → StepAt wr W' base b win data pos evs pend (.returned (.bool true)) (refRes ⟨mode, 0, eat⟩ L) := fun W' h1 h2 => by
            rw [hres]
            exact ⟨rfl, by rw [hput, show pos + (n - pos) = n by omega]; exact h1, h2⟩
          generalize (if eat = true ∧ U = [10] then pend else pend ++ U) = P at hunit hfin
          have HF := hid hfin
          clear hfin
          have HU := hid hun
          have HN := hid hunit
          clear hun hunit hput hres hpl hps hU hul hul2 hub hubl hubz hend hpend 
          have hq3 : pos ≤ n := by omega
          have hq0 : 0 ≤ (n : Int) := by omega
          have hq1 : (n : Int) ≤ (data.size : Int) := by omega
          have hq2 : (pos : Int) ≤ (n : Int) := by omega
          go_wp2_with fail
          go_region_law (first | (go_simp; go_at_call 22; refine (HU.out _ (by exact ⟨HT.out.names, HT.out.repl⟩) (by exact HM.out)).mono ?_; rintro e w1 ⟨rfl, b1⟩; have hr1 := HR.out.drew.below b1; have hb1 : Below base wr w1 := Below.mono (B := wr.heap.size) ⟨b1.os, b1.tape, b1.output, b1.size, b1.block⟩ HR.out.size) | (go_simp; go_at_call 21; refine (HN.out _ (by exact hr1)).mono ?_; rintro e w2 ⟨rfl, hr2, b2⟩; obtain ⟨⟨k0, k1, k2, k3, k4, k5⟩, kf, _⟩ := hr2.cells; have kf2 := kf 2; clear kf))
          all_goals
            obtain ⟨r3, b3⟩ := hr2.setPos ((n : Nat) : Int)
            have H3 := hid r3
            have HB := hid ((hb1.trans b2).trans b3)
            clear hr1 hr2 r3 b1 b2 b3 hb1
            go_wp2
            go_ret
            exact HF.out _ H3.out HB.out
        · have hns : n = data.size := by omega
          have hkR := run_stop (HA.out trivial) (.inr (.inl (by have := (HL.out trivial).2; omega)))
          have hend := HX.out trivial
          rw [← hkR, if_pos (by omega), if_pos (by have := (HL.out trivial).2; omega)] at hend
          have hres : refRes ⟨mode, 0, eat⟩ L = .more 0 ⟨mode, 0, eat⟩ := by unfold refRes; rw [hend]
          have HF : Hid (StepAt wr wr base b win data pos evs pend (.returned (.bool false)) (refRes ⟨mode, 0, eat⟩ L)) := hid (by rw [hres]; exact ⟨rfl, HR.out, Below.refl _ _⟩)
          have hlim : (n : Int) < (pos : Int) + 32 := by omega
          have q2 : ((n : Int) == (data.size : Int)) = true := beq_iff_eq.2 (by omega)
          clear hkR HA HX HLX hres hend h32
          go_wp2
          go_ret
          exact HF.out
  · go_wp2
    go_loopw [4] (fun iv wr => ∃ n : Nat, iv = .int .i64 (n : Int) ∧ wr = w ∧ pos + 1 ≤ n ∧ n ≤ pos + 32 ∧ n ≤ data.size ∧ Hid (True → RunAt L (n - pos) R)) (fun iv _ => data.size - (RowKit.intOf iv).toNat)
    case atStart =>
      exact ⟨pos + 1, rfl, (by trivial), by omega, by omega, by omega, by rw [show pos + 1 - pos = 1 by omega]; exact H0⟩
    case round =>
      obtain ⟨n, rfl, rfl, hn1, hn2, hn3, HA⟩ := hrel
      clear H0 hw2 hw3
      by_cases hkm : n < mn
      · exfalso
        omega
      · have hnm : n = mn := by omega
        have hnl : ¬ (n : Int) < (mn : Int) := by omega
        by_cases h32 : n = pos + 32
        · exfalso
          omega
        · have hns : n = data.size := by omega
          have hkR := run_stop (HA.out trivial) (.inr (.inl (by have := (HL.out trivial).2; omega)))
          have hend := HX.out trivial
          rw [← hkR, if_pos (by omega), if_pos (by have := (HL.out trivial).2; omega)] at hend
          have hres : refRes ⟨mode, 0, eat⟩ L = .more 0 ⟨mode, 0, eat⟩ := by unfold refRes; rw [hend]
          have HF : Hid (StepAt wr wr base b win data pos evs pend (.returned (.bool false)) (refRes ⟨mode, 0, eat⟩ L)) := hid (by rw [hres]; exact ⟨rfl, HR.out, Below.refl _ _⟩)
          have hlim : (n : Int) < (pos : Int) + 32 := by omega
          have q2 : ((n : Int) == (data.size : Int)) = true := beq_iff_eq.2 (by omega)
          clear hkR HA HX HLX hres hend h32
          go_wp2
          go_ret
          exact HF.out
  · go_wp2
    go_loopw [4] (fun iv wr => ∃ n : Nat, iv = .int .i64 (n : Int) ∧ wr = w ∧ pos + 1 ≤ n ∧ n ≤ pos + 32 ∧ n ≤ data.size ∧ Hid (True → RunAt L (n - pos) R)) (fun iv _ => data.size - (RowKit.intOf iv).toNat)
    case atStart =>
      exact ⟨pos + 1, rfl, (by trivial), by omega, by omega, by omega, by rw [show pos + 1 - pos = 1 by omega]; exact H0⟩
    case round =>
      obtain ⟨n, rfl, rfl, hn1, hn2, hn3, HA⟩ := hrel
      clear H0 hw2 hw3
      clear q1
      by_cases hkm : n < mn
      · have hns : n < data.size := by omega
        obtain ⟨x, hx⟩ : ∃ x, data[n]'hns = x := ⟨_, rfl⟩
        have hlx : L[n - pos]? = some x := by
          have := HLX.out trivial (n - pos) (by omega)
          rw [this]
          have e : pos + (n - pos) = n := by omega
          simp only [e, hx]
        have hlt := x.toNat_lt
        have hlet := fun W => let_any (x.toNat : Int) (by omega) (by omega) W
        have hdig := fun W => dig_any (x.toNat : Int) (by omega) (by omega) W
        rw [let_C] at hlet
        rw [dig_C] at hdig
        have hwn : IntKind.i64.wrap ((n : Int) + 1) = ((n + 1 : Nat) : Int) := by rw [IntKind.wrap_i64]; omega
        by_cases hal : alnumC x = true
        · have HB : Hid (True → RunAt L (n + 1 - pos) R) := hid (fun _ => by
            have := run_more' (HA.out trivial) (by omega) hlx hal
            rwa [show n - pos + 1 = n + 1 - pos by omega] at this)
          have hor : letterC x = true ∨ letterC x = false ∧ digD x = true := by
            unfold alnumC at hal
            cases h1 : letterC x
            · rw [h1] at hal; exact .inr ⟨rfl, by simpa using hal⟩
            · exact .inl rfl
          clear hal hlx HA
          rcases hor with h1 | ⟨h1, h2⟩
          · rw [h1] at hlet
            go_wp2_with (first | (go_at_call 63; refine (hlet _).mono ?_; rintro e w' ⟨rfl, rfl⟩) | (go_at_call 65; refine (hdig _).mono ?_; rintro e w' ⟨rfl, rfl⟩))
            go_roundw
            case rel => exact ⟨n + 1, rfl, (by trivial), by omega, by omega, by omega, HB⟩
            case measure => simp [RowKit.intOf]; omega
          · rw [h1] at hlet
            rw [h2] at hdig
            go_wp2_with (first | (go_at_call 63; refine (hlet _).mono ?_; rintro e w' ⟨rfl, rfl⟩) | (go_at_call 65; refine (hdig _).mono ?_; rintro e w' ⟨rfl, rfl⟩))
            go_roundw
            case rel => exact ⟨n + 1, rfl, (by trivial), by omega, by omega, by omega, HB⟩
            case measure => simp [RowKit.intOf]; omega
        · have halF : alnumC x = false := by simpa using hal
          have hkR := run_stop (HA.out trivial) (.inr (.inr ⟨x, hlx, halF⟩))
          have h1 : letterC x = false := by unfold alnumC at halF; simp at halF; exact halF.1
          have h2 : digD x = false := by unfold alnumC at halF; simp at halF; exact halF.2
          rw [h1] at hlet
          rw [h2] at hdig
          have hend := HX.out trivial
          rw [← hkR, if_pos (by omega), if_neg (by have := (HL.out trivial).2; omega), hlx] at hend
          have hlim : (n : Int) < (pos : Int) + 32 := by omega
          have q2 : ((n : Int) == (data.size : Int)) = false := beq_eq_false_iff_ne.2 (by omega)
          clear hal halF h1 h2 hlx
          by_cases h59 : x = 59
          · rw [if_pos (by rw [h59]), show n - pos + 1 = n + 1 - pos by omega] at hend
            have q3 : ((x.toNat : Int) == 59) = true := by rw [h59]; rfl
            clear h59 hkR HA HX HLX
            subst hx
            have hres : refRes ⟨mode, 0, eat⟩ L = .done (n + 1 - pos) ⟨mode, 0, false⟩ (unitL2 ⟨mode, 0, eat⟩ (unr false (L.take (n + 1 - pos)))) := by unfold refRes; rw [hend]; rfl
            have hpl : (data.extract pos (n + 1)).data.toList = L.take (n + 1 - pos) := by rw [part_slice, ← (HL.out trivial).1, List.drop_take]
            have hps : (data.extract pos (n + 1)).size ≤ 10000000 := by rw [ByteArray.size_extract]; omega
            obtain ⟨U, hU⟩ : ∃ U, unr false (L.take (n + 1 - pos)) = U := ⟨_, rfl⟩
            have hul : U.length ≤ 4 * (L.take (n + 1 - pos)).length := by rw [← hU]; exact unr_len false _ _ (Nat.le_refl _)
            have hul2 : (L.take (n + 1 - pos)).length ≤ 10000000 := by rw [List.length_take]; omega
            rw [hU] at hres
            have hun := fun W hTW hmW => unref_any (data.extract pos (n + 1)) false m W hps hTW hmW
            rw [hpl, hU] at hun
            obtain ⟨ub, hub⟩ : ∃ ub : ByteArray, (⟨U.toArray⟩ : ByteArray) = ub := ⟨_, rfl⟩
            have hubl : ub.data.toList = U := by rw [← hub]
            have hubz : ub.size ≤ 40000000 := by rw [size_eq, hubl]; omega
            rw [hub] at hun
            have hunit := fun W hW => unit_any base b win data pos mode 0 eat evs pend ub W hW (by omega)
            rw [hubl] at hunit
            have hput := put_unit evs pend ⟨mode, 0, eat⟩ U
            simp only at hput
            have hfin : ∀ W', Rdr W' base b win data ((n + 1 : Nat) : Int) mode 0 false evs (if eat = true ∧ U = [10] then pend else pend ++ U) → Below base wr W' → StepAt wr W' base b win data pos evs pend (.returned (.bool true)) (refRes ⟨mode, 0, eat⟩ L) := fun W' h1 h2 => by
              rw [hres]
              exact ⟨rfl, by rw [hput, show pos + (n + 1 - pos) = n + 1 by omega]; exact h1, h2⟩
            generalize (if eat = true ∧ U = [10] then pend else pend ++ U) = P at hunit hfin
            have HF := hid hfin
            clear hfin
            have HU := hid hun
            have HN := hid hunit
            clear hun hunit hput hres hpl hps hU hul hul2 hub hubl hubz hend hpend
            have hq3 : pos ≤ n + 1 := by omega
            have hq0 : 0 ≤ (n : Int) + 1 := by omega
            have hq1 : (n : Int) + 1 ≤ (data.size : Int) := by omega
            have hq2 : (pos : Int) ≤ (n : Int) + 1 := by omega
            go_wp2_with (first | (go_at_call 63; refine (hlet _).mono ?_; rintro e w' ⟨rfl, hw9⟩; rw [hw9]; clear hw9 w') | (go_at_call 65; refine (hdig _).mono ?_; rintro e w' ⟨rfl, hw9⟩; rw [hw9]; clear hw9 w') | fail)
            go_region_law (first | (go_simp; go_at_call 22; refine (HU.out _ (by exact ⟨HT.out.names, HT.out.repl⟩) (by exact HM.out)).mono ?_; rintro e w1 ⟨rfl, b1⟩; have hr1 := HR.out.drew.below b1; have hb1 : Below base wr w1 := Below.mono (B := wr.heap.size) ⟨b1.os, b1.tape, b1.output, b1.size, b1.block⟩ HR.out.size) | (go_simp; go_at_call 21; refine (HN.out _ (by exact hr1)).mono ?_; rintro e w2 ⟨rfl, hr2, b2⟩; obtain ⟨⟨k0, k1, k2, k3, k4, k5⟩, kf, _⟩ := hr2.cells; have kf2 := kf 2; clear kf))
            all_goals
              obtain ⟨r3, b3⟩ := hr2.setPos ((n + 1 : Nat) : Int)
              have H3 := hid r3
              have HB := hid ((hb1.trans b2).trans b3)
              clear hr1 hr2 r3 b1 b2 b3 hb1
              go_wp2
              go_ret
              exact HF.out _ H3.out HB.out
          · rw [if_neg (by simpa using h59)] at hend
            have q3 : ((x.toNat : Int) == 59) = false := beq_eq_false_iff_ne.2 (fun e => h59 (UInt8.toNat_inj.1 (by simp; omega)))
            clear h59 hkR HA HX HLX hwn
            subst hx
            have hres : refRes ⟨mode, 0, eat⟩ L = .done (n - pos) ⟨mode, 0, false⟩ (unitL2 ⟨mode, 0, eat⟩ (unr false (L.take (n - pos)))) := by unfold refRes; rw [hend]; rfl
            have hpl : (data.extract pos (n)).data.toList = L.take (n - pos) := by rw [part_slice, ← (HL.out trivial).1, List.drop_take]
            have hps : (data.extract pos (n)).size ≤ 10000000 := by rw [ByteArray.size_extract]; omega
            obtain ⟨U, hU⟩ : ∃ U, unr false (L.take (n - pos)) = U := ⟨_, rfl⟩
            have hul : U.length ≤ 4 * (L.take (n - pos)).length := by rw [← hU]; exact unr_len false _ _ (Nat.le_refl _)
            have hul2 : (L.take (n - pos)).length ≤ 10000000 := by rw [List.length_take]; omega
            rw [hU] at hres
            have hun := fun W hTW hmW => unref_any (data.extract pos (n)) false m W hps hTW hmW
            rw [hpl, hU] at hun
            obtain ⟨ub, hub⟩ : ∃ ub : ByteArray, (⟨U.toArray⟩ : ByteArray) = ub := ⟨_, rfl⟩
            have hubl : ub.data.toList = U := by rw [← hub]
            have hubz : ub.size ≤ 40000000 := by rw [size_eq, hubl]; omega
            rw [hub] at hun
            have hunit := fun W hW => unit_any base b win data pos mode 0 eat evs pend ub W hW (by omega)
            rw [hubl] at hunit
            have hput := put_unit evs pend ⟨mode, 0, eat⟩ U
            simp only at hput
            have hfin : ∀ W', Rdr W' base b win data ((n : Nat) : Int) mode 0 false evs (if eat = true ∧ U = [10] then pend else pend ++ U) → Below base wr W' → StepAt wr W' base b win data pos evs pend (.returned (.bool true)) (refRes ⟨mode, 0, eat⟩ L) := fun W' h1 h2 => by
              rw [hres]
              exact ⟨rfl, by rw [hput, show pos + (n - pos) = n by omega]; exact h1, h2⟩
            generalize (if eat = true ∧ U = [10] then pend else pend ++ U) = P at hunit hfin
            have HF := hid hfin
            clear hfin
            have HU := hid hun
            have HN := hid hunit
            clear hun hunit hput hres hpl hps hU hul hul2 hub hubl hubz hend hpend
            have hq3 : pos ≤ n := by omega
            have hq0 : 0 ≤ (n : Int) := by omega
            have hq1 : (n : Int) ≤ (data.size : Int) := by omega
            have hq2 : (pos : Int) ≤ (n : Int) := by omega
            go_wp2_with (first | (go_at_call 63; refine (hlet _).mono ?_; rintro e w' ⟨rfl, hw9⟩; rw [hw9]; clear hw9 w') | (go_at_call 65; refine (hdig _).mono ?_; rintro e w' ⟨rfl, hw9⟩; rw [hw9]; clear hw9 w') | fail)
            go_region_law (first | (go_simp; go_at_call 22; refine (HU.out _ (by exact ⟨HT.out.names, HT.out.repl⟩) (by exact HM.out)).mono ?_; rintro e w1 ⟨rfl, b1⟩; have hr1 := HR.out.drew.below b1; have hb1 : Below base wr w1 := Below.mono (B := wr.heap.size) ⟨b1.os, b1.tape, b1.output, b1.size, b1.block⟩ HR.out.size) | (go_simp; go_at_call 21; refine (HN.out _ (by exact hr1)).mono ?_; rintro e w2 ⟨rfl, hr2, b2⟩; obtain ⟨⟨k0, k1, k2, k3, k4, k5⟩, kf, _⟩ := hr2.cells; have kf2 := kf 2; clear kf))
            all_goals
              obtain ⟨r3, b3⟩ := hr2.setPos ((n : Nat) : Int)
              have H3 := hid r3
              have HB := hid ((hb1.trans b2).trans b3)
              clear hr1 hr2 r3 b1 b2 b3 hb1
              go_wp2
              go_ret
              exact HF.out _ H3.out HB.out
      · have hnm : n = mn := by omega
        have hnl : ¬ (n : Int) < (mn : Int) := by omega
        by_cases h32 : n = pos + 32
        · subst hnm
          have hkR := run_stop (HA.out trivial) (.inl (by omega))
          have hend := HX.out trivial
          rw [← hkR, if_neg (by omega)] at hend
          have hlim : ¬ (n : Int) < (pos : Int) + 32 := by omega
          clear hkR HA HX HLX h32
          have hres : refRes ⟨mode, 0, eat⟩ L = .done (n - pos) ⟨mode, 0, false⟩ (unitL2 ⟨mode, 0, eat⟩ (unr false (L.take (n - pos)))) := by unfold refRes; rw [hend]; rfl
          have hpl : (data.extract pos (n)).data.toList = L.take (n - pos) := by rw [part_slice, ← (HL.out trivial).1, List.drop_take]
          have hps : (data.extract pos (n)).size ≤ 10000000 := by rw [ByteArray.size_extract]; omega
          obtain ⟨U, hU⟩ : ∃ U, unr false (L.take (n - pos)) = U := ⟨_, rfl⟩
          have hul : U.length ≤ 4 * (L.take (n - pos)).length := by rw [← hU]; exact unr_len false _ _ (Nat.le_refl _)
          have hul2 : (L.take (n - pos)).length ≤ 10000000 := by rw [List.length_take]; omega
          rw [hU] at hres
          have hun := fun W hTW hmW => unref_any (data.extract pos (n)) false m W hps hTW hmW
          rw [hpl, hU] at hun
          obtain ⟨ub, hub⟩ : ∃ ub : ByteArray, (⟨U.toArray⟩ : ByteArray) = ub := ⟨_, rfl⟩
          have hubl : ub.data.toList = U := by rw [← hub]
          have hubz : ub.size ≤ 40000000 := by rw [size_eq, hubl]; omega
          rw [hub] at hun
          have hunit := fun W hW => unit_any base b win data pos mode 0 eat evs pend ub W hW (by omega)
          rw [hubl] at hunit
          have hput := put_unit evs pend ⟨mode, 0, eat⟩ U
          simp only at hput
          have hfin : ∀ W', Rdr W' base b win data ((n : Nat) : Int) mode 0 false evs (if eat = true ∧ U = [10] then pend else pend ++ U) → Below base wr W' → StepAt wr W' base b win data pos evs pend (.returned (.bool true)) (refRes ⟨mode, 0, eat⟩ L) := fun W' h1 h2 => by
            rw [hres]
            exact ⟨rfl, by rw [hput, show pos + (n - pos) = n by omega]; exact h1, h2⟩
          generalize (if eat = true ∧ U = [10] then pend else pend ++ U) = P at hunit hfin
          have HF := hid hfin
          clear hfin
          have HU := hid hun
          have HN := hid hunit
          clear hun hunit hput hres hpl hps hU hul hul2 hub hubl hubz hend hpend 
          have hq3 : pos ≤ n := by omega
          have hq0 : 0 ≤ (n : Int) := by omega
          have hq1 : (n : Int) ≤ (data.size : Int) := by omega
          have hq2 : (pos : Int) ≤ (n : Int) := by omega
          go_wp2_with fail
          go_region_law (first | (go_simp; go_at_call 22; refine (HU.out _ (by exact ⟨HT.out.names, HT.out.repl⟩) (by exact HM.out)).mono ?_; rintro e w1 ⟨rfl, b1⟩; have hr1 := HR.out.drew.below b1; have hb1 : Below base wr w1 := Below.mono (B := wr.heap.size) ⟨b1.os, b1.tape, b1.output, b1.size, b1.block⟩ HR.out.size) | (go_simp; go_at_call 21; refine (HN.out _ (by exact hr1)).mono ?_; rintro e w2 ⟨rfl, hr2, b2⟩; obtain ⟨⟨k0, k1, k2, k3, k4, k5⟩, kf, _⟩ := hr2.cells; have kf2 := kf 2; clear kf))
          all_goals
            obtain ⟨r3, b3⟩ := hr2.setPos ((n : Nat) : Int)
            have H3 := hid r3
            have HB := hid ((hb1.trans b2).trans b3)
            clear hr1 hr2 r3 b1 b2 b3 hb1
            go_wp2
            go_ret
            exact HF.out _ H3.out HB.out
        · have hns : n = data.size := by omega
          have hkR := run_stop (HA.out trivial) (.inr (.inl (by have := (HL.out trivial).2; omega)))
          have hend := HX.out trivial
          rw [← hkR, if_pos (by omega), if_pos (by have := (HL.out trivial).2; omega)] at hend
          have hres : refRes ⟨mode, 0, eat⟩ L = .more 0 ⟨mode, 0, eat⟩ := by unfold refRes; rw [hend]
          have HF : Hid (StepAt wr wr base b win data pos evs pend (.returned (.bool false)) (refRes ⟨mode, 0, eat⟩ L)) := hid (by rw [hres]; exact ⟨rfl, HR.out, Below.refl _ _⟩)
          have hlim : (n : Int) < (pos : Int) + 32 := by omega
          have q2 : ((n : Int) == (data.size : Int)) = true := beq_iff_eq.2 (by omega)
          clear hkR HA HX HLX hres hend h32
          go_wp2
          go_ret
          exact HF.out
end Go.Proofs.YtolbahmihkdmiaaDoor
