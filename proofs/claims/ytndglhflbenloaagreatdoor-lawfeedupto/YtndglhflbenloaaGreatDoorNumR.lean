/-
  scrubref.number: its walk.
-/
import Derived.Test.YtndglhflbenloaaGreatDoorRemap
namespace Go.Proofs.YtndglhflbenloaaGreatDoor
open Go.RowKit Go.Lib

theorem u8_all {p : UInt8 → Bool} (h : ∀ n : Fin 256, p (UInt8.ofNat n.val) = true) (c : UInt8) : p c = true := by
  have := h ⟨c.toNat, c.toNat_lt⟩
  simpa using this
theorem set_D : (⟨#[48, 49, 50, 51, 52, 53, 54, 55, 56, 57]⟩ : ByteArray).data.toList.contains = digD := by
  funext c
  have := u8_all (p := fun c => (⟨#[48, 49, 50, 51, 52, 53, 54, 55, 56, 57]⟩ : ByteArray).data.toList.contains c == digD c) (by decide +kernel) c
  exact beq_iff_eq.1 this
theorem set_X : (⟨#[48, 49, 50, 51, 52, 53, 54, 55, 56, 57, 97, 98, 99, 100, 101, 102, 65, 66, 67, 68, 69, 70]⟩ : ByteArray).data.toList.contains = digX := by
  funext c
  have := u8_all (p := fun c => (⟨#[48, 49, 50, 51, 52, 53, 54, 55, 56, 57, 97, 98, 99, 100, 101, 102, 65, 66, 67, 68, 69, 70]⟩ : ByteArray).data.toList.contains c == digX c) (by decide +kernel) c
  exact beq_iff_eq.1 this
theorem hex_u8 (c : UInt8) (h : digX c = true) (w : World) : Calls Tryz.prog 118 #[.int .u8 c.toNat] w fun e w' => e = .returned (.int .i64 (digV c : Int)) ∧ w' = w := by
  rw [← digK_V c h, ← digZ_K]
  have h2 : digK c < 16 := by have := digK_X c; rw [h] at this; exact of_decide_eq_true this
  exact hex_any _ (by omega) (by have := c.toNat_lt; omega) (by rw [digZ_K]; omega) w
structure DigEndS (N : List UInt8) (F B : Nat) (dig : UInt8 → Bool) (r : Nat × Int) : Prop where
  none : (N.drop F).takeWhile dig = [] → r = (0, 0)
  shut : ∀ E V : Nat, (N.drop F).takeWhile dig ≠ [] → F + ((N.drop F).takeWhile dig).length = E → valS B 0 ((N.drop F).takeWhile dig) = V → N[E]? = some 59 → r = (E + 1, numbR V)
  still : ∀ E V : Nat, (N.drop F).takeWhile dig ≠ [] → F + ((N.drop F).takeWhile dig).length = E → valS B 0 ((N.drop F).takeWhile dig) = V → N[E]? ≠ some 59 → r = (E, numbR V)
theorem digEndS (N : List UInt8) : DigEndS N (fromN N) (baseN N) (digN N) (numL N) := by
  have h : numL N = if digsN N = [] then (0, 0) else (fromN N + (digsN N).length + (if N[fromN N + (digsN N).length]? = some 59 then 1 else 0), numbR ((valS (baseN N) 0 (digsN N) : Nat) : Int)) := by
    rw [numb_eq]; rfl
  unfold digsN at h
  refine ⟨fun h0 => by rw [h, if_pos h0], fun E V h0 h1 h2 h3 => ?_, fun E V h0 h1 h2 h3 => ?_⟩
  · rw [h, if_neg h0, h1, h2, if_pos h3]
  · rw [h, if_neg h0, h1, h2, if_neg h3]; rfl
theorem while_head {p : UInt8 → Bool} {N : List UInt8} {e : Nat} (h : (N.drop e).takeWhile p ≠ []) : ∃ c, N[e]? = some c ∧ p c = true := by
  cases hc : N[e]? with
  | none => exact absurd (while_stop (fun c hc2 => by rw [hc] at hc2; cases hc2)) h
  | some c =>
    refine ⟨c, rfl, ?_⟩
    cases hp : p c with
    | true => rfl
    | false => exact absurd (while_stop (fun d hd => by rw [hc] at hd; cases hd; exact hp)) h
theorem digN_cases (N : List UInt8) : (fromN N = 2 ∧ baseN N = 16 ∧ digN N = digX ∧ hexN N = true) ∨ (fromN N = 1 ∧ baseN N = 10 ∧ digN N = digD ∧ hexN N = false) := by
  unfold fromN baseN digN
  cases hexN N <;> simp
theorem remap_nonneg (v : Nat) : 0 ≤ remapL remapT (v : Int) := by
  have h : ∀ (l : List (Int × Int)), (∀ p ∈ l, 0 ≤ p.2) → 0 ≤ remapL l (v : Int) := by
    intro l
    induction l with
    | nil => intro _; simp [remapL]
    | cons p l ih =>
      intro h
      unfold remapL
      split
      · exact h p (.head _)
      · exact ih (fun q hq => h q (.tail _ hq))
  exact h remapT (by decide +kernel)

set_option maxHeartbeats 1000000 in
set_option maxRecDepth 100000 in
theorem number_one (t : ByteArray) (w : World) (hs : t.size = 1) :
    Calls Tryz.prog 94 #[.string t] w fun e w' => e = .returned (.tuple #[.int .i64 0, .int .i64 0]) ∧ w' = w := by
  have hpa : ∀ W, Calls Tryz.prog 82 #[.string t, .int .i64 1, .string ⟨#[48, 49, 50, 51, 52, 53, 54, 55, 56, 57]⟩] W fun e w' => e = .returned (.int .i64 1) ∧ w' = W := by
    intro W
    have := past_any t 1 ⟨#[48, 49, 50, 51, 52, 53, 54, 55, 56, 57]⟩ W (by omega) (by omega) (by decide)
    rw [List.drop_of_length_le (by rw [← size_eq]; omega)] at this
    exact this
  have HP := hid hpa
  clear hpa
  go_enter Tryz.func94, Tryz.ntmps94
  go_wp2_with (go_at_call 82; refine (HP.out _).mono ?_; rintro e w' ⟨rfl, rfl⟩)
  refine bodyPost_ret (v := .tuple #[.int .i64 0, .int .i64 0]) ?_ rfl ⟨rfl, rfl⟩
  simp [results, Tryz.results94, go_sem]

set_option maxHeartbeats 1000000 in
set_option maxRecDepth 100000 in
theorem number_dec (t : ByteArray) (r : Nat × Int) (w : World) (hs : t.size ≤ 31) (h1 : 1 < t.size) (x1 : UInt8) (hx1 : t[1]'h1 = x1) (q1 : ((x1.toNat : Int) == 120) = false) (q2 : ((x1.toNat : Int) == 88) = false) (hR : DigEndS t.data.toList 1 10 digD r) :
    Calls Tryz.prog 94 #[.string t] w fun e w' => e = .returned (.tuple #[.int .i64 r.2, .int .i64 (r.1 : Int)]) ∧ Below w.heap.size w w' := by
  skip
  have HR := hid hR
  obtain ⟨D, hD⟩ : ∃ D, (t.data.toList.drop 1).takeWhile digD = D := ⟨_, rfl⟩
  obtain ⟨V, hV⟩ : ∃ V, valS 10 0 D = V := ⟨_, rfl⟩
  obtain ⟨E, hE⟩ : ∃ E, 1 + D.length = E := ⟨_, rfl⟩
  have hpa : ∀ W, Calls Tryz.prog 82 #[.string t, .int .i64 1, .string ⟨#[48, 49, 50, 51, 52, 53, 54, 55, 56, 57]⟩] W fun e w' => e = .returned (.int .i64 (E : Int)) ∧ w' = W := by
    intro W
    have := past_any t 1 ⟨#[48, 49, 50, 51, 52, 53, 54, 55, 56, 57]⟩ W (by omega) (by omega) (by decide)
    rw [set_D, hD, hE] at this
    exact this
  have hEs : E ≤ t.size := by
    have := congrArg List.length hD
    have h2 := (List.takeWhile_prefix (p := digD) (l := t.data.toList.drop 1)).length_le
    rw [List.length_drop, ← size_eq] at h2
    omega
  have HP := hid hpa
  have HD := hid hD
  have HV := hid hV
  have HE := hid hE
  clear hR hD hV hpa
  by_cases hz : D = []
  · have hr := HR.out.none (by rw [HD.out]; exact hz)
    have he : E = 1 := by rw [← hE, hz]; rfl
    subst he
    clear hE hz
    go_enter Tryz.func94, Tryz.ntmps94
    go_wp2_with (go_at_call 82; refine (HP.out _).mono ?_; rintro e w' ⟨rfl, rfl⟩)
    rw [hr]
    refine bodyPost_ret (v := .tuple #[.int .i64 0, .int .i64 0]) ?_ rfl ⟨rfl, Below.refl _ _⟩
    simp [results, Tryz.results94, go_sem]
  · have hne : (t.data.toList.drop 1).takeWhile digD ≠ [] := by rw [HD.out]; exact hz
    have hle : 1 + ((t.data.toList.drop 1).takeWhile digD).length = E := by rw [HD.out]; exact hE
    have hva : valS 10 0 ((t.data.toList.drop 1).takeWhile digD) = V := by rw [HD.out]; exact HV.out
    have hFE : 1 ≤ E := by omega
    have hEF : E ≠ 1 := by have := List.length_pos_iff.2 hz; omega
    have hqE : ((E : Int) == 1) = false := beq_eq_false_iff_ne.2 (by omega)
    have h59 : (∃ (h : E < t.size) (x : UInt8), t[E]'h = x ∧ ((x.toNat : Int) == 59) = true ∧ t.data.toList[E]? = some 59) ∨ (∃ (h : E < t.size) (x : UInt8), t[E]'h = x ∧ ((x.toNat : Int) == 59) = false ∧ t.data.toList[E]? ≠ some 59) ∨ (¬ E < t.size ∧ t.data.toList[E]? ≠ some 59) := by
      by_cases h : E < t.size
      · have hl := getElem_list h rfl
        by_cases h2 : t[E]'h = 59
        · exact .inl ⟨h, t[E]'h, rfl, by rw [h2]; rfl, by rw [hl, h2]⟩
        · refine .inr (.inl ⟨h, t[E]'h, rfl, beq_eq_false_iff_ne.2 (fun h3 => h2 (UInt8.toNat_inj.1 (by simp; omega))), ?_⟩)
          rw [hl]
          exact fun h3 => h2 (Option.some.inj h3)
      · exact .inr (.inr ⟨h, by rw [getElem_over h]; simp⟩)
    have HN := hid hne
    have HL := hid hle
    have HW := hid hva
    clear hne hle hva hz hE
    go_enter Tryz.func94, Tryz.ntmps94
    go_wp2_with (go_at_call 82; refine (HP.out _).mono ?_; rintro e W0 ⟨rfl, rfl⟩)
    go_loopw [8, 9] (fun vv iv wr => ∃ (i v : Nat) (z : Int), vv = .int .i64 z ∧ iv = .int .i64 i ∧ i ≤ E ∧ Hid ((v : Int) = z) ∧ 0 ≤ z ∧ z ≤ 20000000 ∧ wr = W0 ∧ Hid (valS 10 v ((t.data.toList.drop i).takeWhile digD) = V) ∧ Hid (i + ((t.data.toList.drop i).takeWhile digD).length = E)) (fun _ iv _ => E - (RowKit.intOf iv).toNat)
    case atStart => exact ⟨1, 0, 0, rfl, rfl, by omega, hid rfl, by omega, by omega, rfl, HW.out, HL.out⟩
    case round =>
      obtain ⟨i, v, z, rfl, rfl, hi, HZ, hz0, hz1, rfl, HA, HB⟩ := hrel
      by_cases hp : i < E
      · have hps : i < t.size := by omega
        have hnn : (t.data.toList.drop i).takeWhile digD ≠ [] := by
          intro h0
          have := HB.out
          rw [h0] at this
          simp at this
          omega
        obtain ⟨c, hc, hcd⟩ := while_head hnn
        obtain ⟨x, hx⟩ : ∃ x, t[i]'hps = x := ⟨_, rfl⟩
        obtain rfl : x = c := by rw [getElem_list hps hx] at hc; exact Option.some.inj hc
        have hw := while_step hc hcd
        have hxx := fun W => hex_u8 x (digD_X _ hcd) W
        have hlt := digV_lt x (digD_X _ hcd)
        have HA2 : Hid (valS 10 (if v < 1114112 then v * 10 + digV x else v) ((t.data.toList.drop (i + 1)).takeWhile digD) = V) := by
          have := HA.out
          rw [hw] at this
          unfold valS at this ⊢
          rw [List.foldl_cons] at this
          exact this
        have HB2 : Hid (i + 1 + ((t.data.toList.drop (i + 1)).takeWhile digD).length = E) := by
          have := HB.out
          rw [hw, List.length_cons] at this
          exact hid (by omega)
        generalize digV x = d at hxx hlt HA2
        have HX := hid hxx
        clear hxx hw hcd hc hnn HA HB
        by_cases hv2 : z < 1114112
        · rw [if_pos (by have := HZ.out; omega)] at HA2
          go_wp2_with (go_at_call 118; refine (HX.out _).mono ?_; rintro e w' ⟨rfl, rfl⟩)
          go_roundw
          case rel => exact ⟨i + 1, v * 10 + d, z * 10 + d, rfl, rfl, by omega, hid (by have := HZ.out; omega), by omega, by omega, by first | rfl | trivial, HA2, HB2⟩
          case measure => simp [RowKit.intOf]; omega
        · rw [if_neg (by have := HZ.out; omega)] at HA2
          go_wp2_with (go_at_call 118; refine (HX.out _).mono ?_; rintro e w' ⟨rfl, rfl⟩)
          go_roundw
          case rel => exact ⟨i + 1, v, z, rfl, rfl, by omega, HZ, by omega, by omega, by first | rfl | trivial, HA2, HB2⟩
          case measure => simp [RowKit.intOf]; omega
      · obtain rfl : v = V := by
          have h0 : ((t.data.toList.drop i).takeWhile digD) = [] := List.eq_nil_of_length_eq_zero (by have := HB.out; omega)
          have := HA.out
          rw [h0] at this
          exact this
        have hiE : i = E := by omega
        subst i
        clear HA HB hp hi
        have hm := fun W => remapped_any z W
        have hrn : 0 ≤ remapL remapT z := by rw [← HZ.out]; exact remap_nonneg v
        have hg := fun W => refGood_all (remapL remapT z) hrn W
        have hnr : numbR (v : Int) = if goodB (remapL remapT z) then remapL remapT z else 65533 := by rw [HZ.out]; rfl
        obtain ⟨u, hu⟩ : ∃ u, remapL remapT z = u := ⟨_, rfl⟩
        rw [hu] at hm hg hnr
        obtain ⟨g, hgg⟩ : ∃ g, goodB u = g := ⟨_, rfl⟩
        rw [hgg] at hg hnr
        clear hrn
        have HM := hid hm
        have HG := hid hg
        clear hm hg hu hgg
        rcases h59 with ⟨h1, x9, h2, h4, h3⟩ | ⟨h1, x9, h2, h4, h3⟩ | ⟨h1, h3⟩
        all_goals
          cases g
          all_goals simp only [Bool.false_eq_true, if_false, if_true] at hnr
        · have hr := hid (HR.out.shut E v HN.out HL.out HW.out h3)
          rw [hnr] at hr
          clear h3 hnr
          go_wp2_with (first | (go_at_call 119; refine (HM.out _).mono ?_; rintro e W9 ⟨rfl, b9⟩) | (go_at_call 120; refine (HG.out _).mono ?_; rintro e w' ⟨rfl, rfl⟩))
          rw [hr.out]
          refine bodyPost_ret (v := .tuple #[.int .i64 65533, .int .i64 ((E + 1 : Nat) : Int)]) ?_ rfl ⟨rfl, by assumption⟩
          simp [results, Tryz.results94, go_sem]
        · have hr := hid (HR.out.shut E v HN.out HL.out HW.out h3)
          rw [hnr] at hr
          clear h3 hnr
          go_wp2_with (first | (go_at_call 119; refine (HM.out _).mono ?_; rintro e W9 ⟨rfl, b9⟩) | (go_at_call 120; refine (HG.out _).mono ?_; rintro e w' ⟨rfl, rfl⟩))
          rw [hr.out]
          refine bodyPost_ret (v := .tuple #[.int .i64 u, .int .i64 ((E + 1 : Nat) : Int)]) ?_ rfl ⟨rfl, by assumption⟩
          simp [results, Tryz.results94, go_sem]
        · have hr := hid (HR.out.still E v HN.out HL.out HW.out h3)
          rw [hnr] at hr
          clear h3 hnr
          go_wp2_with (first | (go_at_call 119; refine (HM.out _).mono ?_; rintro e W9 ⟨rfl, b9⟩) | (go_at_call 120; refine (HG.out _).mono ?_; rintro e w' ⟨rfl, rfl⟩))
          rw [hr.out]
          refine bodyPost_ret (v := .tuple #[.int .i64 65533, .int .i64 (E : Int)]) ?_ rfl ⟨rfl, by assumption⟩
          simp [results, Tryz.results94, go_sem]
        · have hr := hid (HR.out.still E v HN.out HL.out HW.out h3)
          rw [hnr] at hr
          clear h3 hnr
          go_wp2_with (first | (go_at_call 119; refine (HM.out _).mono ?_; rintro e W9 ⟨rfl, b9⟩) | (go_at_call 120; refine (HG.out _).mono ?_; rintro e w' ⟨rfl, rfl⟩))
          rw [hr.out]
          refine bodyPost_ret (v := .tuple #[.int .i64 u, .int .i64 (E : Int)]) ?_ rfl ⟨rfl, by assumption⟩
          simp [results, Tryz.results94, go_sem]
        · have hr := hid (HR.out.still E v HN.out HL.out HW.out h3)
          rw [hnr] at hr
          clear h3 hnr
          go_wp2_with (first | (go_at_call 119; refine (HM.out _).mono ?_; rintro e W9 ⟨rfl, b9⟩) | (go_at_call 120; refine (HG.out _).mono ?_; rintro e w' ⟨rfl, rfl⟩))
          rw [hr.out]
          refine bodyPost_ret (v := .tuple #[.int .i64 65533, .int .i64 (E : Int)]) ?_ rfl ⟨rfl, by assumption⟩
          simp [results, Tryz.results94, go_sem]
        · have hr := hid (HR.out.still E v HN.out HL.out HW.out h3)
          rw [hnr] at hr
          clear h3 hnr
          go_wp2_with (first | (go_at_call 119; refine (HM.out _).mono ?_; rintro e W9 ⟨rfl, b9⟩) | (go_at_call 120; refine (HG.out _).mono ?_; rintro e w' ⟨rfl, rfl⟩))
          rw [hr.out]
          refine bodyPost_ret (v := .tuple #[.int .i64 u, .int .i64 (E : Int)]) ?_ rfl ⟨rfl, by assumption⟩
          simp [results, Tryz.results94, go_sem]

set_option maxHeartbeats 1000000 in
set_option maxRecDepth 100000 in
theorem number_dec_long (s t : ByteArray) (r : Nat × Int) (w : World) (hs : 31 < s.size) (hsm : s.size ≤ 140737488355328) (ht : s.extract 0 31 = t) (htz : t.size = 31) (h1 : 1 < t.size) (x1 : UInt8) (hx1 : t[1]'h1 = x1) (q1 : ((x1.toNat : Int) == 120) = false) (q2 : ((x1.toNat : Int) == 88) = false) (hR : DigEndS t.data.toList 1 10 digD r) :
    Calls Tryz.prog 94 #[.string s] w fun e w' => e = .returned (.tuple #[.int .i64 r.2, .int .i64 (r.1 : Int)]) ∧ Below w.heap.size w w' := by
  skip
  have HR := hid hR
  obtain ⟨D, hD⟩ : ∃ D, (t.data.toList.drop 1).takeWhile digD = D := ⟨_, rfl⟩
  obtain ⟨V, hV⟩ : ∃ V, valS 10 0 D = V := ⟨_, rfl⟩
  obtain ⟨E, hE⟩ : ∃ E, 1 + D.length = E := ⟨_, rfl⟩
  have hpa : ∀ W, Calls Tryz.prog 82 #[.string t, .int .i64 1, .string ⟨#[48, 49, 50, 51, 52, 53, 54, 55, 56, 57]⟩] W fun e w' => e = .returned (.int .i64 (E : Int)) ∧ w' = W := by
    intro W
    have := past_any t 1 ⟨#[48, 49, 50, 51, 52, 53, 54, 55, 56, 57]⟩ W (by omega) (by omega) (by decide)
    rw [set_D, hD, hE] at this
    exact this
  have hEs : E ≤ t.size := by
    have := congrArg List.length hD
    have h2 := (List.takeWhile_prefix (p := digD) (l := t.data.toList.drop 1)).length_le
    rw [List.length_drop, ← size_eq] at h2
    omega
  have HP := hid hpa
  have HD := hid hD
  have HV := hid hV
  have HE := hid hE
  clear hR hD hV hpa
  by_cases hz : D = []
  · have hr := HR.out.none (by rw [HD.out]; exact hz)
    have he : E = 1 := by rw [← hE, hz]; rfl
    subst he
    clear hE hz
    go_enter Tryz.func94, Tryz.ntmps94
    go_wp2_with (go_at_call 82; refine (HP.out _).mono ?_; rintro e w' ⟨rfl, rfl⟩)
    rw [hr]
    refine bodyPost_ret (v := .tuple #[.int .i64 0, .int .i64 0]) ?_ rfl ⟨rfl, Below.refl _ _⟩
    simp [results, Tryz.results94, go_sem]
  · have hne : (t.data.toList.drop 1).takeWhile digD ≠ [] := by rw [HD.out]; exact hz
    have hle : 1 + ((t.data.toList.drop 1).takeWhile digD).length = E := by rw [HD.out]; exact hE
    have hva : valS 10 0 ((t.data.toList.drop 1).takeWhile digD) = V := by rw [HD.out]; exact HV.out
    have hFE : 1 ≤ E := by omega
    have hEF : E ≠ 1 := by have := List.length_pos_iff.2 hz; omega
    have hqE : ((E : Int) == 1) = false := beq_eq_false_iff_ne.2 (by omega)
    have h59 : (∃ (h : E < t.size) (x : UInt8), t[E]'h = x ∧ ((x.toNat : Int) == 59) = true ∧ t.data.toList[E]? = some 59) ∨ (∃ (h : E < t.size) (x : UInt8), t[E]'h = x ∧ ((x.toNat : Int) == 59) = false ∧ t.data.toList[E]? ≠ some 59) ∨ (¬ E < t.size ∧ t.data.toList[E]? ≠ some 59) := by
      by_cases h : E < t.size
      · have hl := getElem_list h rfl
        by_cases h2 : t[E]'h = 59
        · exact .inl ⟨h, t[E]'h, rfl, by rw [h2]; rfl, by rw [hl, h2]⟩
        · refine .inr (.inl ⟨h, t[E]'h, rfl, beq_eq_false_iff_ne.2 (fun h3 => h2 (UInt8.toNat_inj.1 (by simp; omega))), ?_⟩)
          rw [hl]
          exact fun h3 => h2 (Option.some.inj h3)
      · exact .inr (.inr ⟨h, by rw [getElem_over h]; simp⟩)
    have HN := hid hne
    have HL := hid hle
    have HW := hid hva
    clear hne hle hva hz hE
    go_enter Tryz.func94, Tryz.ntmps94
    go_wp2_with (go_at_call 82; refine (HP.out _).mono ?_; rintro e W0 ⟨rfl, rfl⟩)
    go_loopw [8, 9] (fun vv iv wr => ∃ (i v : Nat) (z : Int), vv = .int .i64 z ∧ iv = .int .i64 i ∧ i ≤ E ∧ Hid ((v : Int) = z) ∧ 0 ≤ z ∧ z ≤ 20000000 ∧ wr = W0 ∧ Hid (valS 10 v ((t.data.toList.drop i).takeWhile digD) = V) ∧ Hid (i + ((t.data.toList.drop i).takeWhile digD).length = E)) (fun _ iv _ => E - (RowKit.intOf iv).toNat)
    case atStart => exact ⟨1, 0, 0, rfl, rfl, by omega, hid rfl, by omega, by omega, rfl, HW.out, HL.out⟩
    case round =>
      obtain ⟨i, v, z, rfl, rfl, hi, HZ, hz0, hz1, rfl, HA, HB⟩ := hrel
      by_cases hp : i < E
      · have hps : i < t.size := by omega
        have hnn : (t.data.toList.drop i).takeWhile digD ≠ [] := by
          intro h0
          have := HB.out
          rw [h0] at this
          simp at this
          omega
        obtain ⟨c, hc, hcd⟩ := while_head hnn
        obtain ⟨x, hx⟩ : ∃ x, t[i]'hps = x := ⟨_, rfl⟩
        obtain rfl : x = c := by rw [getElem_list hps hx] at hc; exact Option.some.inj hc
        have hw := while_step hc hcd
        have hxx := fun W => hex_u8 x (digD_X _ hcd) W
        have hlt := digV_lt x (digD_X _ hcd)
        have HA2 : Hid (valS 10 (if v < 1114112 then v * 10 + digV x else v) ((t.data.toList.drop (i + 1)).takeWhile digD) = V) := by
          have := HA.out
          rw [hw] at this
          unfold valS at this ⊢
          rw [List.foldl_cons] at this
          exact this
        have HB2 : Hid (i + 1 + ((t.data.toList.drop (i + 1)).takeWhile digD).length = E) := by
          have := HB.out
          rw [hw, List.length_cons] at this
          exact hid (by omega)
        generalize digV x = d at hxx hlt HA2
        have HX := hid hxx
        clear hxx hw hcd hc hnn HA HB
        by_cases hv2 : z < 1114112
        · rw [if_pos (by have := HZ.out; omega)] at HA2
          go_wp2_with (go_at_call 118; refine (HX.out _).mono ?_; rintro e w' ⟨rfl, rfl⟩)
          go_roundw
          case rel => exact ⟨i + 1, v * 10 + d, z * 10 + d, rfl, rfl, by omega, hid (by have := HZ.out; omega), by omega, by omega, by first | rfl | trivial, HA2, HB2⟩
          case measure => simp [RowKit.intOf]; omega
        · rw [if_neg (by have := HZ.out; omega)] at HA2
          go_wp2_with (go_at_call 118; refine (HX.out _).mono ?_; rintro e w' ⟨rfl, rfl⟩)
          go_roundw
          case rel => exact ⟨i + 1, v, z, rfl, rfl, by omega, HZ, by omega, by omega, by first | rfl | trivial, HA2, HB2⟩
          case measure => simp [RowKit.intOf]; omega
      · obtain rfl : v = V := by
          have h0 : ((t.data.toList.drop i).takeWhile digD) = [] := List.eq_nil_of_length_eq_zero (by have := HB.out; omega)
          have := HA.out
          rw [h0] at this
          exact this
        have hiE : i = E := by omega
        subst i
        clear HA HB hp hi
        have hm := fun W => remapped_any z W
        have hrn : 0 ≤ remapL remapT z := by rw [← HZ.out]; exact remap_nonneg v
        have hg := fun W => refGood_all (remapL remapT z) hrn W
        have hnr : numbR (v : Int) = if goodB (remapL remapT z) then remapL remapT z else 65533 := by rw [HZ.out]; rfl
        obtain ⟨u, hu⟩ : ∃ u, remapL remapT z = u := ⟨_, rfl⟩
        rw [hu] at hm hg hnr
        obtain ⟨g, hgg⟩ : ∃ g, goodB u = g := ⟨_, rfl⟩
        rw [hgg] at hg hnr
        clear hrn
        have HM := hid hm
        have HG := hid hg
        clear hm hg hu hgg
        rcases h59 with ⟨h1, x9, h2, h4, h3⟩ | ⟨h1, x9, h2, h4, h3⟩ | ⟨h1, h3⟩
        all_goals
          cases g
          all_goals simp only [Bool.false_eq_true, if_false, if_true] at hnr
        · have hr := hid (HR.out.shut E v HN.out HL.out HW.out h3)
          rw [hnr] at hr
          clear h3 hnr
          go_wp2_with (first | (go_at_call 119; refine (HM.out _).mono ?_; rintro e W9 ⟨rfl, b9⟩) | (go_at_call 120; refine (HG.out _).mono ?_; rintro e w' ⟨rfl, rfl⟩))
          rw [hr.out]
          refine bodyPost_ret (v := .tuple #[.int .i64 65533, .int .i64 ((E + 1 : Nat) : Int)]) ?_ rfl ⟨rfl, by assumption⟩
          simp [results, Tryz.results94, go_sem]
        · have hr := hid (HR.out.shut E v HN.out HL.out HW.out h3)
          rw [hnr] at hr
          clear h3 hnr
          go_wp2_with (first | (go_at_call 119; refine (HM.out _).mono ?_; rintro e W9 ⟨rfl, b9⟩) | (go_at_call 120; refine (HG.out _).mono ?_; rintro e w' ⟨rfl, rfl⟩))
          rw [hr.out]
          refine bodyPost_ret (v := .tuple #[.int .i64 u, .int .i64 ((E + 1 : Nat) : Int)]) ?_ rfl ⟨rfl, by assumption⟩
          simp [results, Tryz.results94, go_sem]
        · have hr := hid (HR.out.still E v HN.out HL.out HW.out h3)
          rw [hnr] at hr
          clear h3 hnr
          go_wp2_with (first | (go_at_call 119; refine (HM.out _).mono ?_; rintro e W9 ⟨rfl, b9⟩) | (go_at_call 120; refine (HG.out _).mono ?_; rintro e w' ⟨rfl, rfl⟩))
          rw [hr.out]
          refine bodyPost_ret (v := .tuple #[.int .i64 65533, .int .i64 (E : Int)]) ?_ rfl ⟨rfl, by assumption⟩
          simp [results, Tryz.results94, go_sem]
        · have hr := hid (HR.out.still E v HN.out HL.out HW.out h3)
          rw [hnr] at hr
          clear h3 hnr
          go_wp2_with (first | (go_at_call 119; refine (HM.out _).mono ?_; rintro e W9 ⟨rfl, b9⟩) | (go_at_call 120; refine (HG.out _).mono ?_; rintro e w' ⟨rfl, rfl⟩))
          rw [hr.out]
          refine bodyPost_ret (v := .tuple #[.int .i64 u, .int .i64 (E : Int)]) ?_ rfl ⟨rfl, by assumption⟩
          simp [results, Tryz.results94, go_sem]
        · have hr := hid (HR.out.still E v HN.out HL.out HW.out h3)
          rw [hnr] at hr
          clear h3 hnr
          go_wp2_with (first | (go_at_call 119; refine (HM.out _).mono ?_; rintro e W9 ⟨rfl, b9⟩) | (go_at_call 120; refine (HG.out _).mono ?_; rintro e w' ⟨rfl, rfl⟩))
          rw [hr.out]
          refine bodyPost_ret (v := .tuple #[.int .i64 65533, .int .i64 (E : Int)]) ?_ rfl ⟨rfl, by assumption⟩
          simp [results, Tryz.results94, go_sem]
        · have hr := hid (HR.out.still E v HN.out HL.out HW.out h3)
          rw [hnr] at hr
          clear h3 hnr
          go_wp2_with (first | (go_at_call 119; refine (HM.out _).mono ?_; rintro e W9 ⟨rfl, b9⟩) | (go_at_call 120; refine (HG.out _).mono ?_; rintro e w' ⟨rfl, rfl⟩))
          rw [hr.out]
          refine bodyPost_ret (v := .tuple #[.int .i64 u, .int .i64 (E : Int)]) ?_ rfl ⟨rfl, by assumption⟩
          simp [results, Tryz.results94, go_sem]

set_option maxHeartbeats 1000000 in
set_option maxRecDepth 100000 in
theorem number_hexa (t : ByteArray) (r : Nat × Int) (w : World) (hs : t.size ≤ 31) (h1 : 1 < t.size) (x1 : UInt8) (hx1 : t[1]'h1 = x1) (q1 : ((x1.toNat : Int) == 120) = true) (hR : DigEndS t.data.toList 2 16 digX r) :
    Calls Tryz.prog 94 #[.string t] w fun e w' => e = .returned (.tuple #[.int .i64 r.2, .int .i64 (r.1 : Int)]) ∧ Below w.heap.size w w' := by
  skip
  have HR := hid hR
  obtain ⟨D, hD⟩ : ∃ D, (t.data.toList.drop 2).takeWhile digX = D := ⟨_, rfl⟩
  obtain ⟨V, hV⟩ : ∃ V, valS 16 0 D = V := ⟨_, rfl⟩
  obtain ⟨E, hE⟩ : ∃ E, 2 + D.length = E := ⟨_, rfl⟩
  have hpa : ∀ W, Calls Tryz.prog 82 #[.string t, .int .i64 2, .string ⟨#[48, 49, 50, 51, 52, 53, 54, 55, 56, 57, 97, 98, 99, 100, 101, 102, 65, 66, 67, 68, 69, 70]⟩] W fun e w' => e = .returned (.int .i64 (E : Int)) ∧ w' = W := by
    intro W
    have := past_any t 2 ⟨#[48, 49, 50, 51, 52, 53, 54, 55, 56, 57, 97, 98, 99, 100, 101, 102, 65, 66, 67, 68, 69, 70]⟩ W (by omega) (by omega) (by decide)
    rw [set_X, hD, hE] at this
    exact this
  have hEs : E ≤ t.size := by
    have := congrArg List.length hD
    have h2 := (List.takeWhile_prefix (p := digX) (l := t.data.toList.drop 2)).length_le
    rw [List.length_drop, ← size_eq] at h2
    omega
  have HP := hid hpa
  have HD := hid hD
  have HV := hid hV
  have HE := hid hE
  clear hR hD hV hpa
  by_cases hz : D = []
  · have hr := HR.out.none (by rw [HD.out]; exact hz)
    have he : E = 2 := by rw [← hE, hz]; rfl
    subst he
    clear hE hz
    go_enter Tryz.func94, Tryz.ntmps94
    go_wp2_with (go_at_call 82; refine (HP.out _).mono ?_; rintro e w' ⟨rfl, rfl⟩)
    rw [hr]
    refine bodyPost_ret (v := .tuple #[.int .i64 0, .int .i64 0]) ?_ rfl ⟨rfl, Below.refl _ _⟩
    simp [results, Tryz.results94, go_sem]
  · have hne : (t.data.toList.drop 2).takeWhile digX ≠ [] := by rw [HD.out]; exact hz
    have hle : 2 + ((t.data.toList.drop 2).takeWhile digX).length = E := by rw [HD.out]; exact hE
    have hva : valS 16 0 ((t.data.toList.drop 2).takeWhile digX) = V := by rw [HD.out]; exact HV.out
    have hFE : 2 ≤ E := by omega
    have hEF : E ≠ 2 := by have := List.length_pos_iff.2 hz; omega
    have hqE : ((E : Int) == 2) = false := beq_eq_false_iff_ne.2 (by omega)
    have h59 : (∃ (h : E < t.size) (x : UInt8), t[E]'h = x ∧ ((x.toNat : Int) == 59) = true ∧ t.data.toList[E]? = some 59) ∨ (∃ (h : E < t.size) (x : UInt8), t[E]'h = x ∧ ((x.toNat : Int) == 59) = false ∧ t.data.toList[E]? ≠ some 59) ∨ (¬ E < t.size ∧ t.data.toList[E]? ≠ some 59) := by
      by_cases h : E < t.size
      · have hl := getElem_list h rfl
        by_cases h2 : t[E]'h = 59
        · exact .inl ⟨h, t[E]'h, rfl, by rw [h2]; rfl, by rw [hl, h2]⟩
        · refine .inr (.inl ⟨h, t[E]'h, rfl, beq_eq_false_iff_ne.2 (fun h3 => h2 (UInt8.toNat_inj.1 (by simp; omega))), ?_⟩)
          rw [hl]
          exact fun h3 => h2 (Option.some.inj h3)
      · exact .inr (.inr ⟨h, by rw [getElem_over h]; simp⟩)
    have HN := hid hne
    have HL := hid hle
    have HW := hid hva
    clear hne hle hva hz hE
    go_enter Tryz.func94, Tryz.ntmps94
    go_wp2_with (go_at_call 82; refine (HP.out _).mono ?_; rintro e W0 ⟨rfl, rfl⟩)
    go_loopw [8, 9] (fun vv iv wr => ∃ (i v : Nat) (z : Int), vv = .int .i64 z ∧ iv = .int .i64 i ∧ i ≤ E ∧ Hid ((v : Int) = z) ∧ 0 ≤ z ∧ z ≤ 20000000 ∧ wr = W0 ∧ Hid (valS 16 v ((t.data.toList.drop i).takeWhile digX) = V) ∧ Hid (i + ((t.data.toList.drop i).takeWhile digX).length = E)) (fun _ iv _ => E - (RowKit.intOf iv).toNat)
    case atStart => exact ⟨2, 0, 0, rfl, rfl, by omega, hid rfl, by omega, by omega, rfl, HW.out, HL.out⟩
    case round =>
      obtain ⟨i, v, z, rfl, rfl, hi, HZ, hz0, hz1, rfl, HA, HB⟩ := hrel
      by_cases hp : i < E
      · have hps : i < t.size := by omega
        have hnn : (t.data.toList.drop i).takeWhile digX ≠ [] := by
          intro h0
          have := HB.out
          rw [h0] at this
          simp at this
          omega
        obtain ⟨c, hc, hcd⟩ := while_head hnn
        obtain ⟨x, hx⟩ : ∃ x, t[i]'hps = x := ⟨_, rfl⟩
        obtain rfl : x = c := by rw [getElem_list hps hx] at hc; exact Option.some.inj hc
        have hw := while_step hc hcd
        have hxx := fun W => hex_u8 x hcd W
        have hlt := digV_lt x hcd
        have HA2 : Hid (valS 16 (if v < 1114112 then v * 16 + digV x else v) ((t.data.toList.drop (i + 1)).takeWhile digX) = V) := by
          have := HA.out
          rw [hw] at this
          unfold valS at this ⊢
          rw [List.foldl_cons] at this
          exact this
        have HB2 : Hid (i + 1 + ((t.data.toList.drop (i + 1)).takeWhile digX).length = E) := by
          have := HB.out
          rw [hw, List.length_cons] at this
          exact hid (by omega)
        generalize digV x = d at hxx hlt HA2
        have HX := hid hxx
        clear hxx hw hcd hc hnn HA HB
        by_cases hv2 : z < 1114112
        · rw [if_pos (by have := HZ.out; omega)] at HA2
          go_wp2_with (go_at_call 118; refine (HX.out _).mono ?_; rintro e w' ⟨rfl, rfl⟩)
          go_roundw
          case rel => exact ⟨i + 1, v * 16 + d, z * 16 + d, rfl, rfl, by omega, hid (by have := HZ.out; omega), by omega, by omega, by first | rfl | trivial, HA2, HB2⟩
          case measure => simp [RowKit.intOf]; omega
        · rw [if_neg (by have := HZ.out; omega)] at HA2
          go_wp2_with (go_at_call 118; refine (HX.out _).mono ?_; rintro e w' ⟨rfl, rfl⟩)
          go_roundw
          case rel => exact ⟨i + 1, v, z, rfl, rfl, by omega, HZ, by omega, by omega, by first | rfl | trivial, HA2, HB2⟩
          case measure => simp [RowKit.intOf]; omega
      · obtain rfl : v = V := by
          have h0 : ((t.data.toList.drop i).takeWhile digX) = [] := List.eq_nil_of_length_eq_zero (by have := HB.out; omega)
          have := HA.out
          rw [h0] at this
          exact this
        have hiE : i = E := by omega
        subst i
        clear HA HB hp hi
        have hm := fun W => remapped_any z W
        have hrn : 0 ≤ remapL remapT z := by rw [← HZ.out]; exact remap_nonneg v
        have hg := fun W => refGood_all (remapL remapT z) hrn W
        have hnr : numbR (v : Int) = if goodB (remapL remapT z) then remapL remapT z else 65533 := by rw [HZ.out]; rfl
        obtain ⟨u, hu⟩ : ∃ u, remapL remapT z = u := ⟨_, rfl⟩
        rw [hu] at hm hg hnr
        obtain ⟨g, hgg⟩ : ∃ g, goodB u = g := ⟨_, rfl⟩
        rw [hgg] at hg hnr
        clear hrn
        have HM := hid hm
        have HG := hid hg
        clear hm hg hu hgg
        rcases h59 with ⟨h1, x9, h2, h4, h3⟩ | ⟨h1, x9, h2, h4, h3⟩ | ⟨h1, h3⟩
        all_goals
          cases g
          all_goals simp only [Bool.false_eq_true, if_false, if_true] at hnr
        · have hr := hid (HR.out.shut E v HN.out HL.out HW.out h3)
          rw [hnr] at hr
          clear h3 hnr
          go_wp2_with (first | (go_at_call 119; refine (HM.out _).mono ?_; rintro e W9 ⟨rfl, b9⟩) | (go_at_call 120; refine (HG.out _).mono ?_; rintro e w' ⟨rfl, rfl⟩))
          rw [hr.out]
          refine bodyPost_ret (v := .tuple #[.int .i64 65533, .int .i64 ((E + 1 : Nat) : Int)]) ?_ rfl ⟨rfl, by assumption⟩
          simp [results, Tryz.results94, go_sem]
        · have hr := hid (HR.out.shut E v HN.out HL.out HW.out h3)
          rw [hnr] at hr
          clear h3 hnr
          go_wp2_with (first | (go_at_call 119; refine (HM.out _).mono ?_; rintro e W9 ⟨rfl, b9⟩) | (go_at_call 120; refine (HG.out _).mono ?_; rintro e w' ⟨rfl, rfl⟩))
          rw [hr.out]
          refine bodyPost_ret (v := .tuple #[.int .i64 u, .int .i64 ((E + 1 : Nat) : Int)]) ?_ rfl ⟨rfl, by assumption⟩
          simp [results, Tryz.results94, go_sem]
        · have hr := hid (HR.out.still E v HN.out HL.out HW.out h3)
          rw [hnr] at hr
          clear h3 hnr
          go_wp2_with (first | (go_at_call 119; refine (HM.out _).mono ?_; rintro e W9 ⟨rfl, b9⟩) | (go_at_call 120; refine (HG.out _).mono ?_; rintro e w' ⟨rfl, rfl⟩))
          rw [hr.out]
          refine bodyPost_ret (v := .tuple #[.int .i64 65533, .int .i64 (E : Int)]) ?_ rfl ⟨rfl, by assumption⟩
          simp [results, Tryz.results94, go_sem]
        · have hr := hid (HR.out.still E v HN.out HL.out HW.out h3)
          rw [hnr] at hr
          clear h3 hnr
          go_wp2_with (first | (go_at_call 119; refine (HM.out _).mono ?_; rintro e W9 ⟨rfl, b9⟩) | (go_at_call 120; refine (HG.out _).mono ?_; rintro e w' ⟨rfl, rfl⟩))
          rw [hr.out]
          refine bodyPost_ret (v := .tuple #[.int .i64 u, .int .i64 (E : Int)]) ?_ rfl ⟨rfl, by assumption⟩
          simp [results, Tryz.results94, go_sem]
        · have hr := hid (HR.out.still E v HN.out HL.out HW.out h3)
          rw [hnr] at hr
          clear h3 hnr
          go_wp2_with (first | (go_at_call 119; refine (HM.out _).mono ?_; rintro e W9 ⟨rfl, b9⟩) | (go_at_call 120; refine (HG.out _).mono ?_; rintro e w' ⟨rfl, rfl⟩))
          rw [hr.out]
          refine bodyPost_ret (v := .tuple #[.int .i64 65533, .int .i64 (E : Int)]) ?_ rfl ⟨rfl, by assumption⟩
          simp [results, Tryz.results94, go_sem]
        · have hr := hid (HR.out.still E v HN.out HL.out HW.out h3)
          rw [hnr] at hr
          clear h3 hnr
          go_wp2_with (first | (go_at_call 119; refine (HM.out _).mono ?_; rintro e W9 ⟨rfl, b9⟩) | (go_at_call 120; refine (HG.out _).mono ?_; rintro e w' ⟨rfl, rfl⟩))
          rw [hr.out]
          refine bodyPost_ret (v := .tuple #[.int .i64 u, .int .i64 (E : Int)]) ?_ rfl ⟨rfl, by assumption⟩
          simp [results, Tryz.results94, go_sem]

set_option maxHeartbeats 1000000 in
set_option maxRecDepth 100000 in
theorem number_hexa_long (s t : ByteArray) (r : Nat × Int) (w : World) (hs : 31 < s.size) (hsm : s.size ≤ 140737488355328) (ht : s.extract 0 31 = t) (htz : t.size = 31) (h1 : 1 < t.size) (x1 : UInt8) (hx1 : t[1]'h1 = x1) (q1 : ((x1.toNat : Int) == 120) = true) (hR : DigEndS t.data.toList 2 16 digX r) :
    Calls Tryz.prog 94 #[.string s] w fun e w' => e = .returned (.tuple #[.int .i64 r.2, .int .i64 (r.1 : Int)]) ∧ Below w.heap.size w w' := by
  skip
  have HR := hid hR
  obtain ⟨D, hD⟩ : ∃ D, (t.data.toList.drop 2).takeWhile digX = D := ⟨_, rfl⟩
  obtain ⟨V, hV⟩ : ∃ V, valS 16 0 D = V := ⟨_, rfl⟩
  obtain ⟨E, hE⟩ : ∃ E, 2 + D.length = E := ⟨_, rfl⟩
  have hpa : ∀ W, Calls Tryz.prog 82 #[.string t, .int .i64 2, .string ⟨#[48, 49, 50, 51, 52, 53, 54, 55, 56, 57, 97, 98, 99, 100, 101, 102, 65, 66, 67, 68, 69, 70]⟩] W fun e w' => e = .returned (.int .i64 (E : Int)) ∧ w' = W := by
    intro W
    have := past_any t 2 ⟨#[48, 49, 50, 51, 52, 53, 54, 55, 56, 57, 97, 98, 99, 100, 101, 102, 65, 66, 67, 68, 69, 70]⟩ W (by omega) (by omega) (by decide)
    rw [set_X, hD, hE] at this
    exact this
  have hEs : E ≤ t.size := by
    have := congrArg List.length hD
    have h2 := (List.takeWhile_prefix (p := digX) (l := t.data.toList.drop 2)).length_le
    rw [List.length_drop, ← size_eq] at h2
    omega
  have HP := hid hpa
  have HD := hid hD
  have HV := hid hV
  have HE := hid hE
  clear hR hD hV hpa
  by_cases hz : D = []
  · have hr := HR.out.none (by rw [HD.out]; exact hz)
    have he : E = 2 := by rw [← hE, hz]; rfl
    subst he
    clear hE hz
    go_enter Tryz.func94, Tryz.ntmps94
    go_wp2_with (go_at_call 82; refine (HP.out _).mono ?_; rintro e w' ⟨rfl, rfl⟩)
    rw [hr]
    refine bodyPost_ret (v := .tuple #[.int .i64 0, .int .i64 0]) ?_ rfl ⟨rfl, Below.refl _ _⟩
    simp [results, Tryz.results94, go_sem]
  · have hne : (t.data.toList.drop 2).takeWhile digX ≠ [] := by rw [HD.out]; exact hz
    have hle : 2 + ((t.data.toList.drop 2).takeWhile digX).length = E := by rw [HD.out]; exact hE
    have hva : valS 16 0 ((t.data.toList.drop 2).takeWhile digX) = V := by rw [HD.out]; exact HV.out
    have hFE : 2 ≤ E := by omega
    have hEF : E ≠ 2 := by have := List.length_pos_iff.2 hz; omega
    have hqE : ((E : Int) == 2) = false := beq_eq_false_iff_ne.2 (by omega)
    have h59 : (∃ (h : E < t.size) (x : UInt8), t[E]'h = x ∧ ((x.toNat : Int) == 59) = true ∧ t.data.toList[E]? = some 59) ∨ (∃ (h : E < t.size) (x : UInt8), t[E]'h = x ∧ ((x.toNat : Int) == 59) = false ∧ t.data.toList[E]? ≠ some 59) ∨ (¬ E < t.size ∧ t.data.toList[E]? ≠ some 59) := by
      by_cases h : E < t.size
      · have hl := getElem_list h rfl
        by_cases h2 : t[E]'h = 59
        · exact .inl ⟨h, t[E]'h, rfl, by rw [h2]; rfl, by rw [hl, h2]⟩
        · refine .inr (.inl ⟨h, t[E]'h, rfl, beq_eq_false_iff_ne.2 (fun h3 => h2 (UInt8.toNat_inj.1 (by simp; omega))), ?_⟩)
          rw [hl]
          exact fun h3 => h2 (Option.some.inj h3)
      · exact .inr (.inr ⟨h, by rw [getElem_over h]; simp⟩)
    have HN := hid hne
    have HL := hid hle
    have HW := hid hva
    clear hne hle hva hz hE
    go_enter Tryz.func94, Tryz.ntmps94
    go_wp2_with (go_at_call 82; refine (HP.out _).mono ?_; rintro e W0 ⟨rfl, rfl⟩)
    go_loopw [8, 9] (fun vv iv wr => ∃ (i v : Nat) (z : Int), vv = .int .i64 z ∧ iv = .int .i64 i ∧ i ≤ E ∧ Hid ((v : Int) = z) ∧ 0 ≤ z ∧ z ≤ 20000000 ∧ wr = W0 ∧ Hid (valS 16 v ((t.data.toList.drop i).takeWhile digX) = V) ∧ Hid (i + ((t.data.toList.drop i).takeWhile digX).length = E)) (fun _ iv _ => E - (RowKit.intOf iv).toNat)
    case atStart => exact ⟨2, 0, 0, rfl, rfl, by omega, hid rfl, by omega, by omega, rfl, HW.out, HL.out⟩
    case round =>
      obtain ⟨i, v, z, rfl, rfl, hi, HZ, hz0, hz1, rfl, HA, HB⟩ := hrel
      by_cases hp : i < E
      · have hps : i < t.size := by omega
        have hnn : (t.data.toList.drop i).takeWhile digX ≠ [] := by
          intro h0
          have := HB.out
          rw [h0] at this
          simp at this
          omega
        obtain ⟨c, hc, hcd⟩ := while_head hnn
        obtain ⟨x, hx⟩ : ∃ x, t[i]'hps = x := ⟨_, rfl⟩
        obtain rfl : x = c := by rw [getElem_list hps hx] at hc; exact Option.some.inj hc
        have hw := while_step hc hcd
        have hxx := fun W => hex_u8 x hcd W
        have hlt := digV_lt x hcd
        have HA2 : Hid (valS 16 (if v < 1114112 then v * 16 + digV x else v) ((t.data.toList.drop (i + 1)).takeWhile digX) = V) := by
          have := HA.out
          rw [hw] at this
          unfold valS at this ⊢
          rw [List.foldl_cons] at this
          exact this
        have HB2 : Hid (i + 1 + ((t.data.toList.drop (i + 1)).takeWhile digX).length = E) := by
          have := HB.out
          rw [hw, List.length_cons] at this
          exact hid (by omega)
        generalize digV x = d at hxx hlt HA2
        have HX := hid hxx
        clear hxx hw hcd hc hnn HA HB
        by_cases hv2 : z < 1114112
        · rw [if_pos (by have := HZ.out; omega)] at HA2
          go_wp2_with (go_at_call 118; refine (HX.out _).mono ?_; rintro e w' ⟨rfl, rfl⟩)
          go_roundw
          case rel => exact ⟨i + 1, v * 16 + d, z * 16 + d, rfl, rfl, by omega, hid (by have := HZ.out; omega), by omega, by omega, by first | rfl | trivial, HA2, HB2⟩
          case measure => simp [RowKit.intOf]; omega
        · rw [if_neg (by have := HZ.out; omega)] at HA2
          go_wp2_with (go_at_call 118; refine (HX.out _).mono ?_; rintro e w' ⟨rfl, rfl⟩)
          go_roundw
          case rel => exact ⟨i + 1, v, z, rfl, rfl, by omega, HZ, by omega, by omega, by first | rfl | trivial, HA2, HB2⟩
          case measure => simp [RowKit.intOf]; omega
      · obtain rfl : v = V := by
          have h0 : ((t.data.toList.drop i).takeWhile digX) = [] := List.eq_nil_of_length_eq_zero (by have := HB.out; omega)
          have := HA.out
          rw [h0] at this
          exact this
        have hiE : i = E := by omega
        subst i
        clear HA HB hp hi
        have hm := fun W => remapped_any z W
        have hrn : 0 ≤ remapL remapT z := by rw [← HZ.out]; exact remap_nonneg v
        have hg := fun W => refGood_all (remapL remapT z) hrn W
        have hnr : numbR (v : Int) = if goodB (remapL remapT z) then remapL remapT z else 65533 := by rw [HZ.out]; rfl
        obtain ⟨u, hu⟩ : ∃ u, remapL remapT z = u := ⟨_, rfl⟩
        rw [hu] at hm hg hnr
        obtain ⟨g, hgg⟩ : ∃ g, goodB u = g := ⟨_, rfl⟩
        rw [hgg] at hg hnr
        clear hrn
        have HM := hid hm
        have HG := hid hg
        clear hm hg hu hgg
        rcases h59 with ⟨h1, x9, h2, h4, h3⟩ | ⟨h1, x9, h2, h4, h3⟩ | ⟨h1, h3⟩
        all_goals
          cases g
          all_goals simp only [Bool.false_eq_true, if_false, if_true] at hnr
        · have hr := hid (HR.out.shut E v HN.out HL.out HW.out h3)
          rw [hnr] at hr
          clear h3 hnr
          go_wp2_with (first | (go_at_call 119; refine (HM.out _).mono ?_; rintro e W9 ⟨rfl, b9⟩) | (go_at_call 120; refine (HG.out _).mono ?_; rintro e w' ⟨rfl, rfl⟩))
          rw [hr.out]
          refine bodyPost_ret (v := .tuple #[.int .i64 65533, .int .i64 ((E + 1 : Nat) : Int)]) ?_ rfl ⟨rfl, by assumption⟩
          simp [results, Tryz.results94, go_sem]
        · have hr := hid (HR.out.shut E v HN.out HL.out HW.out h3)
          rw [hnr] at hr
          clear h3 hnr
          go_wp2_with (first | (go_at_call 119; refine (HM.out _).mono ?_; rintro e W9 ⟨rfl, b9⟩) | (go_at_call 120; refine (HG.out _).mono ?_; rintro e w' ⟨rfl, rfl⟩))
          rw [hr.out]
          refine bodyPost_ret (v := .tuple #[.int .i64 u, .int .i64 ((E + 1 : Nat) : Int)]) ?_ rfl ⟨rfl, by assumption⟩
          simp [results, Tryz.results94, go_sem]
        · have hr := hid (HR.out.still E v HN.out HL.out HW.out h3)
          rw [hnr] at hr
          clear h3 hnr
          go_wp2_with (first | (go_at_call 119; refine (HM.out _).mono ?_; rintro e W9 ⟨rfl, b9⟩) | (go_at_call 120; refine (HG.out _).mono ?_; rintro e w' ⟨rfl, rfl⟩))
          rw [hr.out]
          refine bodyPost_ret (v := .tuple #[.int .i64 65533, .int .i64 (E : Int)]) ?_ rfl ⟨rfl, by assumption⟩
          simp [results, Tryz.results94, go_sem]
        · have hr := hid (HR.out.still E v HN.out HL.out HW.out h3)
          rw [hnr] at hr
          clear h3 hnr
          go_wp2_with (first | (go_at_call 119; refine (HM.out _).mono ?_; rintro e W9 ⟨rfl, b9⟩) | (go_at_call 120; refine (HG.out _).mono ?_; rintro e w' ⟨rfl, rfl⟩))
          rw [hr.out]
          refine bodyPost_ret (v := .tuple #[.int .i64 u, .int .i64 (E : Int)]) ?_ rfl ⟨rfl, by assumption⟩
          simp [results, Tryz.results94, go_sem]
        · have hr := hid (HR.out.still E v HN.out HL.out HW.out h3)
          rw [hnr] at hr
          clear h3 hnr
          go_wp2_with (first | (go_at_call 119; refine (HM.out _).mono ?_; rintro e W9 ⟨rfl, b9⟩) | (go_at_call 120; refine (HG.out _).mono ?_; rintro e w' ⟨rfl, rfl⟩))
          rw [hr.out]
          refine bodyPost_ret (v := .tuple #[.int .i64 65533, .int .i64 (E : Int)]) ?_ rfl ⟨rfl, by assumption⟩
          simp [results, Tryz.results94, go_sem]
        · have hr := hid (HR.out.still E v HN.out HL.out HW.out h3)
          rw [hnr] at hr
          clear h3 hnr
          go_wp2_with (first | (go_at_call 119; refine (HM.out _).mono ?_; rintro e W9 ⟨rfl, b9⟩) | (go_at_call 120; refine (HG.out _).mono ?_; rintro e w' ⟨rfl, rfl⟩))
          rw [hr.out]
          refine bodyPost_ret (v := .tuple #[.int .i64 u, .int .i64 (E : Int)]) ?_ rfl ⟨rfl, by assumption⟩
          simp [results, Tryz.results94, go_sem]

set_option maxHeartbeats 1000000 in
set_option maxRecDepth 100000 in
theorem number_hexb (t : ByteArray) (r : Nat × Int) (w : World) (hs : t.size ≤ 31) (h1 : 1 < t.size) (x1 : UInt8) (hx1 : t[1]'h1 = x1) (q1 : ((x1.toNat : Int) == 120) = false) (q2 : ((x1.toNat : Int) == 88) = true) (hR : DigEndS t.data.toList 2 16 digX r) :
    Calls Tryz.prog 94 #[.string t] w fun e w' => e = .returned (.tuple #[.int .i64 r.2, .int .i64 (r.1 : Int)]) ∧ Below w.heap.size w w' := by
  skip
  have HR := hid hR
  obtain ⟨D, hD⟩ : ∃ D, (t.data.toList.drop 2).takeWhile digX = D := ⟨_, rfl⟩
  obtain ⟨V, hV⟩ : ∃ V, valS 16 0 D = V := ⟨_, rfl⟩
  obtain ⟨E, hE⟩ : ∃ E, 2 + D.length = E := ⟨_, rfl⟩
  have hpa : ∀ W, Calls Tryz.prog 82 #[.string t, .int .i64 2, .string ⟨#[48, 49, 50, 51, 52, 53, 54, 55, 56, 57, 97, 98, 99, 100, 101, 102, 65, 66, 67, 68, 69, 70]⟩] W fun e w' => e = .returned (.int .i64 (E : Int)) ∧ w' = W := by
    intro W
    have := past_any t 2 ⟨#[48, 49, 50, 51, 52, 53, 54, 55, 56, 57, 97, 98, 99, 100, 101, 102, 65, 66, 67, 68, 69, 70]⟩ W (by omega) (by omega) (by decide)
    rw [set_X, hD, hE] at this
    exact this
  have hEs : E ≤ t.size := by
    have := congrArg List.length hD
    have h2 := (List.takeWhile_prefix (p := digX) (l := t.data.toList.drop 2)).length_le
    rw [List.length_drop, ← size_eq] at h2
    omega
  have HP := hid hpa
  have HD := hid hD
  have HV := hid hV
  have HE := hid hE
  clear hR hD hV hpa
  by_cases hz : D = []
  · have hr := HR.out.none (by rw [HD.out]; exact hz)
    have he : E = 2 := by rw [← hE, hz]; rfl
    subst he
    clear hE hz
    go_enter Tryz.func94, Tryz.ntmps94
    go_wp2_with (go_at_call 82; refine (HP.out _).mono ?_; rintro e w' ⟨rfl, rfl⟩)
    rw [hr]
    refine bodyPost_ret (v := .tuple #[.int .i64 0, .int .i64 0]) ?_ rfl ⟨rfl, Below.refl _ _⟩
    simp [results, Tryz.results94, go_sem]
  · have hne : (t.data.toList.drop 2).takeWhile digX ≠ [] := by rw [HD.out]; exact hz
    have hle : 2 + ((t.data.toList.drop 2).takeWhile digX).length = E := by rw [HD.out]; exact hE
    have hva : valS 16 0 ((t.data.toList.drop 2).takeWhile digX) = V := by rw [HD.out]; exact HV.out
    have hFE : 2 ≤ E := by omega
    have hEF : E ≠ 2 := by have := List.length_pos_iff.2 hz; omega
    have hqE : ((E : Int) == 2) = false := beq_eq_false_iff_ne.2 (by omega)
    have h59 : (∃ (h : E < t.size) (x : UInt8), t[E]'h = x ∧ ((x.toNat : Int) == 59) = true ∧ t.data.toList[E]? = some 59) ∨ (∃ (h : E < t.size) (x : UInt8), t[E]'h = x ∧ ((x.toNat : Int) == 59) = false ∧ t.data.toList[E]? ≠ some 59) ∨ (¬ E < t.size ∧ t.data.toList[E]? ≠ some 59) := by
      by_cases h : E < t.size
      · have hl := getElem_list h rfl
        by_cases h2 : t[E]'h = 59
        · exact .inl ⟨h, t[E]'h, rfl, by rw [h2]; rfl, by rw [hl, h2]⟩
        · refine .inr (.inl ⟨h, t[E]'h, rfl, beq_eq_false_iff_ne.2 (fun h3 => h2 (UInt8.toNat_inj.1 (by simp; omega))), ?_⟩)
          rw [hl]
          exact fun h3 => h2 (Option.some.inj h3)
      · exact .inr (.inr ⟨h, by rw [getElem_over h]; simp⟩)
    have HN := hid hne
    have HL := hid hle
    have HW := hid hva
    clear hne hle hva hz hE
    go_enter Tryz.func94, Tryz.ntmps94
    go_wp2_with (go_at_call 82; refine (HP.out _).mono ?_; rintro e W0 ⟨rfl, rfl⟩)
    go_loopw [8, 9] (fun vv iv wr => ∃ (i v : Nat) (z : Int), vv = .int .i64 z ∧ iv = .int .i64 i ∧ i ≤ E ∧ Hid ((v : Int) = z) ∧ 0 ≤ z ∧ z ≤ 20000000 ∧ wr = W0 ∧ Hid (valS 16 v ((t.data.toList.drop i).takeWhile digX) = V) ∧ Hid (i + ((t.data.toList.drop i).takeWhile digX).length = E)) (fun _ iv _ => E - (RowKit.intOf iv).toNat)
    case atStart => exact ⟨2, 0, 0, rfl, rfl, by omega, hid rfl, by omega, by omega, rfl, HW.out, HL.out⟩
    case round =>
      obtain ⟨i, v, z, rfl, rfl, hi, HZ, hz0, hz1, rfl, HA, HB⟩ := hrel
      by_cases hp : i < E
      · have hps : i < t.size := by omega
        have hnn : (t.data.toList.drop i).takeWhile digX ≠ [] := by
          intro h0
          have := HB.out
          rw [h0] at this
          simp at this
          omega
        obtain ⟨c, hc, hcd⟩ := while_head hnn
        obtain ⟨x, hx⟩ : ∃ x, t[i]'hps = x := ⟨_, rfl⟩
        obtain rfl : x = c := by rw [getElem_list hps hx] at hc; exact Option.some.inj hc
        have hw := while_step hc hcd
        have hxx := fun W => hex_u8 x hcd W
        have hlt := digV_lt x hcd
        have HA2 : Hid (valS 16 (if v < 1114112 then v * 16 + digV x else v) ((t.data.toList.drop (i + 1)).takeWhile digX) = V) := by
          have := HA.out
          rw [hw] at this
          unfold valS at this ⊢
          rw [List.foldl_cons] at this
          exact this
        have HB2 : Hid (i + 1 + ((t.data.toList.drop (i + 1)).takeWhile digX).length = E) := by
          have := HB.out
          rw [hw, List.length_cons] at this
          exact hid (by omega)
        generalize digV x = d at hxx hlt HA2
        have HX := hid hxx
        clear hxx hw hcd hc hnn HA HB
        by_cases hv2 : z < 1114112
        · rw [if_pos (by have := HZ.out; omega)] at HA2
          go_wp2_with (go_at_call 118; refine (HX.out _).mono ?_; rintro e w' ⟨rfl, rfl⟩)
          go_roundw
          case rel => exact ⟨i + 1, v * 16 + d, z * 16 + d, rfl, rfl, by omega, hid (by have := HZ.out; omega), by omega, by omega, by first | rfl | trivial, HA2, HB2⟩
          case measure => simp [RowKit.intOf]; omega
        · rw [if_neg (by have := HZ.out; omega)] at HA2
          go_wp2_with (go_at_call 118; refine (HX.out _).mono ?_; rintro e w' ⟨rfl, rfl⟩)
          go_roundw
          case rel => exact ⟨i + 1, v, z, rfl, rfl, by omega, HZ, by omega, by omega, by first | rfl | trivial, HA2, HB2⟩
          case measure => simp [RowKit.intOf]; omega
      · obtain rfl : v = V := by
          have h0 : ((t.data.toList.drop i).takeWhile digX) = [] := List.eq_nil_of_length_eq_zero (by have := HB.out; omega)
          have := HA.out
          rw [h0] at this
          exact this
        have hiE : i = E := by omega
        subst i
        clear HA HB hp hi
        have hm := fun W => remapped_any z W
        have hrn : 0 ≤ remapL remapT z := by rw [← HZ.out]; exact remap_nonneg v
        have hg := fun W => refGood_all (remapL remapT z) hrn W
        have hnr : numbR (v : Int) = if goodB (remapL remapT z) then remapL remapT z else 65533 := by rw [HZ.out]; rfl
        obtain ⟨u, hu⟩ : ∃ u, remapL remapT z = u := ⟨_, rfl⟩
        rw [hu] at hm hg hnr
        obtain ⟨g, hgg⟩ : ∃ g, goodB u = g := ⟨_, rfl⟩
        rw [hgg] at hg hnr
        clear hrn
        have HM := hid hm
        have HG := hid hg
        clear hm hg hu hgg
        rcases h59 with ⟨h1, x9, h2, h4, h3⟩ | ⟨h1, x9, h2, h4, h3⟩ | ⟨h1, h3⟩
        all_goals
          cases g
          all_goals simp only [Bool.false_eq_true, if_false, if_true] at hnr
        · have hr := hid (HR.out.shut E v HN.out HL.out HW.out h3)
          rw [hnr] at hr
          clear h3 hnr
          go_wp2_with (first | (go_at_call 119; refine (HM.out _).mono ?_; rintro e W9 ⟨rfl, b9⟩) | (go_at_call 120; refine (HG.out _).mono ?_; rintro e w' ⟨rfl, rfl⟩))
          rw [hr.out]
          refine bodyPost_ret (v := .tuple #[.int .i64 65533, .int .i64 ((E + 1 : Nat) : Int)]) ?_ rfl ⟨rfl, by assumption⟩
          simp [results, Tryz.results94, go_sem]
        · have hr := hid (HR.out.shut E v HN.out HL.out HW.out h3)
          rw [hnr] at hr
          clear h3 hnr
          go_wp2_with (first | (go_at_call 119; refine (HM.out _).mono ?_; rintro e W9 ⟨rfl, b9⟩) | (go_at_call 120; refine (HG.out _).mono ?_; rintro e w' ⟨rfl, rfl⟩))
          rw [hr.out]
          refine bodyPost_ret (v := .tuple #[.int .i64 u, .int .i64 ((E + 1 : Nat) : Int)]) ?_ rfl ⟨rfl, by assumption⟩
          simp [results, Tryz.results94, go_sem]
        · have hr := hid (HR.out.still E v HN.out HL.out HW.out h3)
          rw [hnr] at hr
          clear h3 hnr
          go_wp2_with (first | (go_at_call 119; refine (HM.out _).mono ?_; rintro e W9 ⟨rfl, b9⟩) | (go_at_call 120; refine (HG.out _).mono ?_; rintro e w' ⟨rfl, rfl⟩))
          rw [hr.out]
          refine bodyPost_ret (v := .tuple #[.int .i64 65533, .int .i64 (E : Int)]) ?_ rfl ⟨rfl, by assumption⟩
          simp [results, Tryz.results94, go_sem]
        · have hr := hid (HR.out.still E v HN.out HL.out HW.out h3)
          rw [hnr] at hr
          clear h3 hnr
          go_wp2_with (first | (go_at_call 119; refine (HM.out _).mono ?_; rintro e W9 ⟨rfl, b9⟩) | (go_at_call 120; refine (HG.out _).mono ?_; rintro e w' ⟨rfl, rfl⟩))
          rw [hr.out]
          refine bodyPost_ret (v := .tuple #[.int .i64 u, .int .i64 (E : Int)]) ?_ rfl ⟨rfl, by assumption⟩
          simp [results, Tryz.results94, go_sem]
        · have hr := hid (HR.out.still E v HN.out HL.out HW.out h3)
          rw [hnr] at hr
          clear h3 hnr
          go_wp2_with (first | (go_at_call 119; refine (HM.out _).mono ?_; rintro e W9 ⟨rfl, b9⟩) | (go_at_call 120; refine (HG.out _).mono ?_; rintro e w' ⟨rfl, rfl⟩))
          rw [hr.out]
          refine bodyPost_ret (v := .tuple #[.int .i64 65533, .int .i64 (E : Int)]) ?_ rfl ⟨rfl, by assumption⟩
          simp [results, Tryz.results94, go_sem]
        · have hr := hid (HR.out.still E v HN.out HL.out HW.out h3)
          rw [hnr] at hr
          clear h3 hnr
          go_wp2_with (first | (go_at_call 119; refine (HM.out _).mono ?_; rintro e W9 ⟨rfl, b9⟩) | (go_at_call 120; refine (HG.out _).mono ?_; rintro e w' ⟨rfl, rfl⟩))
          rw [hr.out]
          refine bodyPost_ret (v := .tuple #[.int .i64 u, .int .i64 (E : Int)]) ?_ rfl ⟨rfl, by assumption⟩
          simp [results, Tryz.results94, go_sem]

set_option maxHeartbeats 1000000 in
set_option maxRecDepth 100000 in
theorem number_hexb_long (s t : ByteArray) (r : Nat × Int) (w : World) (hs : 31 < s.size) (hsm : s.size ≤ 140737488355328) (ht : s.extract 0 31 = t) (htz : t.size = 31) (h1 : 1 < t.size) (x1 : UInt8) (hx1 : t[1]'h1 = x1) (q1 : ((x1.toNat : Int) == 120) = false) (q2 : ((x1.toNat : Int) == 88) = true) (hR : DigEndS t.data.toList 2 16 digX r) :
    Calls Tryz.prog 94 #[.string s] w fun e w' => e = .returned (.tuple #[.int .i64 r.2, .int .i64 (r.1 : Int)]) ∧ Below w.heap.size w w' := by
  skip
  have HR := hid hR
  obtain ⟨D, hD⟩ : ∃ D, (t.data.toList.drop 2).takeWhile digX = D := ⟨_, rfl⟩
  obtain ⟨V, hV⟩ : ∃ V, valS 16 0 D = V := ⟨_, rfl⟩
  obtain ⟨E, hE⟩ : ∃ E, 2 + D.length = E := ⟨_, rfl⟩
  have hpa : ∀ W, Calls Tryz.prog 82 #[.string t, .int .i64 2, .string ⟨#[48, 49, 50, 51, 52, 53, 54, 55, 56, 57, 97, 98, 99, 100, 101, 102, 65, 66, 67, 68, 69, 70]⟩] W fun e w' => e = .returned (.int .i64 (E : Int)) ∧ w' = W := by
    intro W
    have := past_any t 2 ⟨#[48, 49, 50, 51, 52, 53, 54, 55, 56, 57, 97, 98, 99, 100, 101, 102, 65, 66, 67, 68, 69, 70]⟩ W (by omega) (by omega) (by decide)
    rw [set_X, hD, hE] at this
    exact this
  have hEs : E ≤ t.size := by
    have := congrArg List.length hD
    have h2 := (List.takeWhile_prefix (p := digX) (l := t.data.toList.drop 2)).length_le
    rw [List.length_drop, ← size_eq] at h2
    omega
  have HP := hid hpa
  have HD := hid hD
  have HV := hid hV
  have HE := hid hE
  clear hR hD hV hpa
  by_cases hz : D = []
  · have hr := HR.out.none (by rw [HD.out]; exact hz)
    have he : E = 2 := by rw [← hE, hz]; rfl
    subst he
    clear hE hz
    go_enter Tryz.func94, Tryz.ntmps94
    go_wp2_with (go_at_call 82; refine (HP.out _).mono ?_; rintro e w' ⟨rfl, rfl⟩)
    rw [hr]
    refine bodyPost_ret (v := .tuple #[.int .i64 0, .int .i64 0]) ?_ rfl ⟨rfl, Below.refl _ _⟩
    simp [results, Tryz.results94, go_sem]
  · have hne : (t.data.toList.drop 2).takeWhile digX ≠ [] := by rw [HD.out]; exact hz
    have hle : 2 + ((t.data.toList.drop 2).takeWhile digX).length = E := by rw [HD.out]; exact hE
    have hva : valS 16 0 ((t.data.toList.drop 2).takeWhile digX) = V := by rw [HD.out]; exact HV.out
    have hFE : 2 ≤ E := by omega
    have hEF : E ≠ 2 := by have := List.length_pos_iff.2 hz; omega
    have hqE : ((E : Int) == 2) = false := beq_eq_false_iff_ne.2 (by omega)
    have h59 : (∃ (h : E < t.size) (x : UInt8), t[E]'h = x ∧ ((x.toNat : Int) == 59) = true ∧ t.data.toList[E]? = some 59) ∨ (∃ (h : E < t.size) (x : UInt8), t[E]'h = x ∧ ((x.toNat : Int) == 59) = false ∧ t.data.toList[E]? ≠ some 59) ∨ (¬ E < t.size ∧ t.data.toList[E]? ≠ some 59) := by
      by_cases h : E < t.size
      · have hl := getElem_list h rfl
        by_cases h2 : t[E]'h = 59
        · exact .inl ⟨h, t[E]'h, rfl, by rw [h2]; rfl, by rw [hl, h2]⟩
        · refine .inr (.inl ⟨h, t[E]'h, rfl, beq_eq_false_iff_ne.2 (fun h3 => h2 (UInt8.toNat_inj.1 (by simp; omega))), ?_⟩)
          rw [hl]
          exact fun h3 => h2 (Option.some.inj h3)
      · exact .inr (.inr ⟨h, by rw [getElem_over h]; simp⟩)
    have HN := hid hne
    have HL := hid hle
    have HW := hid hva
    clear hne hle hva hz hE
    go_enter Tryz.func94, Tryz.ntmps94
    go_wp2_with (go_at_call 82; refine (HP.out _).mono ?_; rintro e W0 ⟨rfl, rfl⟩)
    go_loopw [8, 9] (fun vv iv wr => ∃ (i v : Nat) (z : Int), vv = .int .i64 z ∧ iv = .int .i64 i ∧ i ≤ E ∧ Hid ((v : Int) = z) ∧ 0 ≤ z ∧ z ≤ 20000000 ∧ wr = W0 ∧ Hid (valS 16 v ((t.data.toList.drop i).takeWhile digX) = V) ∧ Hid (i + ((t.data.toList.drop i).takeWhile digX).length = E)) (fun _ iv _ => E - (RowKit.intOf iv).toNat)
    case atStart => exact ⟨2, 0, 0, rfl, rfl, by omega, hid rfl, by omega, by omega, rfl, HW.out, HL.out⟩
    case round =>
      obtain ⟨i, v, z, rfl, rfl, hi, HZ, hz0, hz1, rfl, HA, HB⟩ := hrel
      by_cases hp : i < E
      · have hps : i < t.size := by omega
        have hnn : (t.data.toList.drop i).takeWhile digX ≠ [] := by
          intro h0
          have := HB.out
          rw [h0] at this
          simp at this
          omega
        obtain ⟨c, hc, hcd⟩ := while_head hnn
        obtain ⟨x, hx⟩ : ∃ x, t[i]'hps = x := ⟨_, rfl⟩
        obtain rfl : x = c := by rw [getElem_list hps hx] at hc; exact Option.some.inj hc
        have hw := while_step hc hcd
        have hxx := fun W => hex_u8 x hcd W
        have hlt := digV_lt x hcd
        have HA2 : Hid (valS 16 (if v < 1114112 then v * 16 + digV x else v) ((t.data.toList.drop (i + 1)).takeWhile digX) = V) := by
          have := HA.out
          rw [hw] at this
          unfold valS at this ⊢
          rw [List.foldl_cons] at this
          exact this
        have HB2 : Hid (i + 1 + ((t.data.toList.drop (i + 1)).takeWhile digX).length = E) := by
          have := HB.out
          rw [hw, List.length_cons] at this
          exact hid (by omega)
        generalize digV x = d at hxx hlt HA2
        have HX := hid hxx
        clear hxx hw hcd hc hnn HA HB
        by_cases hv2 : z < 1114112
        · rw [if_pos (by have := HZ.out; omega)] at HA2
          go_wp2_with (go_at_call 118; refine (HX.out _).mono ?_; rintro e w' ⟨rfl, rfl⟩)
          go_roundw
          case rel => exact ⟨i + 1, v * 16 + d, z * 16 + d, rfl, rfl, by omega, hid (by have := HZ.out; omega), by omega, by omega, by first | rfl | trivial, HA2, HB2⟩
          case measure => simp [RowKit.intOf]; omega
        · rw [if_neg (by have := HZ.out; omega)] at HA2
          go_wp2_with (go_at_call 118; refine (HX.out _).mono ?_; rintro e w' ⟨rfl, rfl⟩)
          go_roundw
          case rel => exact ⟨i + 1, v, z, rfl, rfl, by omega, HZ, by omega, by omega, by first | rfl | trivial, HA2, HB2⟩
          case measure => simp [RowKit.intOf]; omega
      · obtain rfl : v = V := by
          have h0 : ((t.data.toList.drop i).takeWhile digX) = [] := List.eq_nil_of_length_eq_zero (by have := HB.out; omega)
          have := HA.out
          rw [h0] at this
          exact this
        have hiE : i = E := by omega
        subst i
        clear HA HB hp hi
        have hm := fun W => remapped_any z W
        have hrn : 0 ≤ remapL remapT z := by rw [← HZ.out]; exact remap_nonneg v
        have hg := fun W => refGood_all (remapL remapT z) hrn W
        have hnr : numbR (v : Int) = if goodB (remapL remapT z) then remapL remapT z else 65533 := by rw [HZ.out]; rfl
        obtain ⟨u, hu⟩ : ∃ u, remapL remapT z = u := ⟨_, rfl⟩
        rw [hu] at hm hg hnr
        obtain ⟨g, hgg⟩ : ∃ g, goodB u = g := ⟨_, rfl⟩
        rw [hgg] at hg hnr
        clear hrn
        have HM := hid hm
        have HG := hid hg
        clear hm hg hu hgg
        rcases h59 with ⟨h1, x9, h2, h4, h3⟩ | ⟨h1, x9, h2, h4, h3⟩ | ⟨h1, h3⟩
        all_goals
          cases g
          all_goals simp only [Bool.false_eq_true, if_false, if_true] at hnr
        · have hr := hid (HR.out.shut E v HN.out HL.out HW.out h3)
          rw [hnr] at hr
          clear h3 hnr
          go_wp2_with (first | (go_at_call 119; refine (HM.out _).mono ?_; rintro e W9 ⟨rfl, b9⟩) | (go_at_call 120; refine (HG.out _).mono ?_; rintro e w' ⟨rfl, rfl⟩))
          rw [hr.out]
          refine bodyPost_ret (v := .tuple #[.int .i64 65533, .int .i64 ((E + 1 : Nat) : Int)]) ?_ rfl ⟨rfl, by assumption⟩
          simp [results, Tryz.results94, go_sem]
        · have hr := hid (HR.out.shut E v HN.out HL.out HW.out h3)
          rw [hnr] at hr
          clear h3 hnr
          go_wp2_with (first | (go_at_call 119; refine (HM.out _).mono ?_; rintro e W9 ⟨rfl, b9⟩) | (go_at_call 120; refine (HG.out _).mono ?_; rintro e w' ⟨rfl, rfl⟩))
          rw [hr.out]
          refine bodyPost_ret (v := .tuple #[.int .i64 u, .int .i64 ((E + 1 : Nat) : Int)]) ?_ rfl ⟨rfl, by assumption⟩
          simp [results, Tryz.results94, go_sem]
        · have hr := hid (HR.out.still E v HN.out HL.out HW.out h3)
          rw [hnr] at hr
          clear h3 hnr
          go_wp2_with (first | (go_at_call 119; refine (HM.out _).mono ?_; rintro e W9 ⟨rfl, b9⟩) | (go_at_call 120; refine (HG.out _).mono ?_; rintro e w' ⟨rfl, rfl⟩))
          rw [hr.out]
          refine bodyPost_ret (v := .tuple #[.int .i64 65533, .int .i64 (E : Int)]) ?_ rfl ⟨rfl, by assumption⟩
          simp [results, Tryz.results94, go_sem]
        · have hr := hid (HR.out.still E v HN.out HL.out HW.out h3)
          rw [hnr] at hr
          clear h3 hnr
          go_wp2_with (first | (go_at_call 119; refine (HM.out _).mono ?_; rintro e W9 ⟨rfl, b9⟩) | (go_at_call 120; refine (HG.out _).mono ?_; rintro e w' ⟨rfl, rfl⟩))
          rw [hr.out]
          refine bodyPost_ret (v := .tuple #[.int .i64 u, .int .i64 (E : Int)]) ?_ rfl ⟨rfl, by assumption⟩
          simp [results, Tryz.results94, go_sem]
        · have hr := hid (HR.out.still E v HN.out HL.out HW.out h3)
          rw [hnr] at hr
          clear h3 hnr
          go_wp2_with (first | (go_at_call 119; refine (HM.out _).mono ?_; rintro e W9 ⟨rfl, b9⟩) | (go_at_call 120; refine (HG.out _).mono ?_; rintro e w' ⟨rfl, rfl⟩))
          rw [hr.out]
          refine bodyPost_ret (v := .tuple #[.int .i64 65533, .int .i64 (E : Int)]) ?_ rfl ⟨rfl, by assumption⟩
          simp [results, Tryz.results94, go_sem]
        · have hr := hid (HR.out.still E v HN.out HL.out HW.out h3)
          rw [hnr] at hr
          clear h3 hnr
          go_wp2_with (first | (go_at_call 119; refine (HM.out _).mono ?_; rintro e W9 ⟨rfl, b9⟩) | (go_at_call 120; refine (HG.out _).mono ?_; rintro e w' ⟨rfl, rfl⟩))
          rw [hr.out]
          refine bodyPost_ret (v := .tuple #[.int .i64 u, .int .i64 (E : Int)]) ?_ rfl ⟨rfl, by assumption⟩
          simp [results, Tryz.results94, go_sem]
end Go.Proofs.YtndglhflbenloaaGreatDoor
