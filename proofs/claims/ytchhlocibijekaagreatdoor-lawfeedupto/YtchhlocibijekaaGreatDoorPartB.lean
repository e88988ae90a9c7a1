/-
  Parts of the walk, joined: NumR, NumAny, Named, FindName, FindRef, Referred, Amp.
-/
import Derived.Test.YtchhlocibijekaaGreatDoorPartA
import Derived.Test.YtchhlocibijekaaGreatDoorShelf
import Derived.Deep.Cut
import Derived.BigQuiet
import Derived.Lib.IndexMore
/-
  scrubref.number: its walk.
-/
namespace Go.Proofs.YtchhlocibijekaaGreatDoor
open Go.RowKit Go.Lib

theorem u8_all {p : UInt8 → Bool} (h : ∀ n : Fin 256, p (UInt8.ofNat n.val) = true) (c : UInt8) : p c = true := by
  have := h ⟨c.toNat, c.toNat_lt⟩
  simpa using this
theorem set_D : (⟨#[48, 49, 50, 51, 52, 53, 54, 55, 56, 57]⟩ : ByteArray).data.toList.contains = digD := by
  funext c
  have := u8_all (p := fun c => (⟨#[48, 49, 50, 51, 52, 53, 54, 55, 56, 57]⟩ : ByteArray).data.toList.contains c == digD c) (by decide +kernel) c
  exact beq_iff_eq.1 this
theorem set_X : (⟨#[48, 49, 50, 51, 52, 53, 54, 55, 56, 57, 97, 98, 99, 100, 101, 102, 65, 66, 67, 68, 69, 70]⟩ : ByteArray).data.toList.contains = digX := by
  funext c
  have := u8_all (p := fun c => (⟨#[48, 49, 50, 51, 52, 53, 54, 55, 56, 57, 97, 98, 99, 100, 101, 102, 65, 66, 67, 68, 69, 70]⟩ : ByteArray).data.toList.contains c == digX c) (by decide +kernel) c
  exact beq_iff_eq.1 this
theorem hex_u8 (c : UInt8) (h : digX c = true) (w : World) : Calls Tryz.prog 118 #[.int .u8 c.toNat] w fun e w' => e = .returned (.int .i64 (digV c : Int)) ∧ w' = w := by
  rw [← digK_V c h, ← digZ_K]
  have h2 : digK c < 16 := by have := digK_X c; rw [h] at this; exact of_decide_eq_true this
  exact hex_any _ (by omega) (by have := c.toNat_lt; omega) (by rw [digZ_K]; omega) w
structure DigEndS (N : List UInt8) (F B : Nat) (dig : UInt8 → Bool) (r : Nat × Int) : Prop where
  none : (N.drop F).takeWhile dig = [] → r = (0, 0)
  shut : ∀ E V : Nat, (N.drop F).takeWhile dig ≠ [] → F + ((N.drop F).takeWhile dig).length = E → valS B 0 ((N.drop F).takeWhile dig) = V → N[E]? = some 59 → r = (E + 1, numbR V)
  still : ∀ E V : Nat, (N.drop F).takeWhile dig ≠ [] → F + ((N.drop F).takeWhile dig).length = E → valS B 0 ((N.drop F).takeWhile dig) = V → N[E]? ≠ some 59 → r = (E, numbR V)
theorem digEndS (N : List UInt8) : DigEndS N (fromN N) (baseN N) (digN N) (numL N) := by
  have h : numL N = if digsN N = [] then (0, 0) else (fromN N + (digsN N).length + (if N[fromN N + (digsN N).length]? = some 59 then 1 else 0), numbR ((valS (baseN N) 0 (digsN N) : Nat) : Int)) := by
    rw [numb_eq]; rfl
  unfold digsN at h
  refine ⟨fun h0 => by rw [h, if_pos h0], fun E V h0 h1 h2 h3 => ?_, fun E V h0 h1 h2 h3 => ?_⟩
  · rw [h, if_neg h0, h1, h2, if_pos h3]
  · rw [h, if_neg h0, h1, h2, if_neg h3]; rfl
theorem while_head {p : UInt8 → Bool} {N : List UInt8} {e : Nat} (h : (N.drop e).takeWhile p ≠ []) : ∃ c, N[e]? = some c ∧ p c = true := by
  cases hc : N[e]? with
  | none => exact absurd (while_stop (fun c hc2 => by rw [hc] at hc2; cases hc2)) h
  | some c =>
    refine ⟨c, rfl, ?_⟩
    cases hp : p c with
    | true => rfl
    | false => exact absurd (while_stop (fun d hd => by rw [hc] at hd; cases hd; exact hp)) h
theorem digN_cases (N : List UInt8) : (fromN N = 2 ∧ baseN N = 16 ∧ digN N = digX ∧ hexN N = true) ∨ (fromN N = 1 ∧ baseN N = 10 ∧ digN N = digD ∧ hexN N = false) := by
  unfold fromN baseN digN
  cases hexN N <;> simp
theorem remap_nonneg (v : Nat) : 0 ≤ remapL remapT (v : Int) := by
  have h : ∀ (l : List (Int × Int)), (∀ p ∈ l, 0 ≤ p.2) → 0 ≤ remapL l (v : Int) := by
    intro l
    induction l with
    | nil => intro _; simp [remapL]
    | cons p l ih =>
      intro h
      unfold remapL
      split
      · exact h p (.head _)
      · exact ih (fun q hq => h q (.tail _ hq))
  exact h remapT (by decide +kernel)

set_option maxHeartbeats 1000000 in
set_option maxRecDepth 100000 in
theorem number_one (t : ByteArray) (w : World) (hs : t.size = 1) :
    Calls Tryz.prog 94 #[.string t] w fun e w' => e = .returned (.tuple #[.int .i64 0, .int .i64 0]) ∧ w' = w := by
  have hpa : ∀ W, Calls Tryz.prog 82 #[.string t, .int .i64 1, .string ⟨#[48, 49, 50, 51, 52, 53, 54, 55, 56, 57]⟩] W fun e w' => e = .returned (.int .i64 1) ∧ w' = W := by
    intro W
    have := past_any t 1 ⟨#[48, 49, 50, 51, 52, 53, 54, 55, 56, 57]⟩ W (by omega) (by omega) (by decide)
    rw [List.drop_of_length_le (by rw [← size_eq]; omega)] at this
    exact this
  have HP := hid hpa
  clear hpa
  go_enter Tryz.func94, Tryz.ntmps94
  go_wp2_with (go_at_call 82; refine (HP.out _).mono ?_; rintro e w' ⟨rfl, rfl⟩)
  refine bodyPost_ret (v := .tuple #[.int .i64 0, .int .i64 0]) ?_ rfl ⟨rfl, rfl⟩
  simp [results, Tryz.results94, go_sem]

set_option maxHeartbeats 1000000 in
set_option maxRecDepth 100000 in
theorem number_dec (t : ByteArray) (r : Nat × Int) (w : World) (hs : t.size ≤ 31) (h1 : 1 < t.size) (x1 : UInt8) (hx1 : t[1]'h1 = x1) (q1 : ((x1.toNat : Int) == 120) = false) (q2 : ((x1.toNat : Int) == 88) = false) (hR : DigEndS t.data.toList 1 10 digD r) :
    Calls Tryz.prog 94 #[.string t] w fun e w' => e = .returned (.tuple #[.int .i64 r.2, .int .i64 (r.1 : Int)]) ∧ Below w.heap.size w w' := by
  skip
  have HR := hid hR
  obtain ⟨D, hD⟩ : ∃ D, (t.data.toList.drop 1).takeWhile digD = D := ⟨_, rfl⟩
  obtain ⟨V, hV⟩ : ∃ V, valS 10 0 D = V := ⟨_, rfl⟩
  obtain ⟨E, hE⟩ : ∃ E, 1 + D.length = E := ⟨_, rfl⟩
  have hpa : ∀ W, Calls Tryz.prog 82 #[.string t, .int .i64 1, .string ⟨#[48, 49, 50, 51, 52, 53, 54, 55, 56, 57]⟩] W fun e w' => e = .returned (.int .i64 (E : Int)) ∧ w' = W := by
    intro W
    have := past_any t 1 ⟨#[48, 49, 50, 51, 52, 53, 54, 55, 56, 57]⟩ W (by omega) (by omega) (by decide)
    rw [set_D, hD, hE] at this
    exact this
  have hEs : E ≤ t.size := by
    have := congrArg List.length hD
    have h2 := (List.takeWhile_prefix (p := digD) (l := t.data.toList.drop 1)).length_le
    rw [List.length_drop, ← size_eq] at h2
    omega
  have HP := hid hpa
  have HD := hid hD
  have HV := hid hV
  have HE := hid hE
  clear hR hD hV hpa
  by_cases hz : D = []
  · have hr := HR.out.none (by rw [HD.out]; exact hz)
    have he : E = 1 := by rw [← hE, hz]; rfl
    subst he
    clear hE hz
    go_enter Tryz.func94, Tryz.ntmps94
    go_wp2_with (go_at_call 82; refine (HP.out _).mono ?_; rintro e w' ⟨rfl, rfl⟩)
    rw [hr]
    refine bodyPost_ret (v := .tuple #[.int .i64 0, .int .i64 0]) ?_ rfl ⟨rfl, Below.refl _ _⟩
    simp [results, Tryz.results94, go_sem]
  · have hne : (t.data.toList.drop 1).takeWhile digD ≠ [] := by rw [HD.out]; exact hz
    have hle : 1 + ((t.data.toList.drop 1).takeWhile digD).length = E := by rw [HD.out]; exact hE
    have hva : valS 10 0 ((t.data.toList.drop 1).takeWhile digD) = V := by rw [HD.out]; exact HV.out
    have hFE : 1 ≤ E := by omega
    have hEF : E ≠ 1 := by have := List.length_pos_iff.2 hz; omega
    have hqE : ((E : Int) == 1) = false := beq_eq_false_iff_ne.2 (by omega)
    have h59 : (∃ (h : E < t.size) (x : UInt8), t[E]'h = x ∧ ((x.toNat : Int) == 59) = true ∧ t.data.toList[E]? = some 59) ∨ (∃ (h : E < t.size) (x : UInt8), t[E]'h = x ∧ ((x.toNat : Int) == 59) = false ∧ t.data.toList[E]? ≠ some 59) ∨ (¬ E < t.size ∧ t.data.toList[E]? ≠ some 59) := by
      by_cases h : E < t.size
      · have hl := getElem_list h rfl
        by_cases h2 : t[E]'h = 59
        · exact .inl ⟨h, t[E]'h, rfl, by rw [h2]; rfl, by rw [hl, h2]⟩
        · refine .inr (.inl ⟨h, t[E]'h, rfl, beq_eq_false_iff_ne.2 (fun h3 => h2 (UInt8.toNat_inj.1 (by simp; omega))), ?_⟩)
          rw [hl]
          exact fun h3 => h2 (Option.some.inj h3)
      · exact .inr (.inr ⟨h, by rw [getElem_over h]; simp⟩)
    have HN := hid hne
    have HL := hid hle
    have HW := hid hva
    clear hne hle hva hz hE
    go_enter Tryz.func94, Tryz.ntmps94
    go_wp2_with (go_at_call 82; refine (HP.out _).mono ?_; rintro e W0 ⟨rfl, rfl⟩)
    go_loopw [8, 9] (fun vv iv wr => ∃ (i v : Nat) (z : Int), vv = .int .i64 z ∧ iv = .int .i64 i ∧ i ≤ E ∧ Hid ((v : Int) = z) ∧ 0 ≤ z ∧ z ≤ 20000000 ∧ wr = W0 ∧ Hid (valS 10 v ((t.data.toList.drop i).takeWhile digD) = V) ∧ Hid (i + ((t.data.toList.drop i).takeWhile digD).length = E)) (fun _ iv _ => E - (RowKit.intOf iv).toNat)
    case atStart => exact ⟨1, 0, 0, rfl, rfl, by omega, hid rfl, by omega, by omega, rfl, HW.out, HL.out⟩
    case round =>
      obtain ⟨i, v, z, rfl, rfl, hi, HZ, hz0, hz1, rfl, HA, HB⟩ := hrel
      by_cases hp : i < E
      · have hps : i < t.size := by omega
        have hnn : (t.data.toList.drop i).takeWhile digD ≠ [] := by
          intro h0
          have := HB.out
          rw [h0] at this
          simp at this
          omega
        obtain ⟨c, hc, hcd⟩ := while_head hnn
        obtain ⟨x, hx⟩ : ∃ x, t[i]'hps = x := ⟨_, rfl⟩
        obtain rfl : x = c := by rw [getElem_list hps hx] at hc; exact Option.some.inj hc
        have hw := while_step hc hcd
        have hxx := fun W => hex_u8 x (digD_X _ hcd) W
        have hlt := digV_lt x (digD_X _ hcd)
        have HA2 : Hid (valS 10 (if v < 1114112 then v * 10 + digV x else v) ((t.data.toList.drop (i + 1)).takeWhile digD) = V) := by
          have := HA.out
          rw [hw] at this
          unfold valS at this ⊢
          rw [List.foldl_cons] at this
          exact this
        have HB2 : Hid (i + 1 + ((t.data.toList.drop (i + 1)).takeWhile digD).length = E) := by
          have := HB.out
          rw [hw, List.length_cons] at this
          exact hid (by omega)
        generalize digV x = d at hxx hlt HA2
        have HX := hid hxx
        clear hxx hw hcd hc hnn HA HB
        by_cases hv2 : z < 1114112
        · rw [if_pos (by have := HZ.out; omega)] at HA2
          go_wp2_with (go_at_call 118; refine (HX.out _).mono ?_; rintro e w' ⟨rfl, rfl⟩)
          go_roundw
          case rel => exact ⟨i + 1, v * 10 + d, z * 10 + d, rfl, rfl, by omega, hid (by have := HZ.out; omega), by omega, by omega, by first | rfl | trivial, HA2, HB2⟩
          case measure => simp [RowKit.intOf]; omega
        · rw [if_neg (by have := HZ.out; omega)] at HA2
          go_wp2_with (go_at_call 118; refine (HX.out _).mono ?_; rintro e w' ⟨rfl, rfl⟩)
          go_roundw
          case rel => exact ⟨i + 1, v, z, rfl, rfl, by omega, HZ, by omega, by omega, by first | rfl | trivial, HA2, HB2⟩
          case measure => simp [RowKit.intOf]; omega
      · obtain rfl : v = V := by
          have h0 : ((t.data.toList.drop i).takeWhile digD) = [] := List.eq_nil_of_length_eq_zero (by have := HB.out; omega)
          have := HA.out
          rw [h0] at this
          exact this
        have hiE : i = E := by omega
        subst i
        clear HA HB hp hi
        have hm := fun W => remapped_any z W
        have hrn : 0 ≤ remapL remapT z := by rw [← HZ.out]; exact remap_nonneg v
        have hg := fun W => refGood_all (remapL remapT z) hrn W
        have hnr : numbR (v : Int) = if goodB (remapL remapT z) then remapL remapT z else 65533 := by rw [HZ.out]; rfl
        obtain ⟨u, hu⟩ : ∃ u, remapL remapT z = u := ⟨_, rfl⟩
        rw [hu] at hm hg hnr
        obtain ⟨g, hgg⟩ : ∃ g, goodB u = g := ⟨_, rfl⟩
        rw [hgg] at hg hnr
        clear hrn
        have HM := hid hm
        have HG := hid hg
        clear hm hg hu hgg
        rcases h59 with ⟨h1, x9, h2, h4, h3⟩ | ⟨h1, x9, h2, h4, h3⟩ | ⟨h1, h3⟩
        all_goals
          cases g
          all_goals simp only [Bool.false_eq_true, if_false, if_true] at hnr
        · have hr := hid (HR.out.shut E v HN.out HL.out HW.out h3)
          rw [hnr] at hr
          clear h3 hnr
          go_wp2_with (first | (go_at_call 119; refine (HM.out _).mono ?_; rintro e W9 ⟨rfl, b9⟩) | (go_at_call 120; refine (HG.out _).mono ?_; rintro e w' ⟨rfl, rfl⟩))
          rw [hr.out]
          refine bodyPost_ret (v := .tuple #[.int .i64 65533, .int .i64 ((E + 1 : Nat) : Int)]) ?_ rfl ⟨rfl, by assumption⟩
          simp [results, Tryz.results94, go_sem]
        · have hr := hid (HR.out.shut E v HN.out HL.out HW.out h3)
          rw [hnr] at hr
          clear h3 hnr
          go_wp2_with (first | (go_at_call 119; refine (HM.out _).mono ?_; rintro e W9 ⟨rfl, b9⟩) | (go_at_call 120; refine (HG.out _).mono ?_; rintro e w' ⟨rfl, rfl⟩))
          rw [hr.out]
          refine bodyPost_ret (v := .tuple #[.int .i64 u, .int .i64 ((E + 1 : Nat) : Int)]) ?_ rfl ⟨rfl, by assumption⟩
          simp [results, Tryz.results94, go_sem]
        · have hr := hid (HR.out.still E v HN.out HL.out HW.out h3)
          rw [hnr] at hr
          clear h3 hnr
          go_wp2_with (first | (go_at_call 119; refine (HM.out _).mono ?_; rintro e W9 ⟨rfl, b9⟩) | (go_at_call 120; refine (HG.out _).mono ?_; rintro e w' ⟨rfl, rfl⟩))
          rw [hr.out]
          refine bodyPost_ret (v := .tuple #[.int .i64 65533, .int .i64 (E : Int)]) ?_ rfl ⟨rfl, by assumption⟩
          simp [results, Tryz.results94, go_sem]
        · have hr := hid (HR.out.still E v HN.out HL.out HW.out h3)
          rw [hnr] at hr
          clear h3 hnr
          go_wp2_with (first | (go_at_call 119; refine (HM.out _).mono ?_; rintro e W9 ⟨rfl, b9⟩) | (go_at_call 120; refine (HG.out _).mono ?_; rintro e w' ⟨rfl, rfl⟩))
          rw [hr.out]
          refine bodyPost_ret (v := .tuple #[.int .i64 u, .int .i64 (E : Int)]) ?_ rfl ⟨rfl, by assumption⟩
          simp [results, Tryz.results94, go_sem]
        · have hr := hid (HR.out.still E v HN.out HL.out HW.out h3)
          rw [hnr] at hr
          clear h3 hnr
          go_wp2_with (first | (go_at_call 119; refine (HM.out _).mono ?_; rintro e W9 ⟨rfl, b9⟩) | (go_at_call 120; refine (HG.out _).mono ?_; rintro e w' ⟨rfl, rfl⟩))
          rw [hr.out]
          refine bodyPost_ret (v := .tuple #[.int .i64 65533, .int .i64 (E : Int)]) ?_ rfl ⟨rfl, by assumption⟩
          simp [results, Tryz.results94, go_sem]
        · have hr := hid (HR.out.still E v HN.out HL.out HW.out h3)
          rw [hnr] at hr
          clear h3 hnr
          go_wp2_with (first | (go_at_call 119; refine (HM.out _).mono ?_; rintro e W9 ⟨rfl, b9⟩) | (go_at_call 120; refine (HG.out _).mono ?_; rintro e w' ⟨rfl, rfl⟩))
          rw [hr.out]
          refine bodyPost_ret (v := .tuple #[.int .i64 u, .int .i64 (E : Int)]) ?_ rfl ⟨rfl, by assumption⟩
          simp [results, Tryz.results94, go_sem]

set_option maxHeartbeats 1000000 in
set_option maxRecDepth 100000 in
theorem number_dec_long (s t : ByteArray) (r : Nat × Int) (w : World) (hs : 31 < s.size) (hsm : s.size ≤ 140737488355328) (ht : s.extract 0 31 = t) (htz : t.size = 31) (h1 : 1 < t.size) (x1 : UInt8) (hx1 : t[1]'h1 = x1) (q1 : ((x1.toNat : Int) == 120) = false) (q2 : ((x1.toNat : Int) == 88) = false) (hR : DigEndS t.data.toList 1 10 digD r) :
    Calls Tryz.prog 94 #[.string s] w fun e w' => e = .returned (.tuple #[.int .i64 r.2, .int .i64 (r.1 : Int)]) ∧ Below w.heap.size w w' := by
  skip
  have HR := hid hR
  obtain ⟨D, hD⟩ : ∃ D, (t.data.toList.drop 1).takeWhile digD = D := ⟨_, rfl⟩
  obtain ⟨V, hV⟩ : ∃ V, valS 10 0 D = V := ⟨_, rfl⟩
  obtain ⟨E, hE⟩ : ∃ E, 1 + D.length = E := ⟨_, rfl⟩
  have hpa : ∀ W, Calls Tryz.prog 82 #[.string t, .int .i64 1, .string ⟨#[48, 49, 50, 51, 52, 53, 54, 55, 56, 57]⟩] W fun e w' => e = .returned (.int .i64 (E : Int)) ∧ w' = W := by
    intro W
    have := past_any t 1 ⟨#[48, 49, 50, 51, 52, 53, 54, 55, 56, 57]⟩ W (by omega) (by omega) (by decide)
    rw [set_D, hD, hE] at this
    exact this
  have hEs : E ≤ t.size := by
    have := congrArg List.length hD
    have h2 := (List.takeWhile_prefix (p := digD) (l := t.data.toList.drop 1)).length_le
    rw [List.length_drop, ← size_eq] at h2
    omega
  have HP := hid hpa
  have HD := hid hD
  have HV := hid hV
  have HE := hid hE
  clear hR hD hV hpa
  by_cases hz : D = []
  · have hr := HR.out.none (by rw [HD.out]; exact hz)
    have he : E = 1 := by rw [← hE, hz]; rfl
    subst he
    clear hE hz
    go_enter Tryz.func94, Tryz.ntmps94
    go_wp2_with (go_at_call 82; refine (HP.out _).mono ?_; rintro e w' ⟨rfl, rfl⟩)
    rw [hr]
    refine bodyPost_ret (v := .tuple #[.int .i64 0, .int .i64 0]) ?_ rfl ⟨rfl, Below.refl _ _⟩
    simp [results, Tryz.results94, go_sem]
  · have hne : (t.data.toList.drop 1).takeWhile digD ≠ [] := by rw [HD.out]; exact hz
    have hle : 1 + ((t.data.toList.drop 1).takeWhile digD).length = E := by rw [HD.out]; exact hE
    have hva : valS 10 0 ((t.data.toList.drop 1).takeWhile digD) = V := by rw [HD.out]; exact HV.out
    have hFE : 1 ≤ E := by omega
    have hEF : E ≠ 1 := by have := List.length_pos_iff.2 hz; omega
    have hqE : ((E : Int) == 1) = false := beq_eq_false_iff_ne.2 (by omega)
    have h59 : (∃ (h : E < t.size) (x : UInt8), t[E]'h = x ∧ ((x.toNat : Int) == 59) = true ∧ t.data.toList[E]? = some 59) ∨ (∃ (h : E < t.size) (x : UInt8), t[E]'h = x ∧ ((x.toNat : Int) == 59) = false ∧ t.data.toList[E]? ≠ some 59) ∨ (¬ E < t.size ∧ t.data.toList[E]? ≠ some 59) := by
      by_cases h : E < t.size
      · have hl := getElem_list h rfl
        by_cases h2 : t[E]'h = 59
        · exact .inl ⟨h, t[E]'h, rfl, by rw [h2]; rfl, by rw [hl, h2]⟩
        · refine .inr (.inl ⟨h, t[E]'h, rfl, beq_eq_false_iff_ne.2 (fun h3 => h2 (UInt8.toNat_inj.1 (by simp; omega))), ?_⟩)
          rw [hl]
          exact fun h3 => h2 (Option.some.inj h3)
      · exact .inr (.inr ⟨h, by rw [getElem_over h]; simp⟩)
    have HN := hid hne
    have HL := hid hle
    have HW := hid hva
    clear hne hle hva hz hE
    go_enter Tryz.func94, Tryz.ntmps94
    go_wp2_with (go_at_call 82; refine (HP.out _).mono ?_; rintro e W0 ⟨rfl, rfl⟩)
    go_loopw [8, 9] (fun vv iv wr => ∃ (i v : Nat) (z : Int), vv = .int .i64 z ∧ iv = .int .i64 i ∧ i ≤ E ∧ Hid ((v : Int) = z) ∧ 0 ≤ z ∧ z ≤ 20000000 ∧ wr = W0 ∧ Hid (valS 10 v ((t.data.toList.drop i).takeWhile digD) = V) ∧ Hid (i + ((t.data.toList.drop i).takeWhile digD).length = E)) (fun _ iv _ => E - (RowKit.intOf iv).toNat)
    case atStart => exact ⟨1, 0, 0, rfl, rfl, by omega, hid rfl, by omega, by omega, rfl, HW.out, HL.out⟩
    case round =>
      obtain ⟨i, v, z, rfl, rfl, hi, HZ, hz0, hz1, rfl, HA, HB⟩ := hrel
      by_cases hp : i < E
      · have hps : i < t.size := by omega
        have hnn : (t.data.toList.drop i).takeWhile digD ≠ [] := by
          intro h0
          have := HB.out
          rw [h0] at this
          simp at this
          omega
        obtain ⟨c, hc, hcd⟩ := while_head hnn
        obtain ⟨x, hx⟩ : ∃ x, t[i]'hps = x := ⟨_, rfl⟩
        obtain rfl : x = c := by rw [getElem_list hps hx] at hc; exact Option.some.inj hc
        have hw := while_step hc hcd
        have hxx := fun W => hex_u8 x (digD_X _ hcd) W
        have hlt := digV_lt x (digD_X _ hcd)
        have HA2 : Hid (valS 10 (if v < 1114112 then v * 10 + digV x else v) ((t.data.toList.drop (i + 1)).takeWhile digD) = V) := by
          have := HA.out
          rw [hw] at this
          unfold valS at this ⊢
          rw [List.foldl_cons] at this
          exact this
        have HB2 : Hid (i + 1 + ((t.data.toList.drop (i + 1)).takeWhile digD).length = E) := by
          have := HB.out
          rw [hw, List.length_cons] at this
          exact hid (by omega)
        generalize digV x = d at hxx hlt HA2
        have HX := hid hxx
        clear hxx hw hcd hc hnn HA HB
        by_cases hv2 : z < 1114112
        · rw [if_pos (by have := HZ.out; omega)] at HA2
          go_wp2_with (go_at_call 118; refine (HX.out _).mono ?_; rintro e w' ⟨rfl, rfl⟩)
          go_roundw
          case rel => exact ⟨i + 1, v * 10 + d, z * 10 + d, rfl, rfl, by omega, hid (by have := HZ.out; omega), by omega, by omega, by first | rfl | trivial, HA2, HB2⟩
          case measure => simp [RowKit.intOf]; omega
        · rw [if_neg (by have := HZ.out; omega)] at HA2
          go_wp2_with (go_at_call 118; refine (HX.out _).mono ?_; rintro e w' ⟨rfl, rfl⟩)
          go_roundw
          case rel => exact ⟨i + 1, v, z, rfl, rfl, by omega, HZ, by omega, by omega, by first | rfl | trivial, HA2, HB2⟩
          case measure => simp [RowKit.intOf]; omega
      · obtain rfl : v = V := by
          have h0 : ((t.data.toList.drop i).takeWhile digD) = [] := List.eq_nil_of_length_eq_zero (by have := HB.out; omega)
          have := HA.out
          rw [h0] at this
          exact this
        have hiE : i = E := by omega
        subst i
        clear HA HB hp hi
        have hm := fun W => remapped_any z W
        have hrn : 0 ≤ remapL remapT z := by rw [← HZ.out]; exact remap_nonneg v
        have hg := fun W => refGood_all (remapL remapT z) hrn W
        have hnr : numbR (v : Int) = if goodB (remapL remapT z) then remapL remapT z else 65533 := by rw [HZ.out]; rfl
        obtain ⟨u, hu⟩ : ∃ u, remapL remapT z = u := ⟨_, rfl⟩
        rw [hu] at hm hg hnr
        obtain ⟨g, hgg⟩ : ∃ g, goodB u = g := ⟨_, rfl⟩
        rw [hgg] at hg hnr
        clear hrn
        have HM := hid hm
        have HG := hid hg
        clear hm hg hu hgg
        rcases h59 with ⟨h1, x9, h2, h4, h3⟩ | ⟨h1, x9, h2, h4, h3⟩ | ⟨h1, h3⟩
        all_goals
          cases g
          all_goals simp only [Bool.false_eq_true, if_false, if_true] at hnr
        · have hr := hid (HR.out.shut E v HN.out HL.out HW.out h3)
          rw [hnr] at hr
          clear h3 hnr
          go_wp2_with (first | (go_at_call 119; refine (HM.out _).mono ?_; rintro e W9 ⟨rfl, b9⟩) | (go_at_call 120; refine (HG.out _).mono ?_; rintro e w' ⟨rfl, rfl⟩))
          rw [hr.out]
          refine bodyPost_ret (v := .tuple #[.int .i64 65533, .int .i64 ((E + 1 : Nat) : Int)]) ?_ rfl ⟨rfl, by assumption⟩
          simp [results, Tryz.results94, go_sem]
        · have hr := hid (HR.out.shut E v HN.out HL.out HW.out h3)
          rw [hnr] at hr
          clear h3 hnr
          go_wp2_with (first | (go_at_call 119; refine (HM.out _).mono ?_; rintro e W9 ⟨rfl, b9⟩) | (go_at_call 120; refine (HG.out _).mono ?_; rintro e w' ⟨rfl, rfl⟩))
          rw [hr.out]
          refine bodyPost_ret (v := .tuple #[.int .i64 u, .int .i64 ((E + 1 : Nat) : Int)]) ?_ rfl ⟨rfl, by assumption⟩
          simp [results, Tryz.results94, go_sem]
        · have hr := hid (HR.out.still E v HN.out HL.out HW.out h3)
          rw [hnr] at hr
          clear h3 hnr
          go_wp2_with (first | (go_at_call 119; refine (HM.out _).mono ?_; rintro e W9 ⟨rfl, b9⟩) | (go_at_call 120; refine (HG.out _).mono ?_; rintro e w' ⟨rfl, rfl⟩))
          rw [hr.out]
          refine bodyPost_ret (v := .tuple #[.int .i64 65533, .int .i64 (E : Int)]) ?_ rfl ⟨rfl, by assumption⟩
          simp [results, Tryz.results94, go_sem]
        · have hr := hid (HR.out.still E v HN.out HL.out HW.out h3)
          rw [hnr] at hr
          clear h3 hnr
          go_wp2_with (first | (go_at_call 119; refine (HM.out _).mono ?_; rintro e W9 ⟨rfl, b9⟩) | (go_at_call 120; refine (HG.out _).mono ?_; rintro e w' ⟨rfl, rfl⟩))
          rw [hr.out]
          refine bodyPost_ret (v := .tuple #[.int .i64 u, .int .i64 (E : Int)]) ?_ rfl ⟨rfl, by assumption⟩
          simp [results, Tryz.results94, go_sem]
        · have hr := hid (HR.out.still E v HN.out HL.out HW.out h3)
          rw [hnr] at hr
          clear h3 hnr
          go_wp2_with (first | (go_at_call 119; refine (HM.out _).mono ?_; rintro e W9 ⟨rfl, b9⟩) | (go_at_call 120; refine (HG.out _).mono ?_; rintro e w' ⟨rfl, rfl⟩))
          rw [hr.out]
          refine bodyPost_ret (v := .tuple #[.int .i64 65533, .int .i64 (E : Int)]) ?_ rfl ⟨rfl, by assumption⟩
          simp [results, Tryz.results94, go_sem]
        · have hr := hid (HR.out.still E v HN.out HL.out HW.out h3)
          rw [hnr] at hr
          clear h3 hnr
          go_wp2_with (first | (go_at_call 119; refine (HM.out _).mono ?_; rintro e W9 ⟨rfl, b9⟩) | (go_at_call 120; refine (HG.out _).mono ?_; rintro e w' ⟨rfl, rfl⟩))
          rw [hr.out]
          refine bodyPost_ret (v := .tuple #[.int .i64 u, .int .i64 (E : Int)]) ?_ rfl ⟨rfl, by assumption⟩
          simp [results, Tryz.results94, go_sem]

set_option maxHeartbeats 1000000 in
set_option maxRecDepth 100000 in
theorem number_hexa (t : ByteArray) (r : Nat × Int) (w : World) (hs : t.size ≤ 31) (h1 : 1 < t.size) (x1 : UInt8) (hx1 : t[1]'h1 = x1) (q1 : ((x1.toNat : Int) == 120) = true) (hR : DigEndS t.data.toList 2 16 digX r) :
    Calls Tryz.prog 94 #[.string t] w fun e w' => e = .returned (.tuple #[.int .i64 r.2, .int .i64 (r.1 : Int)]) ∧ Below w.heap.size w w' := by
  skip
  have HR := hid hR
  obtain ⟨D, hD⟩ : ∃ D, (t.data.toList.drop 2).takeWhile digX = D := ⟨_, rfl⟩
  obtain ⟨V, hV⟩ : ∃ V, valS 16 0 D = V := ⟨_, rfl⟩
  obtain ⟨E, hE⟩ : ∃ E, 2 + D.length = E := ⟨_, rfl⟩
  have hpa : ∀ W, Calls Tryz.prog 82 #[.string t, .int .i64 2, .string ⟨#[48, 49, 50, 51, 52, 53, 54, 55, 56, 57, 97, 98, 99, 100, 101, 102, 65, 66, 67, 68, 69, 70]⟩] W fun e w' => e = .returned (.int .i64 (E : Int)) ∧ w' = W := by
    intro W
    have := past_any t 2 ⟨#[48, 49, 50, 51, 52, 53, 54, 55, 56, 57, 97, 98, 99, 100, 101, 102, 65, 66, 67, 68, 69, 70]⟩ W (by omega) (by omega) (by decide)
    rw [set_X, hD, hE] at this
    exact this
  have hEs : E ≤ t.size := by
    have := congrArg List.length hD
    have h2 := (List.takeWhile_prefix (p := digX) (l := t.data.toList.drop 2)).length_le
    rw [List.length_drop, ← size_eq] at h2
    omega
  have HP := hid hpa
  have HD := hid hD
  have HV := hid hV
  have HE := hid hE
  clear hR hD hV hpa
  by_cases hz : D = []
  · have hr := HR.out.none (by rw [HD.out]; exact hz)
    have he : E = 2 := by rw [← hE, hz]; rfl
    subst he
    clear hE hz
    go_enter Tryz.func94, Tryz.ntmps94
    go_wp2_with (go_at_call 82; refine (HP.out _).mono ?_; rintro e w' ⟨rfl, rfl⟩)
    rw [hr]
    refine bodyPost_ret (v := .tuple #[.int .i64 0, .int .i64 0]) ?_ rfl ⟨rfl, Below.refl _ _⟩
    simp [results, Tryz.results94, go_sem]
  · have hne : (t.data.toList.drop 2).takeWhile digX ≠ [] := by rw [HD.out]; exact hz
    have hle : 2 + ((t.data.toList.drop 2).takeWhile digX).length = E := by rw [HD.out]; exact hE
    have hva : valS 16 0 ((t.data.toList.drop 2).takeWhile digX) = V := by rw [HD.out]; exact HV.out
    have hFE : 2 ≤ E := by omega
    have hEF : E ≠ 2 := by have := List.length_pos_iff.2 hz; omega
    have hqE : ((E : Int) == 2) = false := beq_eq_false_iff_ne.2 (by omega)
    have h59 : (∃ (h : E < t.size) (x : UInt8), t[E]'h = x ∧ ((x.toNat : Int) == 59) = true ∧ t.data.toList[E]? = some 59) ∨ (∃ (h : E < t.size) (x : UInt8), t[E]'h = x ∧ ((x.toNat : Int) == 59) = false ∧ t.data.toList[E]? ≠ some 59) ∨ (¬ E < t.size ∧ t.data.toList[E]? ≠ some 59) := by
      by_cases h : E < t.size
      · have hl := getElem_list h rfl
        by_cases h2 : t[E]'h = 59
        · exact .inl ⟨h, t[E]'h, rfl, by rw [h2]; rfl, by rw [hl, h2]⟩
        · refine .inr (.inl ⟨h, t[E]'h, rfl, beq_eq_false_iff_ne.2 (fun h3 => h2 (UInt8.toNat_inj.1 (by simp; omega))), ?_⟩)
          rw [hl]
          exact fun h3 => h2 (Option.some.inj h3)
      · exact .inr (.inr ⟨h, by rw [getElem_over h]; simp⟩)
    have HN := hid hne
    have HL := hid hle
    have HW := hid hva
    clear hne hle hva hz hE
    go_enter Tryz.func94, Tryz.ntmps94
    go_wp2_with (go_at_call 82; refine (HP.out _).mono ?_; rintro e W0 ⟨rfl, rfl⟩)
    go_loopw [8, 9] (fun vv iv wr => ∃ (i v : Nat) (z : Int), vv = .int .i64 z ∧ iv = .int .i64 i ∧ i ≤ E ∧ Hid ((v : Int) = z) ∧ 0 ≤ z ∧ z ≤ 20000000 ∧ wr = W0 ∧ Hid (valS 16 v ((t.data.toList.drop i).takeWhile digX) = V) ∧ Hid (i + ((t.data.toList.drop i).takeWhile digX).length = E)) (fun _ iv _ => E - (RowKit.intOf iv).toNat)
    case atStart => exact ⟨2, 0, 0, rfl, rfl, by omega, hid rfl, by omega, by omega, rfl, HW.out, HL.out⟩
    case round =>
      obtain ⟨i, v, z, rfl, rfl, hi, HZ, hz0, hz1, rfl, HA, HB⟩ := hrel
      by_cases hp : i < E
      · have hps : i < t.size := by omega
        have hnn : (t.data.toList.drop i).takeWhile digX ≠ [] := by
          intro h0
          have := HB.out
          rw [h0] at this
          simp at this
          omega
        obtain ⟨c, hc, hcd⟩ := while_head hnn
        obtain ⟨x, hx⟩ : ∃ x, t[i]'hps = x := ⟨_, rfl⟩
        obtain rfl : x = c := by rw [getElem_list hps hx] at hc; exact Option.some.inj hc
        have hw := while_step hc hcd
        have hxx := fun W => hex_u8 x hcd W
        have hlt := digV_lt x hcd
        have HA2 : Hid (valS 16 (if v < 1114112 then v * 16 + digV x else v) ((t.data.toList.drop (i + 1)).takeWhile digX) = V) := by
          have := HA.out
          rw [hw] at this
          unfold valS at this ⊢
          rw [List.foldl_cons] at this
          exact this
        have HB2 : Hid (i + 1 + ((t.data.toList.drop (i + 1)).takeWhile digX).length = E) := by
          have := HB.out
          rw [hw, List.length_cons] at this
          exact hid (by omega)
        generalize digV x = d at hxx hlt HA2
        have HX := hid hxx
        clear hxx hw hcd hc hnn HA HB
        by_cases hv2 : z < 1114112
        · rw [if_pos (by have := HZ.out; omega)] at HA2
          go_wp2_with (go_at_call 118; refine (HX.out _).mono ?_; rintro e w' ⟨rfl, rfl⟩)
          go_roundw
          case rel => exact ⟨i + 1, v * 16 + d, z * 16 + d, rfl, rfl, by omega, hid (by have := HZ.out; omega), by omega, by omega, by first | rfl | trivial, HA2, HB2⟩
          case measure => simp [RowKit.intOf]; omega
        · rw [if_neg (by have := HZ.out; omega)] at HA2
          go_wp2_with (go_at_call 118; refine (HX.out _).mono ?_; rintro e w' ⟨rfl, rfl⟩)
          go_roundw
          case rel => exact ⟨i + 1, v, z, rfl, rfl, by omega, HZ, by omega, by omega, by first | rfl | trivial, HA2, HB2⟩
          case measure => simp [RowKit.intOf]; omega
      · obtain rfl : v = V := by
          have h0 : ((t.data.toList.drop i).takeWhile digX) = [] := List.eq_nil_of_length_eq_zero (by have := HB.out; omega)
          have := HA.out
          rw [h0] at this
          exact this
        have hiE : i = E := by omega
        subst i
        clear HA HB hp hi
        have hm := fun W => remapped_any z W
        have hrn : 0 ≤ remapL remapT z := by rw [← HZ.out]; exact remap_nonneg v
        have hg := fun W => refGood_all (remapL remapT z) hrn W
        have hnr : numbR (v : Int) = if goodB (remapL remapT z) then remapL remapT z else 65533 := by rw [HZ.out]; rfl
        obtain ⟨u, hu⟩ : ∃ u, remapL remapT z = u := ⟨_, rfl⟩
        rw [hu] at hm hg hnr
        obtain ⟨g, hgg⟩ : ∃ g, goodB u = g := ⟨_, rfl⟩
        rw [hgg] at hg hnr
        clear hrn
        have HM := hid hm
        have HG := hid hg
        clear hm hg hu hgg
        rcases h59 with ⟨h1, x9, h2, h4, h3⟩ | ⟨h1, x9, h2, h4, h3⟩ | ⟨h1, h3⟩
        all_goals
          cases g
          all_goals simp only [Bool.false_eq_true, if_false, if_true] at hnr
        · have hr := hid (HR.out.shut E v HN.out HL.out HW.out h3)
          rw [hnr] at hr
          clear h3 hnr
          go_wp2_with (first | (go_at_call 119; refine (HM.out _).mono ?_; rintro e W9 ⟨rfl, b9⟩) | (go_at_call 120; refine (HG.out _).mono ?_; rintro e w' ⟨rfl, rfl⟩))
          rw [hr.out]
          refine bodyPost_ret (v := .tuple #[.int .i64 65533, .int .i64 ((E + 1 : Nat) : Int)]) ?_ rfl ⟨rfl, by assumption⟩
          simp [results, Tryz.results94, go_sem]
        · have hr := hid (HR.out.shut E v HN.out HL.out HW.out h3)
          rw [hnr] at hr
          clear h3 hnr
          go_wp2_with (first | (go_at_call 119; refine (HM.out _).mono ?_; rintro e W9 ⟨rfl, b9⟩) | (go_at_call 120; refine (HG.out _).mono ?_; rintro e w' ⟨rfl, rfl⟩))
          rw [hr.out]
          refine bodyPost_ret (v := .tuple #[.int .i64 u, .int .i64 ((E + 1 : Nat) : Int)]) ?_ rfl ⟨rfl, by assumption⟩
          simp [results, Tryz.results94, go_sem]
        · have hr := hid (HR.out.still E v HN.out HL.out HW.out h3)
          rw [hnr] at hr
          clear h3 hnr
          go_wp2_with (first | (go_at_call 119; refine (HM.out _).mono ?_; rintro e W9 ⟨rfl, b9⟩) | (go_at_call 120; refine (HG.out _).mono ?_; rintro e w' ⟨rfl, rfl⟩))
          rw [hr.out]
          refine bodyPost_ret (v := .tuple #[.int .i64 65533, .int .i64 (E : Int)]) ?_ rfl ⟨rfl, by assumption⟩
          simp [results, Tryz.results94, go_sem]
        · have hr := hid (HR.out.still E v HN.out HL.out HW.out h3)
          rw [hnr] at hr
          clear h3 hnr
          go_wp2_with (first | (go_at_call 119; refine (HM.out _).mono ?_; rintro e W9 ⟨rfl, b9⟩) | (go_at_call 120; refine (HG.out _).mono ?_; rintro e w' ⟨rfl, rfl⟩))
          rw [hr.out]
          refine bodyPost_ret (v := .tuple #[.int .i64 u, .int .i64 (E : Int)]) ?_ rfl ⟨rfl, by assumption⟩
          simp [results, Tryz.results94, go_sem]
        · have hr := hid (HR.out.still E v HN.out HL.out HW.out h3)
          rw [hnr] at hr
          clear h3 hnr
          go_wp2_with (first | (go_at_call 119; refine (HM.out _).mono ?_; rintro e W9 ⟨rfl, b9⟩) | (go_at_call 120; refine (HG.out _).mono ?_; rintro e w' ⟨rfl, rfl⟩))
          rw [hr.out]
          refine bodyPost_ret (v := .tuple #[.int .i64 65533, .int .i64 (E : Int)]) ?_ rfl ⟨rfl, by assumption⟩
          simp [results, Tryz.results94, go_sem]
        · have hr := hid (HR.out.still E v HN.out HL.out HW.out h3)
          rw [hnr] at hr
          clear h3 hnr
          go_wp2_with (first | (go_at_call 119; refine (HM.out _).mono ?_; rintro e W9 ⟨rfl, b9⟩) | (go_at_call 120; refine (HG.out _).mono ?_; rintro e w' ⟨rfl, rfl⟩))
          rw [hr.out]
          refine bodyPost_ret (v := .tuple #[.int .i64 u, .int .i64 (E : Int)]) ?_ rfl ⟨rfl, by assumption⟩
          simp [results, Tryz.results94, go_sem]

set_option maxHeartbeats 1000000 in
set_option maxRecDepth 100000 in
theorem number_hexa_long (s t : ByteArray) (r : Nat × Int) (w : World) (hs : 31 < s.size) (hsm : s.size ≤ 140737488355328) (ht : s.extract 0 31 = t) (htz : t.size = 31) (h1 : 1 < t.size) (x1 : UInt8) (hx1 : t[1]'h1 = x1) (q1 : ((x1.toNat : Int) == 120) = true) (hR : DigEndS t.data.toList 2 16 digX r) :
    Calls Tryz.prog 94 #[.string s] w fun e w' => e = .returned (.tuple #[.int .i64 r.2, .int .i64 (r.1 : Int)]) ∧ Below w.heap.size w w' := by
  skip
  have HR := hid hR
  obtain ⟨D, hD⟩ : ∃ D, (t.data.toList.drop 2).takeWhile digX = D := ⟨_, rfl⟩
  obtain ⟨V, hV⟩ : ∃ V, valS 16 0 D = V := ⟨_, rfl⟩
  obtain ⟨E, hE⟩ : ∃ E, 2 + D.length = E := ⟨_, rfl⟩
  have hpa : ∀ W, Calls Tryz.prog 82 #[.string t, .int .i64 2, .string ⟨#[48, 49, 50, 51, 52, 53, 54, 55, 56, 57, 97, 98, 99, 100, 101, 102, 65, 66, 67, 68, 69, 70]⟩] W fun e w' => e = .returned (.int .i64 (E : Int)) ∧ w' = W := by
    intro W
    have := past_any t 2 ⟨#[48, 49, 50, 51, 52, 53, 54, 55, 56, 57, 97, 98, 99, 100, 101, 102, 65, 66, 67, 68, 69, 70]⟩ W (by omega) (by omega) (by decide)
    rw [set_X, hD, hE] at this
    exact this
  have hEs : E ≤ t.size := by
    have := congrArg List.length hD
    have h2 := (List.takeWhile_prefix (p := digX) (l := t.data.toList.drop 2)).length_le
    rw [List.length_drop, ← size_eq] at h2
    omega
  have HP := hid hpa
  have HD := hid hD
  have HV := hid hV
  have HE := hid hE
  clear hR hD hV hpa
  by_cases hz : D = []
  · have hr := HR.out.none (by rw [HD.out]; exact hz)
    have he : E = 2 := by rw [← hE, hz]; rfl
    subst he
    clear hE hz
    go_enter Tryz.func94, Tryz.ntmps94
    go_wp2_with (go_at_call 82; refine (HP.out _).mono ?_; rintro e w' ⟨rfl, rfl⟩)
    rw [hr]
    refine bodyPost_ret (v := .tuple #[.int .i64 0, .int .i64 0]) ?_ rfl ⟨rfl, Below.refl _ _⟩
    simp [results, Tryz.results94, go_sem]
  · have hne : (t.data.toList.drop 2).takeWhile digX ≠ [] := by rw [HD.out]; exact hz
    have hle : 2 + ((t.data.toList.drop 2).takeWhile digX).length = E := by rw [HD.out]; exact hE
    have hva : valS 16 0 ((t.data.toList.drop 2).takeWhile digX) = V := by rw [HD.out]; exact HV.out
    have hFE : 2 ≤ E := by omega
    have hEF : E ≠ 2 := by have := List.length_pos_iff.2 hz; omega
    have hqE : ((E : Int) == 2) = false := beq_eq_false_iff_ne.2 (by omega)
    have h59 : (∃ (h : E < t.size) (x : UInt8), t[E]'h = x ∧ ((x.toNat : Int) == 59) = true ∧ t.data.toList[E]? = some 59) ∨ (∃ (h : E < t.size) (x : UInt8), t[E]'h = x ∧ ((x.toNat : Int) == 59) = false ∧ t.data.toList[E]? ≠ some 59) ∨ (¬ E < t.size ∧ t.data.toList[E]? ≠ some 59) := by
      by_cases h : E < t.size
      · have hl := getElem_list h rfl
        by_cases h2 : t[E]'h = 59
        · exact .inl ⟨h, t[E]'h, rfl, by rw [h2]; rfl, by rw [hl, h2]⟩
        · refine .inr (.inl ⟨h, t[E]'h, rfl, beq_eq_false_iff_ne.2 (fun h3 => h2 (UInt8.toNat_inj.1 (by simp; omega))), ?_⟩)
          rw [hl]
          exact fun h3 => h2 (Option.some.inj h3)
      · exact .inr (.inr ⟨h, by rw [getElem_over h]; simp⟩)
    have HN := hid hne
    have HL := hid hle
    have HW := hid hva
    clear hne hle hva hz hE
    go_enter Tryz.func94, Tryz.ntmps94
    go_wp2_with (go_at_call 82; refine (HP.out _).mono ?_; rintro e W0 ⟨rfl, rfl⟩)
    go_loopw [8, 9] (fun vv iv wr => ∃ (i v : Nat) (z : Int), vv = .int .i64 z ∧ iv = .int .i64 i ∧ i ≤ E ∧ Hid ((v : Int) = z) ∧ 0 ≤ z ∧ z ≤ 20000000 ∧ wr = W0 ∧ Hid (valS 16 v ((t.data.toList.drop i).takeWhile digX) = V) ∧ Hid (i + ((t.data.toList.drop i).takeWhile digX).length = E)) (fun _ iv _ => E - (RowKit.intOf iv).toNat)
    case atStart => exact ⟨2, 0, 0, rfl, rfl, by omega, hid rfl, by omega, by omega, rfl, HW.out, HL.out⟩
    case round =>
      obtain ⟨i, v, z, rfl, rfl, hi, HZ, hz0, hz1, rfl, HA, HB⟩ := hrel
      by_cases hp : i < E
      · have hps : i < t.size := by omega
        have hnn : (t.data.toList.drop i).takeWhile digX ≠ [] := by
          intro h0
          have := HB.out
          rw [h0] at this
          simp at this
          omega
        obtain ⟨c, hc, hcd⟩ := while_head hnn
        obtain ⟨x, hx⟩ : ∃ x, t[i]'hps = x := ⟨_, rfl⟩
        obtain rfl : x = c := by rw [getElem_list hps hx] at hc; exact Option.some.inj hc
        have hw := while_step hc hcd
        have hxx := fun W => hex_u8 x hcd W
        have hlt := digV_lt x hcd
        have HA2 : Hid (valS 16 (if v < 1114112 then v * 16 + digV x else v) ((t.data.toList.drop (i + 1)).takeWhile digX) = V) := by
          have := HA.out
          rw [hw] at this
          unfold valS at this ⊢
          rw [List.foldl_cons] at this
          exact this
        have HB2 : Hid (i + 1 + ((t.data.toList.drop (i + 1)).takeWhile digX).length = E) := by
          have := HB.out
          rw [hw, List.length_cons] at this
          exact hid (by omega)
        generalize digV x = d at hxx hlt HA2
        have HX := hid hxx
        clear hxx hw hcd hc hnn HA HB
        by_cases hv2 : z < 1114112
        · rw [if_pos (by have := HZ.out; omega)] at HA2
          go_wp2_with (go_at_call 118; refine (HX.out _).mono ?_; rintro e w' ⟨rfl, rfl⟩)
          go_roundw
          case rel => exact ⟨i + 1, v * 16 + d, z * 16 + d, rfl, rfl, by omega, hid (by have := HZ.out; omega), by omega, by omega, by first | rfl | trivial, HA2, HB2⟩
          case measure => simp [RowKit.intOf]; omega
        · rw [if_neg (by have := HZ.out; omega)] at HA2
          go_wp2_with (go_at_call 118; refine (HX.out _).mono ?_; rintro e w' ⟨rfl, rfl⟩)
          go_roundw
          case rel => exact ⟨i + 1, v, z, rfl, rfl, by omega, HZ, by omega, by omega, by first | rfl | trivial, HA2, HB2⟩
          case measure => simp [RowKit.intOf]; omega
      · obtain rfl : v = V := by
          have h0 : ((t.data.toList.drop i).takeWhile digX) = [] := List.eq_nil_of_length_eq_zero (by have := HB.out; omega)
          have := HA.out
          rw [h0] at this
          exact this
        have hiE : i = E := by omega
        subst i
        clear HA HB hp hi
        have hm := fun W => remapped_any z W
        have hrn : 0 ≤ remapL remapT z := by rw [← HZ.out]; exact remap_nonneg v
        have hg := fun W => refGood_all (remapL remapT z) hrn W
        have hnr : numbR (v : Int) = if goodB (remapL remapT z) then remapL remapT z else 65533 := by rw [HZ.out]; rfl
        obtain ⟨u, hu⟩ : ∃ u, remapL remapT z = u := ⟨_, rfl⟩
        rw [hu] at hm hg hnr
        obtain ⟨g, hgg⟩ : ∃ g, goodB u = g := ⟨_, rfl⟩
        rw [hgg] at hg hnr
        clear hrn
        have HM := hid hm
        have HG := hid hg
        clear hm hg hu hgg
        rcases h59 with ⟨h1, x9, h2, h4, h3⟩ | ⟨h1, x9, h2, h4, h3⟩ | ⟨h1, h3⟩
        all_goals
          cases g
          all_goals simp only [Bool.false_eq_true, if_false, if_true] at hnr
        · have hr := hid (HR.out.shut E v HN.out HL.out HW.out h3)
          rw [hnr] at hr
          clear h3 hnr
          go_wp2_with (first | (go_at_call 119; refine (HM.out _).mono ?_; rintro e W9 ⟨rfl, b9⟩) | (go_at_call 120; refine (HG.out _).mono ?_; rintro e w' ⟨rfl, rfl⟩))
          rw [hr.out]
          refine bodyPost_ret (v := .tuple #[.int .i64 65533, .int .i64 ((E + 1 : Nat) : Int)]) ?_ rfl ⟨rfl, by assumption⟩
          simp [results, Tryz.results94, go_sem]
        · have hr := hid (HR.out.shut E v HN.out HL.out HW.out h3)
          rw [hnr] at hr
          clear h3 hnr
          go_wp2_with (first | (go_at_call 119; refine (HM.out _).mono ?_; rintro e W9 ⟨rfl, b9⟩) | (go_at_call 120; refine (HG.out _).mono ?_; rintro e w' ⟨rfl, rfl⟩))
          rw [hr.out]
          refine bodyPost_ret (v := .tuple #[.int .i64 u, .int .i64 ((E + 1 : Nat) : Int)]) ?_ rfl ⟨rfl, by assumption⟩
          simp [results, Tryz.results94, go_sem]
        · have hr := hid (HR.out.still E v HN.out HL.out HW.out h3)
          rw [hnr] at hr
          clear h3 hnr
          go_wp2_with (first | (go_at_call 119; refine (HM.out _).mono ?_; rintro e W9 ⟨rfl, b9⟩) | (go_at_call 120; refine (HG.out _).mono ?_; rintro e w' ⟨rfl, rfl⟩))
          rw [hr.out]
          refine bodyPost_ret (v := .tuple #[.int .i64 65533, .int .i64 (E : Int)]) ?_ rfl ⟨rfl, by assumption⟩
          simp [results, Tryz.results94, go_sem]
        · have hr := hid (HR.out.still E v HN.out HL.out HW.out h3)
          rw [hnr] at hr
          clear h3 hnr
          go_wp2_with (first | (go_at_call 119; refine (HM.out _).mono ?_; rintro e W9 ⟨rfl, b9⟩) | (go_at_call 120; refine (HG.out _).mono ?_; rintro e w' ⟨rfl, rfl⟩))
          rw [hr.out]
          refine bodyPost_ret (v := .tuple #[.int .i64 u, .int .i64 (E : Int)]) ?_ rfl ⟨rfl, by assumption⟩
          simp [results, Tryz.results94, go_sem]
        · have hr := hid (HR.out.still E v HN.out HL.out HW.out h3)
          rw [hnr] at hr
          clear h3 hnr
          go_wp2_with (first | (go_at_call 119; refine (HM.out _).mono ?_; rintro e W9 ⟨rfl, b9⟩) | (go_at_call 120; refine (HG.out _).mono ?_; rintro e w' ⟨rfl, rfl⟩))
          rw [hr.out]
          refine bodyPost_ret (v := .tuple #[.int .i64 65533, .int .i64 (E : Int)]) ?_ rfl ⟨rfl, by assumption⟩
          simp [results, Tryz.results94, go_sem]
        · have hr := hid (HR.out.still E v HN.out HL.out HW.out h3)
          rw [hnr] at hr
          clear h3 hnr
          go_wp2_with (first | (go_at_call 119; refine (HM.out _).mono ?_; rintro e W9 ⟨rfl, b9⟩) | (go_at_call 120; refine (HG.out _).mono ?_; rintro e w' ⟨rfl, rfl⟩))
          rw [hr.out]
          refine bodyPost_ret (v := .tuple #[.int .i64 u, .int .i64 (E : Int)]) ?_ rfl ⟨rfl, by assumption⟩
          simp [results, Tryz.results94, go_sem]

set_option maxHeartbeats 1000000 in
set_option maxRecDepth 100000 in
theorem number_hexb (t : ByteArray) (r : Nat × Int) (w : World) (hs : t.size ≤ 31) (h1 : 1 < t.size) (x1 : UInt8) (hx1 : t[1]'h1 = x1) (q1 : ((x1.toNat : Int) == 120) = false) (q2 : ((x1.toNat : Int) == 88) = true) (hR : DigEndS t.data.toList 2 16 digX r) :
    Calls Tryz.prog 94 #[.string t] w fun e w' => e = .returned (.tuple #[.int .i64 r.2, .int .i64 (r.1 : Int)]) ∧ Below w.heap.size w w' := by
  skip
  have HR := hid hR
  obtain ⟨D, hD⟩ : ∃ D, (t.data.toList.drop 2).takeWhile digX = D := ⟨_, rfl⟩
  obtain ⟨V, hV⟩ : ∃ V, valS 16 0 D = V := ⟨_, rfl⟩
  obtain ⟨E, hE⟩ : ∃ E, 2 + D.length = E := ⟨_, rfl⟩
  have hpa : ∀ W, Calls Tryz.prog 82 #[.string t, .int .i64 2, .string ⟨#[48, 49, 50, 51, 52, 53, 54, 55, 56, 57, 97, 98, 99, 100, 101, 102, 65, 66, 67, 68, 69, 70]⟩] W fun e w' => e = .returned (.int .i64 (E : Int)) ∧ w' = W := by
    intro W
    have := past_any t 2 ⟨#[48, 49, 50, 51, 52, 53, 54, 55, 56, 57, 97, 98, 99, 100, 101, 102, 65, 66, 67, 68, 69, 70]⟩ W (by omega) (by omega) (by decide)
    rw [set_X, hD, hE] at this
    exact this
  have hEs : E ≤ t.size := by
    have := congrArg List.length hD
    have h2 := (List.takeWhile_prefix (p := digX) (l := t.data.toList.drop 2)).length_le
    rw [List.length_drop, ← size_eq] at h2
    omega
  have HP := hid hpa
  have HD := hid hD
  have HV := hid hV
  have HE := hid hE
  clear hR hD hV hpa
  by_cases hz : D = []
  · have hr := HR.out.none (by rw [HD.out]; exact hz)
    have he : E = 2 := by rw [← hE, hz]; rfl
    subst he
    clear hE hz
    go_enter Tryz.func94, Tryz.ntmps94
    go_wp2_with (go_at_call 82; refine (HP.out _).mono ?_; rintro e w' ⟨rfl, rfl⟩)
    rw [hr]
    refine bodyPost_ret (v := .tuple #[.int .i64 0, .int .i64 0]) ?_ rfl ⟨rfl, Below.refl _ _⟩
    simp [results, Tryz.results94, go_sem]
  · have hne : (t.data.toList.drop 2).takeWhile digX ≠ [] := by rw [HD.out]; exact hz
    have hle : 2 + ((t.data.toList.drop 2).takeWhile digX).length = E := by rw [HD.out]; exact hE
    have hva : valS 16 0 ((t.data.toList.drop 2).takeWhile digX) = V := by rw [HD.out]; exact HV.out
    have hFE : 2 ≤ E := by omega
    have hEF : E ≠ 2 := by have := List.length_pos_iff.2 hz; omega
    have hqE : ((E : Int) == 2) = false := beq_eq_false_iff_ne.2 (by omega)
    have h59 : (∃ (h : E < t.size) (x : UInt8), t[E]'h = x ∧ ((x.toNat : Int) == 59) = true ∧ t.data.toList[E]? = some 59) ∨ (∃ (h : E < t.size) (x : UInt8), t[E]'h = x ∧ ((x.toNat : Int) == 59) = false ∧ t.data.toList[E]? ≠ some 59) ∨ (¬ E < t.size ∧ t.data.toList[E]? ≠ some 59) := by
      by_cases h : E < t.size
      · have hl := getElem_list h rfl
        by_cases h2 : t[E]'h = 59
        · exact .inl ⟨h, t[E]'h, rfl, by rw [h2]; rfl, by rw [hl, h2]⟩
        · refine .inr (.inl ⟨h, t[E]'h, rfl, beq_eq_false_iff_ne.2 (fun h3 => h2 (UInt8.toNat_inj.1 (by simp; omega))), ?_⟩)
          rw [hl]
          exact fun h3 => h2 (Option.some.inj h3)
      · exact .inr (.inr ⟨h, by rw [getElem_over h]; simp⟩)
    have HN := hid hne
    have HL := hid hle
    have HW := hid hva
    clear hne hle hva hz hE
    go_enter Tryz.func94, Tryz.ntmps94
    go_wp2_with (go_at_call 82; refine (HP.out _).mono ?_; rintro e W0 ⟨rfl, rfl⟩)
    go_loopw [8, 9] (fun vv iv wr => ∃ (i v : Nat) (z : Int), vv = .int .i64 z ∧ iv = .int .i64 i ∧ i ≤ E ∧ Hid ((v : Int) = z) ∧ 0 ≤ z ∧ z ≤ 20000000 ∧ wr = W0 ∧ Hid (valS 16 v ((t.data.toList.drop i).takeWhile digX) = V) ∧ Hid (i + ((t.data.toList.drop i).takeWhile digX).length = E)) (fun _ iv _ => E - (RowKit.intOf iv).toNat)
    case atStart => exact ⟨2, 0, 0, rfl, rfl, by omega, hid rfl, by omega, by omega, rfl, HW.out, HL.out⟩
    case round =>
      obtain ⟨i, v, z, rfl, rfl, hi, HZ, hz0, hz1, rfl, HA, HB⟩ := hrel
      by_cases hp : i < E
      · have hps : i < t.size := by omega
        have hnn : (t.data.toList.drop i).takeWhile digX ≠ [] := by
          intro h0
          have := HB.out
          rw [h0] at this
          simp at this
          omega
        obtain ⟨c, hc, hcd⟩ := while_head hnn
        obtain ⟨x, hx⟩ : ∃ x, t[i]'hps = x := ⟨_, rfl⟩
        obtain rfl : x = c := by rw [getElem_list hps hx] at hc; exact Option.some.inj hc
        have hw := while_step hc hcd
        have hxx := fun W => hex_u8 x hcd W
        have hlt := digV_lt x hcd
        have HA2 : Hid (valS 16 (if v < 1114112 then v * 16 + digV x else v) ((t.data.toList.drop (i + 1)).takeWhile digX) = V) := by
          have := HA.out
          rw [hw] at this
          unfold valS at this ⊢
          rw [List.foldl_cons] at this
          exact this
        have HB2 : Hid (i + 1 + ((t.data.toList.drop (i + 1)).takeWhile digX).length = E) := by
          have := HB.out
          rw [hw, List.length_cons] at this
          exact hid (by omega)
        generalize digV x = d at hxx hlt HA2
        have HX := hid hxx
        clear hxx hw hcd hc hnn HA HB
        by_cases hv2 : z < 1114112
        · rw [if_pos (by have := HZ.out; omega)] at HA2
          go_wp2_with (go_at_call 118; refine (HX.out _).mono ?_; rintro e w' ⟨rfl, rfl⟩)
          go_roundw
          case rel => exact ⟨i + 1, v * 16 + d, z * 16 + d, rfl, rfl, by omega, hid (by have := HZ.out; omega), by omega, by omega, by first | rfl | trivial, HA2, HB2⟩
          case measure => simp [RowKit.intOf]; omega
        · rw [if_neg (by have := HZ.out; omega)] at HA2
          go_wp2_with (go_at_call 118; refine (HX.out _).mono ?_; rintro e w' ⟨rfl, rfl⟩)
          go_roundw
          case rel => exact ⟨i + 1, v, z, rfl, rfl, by omega, HZ, by omega, by omega, by first | rfl | trivial, HA2, HB2⟩
          case measure => simp [RowKit.intOf]; omega
      · obtain rfl : v = V := by
          have h0 : ((t.data.toList.drop i).takeWhile digX) = [] := List.eq_nil_of_length_eq_zero (by have := HB.out; omega)
          have := HA.out
          rw [h0] at this
          exact this
        have hiE : i = E := by omega
        subst i
        clear HA HB hp hi
        have hm := fun W => remapped_any z W
        have hrn : 0 ≤ remapL remapT z := by rw [← HZ.out]; exact remap_nonneg v
        have hg := fun W => refGood_all (remapL remapT z) hrn W
        have hnr : numbR (v : Int) = if goodB (remapL remapT z) then remapL remapT z else 65533 := by rw [HZ.out]; rfl
        obtain ⟨u, hu⟩ : ∃ u, remapL remapT z = u := ⟨_, rfl⟩
        rw [hu] at hm hg hnr
        obtain ⟨g, hgg⟩ : ∃ g, goodB u = g := ⟨_, rfl⟩
        rw [hgg] at hg hnr
        clear hrn
        have HM := hid hm
        have HG := hid hg
        clear hm hg hu hgg
        rcases h59 with ⟨h1, x9, h2, h4, h3⟩ | ⟨h1, x9, h2, h4, h3⟩ | ⟨h1, h3⟩
        all_goals
          cases g
          all_goals simp only [Bool.false_eq_true, if_false, if_true] at hnr
        · have hr := hid (HR.out.shut E v HN.out HL.out HW.out h3)
          rw [hnr] at hr
          clear h3 hnr
          go_wp2_with (first | (go_at_call 119; refine (HM.out _).mono ?_; rintro e W9 ⟨rfl, b9⟩) | (go_at_call 120; refine (HG.out _).mono ?_; rintro e w' ⟨rfl, rfl⟩))
          rw [hr.out]
          refine bodyPost_ret (v := .tuple #[.int .i64 65533, .int .i64 ((E + 1 : Nat) : Int)]) ?_ rfl ⟨rfl, by assumption⟩
          simp [results, Tryz.results94, go_sem]
        · have hr := hid (HR.out.shut E v HN.out HL.out HW.out h3)
          rw [hnr] at hr
          clear h3 hnr
          go_wp2_with (first | (go_at_call 119; refine (HM.out _).mono ?_; rintro e W9 ⟨rfl, b9⟩) | (go_at_call 120; refine (HG.out _).mono ?_; rintro e w' ⟨rfl, rfl⟩))
          rw [hr.out]
          refine bodyPost_ret (v := .tuple #[.int .i64 u, .int .i64 ((E + 1 : Nat) : Int)]) ?_ rfl ⟨rfl, by assumption⟩
          simp [results, Tryz.results94, go_sem]
        · have hr := hid (HR.out.still E v HN.out HL.out HW.out h3)
          rw [hnr] at hr
          clear h3 hnr
          go_wp2_with (first | (go_at_call 119; refine (HM.out _).mono ?_; rintro e W9 ⟨rfl, b9⟩) | (go_at_call 120; refine (HG.out _).mono ?_; rintro e w' ⟨rfl, rfl⟩))
          rw [hr.out]
          refine bodyPost_ret (v := .tuple #[.int .i64 65533, .int .i64 (E : Int)]) ?_ rfl ⟨rfl, by assumption⟩
          simp [results, Tryz.results94, go_sem]
        · have hr := hid (HR.out.still E v HN.out HL.out HW.out h3)
          rw [hnr] at hr
          clear h3 hnr
          go_wp2_with (first | (go_at_call 119; refine (HM.out _).mono ?_; rintro e W9 ⟨rfl, b9⟩) | (go_at_call 120; refine (HG.out _).mono ?_; rintro e w' ⟨rfl, rfl⟩))
          rw [hr.out]
          refine bodyPost_ret (v := .tuple #[.int .i64 u, .int .i64 (E : Int)]) ?_ rfl ⟨rfl, by assumption⟩
          simp [results, Tryz.results94, go_sem]
        · have hr := hid (HR.out.still E v HN.out HL.out HW.out h3)
          rw [hnr] at hr
          clear h3 hnr
          go_wp2_with (first | (go_at_call 119; refine (HM.out _).mono ?_; rintro e W9 ⟨rfl, b9⟩) | (go_at_call 120; refine (HG.out _).mono ?_; rintro e w' ⟨rfl, rfl⟩))
          rw [hr.out]
          refine bodyPost_ret (v := .tuple #[.int .i64 65533, .int .i64 (E : Int)]) ?_ rfl ⟨rfl, by assumption⟩
          simp [results, Tryz.results94, go_sem]
        · have hr := hid (HR.out.still E v HN.out HL.out HW.out h3)
          rw [hnr] at hr
          clear h3 hnr
          go_wp2_with (first | (go_at_call 119; refine (HM.out _).mono ?_; rintro e W9 ⟨rfl, b9⟩) | (go_at_call 120; refine (HG.out _).mono ?_; rintro e w' ⟨rfl, rfl⟩))
          rw [hr.out]
          refine bodyPost_ret (v := .tuple #[.int .i64 u, .int .i64 (E : Int)]) ?_ rfl ⟨rfl, by assumption⟩
          simp [results, Tryz.results94, go_sem]

set_option maxHeartbeats 1000000 in
set_option maxRecDepth 100000 in
theorem number_hexb_long (s t : ByteArray) (r : Nat × Int) (w : World) (hs : 31 < s.size) (hsm : s.size ≤ 140737488355328) (ht : s.extract 0 31 = t) (htz : t.size = 31) (h1 : 1 < t.size) (x1 : UInt8) (hx1 : t[1]'h1 = x1) (q1 : ((x1.toNat : Int) == 120) = false) (q2 : ((x1.toNat : Int) == 88) = true) (hR : DigEndS t.data.toList 2 16 digX r) :
    Calls Tryz.prog 94 #[.string s] w fun e w' => e = .returned (.tuple #[.int .i64 r.2, .int .i64 (r.1 : Int)]) ∧ Below w.heap.size w w' := by
  skip
  have HR := hid hR
  obtain ⟨D, hD⟩ : ∃ D, (t.data.toList.drop 2).takeWhile digX = D := ⟨_, rfl⟩
  obtain ⟨V, hV⟩ : ∃ V, valS 16 0 D = V := ⟨_, rfl⟩
  obtain ⟨E, hE⟩ : ∃ E, 2 + D.length = E := ⟨_, rfl⟩
  have hpa : ∀ W, Calls Tryz.prog 82 #[.string t, .int .i64 2, .string ⟨#[48, 49, 50, 51, 52, 53, 54, 55, 56, 57, 97, 98, 99, 100, 101, 102, 65, 66, 67, 68, 69, 70]⟩] W fun e w' => e = .returned (.int .i64 (E : Int)) ∧ w' = W := by
    intro W
    have := past_any t 2 ⟨#[48, 49, 50, 51, 52, 53, 54, 55, 56, 57, 97, 98, 99, 100, 101, 102, 65, 66, 67, 68, 69, 70]⟩ W (by omega) (by omega) (by decide)
    rw [set_X, hD, hE] at this
    exact this
  have hEs : E ≤ t.size := by
    have := congrArg List.length hD
    have h2 := (List.takeWhile_prefix (p := digX) (l := t.data.toList.drop 2)).length_le
    rw [List.length_drop, ← size_eq] at h2
    omega
  have HP := hid hpa
  have HD := hid hD
  have HV := hid hV
  have HE := hid hE
  clear hR hD hV hpa
  by_cases hz : D = []
  · have hr := HR.out.none (by rw [HD.out]; exact hz)
    have he : E = 2 := by rw [← hE, hz]; rfl
    subst he
    clear hE hz
    go_enter Tryz.func94, Tryz.ntmps94
    go_wp2_with (go_at_call 82; refine (HP.out _).mono ?_; rintro e w' ⟨rfl, rfl⟩)
    rw [hr]
    refine bodyPost_ret (v := .tuple #[.int .i64 0, .int .i64 0]) ?_ rfl ⟨rfl, Below.refl _ _⟩
    simp [results, Tryz.results94, go_sem]
  · have hne : (t.data.toList.drop 2).takeWhile digX ≠ [] := by rw [HD.out]; exact hz
    have hle : 2 + ((t.data.toList.drop 2).takeWhile digX).length = E := by rw [HD.out]; exact hE
    have hva : valS 16 0 ((t.data.toList.drop 2).takeWhile digX) = V := by rw [HD.out]; exact HV.out
    have hFE : 2 ≤ E := by omega
    have hEF : E ≠ 2 := by have := List.length_pos_iff.2 hz; omega
    have hqE : ((E : Int) == 2) = false := beq_eq_false_iff_ne.2 (by omega)
    have h59 : (∃ (h : E < t.size) (x : UInt8), t[E]'h = x ∧ ((x.toNat : Int) == 59) = true ∧ t.data.toList[E]? = some 59) ∨ (∃ (h : E < t.size) (x : UInt8), t[E]'h = x ∧ ((x.toNat : Int) == 59) = false ∧ t.data.toList[E]? ≠ some 59) ∨ (¬ E < t.size ∧ t.data.toList[E]? ≠ some 59) := by
      by_cases h : E < t.size
      · have hl := getElem_list h rfl
        by_cases h2 : t[E]'h = 59
        · exact .inl ⟨h, t[E]'h, rfl, by rw [h2]; rfl, by rw [hl, h2]⟩
        · refine .inr (.inl ⟨h, t[E]'h, rfl, beq_eq_false_iff_ne.2 (fun h3 => h2 (UInt8.toNat_inj.1 (by simp; omega))), ?_⟩)
          rw [hl]
          exact fun h3 => h2 (Option.some.inj h3)
      · exact .inr (.inr ⟨h, by rw [getElem_over h]; simp⟩)
    have HN := hid hne
    have HL := hid hle
    have HW := hid hva
    clear hne hle hva hz hE
    go_enter Tryz.func94, Tryz.ntmps94
    go_wp2_with (go_at_call 82; refine (HP.out _).mono ?_; rintro e W0 ⟨rfl, rfl⟩)
    go_loopw [8, 9] (fun vv iv wr => ∃ (i v : Nat) (z : Int), vv = .int .i64 z ∧ iv = .int .i64 i ∧ i ≤ E ∧ Hid ((v : Int) = z) ∧ 0 ≤ z ∧ z ≤ 20000000 ∧ wr = W0 ∧ Hid (valS 16 v ((t.data.toList.drop i).takeWhile digX) = V) ∧ Hid (i + ((t.data.toList.drop i).takeWhile digX).length = E)) (fun _ iv _ => E - (RowKit.intOf iv).toNat)
    case atStart => exact ⟨2, 0, 0, rfl, rfl, by omega, hid rfl, by omega, by omega, rfl, HW.out, HL.out⟩
    case round =>
      obtain ⟨i, v, z, rfl, rfl, hi, HZ, hz0, hz1, rfl, HA, HB⟩ := hrel
      by_cases hp : i < E
      · have hps : i < t.size := by omega
        have hnn : (t.data.toList.drop i).takeWhile digX ≠ [] := by
          intro h0
          have := HB.out
          rw [h0] at this
          simp at this
          omega
        obtain ⟨c, hc, hcd⟩ := while_head hnn
        obtain ⟨x, hx⟩ : ∃ x, t[i]'hps = x := ⟨_, rfl⟩
        obtain rfl : x = c := by rw [getElem_list hps hx] at hc; exact Option.some.inj hc
        have hw := while_step hc hcd
        have hxx := fun W => hex_u8 x hcd W
        have hlt := digV_lt x hcd
        have HA2 : Hid (valS 16 (if v < 1114112 then v * 16 + digV x else v) ((t.data.toList.drop (i + 1)).takeWhile digX) = V) := by
          have := HA.out
          rw [hw] at this
          unfold valS at this ⊢
          rw [List.foldl_cons] at this
          exact this
        have HB2 : Hid (i + 1 + ((t.data.toList.drop (i + 1)).takeWhile digX).length = E) := by
          have := HB.out
          rw [hw, List.length_cons] at this
          exact hid (by omega)
        generalize digV x = d at hxx hlt HA2
        have HX := hid hxx
        clear hxx hw hcd hc hnn HA HB
        by_cases hv2 : z < 1114112
        · rw [if_pos (by have := HZ.out; omega)] at HA2
          go_wp2_with (go_at_call 118; refine (HX.out _).mono ?_; rintro e w' ⟨rfl, rfl⟩)
          go_roundw
          case rel => exact ⟨i + 1, v * 16 + d, z * 16 + d, rfl, rfl, by omega, hid (by have := HZ.out; omega), by omega, by omega, by first | rfl | trivial, HA2, HB2⟩
          case measure => simp [RowKit.intOf]; omega
        · rw [if_neg (by have := HZ.out; omega)] at HA2
          go_wp2_with (go_at_call 118; refine (HX.out _).mono ?_; rintro e w' ⟨rfl, rfl⟩)
          go_roundw
          case rel => exact ⟨i + 1, v, z, rfl, rfl, by omega, HZ, by omega, by omega, by first | rfl | trivial, HA2, HB2⟩
          case measure => simp [RowKit.intOf]; omega
      · obtain rfl : v = V := by
          have h0 : ((t.data.toList.drop i).takeWhile digX) = [] := List.eq_nil_of_length_eq_zero (by have := HB.out; omega)
          have := HA.out
          rw [h0] at this
          exact this
        have hiE : i = E := by omega
        subst i
        clear HA HB hp hi
        have hm := fun W => remapped_any z W
        have hrn : 0 ≤ remapL remapT z := by rw [← HZ.out]; exact remap_nonneg v
        have hg := fun W => refGood_all (remapL remapT z) hrn W
        have hnr : numbR (v : Int) = if goodB (remapL remapT z) then remapL remapT z else 65533 := by rw [HZ.out]; rfl
        obtain ⟨u, hu⟩ : ∃ u, remapL remapT z = u := ⟨_, rfl⟩
        rw [hu] at hm hg hnr
        obtain ⟨g, hgg⟩ : ∃ g, goodB u = g := ⟨_, rfl⟩
        rw [hgg] at hg hnr
        clear hrn
        have HM := hid hm
        have HG := hid hg
        clear hm hg hu hgg
        rcases h59 with ⟨h1, x9, h2, h4, h3⟩ | ⟨h1, x9, h2, h4, h3⟩ | ⟨h1, h3⟩
        all_goals
          cases g
          all_goals simp only [Bool.false_eq_true, if_false, if_true] at hnr
        · have hr := hid (HR.out.shut E v HN.out HL.out HW.out h3)
          rw [hnr] at hr
          clear h3 hnr
          go_wp2_with (first | (go_at_call 119; refine (HM.out _).mono ?_; rintro e W9 ⟨rfl, b9⟩) | (go_at_call 120; refine (HG.out _).mono ?_; rintro e w' ⟨rfl, rfl⟩))
          rw [hr.out]
          refine bodyPost_ret (v := .tuple #[.int .i64 65533, .int .i64 ((E + 1 : Nat) : Int)]) ?_ rfl ⟨rfl, by assumption⟩
          simp [results, Tryz.results94, go_sem]
        · have hr := hid (HR.out.shut E v HN.out HL.out HW.out h3)
          rw [hnr] at hr
          clear h3 hnr
          go_wp2_with (first | (go_at_call 119; refine (HM.out _).mono ?_; rintro e W9 ⟨rfl, b9⟩) | (go_at_call 120; refine (HG.out _).mono ?_; rintro e w' ⟨rfl, rfl⟩))
          rw [hr.out]
          refine bodyPost_ret (v := .tuple #[.int .i64 u, .int .i64 ((E + 1 : Nat) : Int)]) ?_ rfl ⟨rfl, by assumption⟩
          simp [results, Tryz.results94, go_sem]
        · have hr := hid (HR.out.still E v HN.out HL.out HW.out h3)
          rw [hnr] at hr
          clear h3 hnr
          go_wp2_with (first | (go_at_call 119; refine (HM.out _).mono ?_; rintro e W9 ⟨rfl, b9⟩) | (go_at_call 120; refine (HG.out _).mono ?_; rintro e w' ⟨rfl, rfl⟩))
          rw [hr.out]
          refine bodyPost_ret (v := .tuple #[.int .i64 65533, .int .i64 (E : Int)]) ?_ rfl ⟨rfl, by assumption⟩
          simp [results, Tryz.results94, go_sem]
        · have hr := hid (HR.out.still E v HN.out HL.out HW.out h3)
          rw [hnr] at hr
          clear h3 hnr
          go_wp2_with (first | (go_at_call 119; refine (HM.out _).mono ?_; rintro e W9 ⟨rfl, b9⟩) | (go_at_call 120; refine (HG.out _).mono ?_; rintro e w' ⟨rfl, rfl⟩))
          rw [hr.out]
          refine bodyPost_ret (v := .tuple #[.int .i64 u, .int .i64 (E : Int)]) ?_ rfl ⟨rfl, by assumption⟩
          simp [results, Tryz.results94, go_sem]
        · have hr := hid (HR.out.still E v HN.out HL.out HW.out h3)
          rw [hnr] at hr
          clear h3 hnr
          go_wp2_with (first | (go_at_call 119; refine (HM.out _).mono ?_; rintro e W9 ⟨rfl, b9⟩) | (go_at_call 120; refine (HG.out _).mono ?_; rintro e w' ⟨rfl, rfl⟩))
          rw [hr.out]
          refine bodyPost_ret (v := .tuple #[.int .i64 65533, .int .i64 (E : Int)]) ?_ rfl ⟨rfl, by assumption⟩
          simp [results, Tryz.results94, go_sem]
        · have hr := hid (HR.out.still E v HN.out HL.out HW.out h3)
          rw [hnr] at hr
          clear h3 hnr
          go_wp2_with (first | (go_at_call 119; refine (HM.out _).mono ?_; rintro e W9 ⟨rfl, b9⟩) | (go_at_call 120; refine (HG.out _).mono ?_; rintro e w' ⟨rfl, rfl⟩))
          rw [hr.out]
          refine bodyPost_ret (v := .tuple #[.int .i64 u, .int .i64 (E : Int)]) ?_ rfl ⟨rfl, by assumption⟩
          simp [results, Tryz.results94, go_sem]
end Go.Proofs.YtchhlocibijekaaGreatDoor

/-
  The two walks of a numeric reference, each as one statement.
-/
namespace Go.Proofs.YtchhlocibijekaaGreatDoor
open Go.RowKit Go.Lib

theorem hexN_at {N : List UInt8} {x : UInt8} (h : N[1]? = some x) : hexN N = (x == 120 || x == 88) := by
  unfold hexN
  rw [h]
  simp
theorem hexN_one {N : List UInt8} (h : N.length = 1) : hexN N = false := by
  unfold hexN
  rw [List.getElem?_eq_none (by omega)]
  rfl
theorem numL_one {N : List UInt8} (h : N.length = 1) : numL N = (0, 0) := by
  have hd : digsN N = [] := by
    unfold digsN fromN
    rw [hexN_one h, if_neg (by simp), List.drop_of_length_le (by omega)]
    rfl
  unfold numL
  rw [if_pos hd]
theorem digN_hex {N : List UInt8} (h : hexN N = true) : fromN N = 2 ∧ baseN N = 16 ∧ digN N = digX := by
  unfold fromN baseN digN
  rw [h]
  simp
theorem digN_dec {N : List UInt8} (h : hexN N = false) : fromN N = 1 ∧ baseN N = 10 ∧ digN N = digD := by
  unfold fromN baseN digN
  rw [h]
  simp
theorem int_beq (x : UInt8) (k : UInt8) : ((x.toNat : Int) == (k.toNat : Int)) = (x == k) := by
  rw [Bool.eq_iff_iff, beq_iff_eq, beq_iff_eq]
  constructor
  · intro h; exact UInt8.toNat_inj.1 (by omega)
  · rintro rfl; rfl
theorem take_extract (s : ByteArray) (k : Nat) : (s.extract 0 k).data.toList = s.data.toList.take k := by
  simp

theorem findNumber_any (s : ByteArray) (w : World) (hs : s.size ≤ 31) (h1 : 1 ≤ s.size) (hT : ChTabs w) :
    Calls Tryz.prog 89 #[.string s] w fun e w' => e = .returned (.tuple #[.int .i64 ((numL s.data.toList).1 : Int), .int .i32 (numL s.data.toList).2]) ∧ w' = w := by
  by_cases h2 : 1 < s.size
  · have hx := getElem_list h2 rfl
    have hh := hexN_at hx
    have hl := low_or ((s[1]'h2).toNat : Int)
    have he := digEnd s.data.toList
    have i1 := int_beq (s[1]'h2) 120
    have i2 := int_beq (s[1]'h2) 88
    cases hb : hexN s.data.toList
    · obtain ⟨e1, e2, e3⟩ := digN_dec hb
      rw [e1, e2, e3] at he
      refine findNumber_dec s _ w hs h1 h2 (s[1]'h2) rfl ?_ he hT
      rw [hb] at hh
      have hh := Bool.or_eq_false_iff.1 hh.symm
      rw [hh.1] at i1
      rw [hh.2] at i2
      have i1 := beq_eq_false_iff_ne.1 i1
      have i2 := beq_eq_false_iff_ne.1 i2
      refine beq_eq_false_iff_ne.2 ?_
      change ¬ _ = ((120 : Nat) : Int) at i1
      change ¬ _ = ((88 : Nat) : Int) at i2
      omega
    · obtain ⟨e1, e2, e3⟩ := digN_hex hb
      rw [e1, e2, e3] at he
      refine findNumber_hex s _ w hs h1 h2 (s[1]'h2) rfl ?_ he hT
      rw [hb] at hh
      refine beq_iff_eq.2 ?_
      rcases Bool.or_eq_true_iff.1 hh.symm with h | h
      · rw [h] at i1
        have i1 := beq_iff_eq.1 i1
        change _ = ((120 : Nat) : Int) at i1
        omega
      · rw [h] at i2
        have i2 := beq_iff_eq.1 i2
        change _ = ((88 : Nat) : Int) at i2
        omega
  · rw [numL_one (by rw [← size_eq]; omega)]
    exact findNumber_one s w (by omega)

theorem number_any (s : ByteArray) (w : World) (h1 : 1 ≤ s.size) (hm : s.size ≤ 140737488355328) :
    Calls Tryz.prog 94 #[.string s] w fun e w' => e = .returned (.tuple #[.int .i64 (numL (s.data.toList.take 31)).2, .int .i64 ((numL (s.data.toList.take 31)).1 : Int)]) ∧ Below w.heap.size w w' := by
  by_cases hs : s.size ≤ 31
  · rw [List.take_of_length_le (by rw [← size_eq]; omega)]
    by_cases h2 : 1 < s.size
    · have hx := getElem_list h2 rfl
      have hh := hexN_at hx
      have he := digEndS s.data.toList
      have i1 := int_beq (s[1]'h2) 120
      have i2 := int_beq (s[1]'h2) 88
      rw [show ((120 : UInt8).toNat : Int) = 120 from rfl] at i1
      rw [show ((88 : UInt8).toNat : Int) = 88 from rfl] at i2
      cases hb : hexN s.data.toList
      · obtain ⟨e1, e2, e3⟩ := digN_dec hb
        rw [e1, e2, e3] at he
        rw [hb] at hh
        have hh := Bool.or_eq_false_iff.1 hh.symm
        rw [hh.1] at i1
        rw [hh.2] at i2
        exact number_dec s _ w hs h2 _ rfl i1 i2 he
      · obtain ⟨e1, e2, e3⟩ := digN_hex hb
        rw [e1, e2, e3] at he
        rw [hb] at hh
        cases h : (s[1]'h2 == 120)
        · rw [h, Bool.false_or] at hh
          rw [h] at i1
          rw [← hh] at i2
          exact number_hexb s _ w hs h2 _ rfl i1 i2 he
        · rw [h] at i1
          exact number_hexa s _ w hs h2 _ rfl i1 he
    · rw [numL_one (by rw [← size_eq]; omega)]
      refine (number_one s w (by omega)).mono ?_
      rintro e w' ⟨rfl, rfl⟩
      exact ⟨rfl, Below.refl _ _⟩
  · obtain ⟨t, ht⟩ : ∃ t, s.extract 0 31 = t := ⟨_, rfl⟩
    have htz : t.size = 31 := by rw [← ht, ByteArray.size_extract]; omega
    have htl : t.data.toList = s.data.toList.take 31 := by rw [← ht]; exact take_extract s 31
    rw [← htl]
    have h2 : 1 < t.size := by omega
    have hx := getElem_list h2 rfl
    have hh := hexN_at hx
    have he := digEndS t.data.toList
    have i1 := int_beq (t[1]'h2) 120
    have i2 := int_beq (t[1]'h2) 88
    rw [show ((120 : UInt8).toNat : Int) = 120 from rfl] at i1
    rw [show ((88 : UInt8).toNat : Int) = 88 from rfl] at i2
    cases hb : hexN t.data.toList
    · obtain ⟨e1, e2, e3⟩ := digN_dec hb
      rw [e1, e2, e3] at he
      rw [hb] at hh
      have hh := Bool.or_eq_false_iff.1 hh.symm
      rw [hh.1] at i1
      rw [hh.2] at i2
      exact number_dec_long s t _ w (by omega) hm ht htz h2 _ rfl i1 i2 he
    · obtain ⟨e1, e2, e3⟩ := digN_hex hb
      rw [e1, e2, e3] at he
      rw [hb] at hh
      cases h : (t[1]'h2 == 120)
      · rw [h, Bool.false_or] at hh
        rw [h] at i1
        rw [← hh] at i2
        exact number_hexb_long s t _ w (by omega) hm ht htz h2 _ rfl i1 i2 he
      · rw [h] at i1
        exact number_hexa_long s t _ w (by omega) hm ht htz h2 _ rfl i1 he
end Go.Proofs.YtchhlocibijekaaGreatDoor

/-
  scrubref.named: its walk.
-/
namespace Go.Proofs.YtchhlocibijekaaGreatDoor
open Go.RowKit Go.Lib

theorem either_small : ∀ t ∈ eitherT, 0 < t.1.length ∧ t.1.length ≤ 20 := by decide +kernel
theorem closed_small : ∀ t ∈ closedT, 0 < t.1.length ∧ t.1.length ≤ 20 := by decide +kernel
theorem map_at {f : List UInt8 × Int → Value} {T : List (List UInt8 × Int)} {k : Nat} {x : List UInt8 × Int} (h : T[k]? = some x) : (T.map f)[k]? = some (f x) := by
  rw [List.getElem?_map, h]; rfl
set_option maxHeartbeats 2000000 in
set_option maxRecDepth 100000 in
theorem named_any (s : ByteArray) (w : World) (hT : RefTabs w) :
    Calls Tryz.prog 95 #[.string s] w fun e w' => e = .returned (.tuple #[.string ⟨(name2 s.data.toList eitherT closedT).1.toArray⟩, .int .i64 (name2 s.data.toList eitherT closedT).2]) ∧ w' = w := by
  have HT := hid hT
  clear hT
  obtain ⟨A, hA⟩ : ∃ A, eitherT.foldl (stepE s.data.toList) ([], 0) = A := ⟨_, rfl⟩
  obtain ⟨R, hR⟩ : ∃ R, name2 s.data.toList eitherT closedT = R := ⟨_, rfl⟩
  rw [hR]
  have hR2 : closedT.foldl (stepC s.data.toList) A = R := by rw [← hA]; exact hR
  obtain ⟨A1, A2⟩ := A
  obtain ⟨R1, R2⟩ := R
  have HA := hid (fun (_ : True) => hA)
  have HR := hid (fun (_ : True) => hR2)
  clear hA hR hR2
  go_enter Tryz.func95, Tryz.ntmps95
  go_wp2
  go_loopw [4, 5, 6] (fun bv cv iv wr => ∃ (k : Nat) (b : ByteArray) (c : Int), bv = .string b ∧ cv = .int .i64 c ∧ iv = .int .i64 k ∧ k ≤ 15 ∧ b.size ≤ 100 ∧ wr = w ∧ Hid (True → (eitherT.drop k).foldl (stepE s.data.toList) (b.data.toList, c) = (A1, A2))) (fun _ _ iv _ => 15 - (RowKit.intOf iv).toNat)
  case atStart => exact ⟨0, ⟨#[]⟩, 0, rfl, rfl, rfl, by omega, by decide, rfl, HA.out⟩
  case round =>
    obtain ⟨k, b, c, rfl, rfl, rfl, hk, hb, rfl, HB⟩ := hrel
    by_cases hp : k < 15
    · obtain ⟨x, hx⟩ : ∃ x, eitherT[k]? = some x := ⟨_, List.getElem?_eq_getElem hp⟩
      obtain ⟨h1, h2⟩ := List.getElem?_eq_some_iff.1 hx
      have hd := List.drop_eq_getElem_cons h1
      rw [h2] at hd
      have hsm := either_small x (by rw [← h2]; exact List.getElem_mem h1)
      have cn := HT.out.eitherN k (strV x.1) (map_at hx)
      have cc := HT.out.eitherC k (.int .i64 x.2) (map_at hx)
      rw [Nat.zero_add] at cn cc
      have hst := HB.out trivial
      rw [hd, List.foldl_cons] at hst
      obtain ⟨N, C⟩ := x
      simp only at hsm cn cc
      unfold strV at cn
      obtain ⟨bN, hbN⟩ : ∃ bN : ByteArray, (⟨N.toArray⟩ : ByteArray) = bN := ⟨_, rfl⟩
      rw [hbN] at cn
      have hbl : bN.data.toList = N := by rw [← hbN]
      have hbz : bN.size = N.length := by rw [size_eq, hbl]
      obtain ⟨cN, hcN⟩ : ∃ cN : ByteArray, bN ++ (⟨#[59]⟩ : ByteArray) = cN := ⟨_, rfl⟩
      have hcl : cN.data.toList = N ++ [59] := by rw [← hcN, ByteArray.data_append, Array.toList_append, hbl]
      have hcz : cN.size = N.length + 1 := by rw [size_eq, hcl]; simp
      have hg1 := fun W => begins_any s cN W
      have hg2 := fun W => begins_any s bN W
      rw [hcl] at hg1
      rw [hbl] at hg2
      have hone : stepE s.data.toList (b.data.toList, c) (N, C) = if (N ++ [59]).isPrefixOf s.data.toList = true then (if b.size < N.length + 1 then (N ++ [59], C) else (b.data.toList, c)) else if N.isPrefixOf s.data.toList = true ∧ b.size < N.length then (N, C) else (b.data.toList, c) := by
        unfold stepE
        simp only [List.isPrefixOf_iff_prefix]
        by_cases hh : N ++ [59] <+: s.data.toList
        · simp only [hh, if_true, true_and, List.length_append, List.length_singleton, ← size_eq]
        · simp only [hh, if_false, ← size_eq]
      rw [hone] at hst
      generalize (N ++ [59]).isPrefixOf s.data.toList = b1 at hst hg1
      generalize N.isPrefixOf s.data.toList = b2 at hst hg2
      have HS := hid (fun (_ : True) => hst)
      have G1 := hid hg1
      have G2 := hid hg2
      have HL := hid hbl
      have HC := hid hcl
      clear hst hg1 hg2 hbN hx hd h1 h2 HB hone hbl hcl
      cases b1
      · cases b2
        · go_wp2_with (first | (go_at_call_of 73 (Value.string cN); refine (G1.out _).mono ?_; rintro e w' ⟨rfl, rfl⟩) | (go_at_call_of 73 (Value.string bN); refine (G2.out _).mono ?_; rintro e w' ⟨rfl, rfl⟩))
          go_roundw
          case rel =>
            refine ⟨k + 1, b, c, rfl, rfl, rfl, by omega, hb, by first | rfl | trivial, ?_⟩
            have := HS.out
            simpa [Hid] using this
          case measure => simp [RowKit.intOf]; omega
        · by_cases hlt : b.size < bN.size
          · go_wp2_with (first | (go_at_call_of 73 (Value.string cN); refine (G1.out _).mono ?_; rintro e w' ⟨rfl, rfl⟩) | (go_at_call_of 73 (Value.string bN); refine (G2.out _).mono ?_; rintro e w' ⟨rfl, rfl⟩))
            go_roundw
            case rel =>
              refine ⟨k + 1, bN, C, rfl, rfl, rfl, by omega, by omega, by first | rfl | trivial, ?_⟩
              have := HS.out trivial
              rw [if_neg (by simp), if_pos ⟨trivial, by omega⟩, ← HL.out] at this
              exact hid (fun _ => this)
            case measure => simp [RowKit.intOf]; omega
          · go_wp2_with (first | (go_at_call_of 73 (Value.string cN); refine (G1.out _).mono ?_; rintro e w' ⟨rfl, rfl⟩) | (go_at_call_of 73 (Value.string bN); refine (G2.out _).mono ?_; rintro e w' ⟨rfl, rfl⟩))
            go_roundw
            case rel =>
              refine ⟨k + 1, b, c, rfl, rfl, rfl, by omega, hb, by first | rfl | trivial, ?_⟩
              have := HS.out trivial
              rw [if_neg (by simp), if_neg (fun h => hlt (by omega))] at this
              exact hid (fun _ => this)
            case measure => simp [RowKit.intOf]; omega
      · by_cases hlt : b.size < cN.size
        · go_wp2_with (first | (go_at_call_of 73 (Value.string cN); refine (G1.out _).mono ?_; rintro e w' ⟨rfl, rfl⟩))
          go_roundw
          case rel =>
            refine ⟨k + 1, cN, C, rfl, rfl, rfl, by omega, by omega, by first | rfl | trivial, ?_⟩
            have := HS.out trivial
            rw [if_pos trivial, if_pos (by omega), ← HC.out] at this
            exact hid (fun _ => this)
          case measure => simp [RowKit.intOf]; omega
        · go_wp2_with (first | (go_at_call_of 73 (Value.string cN); refine (G1.out _).mono ?_; rintro e w' ⟨rfl, rfl⟩))
          go_roundw
          case rel =>
            refine ⟨k + 1, b, c, rfl, rfl, rfl, by omega, hb, by first | rfl | trivial, ?_⟩
            have := HS.out trivial
            rw [if_pos trivial, if_neg (by omega)] at this
            exact hid (fun _ => this)
          case measure => simp [RowKit.intOf]; omega
    · have hend : (b.data.toList, c) = (A1, A2) := by
        have := HB.out trivial
        rw [List.drop_of_length_le (show eitherT.length ≤ k by have : eitherT.length = 15 := rfl; omega)] at this
        exact this
      obtain ⟨e1, rfl⟩ := Prod.mk.inj hend
      have HE := hid (fun (_ : True) => e1)
      clear hend e1 HB
      go_wp2
      go_loopw [4, 5, 8] (fun bv cv iv wx => ∃ (k : Nat) (b : ByteArray) (c : Int), bv = .string b ∧ cv = .int .i64 c ∧ iv = .int .i64 k ∧ k ≤ 24 ∧ b.size ≤ 100 ∧ wx = wr ∧ Hid (True → (closedT.drop k).foldl (stepC s.data.toList) (b.data.toList, c) = (R1, R2))) (fun _ _ iv _ => 24 - (RowKit.intOf iv).toNat)
      case atStart => exact ⟨0, b, c, rfl, rfl, rfl, by omega, hb, rfl, hid (fun _ => by rw [HE.out trivial]; exact HR.out trivial)⟩
      case round =>
        clear HE hp hk hb
        obtain ⟨k, b, d, rfl, rfl, rfl, hk, hb, rfl, HB⟩ := hrel
        by_cases hp : k < 24
        · obtain ⟨x, hx⟩ : ∃ x, closedT[k]? = some x := ⟨_, List.getElem?_eq_getElem hp⟩
          obtain ⟨h1, h2⟩ := List.getElem?_eq_some_iff.1 hx
          have hd := List.drop_eq_getElem_cons h1
          rw [h2] at hd
          have hsm := closed_small x (by rw [← h2]; exact List.getElem_mem h1)
          have cn := HT.out.closedN k (strV x.1) (map_at hx)
          have cc := HT.out.closedC k (.int .i64 x.2) (map_at hx)
          rw [Nat.zero_add] at cn cc
          have hst := HB.out trivial
          rw [hd, List.foldl_cons] at hst
          obtain ⟨N, C⟩ := x
          simp only at hsm cn cc
          unfold strV at cn
          obtain ⟨bN, hbN⟩ : ∃ bN : ByteArray, (⟨N.toArray⟩ : ByteArray) = bN := ⟨_, rfl⟩
          rw [hbN] at cn
          have hbl : bN.data.toList = N := by rw [← hbN]
          have hbz : bN.size = N.length := by rw [size_eq, hbl]
          have hg2 := fun W => begins_any s bN W
          rw [hbl] at hg2
          have hone : stepC s.data.toList (b.data.toList, d) (N, C) = if N.isPrefixOf s.data.toList = true ∧ b.size < N.length then (N, C) else (b.data.toList, d) := by
            unfold stepC
            simp only [List.isPrefixOf_iff_prefix, ← size_eq]
          rw [hone] at hst
          generalize N.isPrefixOf s.data.toList = b2 at hst hg2
          have HS := hid (fun (_ : True) => hst)
          have G2 := hid hg2
          have HL := hid hbl
          clear hst hg2 hbN hx hd h1 h2 HB hone hbl
          cases b2
          · go_wp2_with (go_at_call 73; refine (G2.out _).mono ?_; rintro e w' ⟨rfl, rfl⟩)
            go_roundw
            case rel =>
              refine ⟨k + 1, b, d, rfl, rfl, rfl, by omega, hb, by first | rfl | trivial, ?_⟩
              have := HS.out
              simpa [Hid] using this
            case measure => simp [RowKit.intOf]; omega
          · by_cases hlt : b.size < bN.size
            · go_wp2_with (go_at_call 73; refine (G2.out _).mono ?_; rintro e w' ⟨rfl, rfl⟩)
              go_roundw
              case rel =>
                refine ⟨k + 1, bN, C, rfl, rfl, rfl, by omega, by omega, by first | rfl | trivial, ?_⟩
                have := HS.out trivial
                rw [if_pos ⟨trivial, by omega⟩, ← HL.out] at this
                exact hid (fun _ => this)
              case measure => simp [RowKit.intOf]; omega
            · go_wp2_with (go_at_call 73; refine (G2.out _).mono ?_; rintro e w' ⟨rfl, rfl⟩)
              go_roundw
              case rel =>
                refine ⟨k + 1, b, d, rfl, rfl, rfl, by omega, hb, by first | rfl | trivial, ?_⟩
                have := HS.out trivial
                rw [if_neg (fun h => hlt (by omega))] at this
                exact hid (fun _ => this)
              case measure => simp [RowKit.intOf]; omega
        · have hend : (b.data.toList, d) = (R1, R2) := by
            have := HB.out trivial
            rw [List.drop_of_length_le (show closedT.length ≤ k by have : closedT.length = 24 := rfl; omega)] at this
            exact this
          obtain ⟨rfl, rfl⟩ := Prod.mk.inj hend
          clear hend HB HR
          go_wp2
          refine bodyPost_ret (v := .tuple #[.string b, .int .i64 d]) ?_ rfl ⟨rfl, rfl⟩
          simp [results, Tryz.results95, go_sem]
end Go.Proofs.YtchhlocibijekaaGreatDoor

/-
  chars.findName: its walk.
-/
namespace Go.Proofs.YtchhlocibijekaaGreatDoor
open Go.RowKit Go.Lib Go.Great

theorem names_len : namesV.length = 78 := by decide +kernel
def allT : List (List UInt8 × Int) := eitherT ++ closedT
theorem flat_at (f : List UInt8 × Int → Value) (g : List UInt8 × Int → Value) : ∀ (T : List (List UInt8 × Int)) (k : Nat) (x : List UInt8 × Int), T[k]? = some x → ((T.flatMap fun t => [f t, g t]).drop (k * 2)).take 2 = [f x, g x]
  | [], k, x, h => by simp at h
  | t :: T, 0, x, h => by
    simp only [List.getElem?_cons_zero, Option.some.injEq] at h
    subst h
    rfl
  | t :: T, k + 1, x, h => by
    rw [List.getElem?_cons_succ] at h
    have := flat_at f g T k x h
    rw [show (k + 1) * 2 = k * 2 + 2 from by omega, List.flatMap_cons, ← List.drop_drop]
    rw [List.drop_drop, show k * 2 + 2 = 2 + k * 2 from by omega, ← List.drop_drop]
    exact this
theorem names_at (k : Nat) (x : List UInt8 × Int) (h : allT[k]? = some x) : (namesV.drop (k * 2)).take 2 = [strV x.1, .int .i32 x.2] :=
  flat_at (fun t => strV t.1) (fun t => .int .i32 t.2) allT k x h
theorem index_names (k : Nat) (x : List UInt8 × Int) (h : allT[k]? = some x) (W : World) :
    (Instr.index 123 (.agg namesV.toArray) (.int .i64 (k : Int))).run Tryz.prog W = .ok (.agg #[strV x.1, .int .i32 x.2]) W := by
  have h39 : k < 39 := (List.getElem?_eq_some_iff.1 h).1
  have hn : (0 ≤ (k : Int) ∧ (k : Int) < 39) := by omega
  have ha := names_at k x h
  simp [Instr.index, run_underlying Tryz.underlying123, asIntOf, h39, go_sem, ha]
theorem all_small : ∀ t ∈ allT, 0 < t.1.length ∧ t.1.length ≤ 100 := by decide +kernel
theorem below_drewN {n : Nat} {w w' : World} (h : Below n w w') (k : Nat) : Below n w (w'.drewN k) := ⟨h.os, h.tape, h.output, h.size, h.block⟩
set_option maxHeartbeats 1000000 in
set_option maxRecDepth 100000 in
theorem findName_any (s : ByteArray) (w : World) (_hs : s.size ≤ 140737488355328) (hT : ChTabs w) :
    Calls Tryz.prog 90 #[.string s] w fun e w' => e = .returned (.tuple #[.int .i64 ((nameL s.data.toList).1 : Int), .int .i32 (nameL s.data.toList).2]) ∧ Below w.heap.size w w' := by
  have HT := hid hT
  clear hT
  obtain ⟨R, hR⟩ : ∃ R, nameL s.data.toList = R := ⟨_, rfl⟩
  rw [hR]
  obtain ⟨R1, R2⟩ := R
  have HR := hid (fun (_ : True) => hR)
  clear hR
  go_enter Tryz.func90, Tryz.ntmps90
  go_upto_region 1 with fail
  apply wp_region_lit
  refine wpList_load_mid rfl 123 _ rfl 0 0 rfl namesV (.array 39 122) HT.out.names Tryz.underlying123 rfl (by rw [names_len]; kernel_rfl) ?_
  go_wp2
  go_loopw [2, 3, 7] (fun lv cv iv wr => ∃ (k l : Nat) (c : Int), iv = .int .i64 k ∧ k ≤ 39 ∧ lv = .int .i64 l ∧ l ≤ 100 ∧ l ≤ s.size ∧ cv = .int .i32 c ∧ Below w.heap.size w wr ∧ Hid ((allT.drop k).foldl (step1 s.data.toList) (l, c) = name1 s.data.toList allT)) (fun _ _ iv _ => 39 - (RowKit.intOf iv).toNat)
  case atStart => exact ⟨0, 0, 0, rfl, by omega, rfl, by omega, Nat.zero_le _, rfl, Below.refl _ _, hid rfl⟩
  case round =>
    obtain ⟨k, l, c, rfl, hk, rfl, hl, hls, rfl, hbw, HA⟩ := hrel
    by_cases hp : k < 39
    · obtain ⟨x, hx⟩ : ∃ x, allT[k]? = some x := ⟨_, List.getElem?_eq_getElem hp⟩
      obtain ⟨h1, h2⟩ := List.getElem?_eq_some_iff.1 hx
      have hd := List.drop_eq_getElem_cons h1
      rw [h2] at hd
      have hsm := all_small x (by rw [← h2]; exact List.getElem_mem h1)
      have hix := fun W => index_names k x hx W
      have hst := HA.out
      rw [hd, List.foldl_cons] at hst
      have hpf := fun W => Tryz.strings_HasPrefix s ⟨x.1.toArray⟩ W
      rw [show (⟨x.1.toArray⟩ : ByteArray).data.toList = x.1 from rfl] at hpf
      have hxz : (⟨x.1.toArray⟩ : ByteArray).size = x.1.length := by simp [ByteArray.size]
      obtain ⟨N, C⟩ := x
      simp only at hsm hpf hxz
      have hone : step1 s.data.toList (l, c) (N, C) = if l < N.length ∧ N.isPrefixOf s.data.toList = true then (N.length, C) else (l, c) := by unfold step1; simp only [List.isPrefixOf_iff_prefix]
      rw [hone] at hst
      clear hone
      unfold Lib.hasPrefix at hpf
      have hbs : N.isPrefixOf s.data.toList = true → N.length ≤ s.size := fun h => by rw [size_eq]; exact (List.isPrefixOf_iff_prefix.1 h).length_le
      generalize N.isPrefixOf s.data.toList = b at hpf hst hbs
      unfold strV at hix
      simp only at hix
      obtain ⟨bN, hbN⟩ : ∃ bN : ByteArray, (⟨N.toArray⟩ : ByteArray) = bN := ⟨_, rfl⟩
      rw [hbN] at hix hpf hxz
      have HI := hid hix
      have HP := hid hpf
      have HS := hid hst
      clear hst hpf hbN hx hd h1 h2 HA
      by_cases hlt : l < N.length
      · cases b
        · go_wp2_with (go_at_call 88; refine (HP.out _).mono ?_; rintro e w' ⟨rfl, rfl⟩)
          go_roundw
          case rel =>
            refine ⟨k + 1, l, c, rfl, by omega, rfl, hl, hls, rfl, hbw.alloc hbw.size _, ?_⟩
            have := HS.out
            rw [if_neg (by simp)] at this
            exact this
          case measure => simp [RowKit.intOf]; omega
        · go_wp2_with (go_at_call 88; refine (HP.out _).mono ?_; rintro e w' ⟨rfl, rfl⟩)
          go_quiet (fail)
          all_goals go_wp2
          all_goals go_roundw
          case rel =>
            refine ⟨k + 1, N.length, C, rfl, by omega, by first | rfl | rw [hxz], hsm.2, by simpa using hbs, rfl, below_drewN (hbw.alloc hbw.size _) _, ?_⟩
            have := HS.out
            rw [if_pos (by simp [hlt])] at this
            exact this
          case measure => simp [RowKit.intOf]; omega
      · go_wp2
        go_roundw
        case rel =>
          refine ⟨k + 1, l, c, rfl, by omega, rfl, hl, hls, rfl, hbw.alloc hbw.size _, ?_⟩
          have := HS.out
          rw [if_neg (fun h => hlt h.1)] at this
          exact this
        case measure => simp [RowKit.intOf]; omega
    · have hend : (l, c) = name1 s.data.toList allT := by
        have := HA.out
        rw [List.drop_of_length_le (show allT.length ≤ k by have : allT.length = 39 := rfl; omega)] at this
        exact this
      have hN : (R1, R2) = shut1 s.data.toList (l, c) := by rw [← HR.out trivial, hend]; rfl
      clear hend HA
      by_cases h0 : l = 0
      · have hr : shut1 s.data.toList (l, c) = (0, c) := by subst h0; unfold shut1; rw [if_neg (by simp)]
        obtain ⟨rfl, rfl⟩ := Prod.mk.inj (hN.trans hr)
        subst h0
        clear hr hN
        go_wp2
        refine bodyPost_ret (v := .tuple #[.int .i64 0, .int .i32 R2]) ?_ rfl ⟨rfl, hbw⟩
        simp [results, Tryz.results90, go_sem]
      · obtain ⟨m, rfl⟩ : ∃ m, l = m + 1 := ⟨l - 1, by omega⟩
        have hm : m < s.size := by omega
        obtain ⟨x, hx⟩ : ∃ x, s[m]'hm = x := ⟨_, rfl⟩
        have hxl := getElem_list hm hx
        by_cases hx9 : x = 59
        · have hr : shut1 s.data.toList (m + 1, c) = (m + 1, c) := by
            unfold shut1
            rw [if_neg]
            intro h
            exact h.2.1 (by simp only [Nat.add_sub_cancel]; rw [hxl, hx9])
          obtain ⟨rfl, rfl⟩ := Prod.mk.inj (hN.trans hr)
          have q : ((x.toNat : Int) != 59) = false := by rw [hx9]; rfl
          clear hr hN hxl hx9
          go_wp2
          refine bodyPost_ret (v := .tuple #[.int .i64 ((m + 1 : Nat) : Int), .int .i32 R2]) ?_ rfl ⟨rfl, hbw⟩
          simp [results, Tryz.results90, go_sem]
        · have q : ((x.toNat : Int) != 59) = true := bne_iff_ne.2 (fun h => hx9 (UInt8.toNat_inj.1 (by simp; omega)))
          have hpp : (s.extract (m + 1) s.size).data.toList = s.data.toList.drop (m + 1) := extract_to_end s (m + 1)
          have hpf := fun W => Tryz.strings_HasPrefix (s.extract (m + 1) s.size) ⟨#[59]⟩ W
          rw [hpp] at hpf
          have hbb : Lib.hasPrefix (s.data.toList.drop (m + 1)) (⟨#[59]⟩ : ByteArray).data.toList = (s.data.toList[m + 1]? == some 59) := by
            unfold Lib.hasPrefix
            rcases Nat.lt_or_ge (m + 1) s.data.toList.length with h | h
            · rw [List.drop_eq_getElem_cons h, List.getElem?_eq_getElem h]
              simp only [List.isPrefixOf, Bool.and_true, Option.some_beq_some]
              exact BEq.comm
            · rw [List.drop_of_length_le h, List.getElem?_eq_none h]
              rfl
          rw [hbb] at hpf
          cases hb : (s.data.toList[m + 1]? == some 59)
          · have hr : shut1 s.data.toList (m + 1, c) = (m + 1, c) := by
              unfold shut1
              rw [if_neg]
              intro h
              rw [h.2.2] at hb
              simp at hb
            obtain ⟨rfl, rfl⟩ := Prod.mk.inj (hN.trans hr)
            rw [hb] at hpf
            have HP := hid hpf
            clear hr hN hxl hx9 hpf hbb hpp hb
            go_wp2_with (go_at_call 88; refine (HP.out _).mono ?_; rintro e w' ⟨rfl, rfl⟩)
            refine bodyPost_ret (v := .tuple #[.int .i64 ((m + 1 : Nat) : Int), .int .i32 R2]) ?_ rfl ⟨rfl, hbw⟩
            simp [results, Tryz.results90, go_sem]
          · have hr : shut1 s.data.toList (m + 1, c) = (m + 2, c) := by
              unfold shut1
              rw [if_pos]
              refine ⟨by simp, ?_, by simpa using hb⟩
              simp only [Nat.add_sub_cancel]
              rw [hxl]
              exact fun h => hx9 (Option.some.inj h)
            obtain ⟨rfl, rfl⟩ := Prod.mk.inj (hN.trans hr)
            rw [hb] at hpf
            have HP := hid hpf
            clear hr hN hxl hx9 hpf hbb hpp hb
            go_wp2_with (go_at_call 88; refine (HP.out _).mono ?_; rintro e w' ⟨rfl, rfl⟩)
            refine bodyPost_ret (v := .tuple #[.int .i64 ((m : Int) + 1 + 1), .int .i32 R2]) ?_ rfl ⟨rfl, hbw⟩
            simp [results, Tryz.results90, go_sem]
end Go.Proofs.YtchhlocibijekaaGreatDoor

/-
  chars.goesOn, findReference: their walks.
-/
namespace Go.Proofs.YtchhlocibijekaaGreatDoor
open Go.RowKit Go.Lib

def goesZ (z : Int) : Bool := decide (z = 61 ∨ 48 ≤ z ∧ z ≤ 57 ∨ 65 ≤ z ∧ z ≤ 90 ∨ 97 ≤ z ∧ z ≤ 122)
theorem goesZ_B (c : UInt8) : goesZ (c.toNat : Int) = goesB c := by
  unfold goesZ goesB
  apply decide_eq_decide.2
  omega
theorem goesOn_any (s : ByteArray) (w : World) :
    Calls Tryz.prog 91 #[.string s] w fun e w' => e = .returned (.bool (goesL s.data.toList)) ∧ w' = w := by
  by_cases h0 : 0 < s.size
  · obtain ⟨x, hx⟩ : ∃ x, s[0]'h0 = x := ⟨_, rfl⟩
    have hl := getElem_list h0 hx
    have hg : goesL s.data.toList = goesB x := by
      cases hd : s.data.toList with
      | nil => rw [hd] at hl; cases hl
      | cons a l =>
        rw [hd] at hl
        simp only [List.getElem?_cons_zero, Option.some.injEq] at hl
        subst hl
        rfl
    rw [hg, ← goesZ_B]
    have hlt := x.toNat_lt
    have hc := fun W => let_any (x.toNat : Int) (by omega) (by omega) W
    have hd := fun W => dig_any (x.toNat : Int) (by omega) (by omega) W
    have hne : (s.toList == (⟨#[]⟩ : ByteArray).toList) = false := by
      refine beq_eq_false_iff_ne.2 (fun h => ?_)
      rw [Lib.toList_data, Lib.toList_data] at h
      have h2 : s.data.toList.length = 0 := by rw [h]; rfl
      rw [← size_eq] at h2
      omega
    obtain ⟨z, hz⟩ : ∃ z : Int, (x.toNat : Int) = z := ⟨_, rfl⟩
    have hz0 : 0 ≤ z := by omega
    have hz1 : z ≤ 255 := by omega
    rw [hz] at hc hd ⊢
    have hzl : isLetZ z = decide (65 ≤ z ∧ z ≤ 90 ∨ 97 ≤ z ∧ z ≤ 122) := rfl
    have hzd : isDigZ z = decide (48 ≤ z ∧ z ≤ 57) := rfl
    have hzg : goesZ z = ((z == 61) || isLetZ z || isDigZ z) := by
      rw [hzl, hzd, Bool.eq_iff_iff]
      simp [goesZ]
      omega
    rw [hzg]
    generalize isLetZ z = b1 at hc ⊢
    generalize isDigZ z = b2 at hd ⊢
    obtain ⟨b0, hb0⟩ : ∃ b0, (z == 61) = b0 := ⟨_, rfl⟩
    rw [hb0]
    clear hzl hzd hzg hg hl
    go_enter Tryz.func91, Tryz.ntmps91
    go_wp2_with (first | (go_at_call 101; refine (hc _).mono ?_; rintro e w' ⟨rfl, rfl⟩) | (go_at_call 103; refine (hd _).mono ?_; rintro e w' ⟨rfl, rfl⟩))
    all_goals go_ret
    all_goals refine ⟨ret_bool ?_, rfl⟩
    all_goals simp_all
  · have hs : s = ⟨#[]⟩ := by
      apply ByteArray.ext
      exact Array.eq_empty_of_size_eq_zero (by have : s.size = s.data.size := rfl; omega)
    subst hs
    go_enter Tryz.func91, Tryz.ntmps91
    go_wp2
    go_ret
    exact ⟨rfl, rfl⟩
theorem name_le (L : List UInt8) : (nameL L).1 ≤ L.length := (names_eq L eitherT closedT eitherT_ok closedT_ok).2.2
theorem prefix_one (L : List UInt8) (c : UInt8) : Lib.hasPrefix L [c] = (L[0]? == some c) := by
  unfold Lib.hasPrefix
  cases L with
  | nil => rfl
  | cons a l =>
    simp only [List.isPrefixOf, Bool.and_true, List.getElem?_cons_zero, Option.some_beq_some]
    exact BEq.comm

set_option maxHeartbeats 1000000 in
set_option maxRecDepth 100000 in
theorem findRef_any (s : ByteArray) (attr : Bool) (w : World) (hs : s.size ≤ 140737488355328) (hT : ChTabs w) :
    Calls Tryz.prog 64 #[.string s, .bool attr] w fun e w' => e = .returned (.tuple #[.int .i64 ((refL attr s.data.toList).1 : Int), .int .i32 (refL attr s.data.toList).2]) ∧ Below w.heap.size w w' := by
  have hpf := fun W => Tryz.strings_HasPrefix s ⟨#[35]⟩ W
  rw [show (⟨#[35]⟩ : ByteArray).data.toList = [35] from rfl, prefix_one] at hpf
  cases h35 : (s.data.toList[0]? == some 35)
  · rw [h35] at hpf
    have HP := hid hpf
    have hne : ¬ s.data.toList[0]? = some 35 := by simpa using h35
    have hr : refL attr s.data.toList = if attr = true ∧ 0 < (nameL s.data.toList).1 ∧ s.data.toList[(nameL s.data.toList).1 - 1]? ≠ some 59 ∧ goesL (s.data.toList.drop (nameL s.data.toList).1) = true then (0, 0) else nameL s.data.toList := by
      unfold refL; rw [if_neg hne]
    have hfn := fun W hTW => findName_any s W hs hTW
    have hnl := name_le s.data.toList
    rw [← size_eq] at hnl
    rw [hr]
    clear hr hne h35 hpf
    obtain ⟨R, hR⟩ : ∃ R, nameL s.data.toList = R := ⟨_, rfl⟩
    rw [hR] at hfn hnl ⊢
    clear hR
    obtain ⟨n, c⟩ := R
    simp only at hfn hnl ⊢
    have HN := hid hfn
    have HT := hid hT
    clear hfn hT
    cases attr
    · rw [if_neg (by simp)]
      go_enter Tryz.func64, Tryz.ntmps64
      go_wp2_with (first | (go_at_call 88; refine (HP.out _).mono ?_; rintro e W0 ⟨rfl, rfl⟩) | (go_at_call 90; refine (HN.out _ HT.out).mono ?_; rintro e W1 ⟨rfl, b1⟩))
      refine bodyPost_ret (v := .tuple #[.int .i64 (n : Int), .int .i32 c]) ?_ rfl ⟨rfl, by assumption⟩
      simp [results, Tryz.results64, go_sem]
    · by_cases h0 : n = 0
      · subst h0
        rw [if_neg (by simp)]
        go_enter Tryz.func64, Tryz.ntmps64
        go_wp2_with (first | (go_at_call 88; refine (HP.out _).mono ?_; rintro e W0 ⟨rfl, rfl⟩) | (go_at_call 90; refine (HN.out _ HT.out).mono ?_; rintro e W1 ⟨rfl, b1⟩))
        refine bodyPost_ret (v := .tuple #[.int .i64 0, .int .i32 c]) ?_ rfl ⟨rfl, by assumption⟩
        simp [results, Tryz.results64, go_sem]
      · obtain ⟨m, rfl⟩ : ∃ m, n = m + 1 := ⟨n - 1, by omega⟩
        have hm : m < s.size := by omega
        obtain ⟨x, hx⟩ : ∃ x, s[m]'hm = x := ⟨_, rfl⟩
        have hxl := getElem_list hm hx
        rw [show m + 1 - 1 = m from rfl, hxl]
        by_cases hx9 : x = 59
        · rw [if_neg (by rw [hx9]; simp)]
          have q : ((x.toNat : Int) != 59) = false := by rw [hx9]; rfl
          clear hx9 hxl
          go_enter Tryz.func64, Tryz.ntmps64
          go_wp2_with (first | (go_at_call 88; refine (HP.out _).mono ?_; rintro e W0 ⟨rfl, rfl⟩) | (go_at_call 90; refine (HN.out _ HT.out).mono ?_; rintro e W1 ⟨rfl, b1⟩))
          refine bodyPost_ret (v := .tuple #[.int .i64 ((m + 1 : Nat) : Int), .int .i32 c]) ?_ rfl ⟨rfl, by assumption⟩
          simp [results, Tryz.results64, go_sem]
        · have q : ((x.toNat : Int) != 59) = true := bne_iff_ne.2 (fun h => hx9 (UInt8.toNat_inj.1 (by simp; omega)))
          have hgo := fun W => goesOn_any (s.extract (m + 1) s.size) W
          rw [show (s.extract (m + 1) s.size).data.toList = s.data.toList.drop (m + 1) from extract_to_end s (m + 1)] at hgo
          cases hb : goesL (s.data.toList.drop (m + 1))
          · rw [hb] at hgo
            rw [if_neg (by simp)]
            have HG := hid hgo
            clear hx9 hxl hgo hb
            go_enter Tryz.func64, Tryz.ntmps64
            go_wp2_with (first | (go_at_call 88; refine (HP.out _).mono ?_; rintro e W0 ⟨rfl, rfl⟩) | (go_at_call 90; refine (HN.out _ HT.out).mono ?_; rintro e W1 ⟨rfl, b1⟩) | (go_at_call 91; refine (HG.out _).mono ?_; rintro e W2 ⟨rfl, rfl⟩))
            refine bodyPost_ret (v := .tuple #[.int .i64 ((m + 1 : Nat) : Int), .int .i32 c]) ?_ rfl ⟨rfl, by assumption⟩
            simp [results, Tryz.results64, go_sem]
          · rw [hb] at hgo
            rw [if_pos ⟨rfl, by omega, fun h => hx9 (Option.some.inj h), rfl⟩]
            have HG := hid hgo
            clear hx9 hxl hgo hb
            go_enter Tryz.func64, Tryz.ntmps64
            go_wp2_with (first | (go_at_call 88; refine (HP.out _).mono ?_; rintro e W0 ⟨rfl, rfl⟩) | (go_at_call 90; refine (HN.out _ HT.out).mono ?_; rintro e W1 ⟨rfl, b1⟩) | (go_at_call 91; refine (HG.out _).mono ?_; rintro e W2 ⟨rfl, rfl⟩))
            refine bodyPost_ret (v := .tuple #[.int .i64 0, .int .i32 0]) ?_ rfl ⟨rfl, by assumption⟩
            simp [results, Tryz.results64, go_sem]
  · rw [h35] at hpf
    have HP := hid hpf
    have h35' : s.data.toList[0]? = some 35 := by simpa using h35
    have hr : refL attr s.data.toList = numL (s.data.toList.take 31) := by unfold refL; rw [if_pos h35']
    have h1 : 1 ≤ s.size := by
      rw [size_eq]
      exact (List.getElem?_eq_some_iff.1 h35').1
    obtain ⟨k, hk⟩ : ∃ k, min s.size 31 = k := ⟨_, rfl⟩
    have hmin : min (s.size : Int) 31 = (k : Int) := by omega
    obtain ⟨t, ht⟩ : ∃ t, s.extract 0 k = t := ⟨_, rfl⟩
    have htz : t.size = k := by rw [← ht, ByteArray.size_extract]; omega
    have htl : t.data.toList = s.data.toList.take 31 := by
      rw [← ht, take_extract, ← hk, size_eq]
      rcases Nat.le_total s.data.toList.length 31 with h | h
      · rw [Nat.min_eq_left h, List.take_length, List.take_of_length_le h]
      · rw [Nat.min_eq_right h]
    have hfn := fun W hTW => findNumber_any t W (by omega) (by omega) hTW
    rw [hr]
    rw [htl] at hfn
    generalize numL (s.data.toList.take 31) = R at hfn ⊢
    have HN := hid hfn
    have HT := hid hT
    clear hfn hT hr htl h35' hpf
    have hk1 : k ≤ s.size := by omega
    have hk2 : k ≤ 31 := by omega
    clear hk htz
    go_enter Tryz.func64, Tryz.ntmps64
    go_wp2_with (first | (go_at_call 88; refine (HP.out _).mono ?_; rintro e W0 ⟨rfl, rfl⟩) | (go_at_call 89; refine (HN.out _ HT.out).mono ?_; rintro e W1 ⟨rfl, rfl⟩))
    refine bodyPost_ret (v := .tuple #[.int .i64 (R.1 : Int), .int .i32 R.2]) ?_ rfl ⟨rfl, Below.refl _ _⟩
    simp [results, Tryz.results64, go_sem]
end Go.Proofs.YtchhlocibijekaaGreatDoor

/-
  scrubref.referred: its walk.
-/
namespace Go.Proofs.YtchhlocibijekaaGreatDoor
open Go.RowKit Go.Lib

theorem str_ne {s : ByteArray} (h : 0 < s.size) : (s.toList == (⟨#[]⟩ : ByteArray).toList) = false := by
  refine beq_eq_false_iff_ne.2 (fun h2 => ?_)
  rw [Lib.toList_data, Lib.toList_data] at h2
  have h3 : s.data.toList.length = 0 := by rw [h2]; rfl
  rw [← size_eq] at h3
  omega
theorem str_full {s : ByteArray} (h : 0 < s.size) : s.toList.isEmpty = false := by
  rw [Lib.toList_data]
  rw [size_eq] at h
  cases hs : s.data.toList with
  | nil => rw [hs] at h; simp at h
  | cons a l => rfl
theorem name_take (L : List UInt8) : (name2 L eitherT closedT).1 = L.take (nameL L).1 ∧ (name2 L eitherT closedT).2 = (nameL L).2 :=
  ⟨(names_eq L eitherT closedT eitherT_ok closedT_ok).1, (names_eq L eitherT closedT eitherT_ok closedT_ok).2.1⟩
theorem goesL_at {L : List UInt8} {n : Nat} {y : UInt8} (h : L[n]? = some y) : goesL (L.drop n) = goesB y := by
  obtain ⟨h1, h2⟩ := List.getElem?_eq_some_iff.1 h
  rw [List.drop_eq_getElem_cons h1, h2]
  rfl
theorem goes_split (z : Int) : goesZ z = ((z == 61) || isLetZ z || isDigZ z) := by
  rw [Bool.eq_iff_iff]
  simp [goesZ, isLetZ, isDigZ]
  omega

set_option maxHeartbeats 4000000 in
set_option maxRecDepth 100000 in
theorem referred_any (s : ByteArray) (attr : Bool) (w : World) (hs : s.size ≤ 140737488355328) (hT : RefTabs w) :
    Calls Tryz.prog 70 #[.string s, .bool attr] w fun e w' => ∃ v : Int, e = .returned (.tuple #[.int .i64 v, .int .i64 ((refL attr s.data.toList).1 : Int)]) ∧ ((refL attr s.data.toList).1 ≠ 0 → v = (refL attr s.data.toList).2) ∧ Below w.heap.size w w' := by
  cases h35 : (s.data.toList[0]? == some 35)
  · have hne : ¬ s.data.toList[0]? = some 35 := by simpa using h35
    have hr : refL attr s.data.toList = if attr = true ∧ 0 < (nameL s.data.toList).1 ∧ s.data.toList[(nameL s.data.toList).1 - 1]? ≠ some 59 ∧ goesL (s.data.toList.drop (nameL s.data.toList).1) = true then (0, 0) else nameL s.data.toList := by
      unfold refL; rw [if_neg hne]
    have h0 : ¬ 0 < s.size ∨ ∃ (h : 0 < s.size) (x : UInt8), s[0]'h = x ∧ ((x.toNat : Int) == 35) = false := by
      by_cases h : 0 < s.size
      · refine .inr ⟨h, _, rfl, beq_eq_false_iff_ne.2 (fun h2 => hne ?_)⟩
        rw [getElem_list h rfl]
        exact congrArg some (UInt8.toNat_inj.1 (by simp; omega))
      · exact .inl h
    have hnm := fun W hTW => named_any s W hTW
    obtain ⟨ht1, ht2⟩ := name_take s.data.toList
    have hnl := name_le s.data.toList
    rw [ht1, ht2] at hnm
    rw [hr]
    clear hr hne h35 ht1 ht2
    obtain ⟨R, hR⟩ : ∃ R, nameL s.data.toList = R := ⟨_, rfl⟩
    rw [hR] at hnm hnl ⊢
    clear hR
    obtain ⟨n, c⟩ := R
    simp only at hnm hnl ⊢
    obtain ⟨nb, hnb⟩ : ∃ nb : ByteArray, (⟨(s.data.toList.take n).toArray⟩ : ByteArray) = nb := ⟨_, rfl⟩
    rw [hnb] at hnm
    have hnz : nb.size = n := by
      rw [size_eq, ← hnb]
      simp only [List.length_take]
      omega
    rw [← size_eq] at hnl
    have HN := hid hnm
    have HT := hid hT
    clear hnm hT
    by_cases hn0 : n = 0
    · subst hn0
      have hnb0 : nb = ⟨#[]⟩ := by rw [← hnb]; rfl
      subst hnb0
      rw [if_neg (by simp)]
      clear hnb hnz
      rcases h0 with h0 | ⟨h0, x0, hx0, q0⟩
      all_goals
        go_enter Tryz.func70, Tryz.ntmps70
        go_wp2_with (go_at_call 95; refine (HN.out _ HT.out).mono ?_; rintro e W1 ⟨rfl, rfl⟩)
        refine bodyPost_ret (v := .tuple #[.int .i64 0, .int .i64 0]) ?_ rfl ⟨0, rfl, fun h => absurd rfl h, Below.refl _ _⟩
        simp [results, Tryz.results70, go_sem]
    · obtain ⟨m, rfl⟩ : ∃ m, n = m + 1 := ⟨n - 1, by omega⟩
      have hss : 0 < s.size := by omega
      obtain ⟨h0, x0, hx0, q0⟩ := h0.resolve_left (fun h => h hss)
      have hm : m < s.size := by omega
      have hmn : m < nb.size := by omega
      have hnn := str_ne (s := nb) (by omega)
      have hnn2 := str_full (s := nb) (by omega)
      obtain ⟨x, hx⟩ : ∃ x, nb[m]'hmn = x := ⟨_, rfl⟩
      have hxl : s.data.toList[m]? = some x := by
        have := getElem_list hmn hx
        rw [← hnb] at this
        rw [← this]
        show s.data.toList[m]? = (s.data.toList.take (m + 1))[m]?
        rw [List.getElem?_take_of_lt (by omega)]
      rw [show m + 1 - 1 = m from rfl, hxl]
      clear hnb hm hss
      obtain ⟨b1, hb1⟩ : ∃ b1, ((x.toNat : Int) != 59) = b1 := ⟨_, rfl⟩
      have hx9 : (some x ≠ some 59) ↔ b1 = true := by
        rw [← hb1, bne_iff_ne]
        constructor
        · intro h h2; exact h (congrArg some (UInt8.toNat_inj.1 (by simp; omega)))
        · intro h h2; exact h (by rw [Option.some.inj h2]; rfl)
      simp only [hx9]
      by_cases hlt : m + 1 < s.size
      · obtain ⟨y, hy⟩ : ∃ y, s[m + 1]'hlt = y := ⟨_, rfl⟩
        rw [goesL_at (getElem_list hlt hy), ← goesZ_B, goes_split]
        have hyl := y.toNat_lt
        have hc := fun W => refLet_any (y.toNat : Int) (by omega) (by omega) W
        have hd := fun W => refDig_any (y.toNat : Int) (by omega) (by omega) W
        obtain ⟨z, hz⟩ : ∃ z : Int, (y.toNat : Int) = z := ⟨_, rfl⟩
        rw [hz] at hc hd ⊢
        generalize isLetZ z = b3 at hc ⊢
        generalize isDigZ z = b4 at hd ⊢
        obtain ⟨b2, hb2⟩ : ∃ b2, (z == 61) = b2 := ⟨_, rfl⟩
        rw [hb2]
        have HC := hid hc
        have HD := hid hd
        clear hc hd hxl hx9 hyl
        cases attr <;> cases b1 <;> cases b2 <;> cases b3 <;> cases b4
        all_goals simp only [Bool.or_true, Bool.or_false, Bool.false_eq_true, and_false, and_true, if_false, if_true, Nat.zero_lt_succ]
        all_goals
          go_enter Tryz.func70, Tryz.ntmps70
          go_wp2_with (first | (go_at_call 95; refine (HN.out _ HT.out).mono ?_; rintro e W1 ⟨rfl, rfl⟩) | (go_at_call 84; refine (HC.out _).mono ?_; rintro e W1 ⟨rfl, rfl⟩) | (go_at_call 96; refine (HD.out _).mono ?_; rintro e W1 ⟨rfl, rfl⟩))
        all_goals first
          | (refine bodyPost_ret (v := .tuple #[.int .i64 c, .int .i64 ((m + 1 : Nat) : Int)]) ?_ rfl ⟨c, rfl, fun _ => rfl, Below.refl _ _⟩; simp [results, Tryz.results70, go_sem]; done)
          | (refine bodyPost_ret (v := .tuple #[.int .i64 0, .int .i64 0]) ?_ rfl ⟨0, rfl, fun h => absurd rfl h, Below.refl _ _⟩; simp [results, Tryz.results70, go_sem]; done)
      · have hgl : goesL (s.data.toList.drop (m + 1)) = false := by
          rw [List.drop_of_length_le (by rw [← size_eq]; omega)]
          rfl
        rw [hgl, if_neg (by simp)]
        clear hxl hx9 hgl
        cases attr <;> cases b1
        all_goals
          go_enter Tryz.func70, Tryz.ntmps70
          go_wp2_with (go_at_call 95; refine (HN.out _ HT.out).mono ?_; rintro e W1 ⟨rfl, rfl⟩)
          refine bodyPost_ret (v := .tuple #[.int .i64 c, .int .i64 ((m + 1 : Nat) : Int)]) ?_ rfl ⟨c, rfl, fun _ => rfl, Below.refl _ _⟩
          simp [results, Tryz.results70, go_sem]
  · have h35' : s.data.toList[0]? = some 35 := by simpa using h35
    have hr : refL attr s.data.toList = numL (s.data.toList.take 31) := by unfold refL; rw [if_pos h35']
    have h1 : 1 ≤ s.size := by
      rw [size_eq]
      exact (List.getElem?_eq_some_iff.1 h35').1
    have h1' : 0 < s.size := h1
    obtain ⟨x, hx⟩ : ∃ x, s[0]'h1' = x := ⟨_, rfl⟩
    have q : ((x.toNat : Int) == 35) = true := by
      have := getElem_list h1' hx
      rw [this] at h35'
      rw [Option.some.inj h35']
      rfl
    have hfn := fun W => number_any s W h1 hs
    rw [hr]
    generalize numL (s.data.toList.take 31) = R at hfn ⊢
    have HN := hid hfn
    clear hfn hr h35' h35
    go_enter Tryz.func70, Tryz.ntmps70
    go_wp2_with (go_at_call 94; refine (HN.out _).mono ?_; rintro e W1 ⟨rfl, b1⟩)
    refine bodyPost_ret (v := .tuple #[.int .i64 R.2, .int .i64 (R.1 : Int)]) ?_ rfl ⟨R.2, rfl, fun _ => rfl, by assumption⟩
    simp [results, Tryz.results70, go_sem]
end Go.Proofs.YtchhlocibijekaaGreatDoor

/-
  What strings.Cut gives at an ampersand. No program is named here.
-/
namespace Go.Proofs.YtchhlocibijekaaGreatDoor
open Go.Lib

theorem index_amp : ∀ (L : List UInt8), (index L [38] = -1 ∧ ∀ c ∈ L, c ≠ 38) ∨ ∃ a b, L = a ++ 38 :: b ∧ (∀ c ∈ a, c ≠ 38) ∧ index L [38] = (a.length : Int)
  | [] => .inl ⟨rfl, fun _ h => by cases h⟩
  | c :: l => by
    by_cases hc : c = 38
    · subst hc
      refine .inr ⟨[], l, rfl, (fun _ h => by cases h), ?_⟩
      unfold index
      rw [if_pos (by simp [List.isPrefixOf])]
      rfl
    · have hp : List.isPrefixOf [38] (c :: l) = false := by simp [List.isPrefixOf]; exact fun h => hc h.symm
      rcases index_amp l with ⟨h1, h2⟩ | ⟨a, b, rfl, h2, h3⟩
      · refine .inl ⟨by unfold index; rw [hp, h1]; rfl, fun d hd => ?_⟩
        rcases List.mem_cons.1 hd with rfl | hd
        · exact hc
        · exact h2 d hd
      · refine .inr ⟨c :: a, b, rfl, fun d hd => ?_, ?_⟩
        · rcases List.mem_cons.1 hd with rfl | hd
          · exact hc
          · exact h2 d hd
        · unfold index
          rw [hp, h3]
          have : ((a.length : Int) == -1) = false := by rw [beq_eq_false_iff_ne]; omega
          simp [this]
theorem cut_amp (L : List UInt8) : (cut L [38] = (L, [], false) ∧ ∀ c ∈ L, c ≠ 38) ∨ ∃ a b, L = a ++ 38 :: b ∧ (∀ c ∈ a, c ≠ 38) ∧ cut L [38] = (a, b, true) := by
  rcases index_amp L with ⟨h1, h2⟩ | ⟨a, b, rfl, h2, h3⟩
  · refine .inl ⟨by unfold cut; rw [h1]; rfl, h2⟩
  · refine .inr ⟨a, b, rfl, h2, ?_⟩
    unfold cut
    rw [h3, if_pos (by omega)]
    have e : (a.length : Int).toNat = a.length := rfl
    rw [e, List.take_left, List.drop_append, List.drop_of_length_le (by omega)]
    simp
end Go.Proofs.YtchhlocibijekaaGreatDoor
