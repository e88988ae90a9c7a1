/-
  chars.findNumber: its walk.
-/
import Derived.Test.YtndglhflbenloaaGreatDoorGen
import Derived.Test.YtndglhflbenloaaGreatDoorRefTabs
import Derived.Test.YtndglhflbenloaaGreatDoorHidden
namespace Go.Proofs.YtndglhflbenloaaGreatDoor
open Go.RowKit Go.Lib

theorem digZ_K (c : UInt8) : digZ (c.toNat : Int) = (digK c : Int) := by
  unfold digZ digK
  repeat' split
  all_goals omega
theorem digit_u8 (c : UInt8) (w : World) : Calls Tryz.prog 115 #[.int .u8 c.toNat] w fun e w' => e = .returned (.int .i64 (digK c : Int)) ∧ w' = w := by
  rw [← digZ_K]
  exact digit_any _ (by omega) (by have := c.toNat_lt; omega) w
theorem digK_le (c : UInt8) : digK c ≤ 16 := by
  unfold digK
  repeat' split
  all_goals omega
theorem numL_eq (N : List UInt8) : numL N = if digsN N = [] then (0, 0) else (fromN N + (digsN N).length + (if N[fromN N + (digsN N).length]? = some 59 then 1 else 0), numb ((valM (baseN N) 0 (digsN N) : Nat) : Int)) := by
  have h := val_eq (baseN N) (by unfold baseN; split <;> omega) (digsN N) 0
  rw [Nat.min_eq_left (by omega)] at h
  rw [h]
  rfl
/-- what a loop over digits comes to -/
structure DigEnd (N : List UInt8) (F B : Nat) (dig : UInt8 → Bool) (r : Nat × Int) : Prop where
  none : (N.drop F).takeWhile dig = [] → r = (0, 0)
  shut : ∀ E V : Nat, (N.drop F).takeWhile dig ≠ [] → F + ((N.drop F).takeWhile dig).length = E → valM B 0 ((N.drop F).takeWhile dig) = V → N[E]? = some 59 → r = (E + 1, numb V)
  still : ∀ E V : Nat, (N.drop F).takeWhile dig ≠ [] → F + ((N.drop F).takeWhile dig).length = E → valM B 0 ((N.drop F).takeWhile dig) = V → N[E]? ≠ some 59 → r = (E, numb V)
theorem digEnd (N : List UInt8) : DigEnd N (fromN N) (baseN N) (digN N) (numL N) := by
  have h := numL_eq N
  unfold digsN at h
  refine ⟨fun h0 => by rw [h, if_pos h0], fun E V h0 h1 h2 h3 => ?_, fun E V h0 h1 h2 h3 => ?_⟩
  · rw [h, if_neg h0, h1, h2, if_pos h3]
  · rw [h, if_neg h0, h1, h2, if_neg h3]; rfl
theorem getElem_over {s : ByteArray} {e : Nat} (h : ¬ e < s.size) : s.data.toList[e]? = none := by
  rw [List.getElem?_eq_none (by rw [← size_eq]; omega)]
theorem ret_two {a c : Int} {b d : Int} (h : a = b) (k : c = d) : Ending.returned (.tuple #[.int .i64 a, .int .i32 c]) = .returned (.tuple #[.int .i64 b, .int .i32 d]) := by rw [h, k]


set_option maxHeartbeats 1000000 in
set_option maxRecDepth 100000 in
theorem findNumber_one (s : ByteArray) (w : World) (h1 : s.size = 1) :
    Calls Tryz.prog 89 #[.string s] w fun e w' => e = .returned (.tuple #[.int .i64 0, .int .i32 0]) ∧ w' = w := by
  go_enter Tryz.func89, Tryz.ntmps89
  go_wp2
  go_loopw [6, 7] (fun ev nv wr => ev = .int .i64 1 ∧ nv = .int .i64 0 ∧ wr = w) (fun _ _ _ => 0)
  case atStart => exact ⟨rfl, rfl, rfl⟩
  case round =>
    obtain ⟨rfl, rfl, rfl⟩ := hrel
    go_wp2
    refine bodyPost_ret (v := .tuple #[.int .i64 0, .int .i32 0]) ?_ rfl ⟨rfl, rfl⟩
    simp [results, Tryz.results89, go_sem]

set_option maxHeartbeats 1000000 in
set_option maxRecDepth 100000 in
theorem findNumber_dec (s : ByteArray) (r : Nat × Int) (w : World) (hs : s.size ≤ 31) (h1 : 1 ≤ s.size) (h2 : 1 < s.size) (x1 : UInt8) (hx1 : s[1]'h2 = x1) (hn : (lowZ x1.toNat == 120) = false) (hR : DigEnd s.data.toList 1 10 digD r) (hT : ChTabs w) :
    Calls Tryz.prog 89 #[.string s] w fun e w' => e = .returned (.tuple #[.int .i64 (r.1 : Int), .int .i32 r.2]) ∧ w' = w := by
  have HR := hid hR
  have HT := hid hT
  obtain ⟨D, hD⟩ : ∃ D, (s.data.toList.drop 1).takeWhile digD = D := ⟨_, rfl⟩
  obtain ⟨V, hV⟩ : ∃ V, valM 10 0 D = V := ⟨_, rfl⟩
  have HD := hid hD
  have HV := hid hV
  clear hR hT hD hV
  go_enter Tryz.func89, Tryz.ntmps89
  have HY := hid (fun W => low_any (x1.toNat : Int) (by omega) (by have := x1.toNat_lt; omega) W)
  go_wp2_with (go_at_call 68; refine (HY.out _).mono ?_; rintro e W0 ⟨rfl, rfl⟩)
  go_loopw [6, 7] (fun ev nv wr => ∃ (e v : Nat), ev = .int .i64 e ∧ nv = .int .i64 v ∧ e ≤ s.size ∧ 1 ≤ e ∧ v ≤ 1114112 ∧ wr = W0 ∧ Hid (valM 10 v ((s.data.toList.drop e).takeWhile digD) = V) ∧ Hid (e + ((s.data.toList.drop e).takeWhile digD).length = 1 + D.length)) (fun ev _ _ => s.size - (RowKit.intOf ev).toNat)
  case atStart => exact ⟨1, 0, rfl, rfl, by omega, by omega, by omega, rfl, by rw [HD.out]; exact HV.out, by rw [HD.out]; exact hid rfl⟩
  case round =>
    obtain ⟨e, v, rfl, rfl, he, hF, hv, rfl, HA, HB⟩ := hrel
    by_cases hp : e < s.size
    · obtain ⟨x, hx⟩ : ∃ x, s[e]'hp = x := ⟨_, rfl⟩
      have hxl := hid (getElem_list hp hx)
      have hdx := fun W => digit_u8 x W
      have hdl := digK_le x
      have hdk : decide (digK x < 10) = digD x := digK_D x
      obtain ⟨d, hd⟩ : ∃ d, digK x = d := ⟨_, rfl⟩
      rw [hd] at hdx hdl hdk
      by_cases hlt : d < 10
      · have hdig : digD x = true := by rw [← hdk]; exact decide_eq_true hlt
        have hw := while_step hxl.out hdig
        have hdv : digV x = d := by rw [← hd]; exact (digK_V x (digD_X _ hdig)).symm
        have HA2 : Hid (valM 10 (min (v * 10 + d) 1114112) ((s.data.toList.drop (e + 1)).takeWhile digD) = V) := by
          have := HA.out
          rw [hw] at this
          unfold valM at this ⊢
          rw [List.foldl_cons, hdv] at this
          exact this
        have HB2 : Hid (e + 1 + ((s.data.toList.drop (e + 1)).takeWhile digD).length = 1 + D.length) := by
          have := HB.out
          rw [hw, List.length_cons] at this
          exact hid (by omega)
        have HX := hid hdx
        clear hd hw hdv hdig hdk HA HB hdx
        go_wp2_with (go_at_call 115; refine (HX.out _).mono ?_; rintro e w' ⟨rfl, rfl⟩)
        go_roundw
        case rel => exact ⟨e + 1, min (v * 10 + d) 1114112, rfl, by simp; omega, by omega, by omega, by omega, by first | rfl | trivial, HA2, HB2⟩
        case measure => simp [RowKit.intOf]; omega
      · have hdig : digD x = false := by rw [← hdk]; exact decide_eq_false hlt
        have hw : (s.data.toList.drop e).takeWhile digD = [] := while_stop (fun c hc => by rw [hxl.out] at hc; cases hc; exact hdig)
        have hE : v = V := by have := HA.out; rw [hw] at this; exact this
        have hL : e = 1 + D.length := by have := HB.out; rw [hw] at this; simpa using this
        have h59 : (x = 59 ∧ s.data.toList[e]? = some 59) ∨ (x ≠ 59 ∧ s.data.toList[e]? ≠ some 59) := by
          rw [hxl.out]
          by_cases h : x = 59
          · exact .inl ⟨h, by rw [h]⟩
          · exact .inr ⟨h, fun h2 => h (Option.some.inj h2)⟩
        have HX := hid hdx
        clear hd hw hdig hdk HA HB hdx
        subst hE
        by_cases hz : e = 1
        · subst hz
          obtain rfl : x = x1 := by rw [← hx, ← hx1]
          have hr := HR.out.none (by rw [HD.out]; exact List.eq_nil_of_length_eq_zero (by omega))
          clear hL
          go_wp2_with (go_at_call 115; refine (HX.out _).mono ?_; rintro e w' ⟨rfl, rfl⟩)
          rw [hr]
          refine bodyPost_ret (v := .tuple #[.int .i64 0, .int .i32 0]) ?_ rfl ⟨rfl, rfl⟩
          simp [results, Tryz.results89, go_sem]
        · have hne : (s.data.toList.drop 1).takeWhile digD ≠ [] := by rw [HD.out]; intro h; rw [h] at hL; simp at hL; exact hz hL
          have hle : 1 + ((s.data.toList.drop 1).takeWhile digD).length = e := by rw [HD.out]; exact hL.symm
          have hva : valM 10 0 ((s.data.toList.drop 1).takeWhile digD) = v := by rw [HD.out]; exact HV.out
          have HN := hid (fun W => numb_any (v : Int) (by omega) (by omega) W)
          rcases h59 with ⟨h59, h60⟩ | ⟨h59, h60⟩
          · have hr := hid (HR.out.shut e v hne hle hva h60)
            clear h60 hne hle hva hL
            subst h59
            go_wp2_with (first | (go_at_call 115; refine (HX.out _).mono ?_; rintro e w' ⟨rfl, rfl⟩) | (go_at_call 116; refine (HN.out _ HT.out).mono ?_; rintro e w' ⟨rfl, rfl⟩))
            rw [hr.out]
            refine bodyPost_ret (v := .tuple #[.int .i64 ((e + 1 : Nat) : Int), .int .i32 (numb v)]) ?_ rfl ⟨rfl, rfl⟩
            simp [results, Tryz.results89, go_sem]
          · have hr := hid (HR.out.still e v hne hle hva h60)
            have h61 : ((x.toNat : Int) == 59) = false := beq_eq_false_iff_ne.2 (fun h => h59 (UInt8.toNat_inj.1 (by simp; omega)))
            clear h60 hne hle hva hL
            go_wp2_with (first | (go_at_call 115; refine (HX.out _).mono ?_; rintro e w' ⟨rfl, rfl⟩) | (go_at_call 116; refine (HN.out _ HT.out).mono ?_; rintro e w' ⟨rfl, rfl⟩))
            rw [hr.out]
            refine bodyPost_ret (v := .tuple #[.int .i64 (e : Int), .int .i32 (numb v)]) ?_ rfl ⟨rfl, rfl⟩
            simp [results, Tryz.results89, go_sem]
    · have hn := getElem_over hp
      have hw : (s.data.toList.drop e).takeWhile digD = [] := while_stop (fun c hc => by rw [hn] at hc; cases hc)
      have hE : v = V := by have := HA.out; rw [hw] at this; exact this
      have hL : e = 1 + D.length := by have := HB.out; rw [hw] at this; simpa using this
      have h60 : s.data.toList[e]? ≠ some 59 := by rw [hn]; simp
      clear hw HA HB hn
      subst hE
      by_cases hz : e = 1
      · exfalso; omega
      · have hne : (s.data.toList.drop 1).takeWhile digD ≠ [] := by rw [HD.out]; intro h; rw [h] at hL; simp at hL; exact hz hL
        have hle : 1 + ((s.data.toList.drop 1).takeWhile digD).length = e := by rw [HD.out]; exact hL.symm
        have hva : valM 10 0 ((s.data.toList.drop 1).takeWhile digD) = v := by rw [HD.out]; exact HV.out
        have HN := hid (fun W => numb_any (v : Int) (by omega) (by omega) W)
        have hr := hid (HR.out.still e v hne hle hva h60)
        clear h60 hne hle hva hL
        go_wp2_with (go_at_call 116; refine (HN.out _ HT.out).mono ?_; rintro e w' ⟨rfl, rfl⟩)
        rw [hr.out]
        refine bodyPost_ret (v := .tuple #[.int .i64 (e : Int), .int .i32 (numb v)]) ?_ rfl ⟨rfl, rfl⟩
        simp [results, Tryz.results89, go_sem]

set_option maxHeartbeats 1000000 in
set_option maxRecDepth 100000 in
theorem findNumber_hex (s : ByteArray) (r : Nat × Int) (w : World) (hs : s.size ≤ 31) (h1 : 1 ≤ s.size) (h2 : 1 < s.size) (x1 : UInt8) (hx1 : s[1]'h2 = x1) (hn : (lowZ x1.toNat == 120) = true) (hR : DigEnd s.data.toList 2 16 digX r) (hT : ChTabs w) :
    Calls Tryz.prog 89 #[.string s] w fun e w' => e = .returned (.tuple #[.int .i64 (r.1 : Int), .int .i32 r.2]) ∧ w' = w := by
  have HR := hid hR
  have HT := hid hT
  obtain ⟨D, hD⟩ : ∃ D, (s.data.toList.drop 2).takeWhile digX = D := ⟨_, rfl⟩
  obtain ⟨V, hV⟩ : ∃ V, valM 16 0 D = V := ⟨_, rfl⟩
  have HD := hid hD
  have HV := hid hV
  clear hR hT hD hV
  go_enter Tryz.func89, Tryz.ntmps89
  have HY := hid (fun W => low_any (x1.toNat : Int) (by omega) (by have := x1.toNat_lt; omega) W)
  go_wp2_with (go_at_call 68; refine (HY.out _).mono ?_; rintro e W0 ⟨rfl, rfl⟩)
  go_loopw [6, 7] (fun ev nv wr => ∃ (e v : Nat), ev = .int .i64 e ∧ nv = .int .i64 v ∧ e ≤ s.size ∧ 2 ≤ e ∧ v ≤ 1114112 ∧ wr = W0 ∧ Hid (valM 16 v ((s.data.toList.drop e).takeWhile digX) = V) ∧ Hid (e + ((s.data.toList.drop e).takeWhile digX).length = 2 + D.length)) (fun ev _ _ => s.size - (RowKit.intOf ev).toNat)
  case atStart => exact ⟨2, 0, rfl, rfl, by omega, by omega, by omega, rfl, by rw [HD.out]; exact HV.out, by rw [HD.out]; exact hid rfl⟩
  case round =>
    obtain ⟨e, v, rfl, rfl, he, hF, hv, rfl, HA, HB⟩ := hrel
    by_cases hp : e < s.size
    · obtain ⟨x, hx⟩ : ∃ x, s[e]'hp = x := ⟨_, rfl⟩
      have hxl := hid (getElem_list hp hx)
      have hdx := fun W => digit_u8 x W
      have hdl := digK_le x
      have hdk : decide (digK x < 16) = digX x := digK_X x
      obtain ⟨d, hd⟩ : ∃ d, digK x = d := ⟨_, rfl⟩
      rw [hd] at hdx hdl hdk
      by_cases hlt : d < 16
      · have hdig : digX x = true := by rw [← hdk]; exact decide_eq_true hlt
        have hw := while_step hxl.out hdig
        have hdv : digV x = d := by rw [← hd]; exact (digK_V x hdig).symm
        have HA2 : Hid (valM 16 (min (v * 16 + d) 1114112) ((s.data.toList.drop (e + 1)).takeWhile digX) = V) := by
          have := HA.out
          rw [hw] at this
          unfold valM at this ⊢
          rw [List.foldl_cons, hdv] at this
          exact this
        have HB2 : Hid (e + 1 + ((s.data.toList.drop (e + 1)).takeWhile digX).length = 2 + D.length) := by
          have := HB.out
          rw [hw, List.length_cons] at this
          exact hid (by omega)
        have HX := hid hdx
        clear hd hw hdv hdig hdk HA HB hdx
        go_wp2_with (go_at_call 115; refine (HX.out _).mono ?_; rintro e w' ⟨rfl, rfl⟩)
        go_roundw
        case rel => exact ⟨e + 1, min (v * 16 + d) 1114112, rfl, by simp; omega, by omega, by omega, by omega, by first | rfl | trivial, HA2, HB2⟩
        case measure => simp [RowKit.intOf]; omega
      · have hdig : digX x = false := by rw [← hdk]; exact decide_eq_false hlt
        have hw : (s.data.toList.drop e).takeWhile digX = [] := while_stop (fun c hc => by rw [hxl.out] at hc; cases hc; exact hdig)
        have hE : v = V := by have := HA.out; rw [hw] at this; exact this
        have hL : e = 2 + D.length := by have := HB.out; rw [hw] at this; simpa using this
        have h59 : (x = 59 ∧ s.data.toList[e]? = some 59) ∨ (x ≠ 59 ∧ s.data.toList[e]? ≠ some 59) := by
          rw [hxl.out]
          by_cases h : x = 59
          · exact .inl ⟨h, by rw [h]⟩
          · exact .inr ⟨h, fun h2 => h (Option.some.inj h2)⟩
        have HX := hid hdx
        clear hd hw hdig hdk HA HB hdx
        subst hE
        by_cases hz : e = 2
        · subst hz
          skip
          have hr := HR.out.none (by rw [HD.out]; exact List.eq_nil_of_length_eq_zero (by omega))
          clear hL
          go_wp2_with (go_at_call 115; refine (HX.out _).mono ?_; rintro e w' ⟨rfl, rfl⟩)
          rw [hr]
          refine bodyPost_ret (v := .tuple #[.int .i64 0, .int .i32 0]) ?_ rfl ⟨rfl, rfl⟩
          simp [results, Tryz.results89, go_sem]
        · have hne : (s.data.toList.drop 2).takeWhile digX ≠ [] := by rw [HD.out]; intro h; rw [h] at hL; simp at hL; exact hz hL
          have hle : 2 + ((s.data.toList.drop 2).takeWhile digX).length = e := by rw [HD.out]; exact hL.symm
          have hva : valM 16 0 ((s.data.toList.drop 2).takeWhile digX) = v := by rw [HD.out]; exact HV.out
          have HN := hid (fun W => numb_any (v : Int) (by omega) (by omega) W)
          rcases h59 with ⟨h59, h60⟩ | ⟨h59, h60⟩
          · have hr := hid (HR.out.shut e v hne hle hva h60)
            clear h60 hne hle hva hL
            subst h59
            go_wp2_with (first | (go_at_call 115; refine (HX.out _).mono ?_; rintro e w' ⟨rfl, rfl⟩) | (go_at_call 116; refine (HN.out _ HT.out).mono ?_; rintro e w' ⟨rfl, rfl⟩))
            rw [hr.out]
            refine bodyPost_ret (v := .tuple #[.int .i64 ((e + 1 : Nat) : Int), .int .i32 (numb v)]) ?_ rfl ⟨rfl, rfl⟩
            simp [results, Tryz.results89, go_sem]
          · have hr := hid (HR.out.still e v hne hle hva h60)
            have h61 : ((x.toNat : Int) == 59) = false := beq_eq_false_iff_ne.2 (fun h => h59 (UInt8.toNat_inj.1 (by simp; omega)))
            clear h60 hne hle hva hL
            go_wp2_with (first | (go_at_call 115; refine (HX.out _).mono ?_; rintro e w' ⟨rfl, rfl⟩) | (go_at_call 116; refine (HN.out _ HT.out).mono ?_; rintro e w' ⟨rfl, rfl⟩))
            rw [hr.out]
            refine bodyPost_ret (v := .tuple #[.int .i64 (e : Int), .int .i32 (numb v)]) ?_ rfl ⟨rfl, rfl⟩
            simp [results, Tryz.results89, go_sem]
    · have hn := getElem_over hp
      have hw : (s.data.toList.drop e).takeWhile digX = [] := while_stop (fun c hc => by rw [hn] at hc; cases hc)
      have hE : v = V := by have := HA.out; rw [hw] at this; exact this
      have hL : e = 2 + D.length := by have := HB.out; rw [hw] at this; simpa using this
      have h60 : s.data.toList[e]? ≠ some 59 := by rw [hn]; simp
      clear hw HA HB hn
      subst hE
      by_cases hz : e = 2
      · subst hz
        have hr := HR.out.none (by rw [HD.out]; exact List.eq_nil_of_length_eq_zero (by omega))
        clear hL
        go_wp2
        refine bodyPost_ret (v := .tuple #[.int .i64 0, .int .i32 0]) ?_ rfl ⟨rfl, rfl⟩
        simp [results, Tryz.results89, go_sem]
      · have hne : (s.data.toList.drop 2).takeWhile digX ≠ [] := by rw [HD.out]; intro h; rw [h] at hL; simp at hL; exact hz hL
        have hle : 2 + ((s.data.toList.drop 2).takeWhile digX).length = e := by rw [HD.out]; exact hL.symm
        have hva : valM 16 0 ((s.data.toList.drop 2).takeWhile digX) = v := by rw [HD.out]; exact HV.out
        have HN := hid (fun W => numb_any (v : Int) (by omega) (by omega) W)
        have hr := hid (HR.out.still e v hne hle hva h60)
        clear h60 hne hle hva hL
        go_wp2_with (go_at_call 116; refine (HN.out _ HT.out).mono ?_; rintro e w' ⟨rfl, rfl⟩)
        rw [hr.out]
        refine bodyPost_ret (v := .tuple #[.int .i64 (e : Int), .int .i32 (numb v)]) ?_ rfl ⟨rfl, rfl⟩
        simp [results, Tryz.results89, go_sem]
end Go.Proofs.YtndglhflbenloaaGreatDoor
