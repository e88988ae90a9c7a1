/-
  Parts of the walk, joined: RpI.
-/
import Derived.Test.YtcncbhbdpcpkeaaGreatDoorPJBO
import Derived.Test.YtcncbhbdpcpkeaaGreatDoorPJBI
/-
  The reference's isHeading and startVerdict: their walks.
-/
namespace Go.Proofs.YtcncbhbdpcpkeaaGreatDoor
open Go.RowKit Go.Lib Own

set_option maxRecDepth 100000 in
theorem refHeadTwo (S : ByteArray) (a c : UInt8) (w : World) (h2 : S.size = 2) (x0 : S[0]'(by omega) = a) (x1 : S[1]'(by omega) = c) (R : Bool) (hR : (a == 104 && (decide (49 ≤ c.toNat) && decide (c.toNat ≤ 54))) = R) :
    Calls Tryz.prog 180 #[.string S] w fun e w' => e = .returned (.bool R) ∧ w' = w := by
  by_cases ha : a = 104
  · have q0 : ((a.toNat : Int) == 104) = true := by rw [ha]; rfl
    by_cases hc : 49 ≤ c.toNat
    · have q1 : decide ((49 : Int) ≤ (c.toNat : Int)) = true := decide_eq_true (by omega)
      have p1 : (49 : Int) ≤ (c.toNat : Int) := by omega
      by_cases hd : c.toNat ≤ 54
      · have q2 : decide ((c.toNat : Int) ≤ 54) = true := decide_eq_true (by omega)
        have p2 : (c.toNat : Int) ≤ 54 := by omega
        have e : true = R := by rw [← hR, ha, decide_eq_true hc, decide_eq_true hd]; rfl
        subst e
        clear hR ha hc hd
        go_enter Tryz.func180, Tryz.ntmps180
        go_wp2
        go_ret
        exact ⟨rfl, rfl⟩
      · have q2 : decide ((c.toNat : Int) ≤ 54) = false := decide_eq_false (by omega)
        have p2 : ¬ (c.toNat : Int) ≤ 54 := by omega
        have e : false = R := by rw [← hR, decide_eq_false hd, Bool.and_false, Bool.and_false]
        subst e
        clear hR ha hc hd
        go_enter Tryz.func180, Tryz.ntmps180
        go_wp2
        go_ret
        exact ⟨rfl, rfl⟩
    · have q1 : decide ((49 : Int) ≤ (c.toNat : Int)) = false := decide_eq_false (by omega)
      have p1 : ¬ (49 : Int) ≤ (c.toNat : Int) := by omega
      have e : false = R := by rw [← hR, decide_eq_false hc, Bool.false_and, Bool.and_false]
      subst e
      clear hR ha hc
      go_enter Tryz.func180, Tryz.ntmps180
      go_wp2
      go_ret
      exact ⟨rfl, rfl⟩
  · have q0 : ((a.toNat : Int) == 104) = false := by
      rw [beq_eq_false_iff_ne]
      intro e
      have k : (104 : UInt8).toNat = 104 := rfl
      exact ha (UInt8.toNat_inj.1 (by omega))
    have e : false = R := by rw [← hR, show (a == 104) = false from beq_eq_false_iff_ne.2 ha, Bool.false_and]
    subst e
    clear hR ha
    go_enter Tryz.func180, Tryz.ntmps180
    go_wp2
    go_ret
    exact ⟨rfl, rfl⟩
theorem refHead_any (l : List UInt8) (w : World) : Calls Tryz.prog 180 #[.string (bs l)] w fun e w' => e = .returned (.bool (headX l)) ∧ w' = w := by
  by_cases hl : l.length = 2
  · match l, hl with
    | [a, c], _ => exact refHeadTwo (bs [a, c]) a c w rfl rfl rfl _ rfl
  · have e : headX l = false := by unfold headX; rw [show (l.length == 2) = false from beq_eq_false_iff_ne.2 hl, Bool.false_and]
    rw [e]
    have hs := bs_size l
    have q : (((bs l).size : Int) == 2) = false := beq_eq_false_iff_ne.2 (by omega)
    generalize bs l = S at q ⊢
    clear hs hl e
    go_enter Tryz.func180, Tryz.ntmps180
    go_wp2
    go_ret
    exact ⟨rfl, rfl⟩
def areaN : List UInt8 := [116, 101, 120, 116, 97, 114, 101, 97]
theorem area_mod (y : List UInt8) : y = areaN ↔ modX y = 3 := by
  refine elem_all (fun y => y = areaN ↔ modX y = 3) (by decide +kernel) (fun y h1 h2 => ?_) y
  have h3 : modX y = 0 := by unfold modX; rw [h1]; rfl
  rw [h3]
  exact ⟨fun e => by subst e; exact absurd h1 (by decide +kernel), fun e => absurd e (by decide)⟩
theorem class_none (x : List UInt8) : classW (classL x) = [] ↔ elemL x = none := by
  refine elem_all (fun x => classW (classL x) = [] ↔ elemL x = none) (by decide +kernel) (fun x h1 h2 => ?_) x
  rw [h2]
  exact ⟨fun _ => h1, fun _ => rfl⟩
theorem flow_cls (x : List UInt8) : classW (classL x) = [102, 108, 111, 119] ↔ clsX x = 1 := by
  refine elem_all (fun x => classW (classL x) = [102, 108, 111, 119] ↔ clsX x = 1) (by decide +kernel) (fun x h1 h2 => ?_) x
  have h3 : clsX x = 0 := by unfold clsX; rw [h1]; rfl
  rw [h2, h3]
  decide
theorem part_free (x : List UInt8) (h : elemL x ≠ none) (hc : clsX x = 5 ∨ clsX x = 6 ∨ clsX x = 7) : headX x = false ∧ x ≠ aN ∧ clsX x ≠ 4 ∧ clsX x ≠ 1 := by
  have h1 := known_all (fun x => (clsX x = 5 ∨ clsX x = 6 ∨ clsX x = 7) → headX x = false ∧ x ≠ aN) (by decide +kernel) x h hc
  exact ⟨h1.1, h1.2, by omega, by omega⟩
/-- the rest of startVerdict, behind the tables -/
theorem judgeO_part {op : List (List UInt8)} {x : List UInt8} (h : elemL x ≠ none) (hc : clsX x = 5 ∨ clsX x = 6 ∨ clsX x = 7) : judgeO op x = 0 := by
  obtain ⟨h1, h2, h3, h4⟩ := part_free x h hc
  unfold judgeO
  rw [if_neg (fun e => h3 e.1), if_neg (fun e => e.1.elim h3 h4), if_neg (fun e => by rw [h1] at e; cases e.1), if_neg (fun e => h2 e.1)]
/-- tables and what is open: as the reference parts them -/
theorem judge_tv {op : List (List UInt8)} {x : List UInt8} (h1 : (modI op == 3) = false) (h2 : elemL x ≠ none) (h3 : ¬ 256 ≤ op.length) : judgeP op x = if 0 ≤ tvZ (innT op) (tableX x) (tableX x && decide (modX x ≠ 5)) (clsX x) then (tvZ (innT op) (tableX x) (tableX x && decide (modX x ≠ 5)) (clsX x)).toNat else judgeO op x := by
  have hpt : (tableX x && decide (modX x ≠ 5)) = true ↔ tableX x = true ∧ modX x ≠ 5 := by simp
  have hjt : judgeT op x = if innT op = 0 ∧ tableX x = true ∧ modX x ≠ 5 then 5 else if innT op = 8 ∧ tableX x = true ∧ modX x ≠ 5 then 6 else if innT op = 0 ∨ innT op = 8 ∨ clsX x = partT (innT op) then 0 else if tableX x = true then 6 else 8 := rfl
  obtain ⟨Z, hZ⟩ : ∃ Z, tvZ (innT op) (tableX x) (tableX x && decide (modX x ≠ 5)) (clsX x) = Z := ⟨_, rfl⟩
  rw [hZ]
  unfold tvZ at hZ
  by_cases p : tableX x = true ∧ modX x ≠ 5
  · have p' := hpt.2 p
    by_cases i8 : innT op = 8
    · rw [if_pos ⟨i8, p'⟩] at hZ
      subst hZ
      rw [if_neg (by omega), if_pos ⟨i8, p⟩] at hjt
      rw [judge_tab h1 h2 h3 (by rw [hjt]; decide), hjt]
      rfl
    · rw [if_neg (fun e => i8 e.1)] at hZ
      by_cases i0 : innT op = 0
      · rw [if_pos ⟨i0, p'⟩] at hZ
        subst hZ
        rw [if_pos ⟨i0, p⟩] at hjt
        rw [judge_tab h1 h2 h3 (by rw [hjt]; decide), hjt]
        rfl
      · rw [if_neg (fun e => i0 e.1), if_neg (fun e => e.elim i8 i0)] at hZ
        rw [if_neg (fun e => i0 e.1), if_neg (fun e => i8 e.1)] at hjt
        by_cases m : clsX x = partT (innT op)
        · rw [if_pos m] at hZ
          subst hZ
          rw [if_pos (.inr (.inr m))] at hjt
          have hc : clsX x = 5 ∨ clsX x = 6 ∨ clsX x = 7 := by rw [m]; unfold partT; split <;> (try split) <;> simp
          rw [judge_op h1 h2 h3 hjt, judgeO_part h2 hc]
          rfl
        · rw [if_neg m, if_pos p.1] at hZ
          subst hZ
          rw [if_neg (fun e => e.elim i0 (fun e => e.elim i8 m)), if_pos p.1] at hjt
          rw [judge_tab h1 h2 h3 (by rw [hjt]; decide), hjt]
          rfl
  · have p' : ¬ (tableX x && decide (modX x ≠ 5)) = true := fun e => p (hpt.1 e)
    rw [if_neg (fun e => p' e.2), if_neg (fun e => p' e.2)] at hZ
    rw [if_neg (fun e => p e.2), if_neg (fun e => p e.2)] at hjt
    by_cases i : innT op = 8 ∨ innT op = 0
    · rw [if_pos i] at hZ
      subst hZ
      rw [if_pos (i.elim (fun e => .inr (.inl e)) .inl)] at hjt
      rw [judge_op h1 h2 h3 hjt]
      rfl
    · rw [if_neg i] at hZ
      by_cases m : clsX x = partT (innT op)
      · rw [if_pos m] at hZ
        subst hZ
        rw [if_pos (.inr (.inr m))] at hjt
        have hc : clsX x = 5 ∨ clsX x = 6 ∨ clsX x = 7 := by rw [m]; unfold partT; split <;> (try split) <;> simp
        rw [judge_op h1 h2 h3 hjt, judgeO_part h2 hc]
        rfl
      · rw [if_neg m] at hZ
        rw [if_neg (fun e => e.elim (fun e => i (.inr e)) (fun e => e.elim (fun e => i (.inl e)) m))] at hjt
        by_cases tb : tableX x = true
        · rw [if_pos tb] at hZ
          subst hZ
          rw [if_pos tb] at hjt
          rw [judge_tab h1 h2 h3 (by rw [hjt]; decide), hjt]
          rfl
        · rw [if_neg tb] at hZ
          subst hZ
          rw [if_neg tb] at hjt
          rw [judge_tab h1 h2 h3 (by rw [hjt]; decide), hjt]
          rfl
end Go.Proofs.YtcncbhbdpcpkeaaGreatDoor
