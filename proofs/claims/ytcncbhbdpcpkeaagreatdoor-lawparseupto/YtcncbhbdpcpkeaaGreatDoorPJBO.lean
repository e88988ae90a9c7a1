/-
  Parts of the walk, joined: RpH.
-/
import Derived.Test.YtcncbhbdpcpkeaaGreatDoorPJBN
/-
  The reference's tableVerdict: its walk.
-/
namespace Go.Proofs.YtcncbhbdpcpkeaaGreatDoor
open Go.RowKit Go.Lib Own

/-- what tableVerdict answers: -1: go on -/
def tvZ (it : Nat) (tb pt : Bool) (cx : Nat) : Int := if it = 8 ∧ pt = true then 6 else if it = 0 ∧ pt = true then 5 else if it = 8 ∨ it = 0 then -1 else if cx = partT it then 0 else if tb = true then 6 else 8
def cellW : List UInt8 := [99, 101, 108, 108]
def sectW : List UInt8 := [115, 101, 99, 116, 105, 111, 110]
def rowW : List UInt8 := [114, 111, 119]
def innS : Nat → List UInt8
  | 5 => tblN
  | 6 => sectW
  | 7 => rowW
  | 8 => cellW
  | _ => []
theorem table_elem {y : List UInt8} (h : tableX y = true) : elemL y ≠ none := by
  intro e
  unfold tableX modX at h
  rw [e] at h
  revert h
  decide
theorem inn_word (y : List UInt8) (h : tableX y = true) : innW y = innS (modX y) ∧ 5 ≤ modX y ∧ modX y ≤ 8 :=
  known_all (fun y => tableX y = true → innW y = innS (modX y) ∧ 5 ≤ modX y ∧ modX y ≤ 8) (by decide +kernel) y (table_elem h) h
theorem innE_word : ∀ l : List (List UInt8), innW (innE l) = innS (innR l) ∧ (innR l = 0 ∨ (5 ≤ innR l ∧ innR l ≤ 8))
  | [] => ⟨rfl, .inl rfl⟩
  | y :: r => by
    unfold innE innR
    by_cases h : tableX y = true
    · rw [if_pos h, if_pos h]
      exact ⟨(inn_word y h).1, .inr (inn_word y h).2⟩
    · rw [if_neg h, if_neg h]
      exact innE_word r
theorem cls_words (x : List UInt8) : (classW (classL x) = sectW ↔ clsX x = 5) ∧ (classW (classL x) = rowW ↔ clsX x = 6) ∧ (classW (classL x) = cellW ↔ clsX x = 7) := by
  refine elem_all (fun x => (classW (classL x) = sectW ↔ clsX x = 5) ∧ (classW (classL x) = rowW ↔ clsX x = 6) ∧ (classW (classL x) = cellW ↔ clsX x = 7)) (by decide +kernel) (fun x h1 h2 => ?_) x
  have h3 : clsX x = 0 := by unfold clsX; rw [h1]; rfl
  rw [h2, h3]
  decide
theorem table_name (x : List UInt8) (h : tableX x = true) : x = tblN ↔ modX x = 5 :=
  known_all (fun y => tableX y = true → (y = tblN ↔ modX y = 5)) (by decide +kernel) x (table_elem h) h
set_option maxHeartbeats 8000000 in
set_option maxRecDepth 100000 in
theorem tabVerdict_any (ov : Value) (op : List (List UInt8)) (x : List UInt8) (w : World) (h : Words w ov op) (hfw : op.length ≤ 100000000) :
    Calls Tryz.prog 177 #[ov, .string (bs x)] w fun e w' => e = .returned (.int .i64 (tvZ (innT op) (tableX x) (tableX x && decide (modX x ≠ 5)) (clsX x))) ∧ w' = w := by
  have hin := refInner_any ov op w h hfw
  have hiw := innE_word op.reverse
  have hit := fun W => refTable_any (bs x) W
  have hcl := fun W => classOf_any (bs x) W
  rw [bs_toList] at hit hcl
  have hcw := cls_words x
  have hnm := table_name x
  have hq : ((bs x).toList == [116, 97, 98, 108, 101]) = decide (x = tblN) := by rw [bs_toList, Bool.eq_iff_iff, beq_iff_eq, decide_eq_true_iff]; rfl
  have c1 : ((bs (classW (classL x))).toList == [115, 101, 99, 116, 105, 111, 110]) = decide (clsX x = 5) := by rw [bs_toList, Bool.eq_iff_iff, beq_iff_eq, decide_eq_true_iff]; exact hcw.1
  have c2 : ((bs (classW (classL x))).toList == [114, 111, 119]) = decide (clsX x = 6) := by rw [bs_toList, Bool.eq_iff_iff, beq_iff_eq, decide_eq_true_iff]; exact hcw.2.1
  have c3 : ((bs (classW (classL x))).toList == [99, 101, 108, 108]) = decide (clsX x = 7) := by rw [bs_toList, Bool.eq_iff_iff, beq_iff_eq, decide_eq_true_iff]; exact hcw.2.2
  rw [show innT op = innR op.reverse from rfl]
  rw [hiw.1] at hin
  have hii := hiw.2
  clear hiw hcw
  obtain ⟨op', on, oc, rfl⟩ : ∃ p n c, ov = .slice p n c := h.shape
  generalize innR op.reverse = IT at hin hii ⊢
  generalize bs (classW (classL x)) = CL at hcl c1 c2 c3
  generalize clsX x = CX at c1 c2 c3 ⊢
  have hTB : (tableX x = false ∧ (tableX x && decide (modX x ≠ 5)) = false) ∨ (tableX x = true ∧ (tableX x && decide (modX x ≠ 5)) = false ∧ ((bs x).toList == [116, 97, 98, 108, 101]) = true) ∨ (tableX x = true ∧ (tableX x && decide (modX x ≠ 5)) = true ∧ ((bs x).toList == [116, 97, 98, 108, 101]) = false) := by
    cases hT : tableX x with
    | false => exact .inl ⟨rfl, rfl⟩
    | true =>
      by_cases h5 : modX x = 5
      · exact .inr (.inl ⟨rfl, by simp [h5], by rw [hq]; exact decide_eq_true ((hnm hT).2 h5)⟩)
      · exact .inr (.inr ⟨rfl, by simp [h5], by rw [hq]; exact decide_eq_false (fun e => h5 ((hnm hT).1 e))⟩)
  generalize (tableX x && decide (modX x ≠ 5)) = PT at hTB ⊢
  generalize tableX x = TB at hit hTB ⊢
  clear hnm hq
  generalize bs x = X at hit hcl hTB ⊢
  have HI := hid hit
  have HC := hid hcl
  have HN := hid hin
  clear hit hcl hin h
  obtain ⟨Z, hZ⟩ : ∃ Z, tvZ IT TB PT CX = Z := ⟨_, rfl⟩
  rw [hZ]
  have hIT : (IT = 0 ∧ Hid (Calls Tryz.prog 176 #[.slice op' on oc] w fun e w' => e = .returned (.string ⟨#[]⟩) ∧ w' = w)) ∨ (IT = 8 ∧ Hid (Calls Tryz.prog 176 #[.slice op' on oc] w fun e w' => e = .returned (.string ⟨#[99, 101, 108, 108]⟩) ∧ w' = w)) ∨ (IT = 5 ∧ Hid (Calls Tryz.prog 176 #[.slice op' on oc] w fun e w' => e = .returned (.string ⟨#[116, 97, 98, 108, 101]⟩) ∧ w' = w)) ∨ (IT = 6 ∧ Hid (Calls Tryz.prog 176 #[.slice op' on oc] w fun e w' => e = .returned (.string ⟨#[115, 101, 99, 116, 105, 111, 110]⟩) ∧ w' = w)) ∨ (IT = 7 ∧ Hid (Calls Tryz.prog 176 #[.slice op' on oc] w fun e w' => e = .returned (.string ⟨#[114, 111, 119]⟩) ∧ w' = w)) := by
    have h5 : IT = 0 ∨ IT = 8 ∨ IT = 5 ∨ IT = 6 ∨ IT = 7 := by omega
    rcases h5 with rfl | rfl | rfl | rfl | rfl
    · exact .inl ⟨rfl, HN⟩
    · exact .inr (.inl ⟨rfl, HN⟩)
    · exact .inr (.inr (.inl ⟨rfl, HN⟩))
    · exact .inr (.inr (.inr (.inl ⟨rfl, HN⟩)))
    · exact .inr (.inr (.inr (.inr ⟨rfl, HN⟩)))
  have hM : (CX = partT IT) ∨ ¬ (CX = partT IT) := Classical.em _
  clear hii HN
  rcases hIT with ⟨rfl, HN⟩ | ⟨rfl, HN⟩ | ⟨rfl, HN⟩ | ⟨rfl, HN⟩ | ⟨rfl, HN⟩ <;> rcases hTB with ⟨rfl, rfl⟩ | ⟨rfl, rfl, hx⟩ | ⟨rfl, rfl, hx⟩ <;> rcases hM with hM | hM
  all_goals
    simp [partT] at hM
    simp [tvZ, partT, hM] at hZ
    subst hZ
    first
      | (subst hM; simp only [Nat.reduceEqDiff, decide_true, decide_false] at c1 c2 c3)
      | (rw [decide_eq_false hM] at c1; clear c2 c3 hM)
      | (rw [decide_eq_false hM] at c2; clear c1 c3 hM)
      | (rw [decide_eq_false hM] at c3; clear c1 c2 hM)
    go_enter Tryz.func177, Tryz.ntmps177
    go_wp2_with fail
    refine (HC.out _).mono ?_
    rintro e W1 ⟨rfl, rfl⟩
    go_wp2_with fail
    refine (HI.out _).mono ?_
    rintro e W1 ⟨rfl, rfl⟩
    go_wp2_with fail
    refine HN.out.mono ?_
    rintro e W1 ⟨rfl, rfl⟩
    go_wp2_with fail
    first
      | (go_ret; exact ⟨rfl, rfl⟩)
      | (refine (HI.out _).mono ?_; rintro e W1 ⟨rfl, rfl⟩; go_wp2_with fail; go_ret; exact ⟨rfl, rfl⟩)
end Go.Proofs.YtcncbhbdpcpkeaaGreatDoor
