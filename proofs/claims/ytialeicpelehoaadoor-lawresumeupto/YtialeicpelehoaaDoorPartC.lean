/-
  Parts of the walk, joined: LexEv, Byte, Text, Enc, RefTabs, Hidden, FindNum, Set, Remap.
-/
import Derived.Test.YtialeicpelehoaaDoorPartB
import Derived.Test.YtialeicpelehoaaDoorPartA
import Derived.LoopN
import Derived.Deep.MidRow
import Derived.Test.YtialeicpelehoaaDoorShelf
import Derived.Lib.IndexBytes
import Derived.Deep.QuietTactic
import Derived.BigQuiet
import Derived.BigCall
import Derived.Deep.Cut
import Derived.Great.Walk
import Derived.Great.BuildSlice
/-
  The lexer's events as a plain list: texts that meet, joined; and what is told at the end of a text.
-/
namespace Go.Proofs.YtialeicpelehoaaDoor

inductive Ev where
  | text (b : List UInt8)
  | start (name : List UInt8) (attrs : List (List UInt8 × List UInt8))
  | stop (name : List UInt8)
def toEv : Item → Ev
  | .unit b => .text b
  | .start n a => .start n a
  | .stop n => .stop n
def jcons : Ev → List Ev → List Ev
  | .text b, .text c :: r => .text (b ++ c) :: r
  | e, r => e :: r
def joinEv : List Ev → List Ev
  | [] => []
  | e :: r => jcons e (joinEv r)
theorem jcons_start (n : List UInt8) (a : List (List UInt8 × List UInt8)) (r : List Ev) : jcons (.start n a) r = .start n a :: r := rfl
theorem jcons_stop (n : List UInt8) (r : List Ev) : jcons (.stop n) r = .stop n :: r := rfl
theorem jcons_text2 (b c : List UInt8) (r : List Ev) : jcons (.text b) (jcons (.text c) r) = jcons (.text (b ++ c)) r := by
  cases r with
  | nil => rfl
  | cons e r => cases e <;> simp [jcons]
theorem join_two (b c : List UInt8) (r : List Ev) : joinEv (.text b :: .text c :: r) = joinEv (.text (b ++ c) :: r) := jcons_text2 b c (joinEv r)
theorem join_left : ∀ (a b : List Ev), joinEv (joinEv a ++ b) = joinEv (a ++ b)
  | [], b => rfl
  | e :: a, b => by
    have ih := join_left a b
    have h : joinEv (jcons e (joinEv a) ++ b) = jcons e (joinEv (joinEv a ++ b)) := by
      cases e with
      | start n x => rfl
      | stop n => rfl
      | text t =>
        cases hj : joinEv a with
        | nil => rfl
        | cons f r =>
          cases f with
          | start n x => rfl
          | stop n => rfl
          | text u =>
            show jcons (.text (t ++ u)) (joinEv (r ++ b)) = jcons (.text t) (jcons (.text u) (joinEv (r ++ b)))
            rw [jcons_text2]
    show joinEv (jcons e (joinEv a) ++ b) = jcons e (joinEv (a ++ b))
    rw [h, ih]
theorem join_idem (a : List Ev) : joinEv (joinEv a) = joinEv a := by
  have := join_left a []
  rwa [List.append_nil, List.append_nil] at this
theorem join_right : ∀ (a b : List Ev), joinEv (a ++ joinEv b) = joinEv (a ++ b)
  | [], b => join_idem b
  | e :: a, b => by
    show jcons e (joinEv (a ++ joinEv b)) = jcons e (joinEv (a ++ b))
    rw [join_right a b]

/-! ## the stream: events, and the text that was put behind the last of them -/

def flushE (s : List Ev × List UInt8) : List Ev := if s.2 = [] then s.1 else s.1 ++ [.text s.2]
def putI (s : List Ev × List UInt8) : Item → List Ev × List UInt8
  | .unit b => (s.1, s.2 ++ b)
  | .start n a => (flushE s ++ [.start n a], [])
  | .stop n => (flushE s ++ [.stop n], [])
def evsL (l : List Item) : List Ev := flushE (l.foldl putI ([], []))
def fullI : Item → Prop
  | .unit b => b ≠ []
  | _ => True
theorem fold_join : ∀ (l : List Item), (∀ i ∈ l, fullI i) → ∀ (E : List Ev) (t : List UInt8), flushE (l.foldl putI (E, t)) = E ++ joinEv ((if t = [] then [] else [.text t]) ++ l.map toEv)
  | [], _, E, t => by
    unfold flushE
    by_cases ht : t = [] <;> simp [ht, joinEv, jcons]
  | i :: l, h, E, t => by
    have hi := h i (.head _)
    have hl : ∀ j ∈ l, fullI j := fun j hj => h j (.tail _ hj)
    rw [List.foldl_cons]
    cases i with
    | unit b =>
      have hb : b ≠ [] := hi
      show flushE (l.foldl putI (E, t ++ b)) = _
      rw [fold_join l hl E (t ++ b), if_neg (by simp [hb])]
      congr 1
      by_cases ht : t = []
      · subst ht; rfl
      · rw [if_neg ht]
        exact (join_two t b (l.map toEv)).symm
    | start n a =>
      show flushE (l.foldl putI (flushE (E, t) ++ [.start n a], [])) = _
      rw [fold_join l hl _ [], if_pos rfl]
      unfold flushE
      by_cases ht : t = []
      · simp [ht, joinEv, toEv, jcons_start]
      · simp [ht, joinEv, toEv, jcons]
    | stop n =>
      show flushE (l.foldl putI (flushE (E, t) ++ [.stop n], [])) = _
      rw [fold_join l hl _ [], if_pos rfl]
      unfold flushE
      by_cases ht : t = []
      · simp [ht, joinEv, toEv, jcons_stop]
      · simp [ht, joinEv, toEv, jcons]
theorem evs_join (l : List Item) (h : ∀ i ∈ l, fullI i) : evsL l = joinEv (l.map toEv) := by
  unfold evsL
  rw [fold_join l h [] [], if_pos rfl]
  rfl
theorem evs_append (a b : List Item) (hb : ∀ i ∈ b, fullI i) (pre : List Ev) (hp : joinEv pre = joinEv (a.map toEv)) : joinEv (pre ++ evsL b) = joinEv ((a ++ b).map toEv) := by
  rw [evs_join b hb, join_right, ← join_left, hp, join_left, List.map_append]

/-! ## what a run puts out is full -/

theorem unr_full (attr : Bool) (r : List UInt8) : unr attr (38 :: r) ≠ [] := by
  rw [unr_amp]
  intro h
  have h1 := (List.append_eq_nil_iff.1 h).1
  unfold oneL at h1
  split at h1
  · cases h1
  · have h2 := congrArg List.length h1
    rw [← Go.Lib.runeCells_length] at h2
    unfold Go.Lib.runeCells at h2
    rw [List.length_map] at h2
    have := (Go.Lib.encodeRuneZ_length (refL attr r).2).1
    simp at h2
    rw [h2] at this
    simp at this
theorem unit_full {st : LS} {b : List UInt8} (h : b ≠ []) : ∀ i ∈ unitL2 st b, fullI i := by
  intro i hi
  unfold unitL2 at hi
  split at hi
  · cases hi
  · rw [List.mem_singleton] at hi
    rw [hi]
    exact h
theorem tag_full {W k : Nat} {L : List UInt8} {st st' : LS} {n : Nat} {it : List Item} (h : tagL W k L st = .done n st' it) : ∀ i ∈ it, fullI i := by
  unfold tagL at h
  simp only at h
  split at h
  · cases h
  · simp only [Res.done.injEq] at h
    rw [← h.2.2]
    intro i hi
    split at hi
    · split at hi <;> (rw [List.mem_singleton] at hi; rw [hi]; trivial)
    · cases hi
theorem ref_full {st st' : LS} {L : List UInt8} {n : Nat} {it : List Item} (hL : L.getD 0 0 = 38) (h : refRes st L = .done n st' it) : ∀ i ∈ it, fullI i := by
  unfold refRes at h
  split at h
  · cases h
  · rename_i e he
    simp only [Res.done.injEq] at h
    rw [← h.2.2]
    cases L with
    | nil => simp at hL
    | cons c r =>
      obtain ⟨h1, _, _⟩ := ref_stable he (by simp) []
      obtain ⟨m, rfl⟩ : ∃ m, e = m + 1 := ⟨e - 1, by omega⟩
      have hc : c = 38 := by simpa using hL
      subst hc
      exact unit_full (unr_full false _)
theorem step_full {W : Nat} {st st' : LS} {L : List UInt8} {n : Nat} {it : List Item} (h : stepL W st L = .done n st' it) : ∀ i ∈ it, fullI i := by
  have none : ∀ {r : List Item}, r = [] → ∀ i ∈ r, fullI i := fun hr i hi => by rw [hr] at hi; cases hi
  unfold stepL at h
  split at h
  · unfold commentRes at h
    split at h <;> cases h
    exact none rfl
  · split at h
    · unfold bogusRes at h
      split at h <;> cases h
      exact none rfl
    · split at h
      · unfold skipTagRes at h; cases h; exact none rfl
      · split at h
        · unfold dataRes at h
          split at h
          · unfold markupRes at h
            split at h
            · cases h
            · split at h
              · exact tag_full h
              · split at h
                · exact tag_full h
                · split at h
                  · cases h; exact none rfl
                  · split at h
                    · cases h; exact none rfl
                    · unfold byteRes at h; cases h; exact unit_full (by simp)
          · split at h
            · rename_i h38; exact ref_full h38 h
            · unfold byteRes at h; cases h; exact unit_full (by simp)
        · split at h
          · unfold areaRes at h
            split at h
            · simp only at h
              split at h
              · cases h
              · split at h
                · exact tag_full h
                · unfold byteRes at h; cases h; exact unit_full (by simp)
            · split at h
              · rename_i h38; exact ref_full h38 h
              · unfold byteRes at h; cases h; exact unit_full (by simp)
          · unfold rawRes at h
            split at h
            · cases h; exact none rfl
            · rename_i i hi
              split at h
              · cases h; exact none rfl
              · simp only at h
                split at h
                · cases h
                · split at h
                  · cases ht : tagL W 2 (L.drop i) st with
                    | more m s => rw [ht] at h; cases h
                    | done m s it2 =>
                      rw [ht] at h
                      simp only [Res.shift, Res.done.injEq] at h
                      rw [← h.2.2]
                      exact tag_full ht
                  · cases h; exact none rfl
theorem run_full {W : Nat} (hW : 32 ≤ W) : ∀ (N : Nat) (st : LS) (L : List UInt8), st.scan ≤ 10 → L.length ≤ N → ∀ i ∈ (runL W st L).2.2, fullI i
  | _, st, [], _, _ => by rw [run_nil]; intro i hi; cases hi
  | 0, st, c :: r, _, h => by simp at h
  | N + 1, st, c :: r, h0, h => by
    cases hs : stepL W st (c :: r) with
    | more n st' => rw [run_more (by simp) hs]; intro i hi; cases hi
    | done n st' it =>
      obtain ⟨h1, h2, h3⟩ := step_pos hW h0 (by simp) hs
      rw [run_done hW h0 (by simp) hs]
      intro i hi
      rcases List.mem_append.1 hi with hi | hi
      · exact step_full hs i hi
      · exact run_full hW N st' _ h3 (by rw [List.length_drop]; omega) i hi

/-! ## the end of a text -/

def bytesL : LS → List UInt8 → List Item
  | _, [] => []
  | st, c :: r => unitL2 st [c] ++ bytesL (noEat st) r
def endL (st : LS) (L : List UInt8) : List Item :=
  if L = [] ∨ st.scan ≠ 0 then [] else if L.getD 0 0 = 38 then unitL2 st (unr false L)
  else if st.mode = 0 ∧ (L = [60] ∨ L = [60, 47]) ∨ st.mode = 1 ∧ ownL (60 :: 47 :: rawL 1) L = 1 then bytesL st L else []
theorem bytes_full : ∀ (st : LS) (L : List UInt8), ∀ i ∈ bytesL st L, fullI i
  | _, [] => fun i hi => by cases hi
  | st, c :: r => fun i hi => by
    rcases List.mem_append.1 hi with hi | hi
    · exact unit_full (by simp) i hi
    · exact bytes_full _ r i hi
theorem end_full (st : LS) (L : List UInt8) : ∀ i ∈ endL st L, fullI i := by
  unfold endL
  split
  · intro i hi; cases hi
  · rename_i hL
    split
    · rename_i h38
      cases L with
      | nil => exact absurd (.inl rfl) hL
      | cons c r =>
        have hc : c = 38 := by simpa using h38
        subst hc
        exact unit_full (unr_full false r)
    · split
      · exact bytes_full st L
      · intro i hi; cases hi
/-- all that a whole text gives -/
def wholeL (W : Nat) (st : LS) (L : List UInt8) : List Item := (runL W st L).2.2 ++ endL (runL W st L).1 (runL W st L).2.1
end Go.Proofs.YtialeicpelehoaaDoor

/-
  Single bytes: scrub/ascii's functions, scrubref's, and what a digit counts: their walks.
-/
namespace Go.Proofs.YtialeicpelehoaaDoor
open Go.RowKit Go.Lib

theorem ret_u8 {a b : Int} (h : a = b) : Ending.returned (.int .u8 a) = .returned (.int .u8 b) := by rw [h]
theorem ret_i64 {a b : Int} (h : a = b) : Ending.returned (.int .i64 a) = .returned (.int .i64 b) := by rw [h]
def lowZ (z : Int) : Int := if 65 ≤ z ∧ z ≤ 90 then z + 32 else z
def isDigZ (z : Int) : Bool := decide (48 ≤ z ∧ z ≤ 57)
def isLetZ (z : Int) : Bool := decide (65 ≤ z ∧ z ≤ 90 ∨ 97 ≤ z ∧ z ≤ 122)
def digZ (z : Int) : Int := if 48 ≤ z ∧ z ≤ 57 then z - 48 else if 65 ≤ z ∧ z ≤ 70 then z - 55 else if 97 ≤ z ∧ z ≤ 102 then z - 87 else 16

theorem low_any (z : Int) (h0 : 0 ≤ z) (h1 : z ≤ 255) (w : World) :
    Calls Tryd.prog 66 #[.int .u8 z] w fun e w' => e = .returned (.int .u8 (lowZ z)) ∧ w' = w := by
  go_enter Tryd.func66, Tryd.ntmps66
  go_wp2
  all_goals go_ret
  all_goals refine ⟨ret_u8 ?_, rfl⟩
  all_goals (unfold lowZ; split <;> omega)
theorem dig_any (z : Int) (_h0 : 0 ≤ z) (_h1 : z ≤ 255) (w : World) :
    Calls Tryd.prog 74 #[.int .u8 z] w fun e w' => e = .returned (.bool (isDigZ z)) ∧ w' = w := by
  go_enter Tryd.func74, Tryd.ntmps74
  go_wp2
  all_goals go_ret
  all_goals refine ⟨ret_bool ?_, rfl⟩
  all_goals (rw [Bool.eq_iff_iff]; simp [isDigZ]; omega)
theorem low_or (z : Int) : (65 ≤ z ∧ z ≤ 90 ∧ lowZ z = z + 32) ∨ (¬ (65 ≤ z ∧ z ≤ 90) ∧ lowZ z = z) := by
  unfold lowZ
  split <;> omega
theorem let_any (z : Int) (h0 : 0 ≤ z) (h1 : z ≤ 255) (w : World) :
    Calls Tryd.prog 73 #[.int .u8 z] w fun e w' => e = .returned (.bool (isLetZ z)) ∧ w' = w := by
  have hc := fun W => low_any z h0 h1 W
  have hl := low_or z
  generalize lowZ z = l at hc hl
  go_enter Tryd.func73, Tryd.ntmps73
  go_wp2_with (go_at_call 66; refine (hc _).mono ?_; rintro e w' ⟨rfl, rfl⟩)
  all_goals go_ret
  all_goals refine ⟨ret_bool ?_, rfl⟩
  all_goals (rw [Bool.eq_iff_iff]; simp [isLetZ]; omega)
theorem refDig_any (z : Int) (_h0 : 0 ≤ z) (_h1 : z ≤ 255) (w : World) :
    Calls Tryd.prog 54 #[.int .u8 z] w fun e w' => e = .returned (.bool (isDigZ z)) ∧ w' = w := by
  go_enter Tryd.func54, Tryd.ntmps54
  go_wp2
  all_goals go_ret
  all_goals refine ⟨ret_bool ?_, rfl⟩
  all_goals (rw [Bool.eq_iff_iff]; simp [isDigZ]; omega)
theorem refLet_any (z : Int) (_h0 : 0 ≤ z) (_h1 : z ≤ 255) (w : World) :
    Calls Tryd.prog 53 #[.int .u8 z] w fun e w' => e = .returned (.bool (isLetZ z)) ∧ w' = w := by
  go_enter Tryd.func53, Tryd.ntmps53
  go_wp2
  all_goals go_ret
  all_goals refine ⟨ret_bool ?_, rfl⟩
  all_goals (rw [Bool.eq_iff_iff]; simp [isLetZ]; omega)
theorem digit_any (z : Int) (h0 : 0 ≤ z) (h1 : z ≤ 255) (w : World) :
    Calls Tryd.prog 71 #[.int .u8 z] w fun e w' => e = .returned (.int .i64 (digZ z)) ∧ w' = w := by
  have hc := fun W => low_any z h0 h1 W
  have hl := low_or z
  generalize lowZ z = l at hc hl
  have hd := fun W => dig_any z h0 h1 W
  have hi : isDigZ z = decide (48 ≤ z ∧ z ≤ 57) := rfl
  generalize isDigZ z = d at hd hi
  go_enter Tryd.func71, Tryd.ntmps71
  go_wp2_with (first | (go_at_call 66; refine (hc _).mono ?_; rintro e w' ⟨rfl, rfl⟩) | (go_at_call 74; refine (hd _).mono ?_; rintro e w' ⟨rfl, rfl⟩))
  all_goals go_ret
  all_goals refine ⟨ret_i64 ?_, rfl⟩
  all_goals (unfold digZ; (repeat' split) <;> omega)
theorem hex_any (z : Int) (h0 : 0 ≤ z) (h1 : z ≤ 255) (h2 : digZ z < 16) (w : World) :
    Calls Tryd.prog 77 #[.int .u8 z] w fun e w' => e = .returned (.int .i64 (digZ z)) ∧ w' = w := by
  have hd := fun W => refDig_any z h0 h1 W
  have hi : isDigZ z = decide (48 ≤ z ∧ z ≤ 57) := rfl
  generalize isDigZ z = d at hd hi
  have hz : (48 ≤ z ∧ z ≤ 57 ∧ digZ z = z - 48) ∨ (65 ≤ z ∧ z ≤ 70 ∧ digZ z = z - 55) ∨ (97 ≤ z ∧ z ≤ 102 ∧ digZ z = z - 87) := by
    unfold digZ at h2 ⊢
    repeat' split at h2
    all_goals (repeat' split)
    all_goals omega
  generalize digZ z = v at hz
  go_enter Tryd.func77, Tryd.ntmps77
  go_wp2_with (go_at_call 54; refine (hd _).mono ?_; rintro e w' ⟨rfl, rfl⟩)
  all_goals go_ret
  all_goals refine ⟨ret_i64 ?_, rfl⟩
  all_goals omega
end Go.Proofs.YtialeicpelehoaaDoor

/-
  The decoder as a plain function on bytes, that it may be cut anywhere, and what its texts are. No program is named here.
-/
namespace Go.Proofs.YtialeicpelehoaaDoor
open Go.Lib

theorem byte_lt (l : List UInt8) (j : Nat) : (l.getD j 0).toNat < 256 := (l.getD j 0).toNat_lt
theorem width_le (l : List UInt8) (h : l ≠ []) : 1 ≤ (decodeL l).2 ∧ (decodeL l).2 ≤ l.length := by
  rw [decodeL_N]
  have : 1 ≤ l.length := by cases l with | nil => exact absurd rfl h | cons a r => simp
  unfold decodeN
  repeat' split
  all_goals simp only
  all_goals omega
theorem rune_le (l : List UInt8) : (decodeL l).1 ≤ 1114111 := by
  rw [decodeL_N]
  have h0 := byte_lt l 0
  unfold decodeN
  repeat' split
  all_goals simp only
  all_goals omega

theorem full_more (a b : List UInt8) (h : fullL a = true) : fullL (a ++ b) = true := by
  unfold fullL fullN at *
  simp only [decide_eq_true_eq] at *
  have g : ∀ j, j < a.length → (a ++ b).getD j 0 = a.getD j 0 := fun j hj => by simp [List.getD, List.getElem?_append_left hj]
  rw [g 0 (by omega), List.length_append]
  rcases h with ⟨h0, h1 | ⟨h1, h2⟩ | ⟨h1, h2⟩⟩
  · omega
  · rw [g 1 (by omega)]; omega
  · rw [g 2 (by omega)]; omega

theorem stableL (a b : List UInt8) (ha : a ≠ []) (h : (decodeL a).1 ≠ 65533 ∨ fullL a = true) : decodeL (a ++ b) = decodeL a := by
  have hl : 1 ≤ a.length := by cases a with | nil => exact absurd rfl ha | cons x r => simp
  have g : ∀ j, j < a.length → (a ++ b).getD j 0 = a.getD j 0 := fun j hj => by simp [List.getD, List.getElem?_append_left hj]
  rw [decodeL_N] at h
  rw [decodeL_N, decodeL_N, g 0 (by omega)]
  exact stableN _ _ _ _ _ _ _ _ _ hl (by simp) (byte_lt _ _) (byte_lt _ _) (byte_lt _ _) (byte_lt _ _) (byte_lt _ _) (byte_lt _ _) (byte_lt _ _)
    (fun hj => by rw [g 1 hj]) (fun hj => by rw [g 2 hj]) (fun hj => by rw [g 3 hj]) h

/-- what one character gives -/
def unitL (cr : Bool) (c : Nat) : List UInt8 :=
  if c = 13 then [10] else if c = 10 ∧ cr = true then [] else if goodB c = true then encodeRune c else encodeRune 65533
/-- the rest is an unfinished character, and more may come -/
def stopL (more : Bool) (l : List UInt8) : Bool := more && ((decodeL l).1 == 65533 && !fullL l)
/-- the text, what is left over, and whether the last character was a CR -/
def readL (more : Bool) : Nat → Bool → List UInt8 → List UInt8 × List UInt8 × Bool
  | 0, cr, _ => ([], [], cr)
  | f + 1, cr, l =>
    if l = [] then ([], [], cr)
    else if stopL more l = true then ([], l, cr)
    else (unitL cr (decodeL l).1 ++ (readL more f ((decodeL l).1 == 13) (l.drop (decodeL l).2)).1, (readL more f ((decodeL l).1 == 13) (l.drop (decodeL l).2)).2)
def rd (more : Bool) (cr : Bool) (l : List UInt8) : List UInt8 × List UInt8 × Bool := readL more l.length cr l

theorem readL_fuel (more : Bool) : ∀ (f g : Nat) (cr : Bool) (l : List UInt8), l.length ≤ f → l.length ≤ g → readL more f cr l = readL more g cr l
  | 0, 0, _, _, _, _ => rfl
  | 0, g + 1, cr, l, hf, _ => by
    have : l = [] := List.eq_nil_of_length_eq_zero (by omega)
    simp [readL, this]
  | f + 1, 0, cr, l, _, hg => by
    have : l = [] := List.eq_nil_of_length_eq_zero (by omega)
    simp [readL, this]
  | f + 1, g + 1, cr, l, hf, hg => by
    by_cases h0 : l = []
    · simp [readL, h0]
    · have hw := width_le l h0
      have ih := readL_fuel more f g ((decodeL l).1 == 13) (l.drop (decodeL l).2) (by simp; omega) (by simp; omega)
      simp only [readL, h0, if_false, ih]
theorem rd_nil (more cr : Bool) : rd more cr [] = ([], [], cr) := rfl
theorem rd_stop (more cr : Bool) (l : List UInt8) (h0 : l ≠ []) (h : stopL more l = true) : rd more cr l = ([], l, cr) := by
  unfold rd
  cases l with
  | nil => exact absurd rfl h0
  | cons a r => simp [readL, h]
theorem rd_step (more cr : Bool) (l : List UInt8) (h0 : l ≠ []) (h : stopL more l = false) :
    rd more cr l = (unitL cr (decodeL l).1 ++ (rd more ((decodeL l).1 == 13) (l.drop (decodeL l).2)).1, (rd more ((decodeL l).1 == 13) (l.drop (decodeL l).2)).2) := by
  have hw := width_le l h0
  have e : ∀ c, readL more (l.length - 1) c (l.drop (decodeL l).2) = rd more c (l.drop (decodeL l).2) :=
    fun c => readL_fuel more _ _ c _ (by simp; omega) (Nat.le_refl _)
  have e1 : l.length = (l.length - 1) + 1 := by omega
  conv => lhs; unfold rd; rw [e1]
  simp only [readL, h0, if_false, h, e, Bool.false_eq_true]

/-- THE CUT: bytes may be read in pieces -/
theorem rd_cut (more : Bool) (b : List UInt8) : ∀ (n : Nat) (cr : Bool) (a : List UInt8), a.length ≤ n →
    rd more cr (a ++ b) = ((rd true cr a).1 ++ (rd more (rd true cr a).2.2 ((rd true cr a).2.1 ++ b)).1, (rd more (rd true cr a).2.2 ((rd true cr a).2.1 ++ b)).2)
  | 0, cr, a, h => by
    have : a = [] := List.eq_nil_of_length_eq_zero (by omega)
    subst this
    simp [rd_nil]
  | n + 1, cr, a, h => by
    by_cases h0 : a = []
    · subst h0; simp [rd_nil]
    · by_cases hs : stopL true a = true
      · rw [rd_stop true cr a h0 hs]; simp
      · have hs' : stopL true a = false := by simpa using hs
        have hst : (decodeL a).1 ≠ 65533 ∨ fullL a = true := by
          by_cases h1 : (decodeL a).1 = 65533
          · right; simpa [stopL, h1] using hs'
          · exact Or.inl h1
        have he := stableL a b h0 hst
        have hs2 : stopL more (a ++ b) = false := by
          unfold stopL
          rw [he]
          rcases hst with h1 | h1
          · simp [h1]
          · simp [full_more a b h1]
        have hw := width_le a h0
        rw [rd_step more cr (a ++ b) (by simp [h0]) hs2, rd_step true cr a h0 hs', he]
        have hd : (a ++ b).drop (decodeL a).2 = a.drop (decodeL a).2 ++ b := List.drop_append_of_le_length hw.2
        rw [hd, rd_cut more b n _ (a.drop (decodeL a).2) (by simp; omega)]
        simp

theorem rd_len (more : Bool) : ∀ (n : Nat) (cr : Bool) (l : List UInt8), l.length ≤ n → (rd more cr l).1.length ≤ 4 * l.length ∧ (rd more cr l).2.1.length ≤ l.length
  | 0, cr, l, h => by
    have : l = [] := List.eq_nil_of_length_eq_zero (by omega)
    subst this; simp [rd_nil]
  | n + 1, cr, l, h => by
    by_cases h0 : l = []
    · subst h0; simp [rd_nil]
    · by_cases hs : stopL more l = true
      · rw [rd_stop more cr l h0 hs]; simp
      · rw [rd_step more cr l h0 (by simpa using hs)]
        have hw := width_le l h0
        have ih := rd_len more n ((decodeL l).1 == 13) (l.drop (decodeL l).2) (by simp; omega)
        have hu : (unitL cr (decodeL l).1).length ≤ 4 := by
          have e := fun r => (encodeRuneZ_length r).2
          unfold unitL
          repeat' split
          all_goals first | simp; done | (simp only [encodeRune, List.length_map]; exact e _)
        simp only [List.length_append, List.length_drop] at ih ⊢
        omega
end Go.Proofs.YtialeicpelehoaaDoor

/-
  scrubref's encode, isCharacter, isGood: their walks.
-/
namespace Go.Proofs.YtialeicpelehoaaDoor
open Go.RowKit Go.Lib

def charB (z : Int) : Bool := decide ((0 ≤ z ∧ z < 55296) ∨ (57344 ≤ z ∧ z < 1114112))

set_option maxHeartbeats 1000000 in
theorem isCharacter_any (z : Int) (w : World) :
    Calls Tryd.prog 94 #[.int .i64 z] w fun e w' => e = .returned (.bool (charB z)) ∧ w' = w := by
  go_enter Tryd.func94, Tryd.ntmps94
  go_wp2
  all_goals go_ret
  all_goals refine ⟨ret_bool ?_, rfl⟩
  all_goals (rw [Bool.eq_iff_iff]; simp only [charB, decide_eq_true_iff, Bool.or_eq_true, Bool.false_eq_true, false_iff, true_iff]; omega)

set_option maxHeartbeats 2000000 in
set_option maxRecDepth 100000 in
theorem encode_any (z : Int) (h0 : 0 ≤ z) (h1 : z ≤ 1114111) (h2 : ¬ (55296 ≤ z ∧ z ≤ 57343)) (w : World) :
    Calls Tryd.prog 35 #[.int .i64 z] w fun e w' => e = .returned (.slice (some ⟨w.heap.size, 0, none⟩) (encodeRune z).length (encodeRune z).length) ∧ w' = w.alloc (.cells (byteCells (encodeRune z)).toArray 5) := by
  rw [byteCells_encodeRune, ← runeCells_length]
  unfold runeCells
  by_cases c1 : z < 128
  · rw [encodeRuneZ_one (by omega) (by omega)]
    go_enter Tryd.func35, Tryd.ntmps35
    go_wp2
    go_ret
    refine ⟨rfl, ?_⟩
    have e : ∀ (a b : Array Value), a = b → w.alloc (.cells a 5) = w.alloc (.cells b 5) := fun a b h => by rw [h]
    apply e
    simp
  · by_cases c2 : z < 2048
    · rw [encodeRuneZ_two (by omega) (by omega)]
      go_enter Tryd.func35, Tryd.ntmps35
      go_wp2
      go_ret
      refine ⟨rfl, ?_⟩
      have e : ∀ (a b : Array Value), a = b → w.alloc (.cells a 5) = w.alloc (.cells b 5) := fun a b h => by rw [h]
      apply e
      simp
    · by_cases c3 : z < 65536
      · rw [encodeRuneZ_three (by omega)]
        go_enter Tryd.func35, Tryd.ntmps35
        go_wp2
        go_ret
        refine ⟨rfl, ?_⟩
        have e : ∀ (a b : Array Value), a = b → w.alloc (.cells a 5) = w.alloc (.cells b 5) := fun a b h => by rw [h]
        apply e
        simp
      · rw [encodeRuneZ_four (by omega) (by omega)]
        go_enter Tryd.func35, Tryd.ntmps35
        go_wp2
        go_ret
        refine ⟨rfl, ?_⟩
        have e : ∀ (a b : Array Value), a = b → w.alloc (.cells a 5) = w.alloc (.cells b 5) := fun a b h => by rw [h]
        apply e
        simp

set_option maxHeartbeats 2000000 in
theorem refGood_all (z : Int) (h0 : 0 ≤ z) (w : World) :
    Calls Tryd.prog 79 #[.int .i64 z] w fun e w' => e = .returned (.bool (goodB z)) ∧ w' = w := by
  by_cases hc : charB z = true
  · have hc' : (0 ≤ z ∧ z < 55296) ∨ (57344 ≤ z ∧ z < 1114112) := by unfold charB at hc; rw [decide_eq_true_iff] at hc; exact hc
    go_enter Tryd.func79, Tryd.ntmps79
    go_wp2_with (go_at_call 94; refine (isCharacter_any z _).mono ?_; rintro e w' ⟨rfl, rfl⟩)
    all_goals go_ret
    all_goals refine ⟨ret_bool ?_, rfl⟩
    all_goals rw [Bool.eq_iff_iff]
    all_goals (try simp only [bne_iff_ne, bne_eq_false_iff_eq, ne_eq] at *)
    all_goals (simp only [goodB, decide_eq_true_iff, Bool.and_eq_true, bne_iff_ne, Bool.false_eq_true, false_iff, true_iff]; omega)
  · have hc2 : charB z = false := by simpa using hc
    have hc' : 55296 ≤ z ∧ z ≤ 57343 ∨ 1114112 ≤ z := by unfold charB at hc2; rw [decide_eq_false_iff_not] at hc2; omega
    have hg : goodB z = false := by unfold goodB; rw [decide_eq_false_iff_not]; omega
    rw [hg]
    clear hc hg
    go_enter Tryd.func79, Tryd.ntmps79
    go_wp2_with (go_at_call 94; refine (isCharacter_any z _).mono ?_; rintro e w' ⟨rfl, rfl⟩)
    go_ret
    exact ⟨rfl, rfl⟩
theorem refGood_any (z : Int) (h0 : 0 ≤ z) (_h1 : z ≤ 1114111) (w : World) :
    Calls Tryd.prog 79 #[.int .i64 z] w fun e w' => e = .returned (.bool (goodB z)) ∧ w' = w := refGood_all z h0 w

theorem ret_int {a b : Int} (h : a = b) : Ending.returned (.int .i64 a) = .returned (.int .i64 b) := by rw [h]
end Go.Proofs.YtialeicpelehoaaDoor

/-
  The tables of the character references, as they lie in memory, and what a number stands for: the walks.
-/
namespace Go.Proofs.YtialeicpelehoaaDoor
open Go.RowKit Go.Lib

def strV (L : List UInt8) : Value := .string ⟨L.toArray⟩
def namesV : List Value := (eitherT ++ closedT).flatMap fun t => [strV t.1, .int .i32 t.2]
def replV : List Value := replT.map (Value.int .i32)
def eitherNV : List Value := eitherT.map fun t => strV t.1
def eitherCV : List Value := eitherT.map fun t => .int .i64 t.2
def closedNV : List Value := closedT.map fun t => strV t.1
def closedCV : List Value := closedT.map fun t => .int .i64 t.2

/-- the two tables of package chars hold what their initialisers lay -/
structure ChTabs (w : World) : Prop where
  names : w.rangeAt 2 0 namesV
  repl : w.rangeAt 8 0 replV
/-- the six tables hold what their initialisers lay -/
structure RefTabs (w : World) : Prop where
  ch : ChTabs w
  eitherN : w.rangeAt 3 0 eitherNV
  eitherC : w.rangeAt 4 0 eitherCV
  closedN : w.rangeAt 5 0 closedNV
  closedC : w.rangeAt 6 0 closedCV
theorem cell_block {w : World} {b o : Nat} {v : Value} (h : w.cell? ⟨b, o, none⟩ = some v) : b < w.heap.size := by
  unfold World.cell? at h
  rcases Nat.lt_or_ge b w.heap.size with h1 | h1
  · exact h1
  · simp [h1] at h
theorem rangeAt_below {w w' : World} {b o : Nat} {cs : List Value} (h : w.rangeAt b o cs) (hb : Below w.heap.size w w') : w'.rangeAt b o cs := by
  intro j v hv
  have hc := h j v hv
  have := hb.block b (cell_block hc)
  unfold World.cell? at hc ⊢
  rw [this]
  exact hc
theorem ChTabs.below {w w' : World} (h : ChTabs w) (hb : Below w.heap.size w w') : ChTabs w' := ⟨rangeAt_below h.names hb, rangeAt_below h.repl hb⟩
theorem RefTabs.below {w w' : World} (h : RefTabs w) (hb : Below w.heap.size w w') : RefTabs w' :=
  ⟨h.ch.below hb, rangeAt_below h.eitherN hb, rangeAt_below h.eitherC hb, rangeAt_below h.closedN hb, rangeAt_below h.closedC hb⟩
theorem ChTabs.replAt {w : World} (h : ChTabs w) (k : Nat) (hk : k < 32) : w.cell? ⟨8, k, none⟩ = some (.int .i32 (replT.getD k 0)) := by
  have := h.repl k (.int .i32 (replT.getD k 0)) (by
    have hl : k < replT.length := hk
    unfold replV
    rw [List.getElem?_map, List.getElem?_eq_getElem hl, List.getD_eq_getElem?_getD, List.getElem?_eq_getElem hl]
    rfl)
  rwa [Nat.zero_add] at this

theorem ret_i32 {a b : Int} (h : a = b) : Ending.returned (.int .i32 a) = .returned (.int .i32 b) := by rw [h]
set_option maxRecDepth 100000 in
theorem numb_any (z : Int) (h0 : 0 ≤ z) (h1 : z ≤ 1114112) (w : World) (hT : ChTabs w) :
    Calls Tryd.prog 72 #[.int .i32 z] w fun e w' => e = .returned (.int .i32 (numb z)) ∧ w' = w := by
  have hg := fun W => good_any z h0 h1 W
  by_cases hz : 128 ≤ z ∧ z ≤ 159
  · obtain ⟨z0, z1⟩ := hz
    have hn : numb z = replT.getD (z - 128).toNat 0 := if_pos ⟨z0, z1⟩
    have hc := hT.replAt (z - 128).toNat (by omega)
    rw [← hn] at hc
    generalize numb z = n at hc
    clear hn
    go_enter Tryd.func72, Tryd.ntmps72
    go_wp2
    all_goals go_ret
    all_goals exact ⟨rfl, rfl⟩
  · have hn : numb z = if goodB z then z else 65533 := if_neg hz
    generalize numb z = n at hn
    generalize goodB z = b at hn hg
    go_enter Tryd.func72, Tryd.ntmps72
    go_wp2_with (go_at_call 38; refine (hg _).mono ?_; rintro e w' ⟨rfl, rfl⟩)
    all_goals go_ret
    all_goals refine ⟨ret_i32 ?_, rfl⟩
    all_goals simp_all
end Go.Proofs.YtialeicpelehoaaDoor

/-
  strings.Clone: its walk; facts that are kept out of sight.
-/
namespace Go.Proofs.YtialeicpelehoaaDoor
open Go.RowKit Go.Lib

theorem clone_any (s : ByteArray) (w : World) (hlim : s.size ≤ 281474976710656) :
    Calls Tryd.prog 37 #[.string s] w fun e w' => e = .returned (.string s) ∧ Below w.heap.size w w' := by
  go_enter Tryd.func37, Tryd.ntmps37
  go_wp2_with (go_at_call 55; refine (Tryd.stringslite_Clone s _ hlim).mono ?_)
  rintro e w1 ⟨rfl, hb⟩
  go_wp2
  go_ret
  exact ⟨rfl, hb⟩

theorem builder_below {T e : TypeId} {B b : Nat} {bs : List Value} {W W' : World} (h : IsBuilderF T e B b bs W) (hb : Below W.heap.size W W') : IsBuilderF T e B b bs W' := by
  have one : ∀ p, BuilderAtF T e B b p bs W → BuilderAtF T e B b p bs W' := fun p x => by
    have hlt := x.lt
    obtain ⟨h1, v, h2, h3, h4⟩ := x
    refine ⟨h1, v, (hb.block b hlt).trans h2, ?_, h4⟩
    exact h3.kept (row := none) ⟨hb.os, hb.tape, hb.output, hb.size, fun k hk _ => hb.block k hk⟩ (by cases v.ownBlock <;> simp)
  rcases h with h | h
  · exact Or.inl (one _ h)
  · exact Or.inr (one _ h)
theorem hid {p : Prop} (h : p) : Hid p := h
end Go.Proofs.YtialeicpelehoaaDoor

/-
  chars.findNumber: its walk.
-/
namespace Go.Proofs.YtialeicpelehoaaDoor
open Go.RowKit Go.Lib

theorem digZ_K (c : UInt8) : digZ (c.toNat : Int) = (digK c : Int) := by
  unfold digZ digK
  repeat' split
  all_goals omega
theorem digit_u8 (c : UInt8) (w : World) : Calls Tryd.prog 71 #[.int .u8 c.toNat] w fun e w' => e = .returned (.int .i64 (digK c : Int)) ∧ w' = w := by
  rw [← digZ_K]
  exact digit_any _ (by omega) (by have := c.toNat_lt; omega) w
theorem digK_le (c : UInt8) : digK c ≤ 16 := by
  unfold digK
  repeat' split
  all_goals omega
theorem numL_eq (N : List UInt8) : numL N = if digsN N = [] then (0, 0) else (fromN N + (digsN N).length + (if N[fromN N + (digsN N).length]? = some 59 then 1 else 0), numb ((valM (baseN N) 0 (digsN N) : Nat) : Int)) := by
  have h := val_eq (baseN N) (by unfold baseN; split <;> omega) (digsN N) 0
  rw [Nat.min_eq_left (by omega)] at h
  rw [h]
  rfl
/-- what a loop over digits comes to -/
structure DigEnd (N : List UInt8) (F B : Nat) (dig : UInt8 → Bool) (r : Nat × Int) : Prop where
  none : (N.drop F).takeWhile dig = [] → r = (0, 0)
  shut : ∀ E V : Nat, (N.drop F).takeWhile dig ≠ [] → F + ((N.drop F).takeWhile dig).length = E → valM B 0 ((N.drop F).takeWhile dig) = V → N[E]? = some 59 → r = (E + 1, numb V)
  still : ∀ E V : Nat, (N.drop F).takeWhile dig ≠ [] → F + ((N.drop F).takeWhile dig).length = E → valM B 0 ((N.drop F).takeWhile dig) = V → N[E]? ≠ some 59 → r = (E, numb V)
theorem digEnd (N : List UInt8) : DigEnd N (fromN N) (baseN N) (digN N) (numL N) := by
  have h := numL_eq N
  unfold digsN at h
  refine ⟨fun h0 => by rw [h, if_pos h0], fun E V h0 h1 h2 h3 => ?_, fun E V h0 h1 h2 h3 => ?_⟩
  · rw [h, if_neg h0, h1, h2, if_pos h3]
  · rw [h, if_neg h0, h1, h2, if_neg h3]; rfl
theorem getElem_list {s : ByteArray} {e : Nat} {x : UInt8} (h : e < s.size) (hx : s[e]'h = x) : s.data.toList[e]? = some x := by
  rw [List.getElem?_eq_getElem (by rw [← size_eq]; exact h), ← hx]
  rfl
theorem getElem_over {s : ByteArray} {e : Nat} (h : ¬ e < s.size) : s.data.toList[e]? = none := by
  rw [List.getElem?_eq_none (by rw [← size_eq]; omega)]
theorem ret_two {a c : Int} {b d : Int} (h : a = b) (k : c = d) : Ending.returned (.tuple #[.int .i64 a, .int .i32 c]) = .returned (.tuple #[.int .i64 b, .int .i32 d]) := by rw [h, k]


set_option maxHeartbeats 1000000 in
set_option maxRecDepth 100000 in
theorem findNumber_one (s : ByteArray) (w : World) (h1 : s.size = 1) :
    Calls Tryd.prog 47 #[.string s] w fun e w' => e = .returned (.tuple #[.int .i64 0, .int .i32 0]) ∧ w' = w := by
  go_enter Tryd.func47, Tryd.ntmps47
  go_wp2
  go_loopw [6, 7] (fun ev nv wr => ev = .int .i64 1 ∧ nv = .int .i64 0 ∧ wr = w) (fun _ _ _ => 0)
  case atStart => exact ⟨rfl, rfl, rfl⟩
  case round =>
    obtain ⟨rfl, rfl, rfl⟩ := hrel
    go_wp2
    refine bodyPost_ret (v := .tuple #[.int .i64 0, .int .i32 0]) ?_ rfl ⟨rfl, rfl⟩
    simp [results, Tryd.results47, go_sem]

set_option maxHeartbeats 1000000 in
set_option maxRecDepth 100000 in
theorem findNumber_dec (s : ByteArray) (r : Nat × Int) (w : World) (hs : s.size ≤ 31) (h1 : 1 ≤ s.size) (h2 : 1 < s.size) (x1 : UInt8) (hx1 : s[1]'h2 = x1) (hn : (lowZ x1.toNat == 120) = false) (hR : DigEnd s.data.toList 1 10 digD r) (hT : ChTabs w) :
    Calls Tryd.prog 47 #[.string s] w fun e w' => e = .returned (.tuple #[.int .i64 (r.1 : Int), .int .i32 r.2]) ∧ w' = w := by
  have HR := hid hR
  have HT := hid hT
  obtain ⟨D, hD⟩ : ∃ D, (s.data.toList.drop 1).takeWhile digD = D := ⟨_, rfl⟩
  obtain ⟨V, hV⟩ : ∃ V, valM 10 0 D = V := ⟨_, rfl⟩
  have HD := hid hD
  have HV := hid hV
  clear hR hT hD hV
  go_enter Tryd.func47, Tryd.ntmps47
  have HY := hid (fun W => low_any (x1.toNat : Int) (by omega) (by have := x1.toNat_lt; omega) W)
  go_wp2_with (go_at_call 66; refine (HY.out _).mono ?_; rintro e W0 ⟨rfl, rfl⟩)
  go_loopw [6, 7] (fun ev nv wr => ∃ (e v : Nat), ev = .int .i64 e ∧ nv = .int .i64 v ∧ e ≤ s.size ∧ 1 ≤ e ∧ v ≤ 1114112 ∧ wr = W0 ∧ Hid (valM 10 v ((s.data.toList.drop e).takeWhile digD) = V) ∧ Hid (e + ((s.data.toList.drop e).takeWhile digD).length = 1 + D.length)) (fun ev _ _ => s.size - (RowKit.intOf ev).toNat)
  case atStart => exact ⟨1, 0, rfl, rfl, by omega, by omega, by omega, rfl, by rw [HD.out]; exact HV.out, by rw [HD.out]; exact hid rfl⟩
  case round =>
    obtain ⟨e, v, rfl, rfl, he, hF, hv, rfl, HA, HB⟩ := hrel
    by_cases hp : e < s.size
    · obtain ⟨x, hx⟩ : ∃ x, s[e]'hp = x := ⟨_, rfl⟩
      have hxl := hid (getElem_list hp hx)
      have hdx := fun W => digit_u8 x W
      have hdl := digK_le x
      have hdk : decide (digK x < 10) = digD x := digK_D x
      obtain ⟨d, hd⟩ : ∃ d, digK x = d := ⟨_, rfl⟩
      rw [hd] at hdx hdl hdk
      by_cases hlt : d < 10
      · have hdig : digD x = true := by rw [← hdk]; exact decide_eq_true hlt
        have hw := while_step hxl.out hdig
        have hdv : digV x = d := by rw [← hd]; exact (digK_V x (digD_X _ hdig)).symm
        have HA2 : Hid (valM 10 (min (v * 10 + d) 1114112) ((s.data.toList.drop (e + 1)).takeWhile digD) = V) := by
          have := HA.out
          rw [hw] at this
          unfold valM at this ⊢
          rw [List.foldl_cons, hdv] at this
          exact this
        have HB2 : Hid (e + 1 + ((s.data.toList.drop (e + 1)).takeWhile digD).length = 1 + D.length) := by
          have := HB.out
          rw [hw, List.length_cons] at this
          exact hid (by omega)
        have HX := hid hdx
        clear hd hw hdv hdig hdk HA HB hdx
        go_wp2_with (go_at_call 71; refine (HX.out _).mono ?_; rintro e w' ⟨rfl, rfl⟩)
        go_roundw
        case rel => exact ⟨e + 1, min (v * 10 + d) 1114112, rfl, by simp; omega, by omega, by omega, by omega, by first | rfl | trivial, HA2, HB2⟩
        case measure => simp [RowKit.intOf]; omega
      · have hdig : digD x = false := by rw [← hdk]; exact decide_eq_false hlt
        have hw : (s.data.toList.drop e).takeWhile digD = [] := while_stop (fun c hc => by rw [hxl.out] at hc; cases hc; exact hdig)
        have hE : v = V := by have := HA.out; rw [hw] at this; exact this
        have hL : e = 1 + D.length := by have := HB.out; rw [hw] at this; simpa using this
        have h59 : (x = 59 ∧ s.data.toList[e]? = some 59) ∨ (x ≠ 59 ∧ s.data.toList[e]? ≠ some 59) := by
          rw [hxl.out]
          by_cases h : x = 59
          · exact .inl ⟨h, by rw [h]⟩
          · exact .inr ⟨h, fun h2 => h (Option.some.inj h2)⟩
        have HX := hid hdx
        clear hd hw hdig hdk HA HB hdx
        subst hE
        by_cases hz : e = 1
        · subst hz
          obtain rfl : x = x1 := by rw [← hx, ← hx1]
          have hr := HR.out.none (by rw [HD.out]; exact List.eq_nil_of_length_eq_zero (by omega))
          clear hL
          go_wp2_with (go_at_call 71; refine (HX.out _).mono ?_; rintro e w' ⟨rfl, rfl⟩)
          rw [hr]
          refine bodyPost_ret (v := .tuple #[.int .i64 0, .int .i32 0]) ?_ rfl ⟨rfl, rfl⟩
          simp [results, Tryd.results47, go_sem]
        · have hne : (s.data.toList.drop 1).takeWhile digD ≠ [] := by rw [HD.out]; intro h; rw [h] at hL; simp at hL; exact hz hL
          have hle : 1 + ((s.data.toList.drop 1).takeWhile digD).length = e := by rw [HD.out]; exact hL.symm
          have hva : valM 10 0 ((s.data.toList.drop 1).takeWhile digD) = v := by rw [HD.out]; exact HV.out
          have HN := hid (fun W => numb_any (v : Int) (by omega) (by omega) W)
          rcases h59 with ⟨h59, h60⟩ | ⟨h59, h60⟩
          · have hr := hid (HR.out.shut e v hne hle hva h60)
            clear h60 hne hle hva hL
            subst h59
            go_wp2_with (first | (go_at_call 71; refine (HX.out _).mono ?_; rintro e w' ⟨rfl, rfl⟩) | (go_at_call 72; refine (HN.out _ HT.out).mono ?_; rintro e w' ⟨rfl, rfl⟩))
            rw [hr.out]
            refine bodyPost_ret (v := .tuple #[.int .i64 ((e + 1 : Nat) : Int), .int .i32 (numb v)]) ?_ rfl ⟨rfl, rfl⟩
            simp [results, Tryd.results47, go_sem]
          · have hr := hid (HR.out.still e v hne hle hva h60)
            have h61 : ((x.toNat : Int) == 59) = false := beq_eq_false_iff_ne.2 (fun h => h59 (UInt8.toNat_inj.1 (by simp; omega)))
            clear h60 hne hle hva hL
            go_wp2_with (first | (go_at_call 71; refine (HX.out _).mono ?_; rintro e w' ⟨rfl, rfl⟩) | (go_at_call 72; refine (HN.out _ HT.out).mono ?_; rintro e w' ⟨rfl, rfl⟩))
            rw [hr.out]
            refine bodyPost_ret (v := .tuple #[.int .i64 (e : Int), .int .i32 (numb v)]) ?_ rfl ⟨rfl, rfl⟩
            simp [results, Tryd.results47, go_sem]
    · have hn := getElem_over hp
      have hw : (s.data.toList.drop e).takeWhile digD = [] := while_stop (fun c hc => by rw [hn] at hc; cases hc)
      have hE : v = V := by have := HA.out; rw [hw] at this; exact this
      have hL : e = 1 + D.length := by have := HB.out; rw [hw] at this; simpa using this
      have h60 : s.data.toList[e]? ≠ some 59 := by rw [hn]; simp
      clear hw HA HB hn
      subst hE
      by_cases hz : e = 1
      · exfalso; omega
      · have hne : (s.data.toList.drop 1).takeWhile digD ≠ [] := by rw [HD.out]; intro h; rw [h] at hL; simp at hL; exact hz hL
        have hle : 1 + ((s.data.toList.drop 1).takeWhile digD).length = e := by rw [HD.out]; exact hL.symm
        have hva : valM 10 0 ((s.data.toList.drop 1).takeWhile digD) = v := by rw [HD.out]; exact HV.out
        have HN := hid (fun W => numb_any (v : Int) (by omega) (by omega) W)
        have hr := hid (HR.out.still e v hne hle hva h60)
        clear h60 hne hle hva hL
        go_wp2_with (go_at_call 72; refine (HN.out _ HT.out).mono ?_; rintro e w' ⟨rfl, rfl⟩)
        rw [hr.out]
        refine bodyPost_ret (v := .tuple #[.int .i64 (e : Int), .int .i32 (numb v)]) ?_ rfl ⟨rfl, rfl⟩
        simp [results, Tryd.results47, go_sem]

set_option maxHeartbeats 1000000 in
set_option maxRecDepth 100000 in
theorem findNumber_hex (s : ByteArray) (r : Nat × Int) (w : World) (hs : s.size ≤ 31) (h1 : 1 ≤ s.size) (h2 : 1 < s.size) (x1 : UInt8) (hx1 : s[1]'h2 = x1) (hn : (lowZ x1.toNat == 120) = true) (hR : DigEnd s.data.toList 2 16 digX r) (hT : ChTabs w) :
    Calls Tryd.prog 47 #[.string s] w fun e w' => e = .returned (.tuple #[.int .i64 (r.1 : Int), .int .i32 r.2]) ∧ w' = w := by
  have HR := hid hR
  have HT := hid hT
  obtain ⟨D, hD⟩ : ∃ D, (s.data.toList.drop 2).takeWhile digX = D := ⟨_, rfl⟩
  obtain ⟨V, hV⟩ : ∃ V, valM 16 0 D = V := ⟨_, rfl⟩
  have HD := hid hD
  have HV := hid hV
  clear hR hT hD hV
  go_enter Tryd.func47, Tryd.ntmps47
  have HY := hid (fun W => low_any (x1.toNat : Int) (by omega) (by have := x1.toNat_lt; omega) W)
  go_wp2_with (go_at_call 66; refine (HY.out _).mono ?_; rintro e W0 ⟨rfl, rfl⟩)
  go_loopw [6, 7] (fun ev nv wr => ∃ (e v : Nat), ev = .int .i64 e ∧ nv = .int .i64 v ∧ e ≤ s.size ∧ 2 ≤ e ∧ v ≤ 1114112 ∧ wr = W0 ∧ Hid (valM 16 v ((s.data.toList.drop e).takeWhile digX) = V) ∧ Hid (e + ((s.data.toList.drop e).takeWhile digX).length = 2 + D.length)) (fun ev _ _ => s.size - (RowKit.intOf ev).toNat)
  case atStart => exact ⟨2, 0, rfl, rfl, by omega, by omega, by omega, rfl, by rw [HD.out]; exact HV.out, by rw [HD.out]; exact hid rfl⟩
  case round =>
    obtain ⟨e, v, rfl, rfl, he, hF, hv, rfl, HA, HB⟩ := hrel
    by_cases hp : e < s.size
    · obtain ⟨x, hx⟩ : ∃ x, s[e]'hp = x := ⟨_, rfl⟩
      have hxl := hid (getElem_list hp hx)
      have hdx := fun W => digit_u8 x W
      have hdl := digK_le x
      have hdk : decide (digK x < 16) = digX x := digK_X x
      obtain ⟨d, hd⟩ : ∃ d, digK x = d := ⟨_, rfl⟩
      rw [hd] at hdx hdl hdk
      by_cases hlt : d < 16
      · have hdig : digX x = true := by rw [← hdk]; exact decide_eq_true hlt
        have hw := while_step hxl.out hdig
        have hdv : digV x = d := by rw [← hd]; exact (digK_V x hdig).symm
        have HA2 : Hid (valM 16 (min (v * 16 + d) 1114112) ((s.data.toList.drop (e + 1)).takeWhile digX) = V) := by
          have := HA.out
          rw [hw] at this
          unfold valM at this ⊢
          rw [List.foldl_cons, hdv] at this
          exact this
        have HB2 : Hid (e + 1 + ((s.data.toList.drop (e + 1)).takeWhile digX).length = 2 + D.length) := by
          have := HB.out
          rw [hw, List.length_cons] at this
          exact hid (by omega)
        have HX := hid hdx
        clear hd hw hdv hdig hdk HA HB hdx
        go_wp2_with (go_at_call 71; refine (HX.out _).mono ?_; rintro e w' ⟨rfl, rfl⟩)
        go_roundw
        case rel => exact ⟨e + 1, min (v * 16 + d) 1114112, rfl, by simp; omega, by omega, by omega, by omega, by first | rfl | trivial, HA2, HB2⟩
        case measure => simp [RowKit.intOf]; omega
      · have hdig : digX x = false := by rw [← hdk]; exact decide_eq_false hlt
        have hw : (s.data.toList.drop e).takeWhile digX = [] := while_stop (fun c hc => by rw [hxl.out] at hc; cases hc; exact hdig)
        have hE : v = V := by have := HA.out; rw [hw] at this; exact this
        have hL : e = 2 + D.length := by have := HB.out; rw [hw] at this; simpa using this
        have h59 : (x = 59 ∧ s.data.toList[e]? = some 59) ∨ (x ≠ 59 ∧ s.data.toList[e]? ≠ some 59) := by
          rw [hxl.out]
          by_cases h : x = 59
          · exact .inl ⟨h, by rw [h]⟩
          · exact .inr ⟨h, fun h2 => h (Option.some.inj h2)⟩
        have HX := hid hdx
        clear hd hw hdig hdk HA HB hdx
        subst hE
        by_cases hz : e = 2
        · subst hz
          skip
          have hr := HR.out.none (by rw [HD.out]; exact List.eq_nil_of_length_eq_zero (by omega))
          clear hL
          go_wp2_with (go_at_call 71; refine (HX.out _).mono ?_; rintro e w' ⟨rfl, rfl⟩)
          rw [hr]
          refine bodyPost_ret (v := .tuple #[.int .i64 0, .int .i32 0]) ?_ rfl ⟨rfl, rfl⟩
          simp [results, Tryd.results47, go_sem]
        · have hne : (s.data.toList.drop 2).takeWhile digX ≠ [] := by rw [HD.out]; intro h; rw [h] at hL; simp at hL; exact hz hL
          have hle : 2 + ((s.data.toList.drop 2).takeWhile digX).length = e := by rw [HD.out]; exact hL.symm
          have hva : valM 16 0 ((s.data.toList.drop 2).takeWhile digX) = v := by rw [HD.out]; exact HV.out
          have HN := hid (fun W => numb_any (v : Int) (by omega) (by omega) W)
          rcases h59 with ⟨h59, h60⟩ | ⟨h59, h60⟩
          · have hr := hid (HR.out.shut e v hne hle hva h60)
            clear h60 hne hle hva hL
            subst h59
            go_wp2_with (first | (go_at_call 71; refine (HX.out _).mono ?_; rintro e w' ⟨rfl, rfl⟩) | (go_at_call 72; refine (HN.out _ HT.out).mono ?_; rintro e w' ⟨rfl, rfl⟩))
            rw [hr.out]
            refine bodyPost_ret (v := .tuple #[.int .i64 ((e + 1 : Nat) : Int), .int .i32 (numb v)]) ?_ rfl ⟨rfl, rfl⟩
            simp [results, Tryd.results47, go_sem]
          · have hr := hid (HR.out.still e v hne hle hva h60)
            have h61 : ((x.toNat : Int) == 59) = false := beq_eq_false_iff_ne.2 (fun h => h59 (UInt8.toNat_inj.1 (by simp; omega)))
            clear h60 hne hle hva hL
            go_wp2_with (first | (go_at_call 71; refine (HX.out _).mono ?_; rintro e w' ⟨rfl, rfl⟩) | (go_at_call 72; refine (HN.out _ HT.out).mono ?_; rintro e w' ⟨rfl, rfl⟩))
            rw [hr.out]
            refine bodyPost_ret (v := .tuple #[.int .i64 (e : Int), .int .i32 (numb v)]) ?_ rfl ⟨rfl, rfl⟩
            simp [results, Tryd.results47, go_sem]
    · have hn := getElem_over hp
      have hw : (s.data.toList.drop e).takeWhile digX = [] := while_stop (fun c hc => by rw [hn] at hc; cases hc)
      have hE : v = V := by have := HA.out; rw [hw] at this; exact this
      have hL : e = 2 + D.length := by have := HB.out; rw [hw] at this; simpa using this
      have h60 : s.data.toList[e]? ≠ some 59 := by rw [hn]; simp
      clear hw HA HB hn
      subst hE
      by_cases hz : e = 2
      · subst hz
        have hr := HR.out.none (by rw [HD.out]; exact List.eq_nil_of_length_eq_zero (by omega))
        clear hL
        go_wp2
        refine bodyPost_ret (v := .tuple #[.int .i64 0, .int .i32 0]) ?_ rfl ⟨rfl, rfl⟩
        simp [results, Tryd.results47, go_sem]
      · have hne : (s.data.toList.drop 2).takeWhile digX ≠ [] := by rw [HD.out]; intro h; rw [h] at hL; simp at hL; exact hz hL
        have hle : 2 + ((s.data.toList.drop 2).takeWhile digX).length = e := by rw [HD.out]; exact hL.symm
        have hva : valM 16 0 ((s.data.toList.drop 2).takeWhile digX) = v := by rw [HD.out]; exact HV.out
        have HN := hid (fun W => numb_any (v : Int) (by omega) (by omega) W)
        have hr := hid (HR.out.still e v hne hle hva h60)
        clear h60 hne hle hva hL
        go_wp2_with (go_at_call 72; refine (HN.out _ HT.out).mono ?_; rintro e w' ⟨rfl, rfl⟩)
        rw [hr.out]
        refine bodyPost_ret (v := .tuple #[.int .i64 (e : Int), .int .i32 (numb v)]) ?_ rfl ⟨rfl, rfl⟩
        simp [results, Tryd.results47, go_sem]
end Go.Proofs.YtialeicpelehoaaDoor

/-
  scrubref's among, past and begins: their walks.
-/
namespace Go.Proofs.YtialeicpelehoaaDoor
open Go.RowKit Go.Lib

set_option maxHeartbeats 1000000 in
theorem among_any (c : UInt8) (set : ByteArray) (w : World) (hs : set.size ≤ 1000000) :
    Calls Tryd.prog 93 #[.int .u8 c.toNat, .string set] w fun e w' => e = .returned (.bool (set.data.toList.contains c)) ∧ w' = w := by
  obtain ⟨r, hr⟩ : ∃ r, set.data.toList.contains c = r := ⟨_, rfl⟩
  rw [hr]
  have HR := hid hr
  clear hr
  go_enter Tryd.func93, Tryd.ntmps93
  go_wp2
  go_loopw [5] (fun iv wr => ∃ k : Nat, iv = .int .i64 k ∧ k ≤ set.size ∧ wr = w ∧ Hid ((set.data.toList.drop k).contains c = r)) (fun iv _ => set.size - (RowKit.intOf iv).toNat)
  case atStart => exact ⟨0, rfl, Nat.zero_le _, rfl, HR.out⟩
  case round =>
    obtain ⟨k, rfl, hk, rfl, HA⟩ := hrel
    by_cases hp : k < set.size
    · obtain ⟨x, hx⟩ : ∃ x, set[k]'hp = x := ⟨_, rfl⟩
      have hl := getElem_list hp hx
      obtain ⟨h1, h2⟩ := List.getElem?_eq_some_iff.1 hl
      have hd := List.drop_eq_getElem_cons h1
      rw [h2] at hd
      have hcon : (set.data.toList.drop k).contains c = (c == x || (set.data.toList.drop (k + 1)).contains c) := by rw [hd, List.contains_cons]
      clear hl h1 h2 hd
      by_cases hc : c = x
      · subst hc
        have HB : Hid (true = r) := by rw [← HA.out, hcon]; simp [Hid]
        clear hcon HA
        go_wp2
        go_ret
        exact ⟨ret_bool HB.out, rfl⟩
      · have q : ((x.toNat : Int) == (c.toNat : Int)) = false := beq_eq_false_iff_ne.2 (fun h => hc (UInt8.toNat_inj.1 (by omega)))
        have HB : Hid ((set.data.toList.drop (k + 1)).contains c = r) := by
          have e : (c == x) = false := beq_eq_false_iff_ne.2 hc
          have := HA.out
          rw [hcon, e, Bool.false_or] at this
          exact this
        clear hcon HA
        go_wp2
        go_roundw
        case rel => exact ⟨k + 1, rfl, by omega, by first | rfl | trivial, HB⟩
        case measure => simp [RowKit.intOf]; omega
    · have HB : Hid (false = r) := by
        rw [← HA.out, List.drop_of_length_le (by rw [← size_eq]; omega)]
        rfl
      clear HA
      go_wp2
      go_ret
      exact ⟨ret_bool HB.out, rfl⟩

set_option maxHeartbeats 1000000 in
theorem past_any (s : ByteArray) (i : Nat) (set : ByteArray) (w : World) (hi : i ≤ s.size) (hs : s.size ≤ 140737488355328) (ht : set.size ≤ 1000000) :
    Calls Tryd.prog 76 #[.string s, .int .i64 i, .string set] w fun e w' => e = .returned (.int .i64 ((i + ((s.data.toList.drop i).takeWhile set.data.toList.contains).length : Nat) : Int)) ∧ w' = w := by
  obtain ⟨r, hr⟩ : ∃ r, i + ((s.data.toList.drop i).takeWhile set.data.toList.contains).length = r := ⟨_, rfl⟩
  rw [hr]
  have HR := hid hr
  clear hr
  go_enter Tryd.func76, Tryd.ntmps76
  go_wp2
  go_loopw [1] (fun iv wr => ∃ k : Nat, iv = .int .i64 k ∧ k ≤ s.size ∧ wr = w ∧ Hid (k + ((s.data.toList.drop k).takeWhile set.data.toList.contains).length = r)) (fun iv _ => s.size - (RowKit.intOf iv).toNat)
  case atStart => exact ⟨i, rfl, hi, rfl, HR.out⟩
  case round =>
    obtain ⟨k, rfl, hk, rfl, HA⟩ := hrel
    by_cases hp : k < s.size
    · obtain ⟨x, hx⟩ : ∃ x, s[k]'hp = x := ⟨_, rfl⟩
      have hl := getElem_list hp hx
      have hc := fun W => among_any x set W ht
      obtain ⟨b, hb⟩ : ∃ b, set.data.toList.contains x = b := ⟨_, rfl⟩
      rw [hb] at hc
      have HC := hid hc
      cases b
      · have HB : Hid (k = r) := by
          have := HA.out
          rw [while_stop (fun c hc => by rw [hl] at hc; cases hc; exact hb)] at this
          simpa [Hid] using this
        clear hl hb hc HA
        go_wp2_with (go_at_call 93; refine (HC.out _).mono ?_; rintro e w' ⟨rfl, rfl⟩)
        go_ret
        exact ⟨ret_i64 (by have := HB.out; omega), rfl⟩
      · have HB : Hid (k + 1 + ((s.data.toList.drop (k + 1)).takeWhile set.data.toList.contains).length = r) := by
          have := HA.out
          rw [while_step hl hb, List.length_cons] at this
          exact hid (by omega)
        clear hl hb hc HA
        go_wp2_with (go_at_call 93; refine (HC.out _).mono ?_; rintro e w' ⟨rfl, rfl⟩)
        go_roundw
        case rel => exact ⟨k + 1, rfl, by omega, by first | rfl | trivial, HB⟩
        case measure => simp [RowKit.intOf]; omega
    · have HB : Hid (k = r) := by
        have := HA.out
        rw [List.drop_of_length_le (by rw [← size_eq]; omega)] at this
        simpa [Hid] using this
      clear HA
      go_wp2
      go_ret
      exact ⟨ret_i64 (by have := HB.out; omega), rfl⟩

theorem begins_any (s t : ByteArray) (w : World) :
    Calls Tryd.prog 80 #[.string s, .string t] w fun e w' => e = .returned (.bool (t.data.toList.isPrefixOf s.data.toList)) ∧ w' = w := by
  have hp : t.data.toList.isPrefixOf s.data.toList = (decide (t.size ≤ s.size) && ((s.data.toList.take t.size) == t.data.toList)) := by
    have := hasPrefix_of_take s.data.toList t.data.toList
    rw [← size_eq, ← size_eq] at this
    exact this.symm
  rw [hp]
  go_enter Tryd.func80, Tryd.ntmps80
  go_wp2
  · rename_i h
    go_ret
    refine ⟨?_, rfl⟩
    show Ending.returned (Value.bool ((s.extract 0 t.size).toList == t.toList)) = _
    rw [Lib.extract_toList, Lib.toList_data]
    simp [h]
  · rename_i h
    go_ret
    refine ⟨?_, rfl⟩
    show Ending.returned (Value.bool false) = _
    simp [h]
end Go.Proofs.YtialeicpelehoaaDoor

/-
  scrubref.remapped: its walk.
-/
namespace Go.Proofs.YtialeicpelehoaaDoor
open Go.RowKit Go.Lib Go.Great

def fromV : List Value := remapT.map fun p => .int .i64 p.1
def toV : List Value := remapT.map fun p => .int .i64 p.2
theorem laid_row (w : World) (t : TypeId) (old cs : Array Value) :
    Below w.heap.size w ((w.alloc (.cells old t)).setRow w.heap.size cs) ∧ ((w.alloc (.cells old t)).setRow w.heap.size cs).heap[w.heap.size]? = some (.cells cs t (0, 0)) ∧ ((w.alloc (.cells old t)).setRow w.heap.size cs).heap.size = w.heap.size + 1 := by
  have hz : ((w.alloc (.cells old t)).setRow w.heap.size cs).heap.size = w.heap.size + 1 := by simp [World.setRow]
  refine ⟨⟨rfl, rfl, rfl, by omega, fun k hk => ?_⟩, setRow_heap _ _ old cs t (0, 0) (heap_alloc_new w _), hz⟩
  rw [setRow_other _ _ _ _ (by omega), alloc_old w _ _ hk]
theorem row_range {W : World} {g : Nat} {cs : List Value} {t : TypeId} {fr : Nat × Nat} (h : W.heap[g]? = some (.cells cs.toArray t fr)) : W.rangeAt g 0 cs := by
  intro j v hv
  rw [Nat.zero_add, cell_of_row W g j cs.toArray t fr h]
  simpa using hv
set_option maxHeartbeats 1000000 in
set_option maxRecDepth 100000 in
theorem remapped_any (v : Int) (w : World) :
    Calls Tryd.prog 78 #[.int .i64 v] w fun e w' => e = .returned (.int .i64 (remapL remapT v)) ∧ Below w.heap.size w w' := by
  obtain ⟨r, hr⟩ : ∃ r, remapL remapT v = r := ⟨_, rfl⟩
  rw [hr]
  have HR := hid hr
  clear hr
  go_enter Tryd.func78, Tryd.ntmps78
  go_upto_region 1 with fail
  apply wp_region_lit
  refine wpList_buildTo rfl 120 _ rfl (some 6) rfl fromV.toArray (by kernel_rfl) ?_
  refine wpList_allocTo rfl (some 3) rfl (.pointer (some ⟨w.heap.size, 0, none⟩)) (.cells (Array.replicate 27 (.int .i64 0)) 120 (0, 0)) (by kernel_rfl) ?_
  refine wpList_store_row rfl 120 (.tmp 3) (.tmp 6) rfl w.heap.size fromV.toArray rfl rfl 120 (Array.replicate 27 (.int .i64 0)) (heap_alloc_new w _) (by kernel_rfl) rfl (by kernel_rfl) ?_
  apply wpList_nil
  rename_i Q1 K1 hK1
  refine hK1 _ _ ?_
  clear hK1 K1
  obtain ⟨b1, h1, z1⟩ := laid_row w 120 (Array.replicate 27 (.int .i64 0)) fromV.toArray
  generalize (w.alloc (.cells (Array.replicate 27 (.int .i64 0)) 120)).setRow w.heap.size fromV.toArray = W1 at b1 h1 z1 ⊢
  go_upto_region 2 with fail
  apply wp_region_lit
  refine wpList_buildTo rfl 120 _ rfl (some 7) rfl toV.toArray (by kernel_rfl) ?_
  refine wpList_allocTo rfl (some 4) rfl (.pointer (some ⟨W1.heap.size, 0, none⟩)) (.cells (Array.replicate 27 (.int .i64 0)) 120 (0, 0)) (by kernel_rfl) ?_
  refine wpList_store_row rfl 120 (.tmp 4) (.tmp 7) rfl W1.heap.size toV.toArray rfl rfl 120 (Array.replicate 27 (.int .i64 0)) (heap_alloc_new W1 _) (by kernel_rfl) rfl (by kernel_rfl) ?_
  apply wpList_nil
  rename_i K1 hK1
  refine hK1 _ _ ?_
  clear hK1 K1
  obtain ⟨b2, h2, z2⟩ := laid_row W1 120 (Array.replicate 27 (.int .i64 0)) toV.toArray
  generalize (W1.alloc (.cells (Array.replicate 27 (.int .i64 0)) 120)).setRow W1.heap.size toV.toArray = W2 at b2 h2 z2 ⊢
  have h3 := (b2.block w.heap.size (by omega)).trans h1
  rw [z1] at h2
  have HF := hid (row_range h3)
  have HT := hid (row_range h2)
  have hbw := b1.trans (b2.mono (by omega))
  rw [z1]
  clear h1 h2 h3 b1 b2 z2
  go_wp2
  go_loopw [5] (fun iv wr => ∃ k : Nat, iv = .int .i64 k ∧ k ≤ 27 ∧ wr = W2 ∧ Hid (remapL (remapT.drop k) v = r)) (fun iv _ => 27 - (RowKit.intOf iv).toNat)
  case atStart =>
    exact ⟨0, rfl, by omega, rfl, HR.out⟩
  case round =>
    obtain ⟨k, rfl, hk, rfl, HA⟩ := hrel
    by_cases hp : k < 27
    · have hl : k < remapT.length := hp
      obtain ⟨a, b, hab⟩ : ∃ a b, remapT[k] = (a, b) := ⟨_, _, rfl⟩
      have cf := HF.out k (.int .i64 a) (by unfold fromV; rw [List.getElem?_map, List.getElem?_eq_getElem hl, hab]; rfl)
      have ct := HT.out k (.int .i64 b) (by unfold toV; rw [List.getElem?_map, List.getElem?_eq_getElem hl, hab]; rfl)
      have hd := List.drop_eq_getElem_cons hl
      rw [hab] at hd
      have HB := HA.out
      rw [hd, remapL] at HB
      rw [Nat.zero_add] at cf ct
      clear HA hab hd
      by_cases hav : a = v
      · subst hav
        rw [if_pos rfl] at HB
        replace HB := hid HB
        go_wp2
        go_ret
        exact ⟨ret_i64 HB.out, hbw⟩
      · rw [if_neg hav] at HB
        replace HB := hid HB
        have q : (a == v) = false := beq_eq_false_iff_ne.2 hav
        go_wp2
        go_roundw
        case rel => exact ⟨k + 1, rfl, by omega, by first | rfl | trivial, HB⟩
        case measure => simp [RowKit.intOf]; omega
    · have HB : Hid (v = r) := by
        have := HA.out
        rw [List.drop_of_length_le (show remapT.length ≤ k by have : remapT.length = 27 := rfl; omega)] at this
        exact this
      clear HA
      go_wp2
      go_ret
      exact ⟨ret_i64 HB.out, hbw⟩
end Go.Proofs.YtialeicpelehoaaDoor
