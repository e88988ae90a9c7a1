/-
  The lexer's events as a plain list: texts that meet, joined; and what is told at the end of a text.
-/
import Derived.Test.YtkcgmimldjeaiaaDoorLexWhole
namespace Go.Proofs.YtkcgmimldjeaiaaDoor

inductive Ev where
  | text (b : List UInt8)
  | start (name : List UInt8) (attrs : List (List UInt8 × List UInt8))
  | stop (name : List UInt8)
def toEv : Item → Ev
  | .unit b => .text b
  | .start n a => .start n a
  | .stop n => .stop n
def jcons : Ev → List Ev → List Ev
  | .text b, .text c :: r => .text (b ++ c) :: r
  | e, r => e :: r
def joinEv : List Ev → List Ev
  | [] => []
  | e :: r => jcons e (joinEv r)
theorem jcons_start (n : List UInt8) (a : List (List UInt8 × List UInt8)) (r : List Ev) : jcons (.start n a) r = .start n a :: r := rfl
theorem jcons_stop (n : List UInt8) (r : List Ev) : jcons (.stop n) r = .stop n :: r := rfl
theorem jcons_text2 (b c : List UInt8) (r : List Ev) : jcons (.text b) (jcons (.text c) r) = jcons (.text (b ++ c)) r := by
  cases r with
  | nil => rfl
  | cons e r => cases e <;> simp [jcons]
theorem join_two (b c : List UInt8) (r : List Ev) : joinEv (.text b :: .text c :: r) = joinEv (.text (b ++ c) :: r) := jcons_text2 b c (joinEv r)
theorem join_left : ∀ (a b : List Ev), joinEv (joinEv a ++ b) = joinEv (a ++ b)
  | [], b => rfl
  | e :: a, b => by
    have ih := join_left a b
    have h : joinEv (jcons e (joinEv a) ++ b) = jcons e (joinEv (joinEv a ++ b)) := by
      cases e with
      | start n x => rfl
      | stop n => rfl
      | text t =>
        cases hj : joinEv a with
        | nil => rfl
        | cons f r =>
          cases f with
          | start n x => rfl
          | stop n => rfl
          | text u =>
            show jcons (.text (t ++ u)) (joinEv (r ++ b)) = jcons (.text t) (jcons (.text u) (joinEv (r ++ b)))
            rw [jcons_text2]
    show joinEv (jcons e (joinEv a) ++ b) = jcons e (joinEv (a ++ b))
    rw [h, ih]
theorem join_idem (a : List Ev) : joinEv (joinEv a) = joinEv a := by
  have := join_left a []
  rwa [List.append_nil, List.append_nil] at this
theorem join_right : ∀ (a b : List Ev), joinEv (a ++ joinEv b) = joinEv (a ++ b)
  | [], b => join_idem b
  | e :: a, b => by
    show jcons e (joinEv (a ++ joinEv b)) = jcons e (joinEv (a ++ b))
    rw [join_right a b]

/-! ## the stream: events, and the text that was put behind the last of them -/

def flushE (s : List Ev × List UInt8) : List Ev := if s.2 = [] then s.1 else s.1 ++ [.text s.2]
def putI (s : List Ev × List UInt8) : Item → List Ev × List UInt8
  | .unit b => (s.1, s.2 ++ b)
  | .start n a => (flushE s ++ [.start n a], [])
  | .stop n => (flushE s ++ [.stop n], [])
def evsL (l : List Item) : List Ev := flushE (l.foldl putI ([], []))
def fullI : Item → Prop
  | .unit b => b ≠ []
  | _ => True
theorem fold_join : ∀ (l : List Item), (∀ i ∈ l, fullI i) → ∀ (E : List Ev) (t : List UInt8), flushE (l.foldl putI (E, t)) = E ++ joinEv ((if t = [] then [] else [.text t]) ++ l.map toEv)
  | [], _, E, t => by
    unfold flushE
    by_cases ht : t = [] <;> simp [ht, joinEv, jcons]
  | i :: l, h, E, t => by
    have hi := h i (.head _)
    have hl : ∀ j ∈ l, fullI j := fun j hj => h j (.tail _ hj)
    rw [List.foldl_cons]
    cases i with
    | unit b =>
      have hb : b ≠ [] := hi
      show flushE (l.foldl putI (E, t ++ b)) = _
      rw [fold_join l hl E (t ++ b), if_neg (by simp [hb])]
      congr 1
      by_cases ht : t = []
      · subst ht; rfl
      · rw [if_neg ht]
        exact (join_two t b (l.map toEv)).symm
    | start n a =>
      show flushE (l.foldl putI (flushE (E, t) ++ [.start n a], [])) = _
      rw [fold_join l hl _ [], if_pos rfl]
      unfold flushE
      by_cases ht : t = []
      · simp [ht, joinEv, toEv, jcons_start]
      · simp [ht, joinEv, toEv, jcons]
    | stop n =>
      show flushE (l.foldl putI (flushE (E, t) ++ [.stop n], [])) = _
      rw [fold_join l hl _ [], if_pos rfl]
      unfold flushE
      by_cases ht : t = []
      · simp [ht, joinEv, toEv, jcons_stop]
      · simp [ht, joinEv, toEv, jcons]
theorem evs_join (l : List Item) (h : ∀ i ∈ l, fullI i) : evsL l = joinEv (l.map toEv) := by
  unfold evsL
  rw [fold_join l h [] [], if_pos rfl]
  rfl
theorem evs_append (a b : List Item) (hb : ∀ i ∈ b, fullI i) (pre : List Ev) (hp : joinEv pre = joinEv (a.map toEv)) : joinEv (pre ++ evsL b) = joinEv ((a ++ b).map toEv) := by
  rw [evs_join b hb, join_right, ← join_left, hp, join_left, List.map_append]

/-! ## what a run puts out is full -/

theorem unr_full (attr : Bool) (r : List UInt8) : unr attr (38 :: r) ≠ [] := by
  rw [unr_amp]
  intro h
  have h1 := (List.append_eq_nil_iff.1 h).1
  unfold oneL at h1
  split at h1
  · cases h1
  · have h2 := congrArg List.length h1
    rw [← Go.Lib.runeCells_length] at h2
    unfold Go.Lib.runeCells at h2
    rw [List.length_map] at h2
    have := (Go.Lib.encodeRuneZ_length (refL attr r).2).1
    simp at h2
    rw [h2] at this
    simp at this
theorem unit_full {st : LS} {b : List UInt8} (h : b ≠ []) : ∀ i ∈ unitL2 st b, fullI i := by
  intro i hi
  unfold unitL2 at hi
  split at hi
  · cases hi
  · rw [List.mem_singleton] at hi
    rw [hi]
    exact h
theorem tag_full {W k : Nat} {L : List UInt8} {st st' : LS} {n : Nat} {it : List Item} (h : tagL W k L st = .done n st' it) : ∀ i ∈ it, fullI i := by
  unfold tagL at h
  simp only at h
  split at h
  · cases h
  · simp only [Res.done.injEq] at h
    rw [← h.2.2]
    intro i hi
    split at hi
    · split at hi <;> (rw [List.mem_singleton] at hi; rw [hi]; trivial)
    · cases hi
theorem ref_full {st st' : LS} {L : List UInt8} {n : Nat} {it : List Item} (hL : L.getD 0 0 = 38) (h : refRes st L = .done n st' it) : ∀ i ∈ it, fullI i := by
  unfold refRes at h
  split at h
  · cases h
  · rename_i e he
    simp only [Res.done.injEq] at h
    rw [← h.2.2]
    cases L with
    | nil => simp at hL
    | cons c r =>
      obtain ⟨h1, _, _⟩ := ref_stable he (by simp) []
      obtain ⟨m, rfl⟩ : ∃ m, e = m + 1 := ⟨e - 1, by omega⟩
      have hc : c = 38 := by simpa using hL
      subst hc
      exact unit_full (unr_full false _)
theorem step_full {W : Nat} {st st' : LS} {L : List UInt8} {n : Nat} {it : List Item} (h : stepL W st L = .done n st' it) : ∀ i ∈ it, fullI i := by
  have none : ∀ {r : List Item}, r = [] → ∀ i ∈ r, fullI i := fun hr i hi => by rw [hr] at hi; cases hi
  unfold stepL at h
  split at h
  · unfold commentRes at h
    split at h <;> cases h
    exact none rfl
  · split at h
    · unfold bogusRes at h
      split at h <;> cases h
      exact none rfl
    · split at h
      · unfold skipTagRes at h; cases h; exact none rfl
      · split at h
        · unfold dataRes at h
          split at h
          · unfold markupRes at h
            split at h
            · cases h
            · split at h
              · exact tag_full h
              · split at h
                · exact tag_full h
                · split at h
                  · cases h; exact none rfl
                  · split at h
                    · cases h; exact none rfl
                    · unfold byteRes at h; cases h; exact unit_full (by simp)
          · split at h
            · rename_i h38; exact ref_full h38 h
            · unfold byteRes at h; cases h; exact unit_full (by simp)
        · split at h
          · unfold areaRes at h
            split at h
            · simp only at h
              split at h
              · cases h
              · split at h
                · exact tag_full h
                · unfold byteRes at h; cases h; exact unit_full (by simp)
            · split at h
              · rename_i h38; exact ref_full h38 h
              · unfold byteRes at h; cases h; exact unit_full (by simp)
          · unfold rawRes at h
            split at h
            · cases h; exact none rfl
            · rename_i i hi
              split at h
              · cases h; exact none rfl
              · simp only at h
                split at h
                · cases h
                · split at h
                  · cases ht : tagL W 2 (L.drop i) st with
                    | more m s => rw [ht] at h; cases h
                    | done m s it2 =>
                      rw [ht] at h
                      simp only [Res.shift, Res.done.injEq] at h
                      rw [← h.2.2]
                      exact tag_full ht
                  · cases h; exact none rfl
theorem run_full {W : Nat} (hW : 32 ≤ W) : ∀ (N : Nat) (st : LS) (L : List UInt8), st.scan ≤ 10 → L.length ≤ N → ∀ i ∈ (runL W st L).2.2, fullI i
  | _, st, [], _, _ => by rw [run_nil]; intro i hi; cases hi
  | 0, st, c :: r, _, h => by simp at h
  | N + 1, st, c :: r, h0, h => by
    cases hs : stepL W st (c :: r) with
    | more n st' => rw [run_more (by simp) hs]; intro i hi; cases hi
    | done n st' it =>
      obtain ⟨h1, h2, h3⟩ := step_pos hW h0 (by simp) hs
      rw [run_done hW h0 (by simp) hs]
      intro i hi
      rcases List.mem_append.1 hi with hi | hi
      · exact step_full hs i hi
      · exact run_full hW N st' _ h3 (by rw [List.length_drop]; omega) i hi

/-! ## the end of a text -/

def bytesL : LS → List UInt8 → List Item
  | _, [] => []
  | st, c :: r => unitL2 st [c] ++ bytesL (noEat st) r
def endL (st : LS) (L : List UInt8) : List Item :=
  if L = [] ∨ st.scan ≠ 0 then [] else if L.getD 0 0 = 38 then unitL2 st (unr false L)
  else if st.mode = 0 ∧ (L = [60] ∨ L = [60, 47]) ∨ st.mode = 1 ∧ ownL (60 :: 47 :: rawL 1) L = 1 then bytesL st L else []
theorem bytes_full : ∀ (st : LS) (L : List UInt8), ∀ i ∈ bytesL st L, fullI i
  | _, [] => fun i hi => by cases hi
  | st, c :: r => fun i hi => by
    rcases List.mem_append.1 hi with hi | hi
    · exact unit_full (by simp) i hi
    · exact bytes_full _ r i hi
theorem end_full (st : LS) (L : List UInt8) : ∀ i ∈ endL st L, fullI i := by
  unfold endL
  split
  · intro i hi; cases hi
  · rename_i hL
    split
    · rename_i h38
      cases L with
      | nil => exact absurd (.inl rfl) hL
      | cons c r =>
        have hc : c = 38 := by simpa using h38
        subst hc
        exact unit_full (unr_full false r)
    · split
      · exact bytes_full st L
      · intro i hi; cases hi
/-- all that a whole text gives -/
def wholeL (W : Nat) (st : LS) (L : List UInt8) : List Item := (runL W st L).2.2 ++ endL (runL W st L).1 (runL W st L).2.1
end Go.Proofs.YtkcgmimldjeaiaaDoor
