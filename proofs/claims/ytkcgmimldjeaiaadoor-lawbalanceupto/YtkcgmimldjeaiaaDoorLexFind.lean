/-
  What the library's searches find, in the words of the plain lexer; how much a step puts out.
-/
import Derived.Lib.Index
import Derived.Lib.Strings
import Derived.Test.YtkcgmimldjeaiaaDoorLexEv
namespace Go.Proofs.YtkcgmimldjeaiaaDoor

theorem indexByte_idx (x : UInt8) : ∀ L : List UInt8, Go.Lib.indexByte L x = match byteIdx x L with | some i => (i : Int) | none => -1
  | [] => rfl
  | c :: r => by
    have ih := indexByte_idx x r
    unfold Go.Lib.indexByte byteIdx
    by_cases hc : c = x
    · rw [if_pos (by rw [beq_iff_eq]; exact hc), if_pos hc]
      rfl
    · rw [if_neg (by rw [beq_iff_eq]; exact hc), if_neg hc, ih]
      cases byteIdx x r with
      | none => rfl
      | some i =>
        show (if ((i : Int) == -1) = true then (-1 : Int) else (i : Int) + 1) = ((i + 1 : Nat) : Int)
        rw [if_neg (by rw [beq_iff_eq]; omega)]
        omega
def comI (d : Nat) (o : Option Nat) : Int := match o with | some n => (n : Int) + d - 3 | none => -1
theorem index_cons (c : UInt8) (r sub : List UInt8) (h : sub.isPrefixOf (c :: r) = false) : Go.Lib.index (c :: r) sub = if Go.Lib.index r sub = -1 then -1 else Go.Lib.index r sub + 1 := by
  conv => lhs; unfold Go.Lib.index
  rw [h]
  by_cases hh : Go.Lib.index r sub = -1 <;> simp [hh]
theorem comI_succ (d : Nat) (o : Option Nat) (hd : ∀ n, o = some n → 3 ≤ n + d) : (if comI d o = -1 then (-1 : Int) else comI d o + 1) = comI (d + 1) o := by
  cases o with
  | none => rfl
  | some n =>
    have := hd n rfl
    unfold comI
    simp only
    rw [if_neg (by omega)]
    omega
theorem com_ge : ∀ (L : List UInt8) (d n : Nat), d ≤ 2 → (comL d L).1 = some n → 3 ≤ n + d
  | [], d, n, _, h => by simp [comL] at h
  | c :: r, d, n, hd, h => by
    unfold comL at h
    split at h
    · rename_i hc
      simp only [Option.some.injEq] at h
      omega
    · simp only [Option.map_eq_some_iff] at h
      obtain ⟨m, hm, rfl⟩ := h
      have := com_ge r _ m (by split <;> omega) hm
      split at this <;> omega
theorem index_com : ∀ (L : List UInt8) (d : Nat), d ≤ 2 → Go.Lib.index (List.replicate d 45 ++ L) [45, 45, 62] = comI d (comL d L).1
  | [], d, hd => by
    rcases (show d = 0 ∨ d = 1 ∨ d = 2 by omega) with rfl | rfl | rfl <;> rfl
  | c :: r, d, hd => by
    unfold comL
    by_cases hc : c = 62 ∧ d = 2
    · obtain ⟨rfl, rfl⟩ := hc
      rw [if_pos ⟨rfl, rfl⟩]
      rfl
    · rw [if_neg hc]
      by_cases h45 : c = 45
      · subst h45
        rw [if_pos rfl]
        have ih := index_com r (min (d + 1) 2) (by omega)
        have hg := fun n => com_ge r (min (d + 1) 2) n (by omega)
        rcases (show d = 0 ∨ d = 1 ∨ d = 2 by omega) with rfl | rfl | rfl
        · show Go.Lib.index (45 :: r) _ = _
          rw [show (45 :: r : List UInt8) = List.replicate (min (0 + 1) 2) 45 ++ r from rfl, ih]
          cases (comL (min (0 + 1) 2) r).1 with
          | none => rfl
          | some n => show (n : Int) + _ - 3 = ((n + 1 : Nat) : Int) + _ - 3; omega
        · show Go.Lib.index (45 :: 45 :: r) _ = _
          rw [show (45 :: 45 :: r : List UInt8) = List.replicate (min (1 + 1) 2) 45 ++ r from rfl, ih]
          cases (comL (min (1 + 1) 2) r).1 with
          | none => rfl
          | some n => show (n : Int) + _ - 3 = ((n + 1 : Nat) : Int) + _ - 3; omega
        · show Go.Lib.index (45 :: 45 :: 45 :: r) _ = _
          rw [index_cons _ _ _ (by simp [List.isPrefixOf]), show (45 :: 45 :: r : List UInt8) = List.replicate (min (2 + 1) 2) 45 ++ r from rfl, ih, comI_succ _ _ hg]
          cases (comL (min (2 + 1) 2) r).1 with
          | none => rfl
          | some n => show (n : Int) + _ - 3 = ((n + 1 : Nat) : Int) + _ - 3; omega
      · rw [if_neg h45]
        have ih := index_com r 0 (by omega)
        have hg := fun n => com_ge r 0 n (by omega)
        have h45' : (45 == c) = false := by rw [beq_eq_false_iff_ne]; exact fun h => h45 h.symm
        have e0 : Go.Lib.index (c :: r) [45, 45, 62] = comI 1 (comL 0 r).1 := by
          rw [index_cons _ _ _ (by simp [List.isPrefixOf, h45']), show r = List.replicate 0 45 ++ r from rfl, ih, comI_succ _ _ hg]
          rfl
        have g1 : ∀ n, (comL 0 r).1 = some n → 3 ≤ n + 1 := fun n h => by have := hg n h; omega
        have e1 : Go.Lib.index (45 :: c :: r) [45, 45, 62] = comI 2 (comL 0 r).1 := by
          rw [index_cons _ _ _ (by simp [List.isPrefixOf, h45']), e0, comI_succ _ _ g1]
        rcases (show d = 0 ∨ d = 1 ∨ d = 2 by omega) with rfl | rfl | rfl
        · show Go.Lib.index (c :: r) _ = _
          rw [e0]
          cases (comL 0 r).1 with
          | none => rfl
          | some n => show (n : Int) + _ - 3 = ((n + 1 : Nat) : Int) + _ - 3; omega
        · show Go.Lib.index (45 :: c :: r) _ = _
          rw [e1]
          cases (comL 0 r).1 with
          | none => rfl
          | some n => show (n : Int) + _ - 3 = ((n + 1 : Nat) : Int) + _ - 3; omega
        · show Go.Lib.index (45 :: 45 :: c :: r) _ = _
          have h62 : (62 == c) = false := by rw [beq_eq_false_iff_ne]; exact fun h => hc ⟨h.symm, rfl⟩
          have g2 : ∀ n, (comL 0 r).1 = some n → 3 ≤ n + 2 := fun n h => by have := hg n h; omega
          rw [index_cons _ _ _ (by simp [List.isPrefixOf, h62]), e1, comI_succ _ _ g2]
          cases (comL 0 r).1 with
          | none => rfl
          | some n => show (n : Int) + _ - 3 = ((n + 1 : Nat) : Int) + _ - 3; omega
/-- the dashes at the end, two at most -/
def dashes (X : List UInt8) : Nat := if [45, 45] <:+ X then 2 else if [45] <:+ X then 1 else 0
theorem dashes_cons (c : UInt8) (r : List UInt8) (h : [45, 45] ≠ c :: r) (h1 : [45] ≠ c :: r) : dashes (c :: r) = dashes r := by
  unfold dashes
  simp only [List.suffix_cons_iff, h, h1, false_or]
theorem com_dash : ∀ (L : List UInt8) (d : Nat), d ≤ 2 → (comL d L).1 = none → (comL d L).2 = dashes (List.replicate d 45 ++ L)
  | [], d, hd, _ => by
    rcases (show d = 0 ∨ d = 1 ∨ d = 2 by omega) with rfl | rfl | rfl <;> decide
  | c :: r, d, hd, h => by
    unfold comL at h ⊢
    by_cases hc : c = 62 ∧ d = 2
    · rw [if_pos hc] at h
      cases h
    · rw [if_neg hc] at h ⊢
      simp only [Option.map_eq_none_iff] at h
      have ih := com_dash r _ (by split <;> omega) h
      show (comL (if c = 45 then min (d + 1) 2 else 0) r).2 = _
      rw [ih]
      by_cases h45 : c = 45
      · subst h45
        rw [if_pos rfl]
        rcases (show d = 0 ∨ d = 1 ∨ d = 2 by omega) with rfl | rfl | rfl
        · rfl
        · rfl
        · show dashes (45 :: 45 :: r) = dashes (45 :: 45 :: 45 :: r)
          rw [dashes_cons 45 (45 :: 45 :: r) (by simp) (by simp)]
      · rw [if_neg h45]
        have h45' : (45 : UInt8) ≠ c := fun h => h45 h.symm
        have e0 : dashes (c :: r) = dashes r := dashes_cons c r (by simp [h45']) (by simp [h45'])
        have e1 : dashes (45 :: c :: r) = dashes r := by rw [dashes_cons 45 (c :: r) (by simp [h45']) (by simp), e0]
        rcases (show d = 0 ∨ d = 1 ∨ d = 2 by omega) with rfl | rfl | rfl
        · exact e0.symm
        · exact e1.symm
        · show dashes r = dashes (45 :: 45 :: c :: r)
          rw [dashes_cons 45 (45 :: c :: r) (by simp) (by simp), e1]

/-! ## how much a step puts out -/

def Small (n : Nat) (it : List Item) : Prop := it = [] ∨ (∃ b, it = [.unit b] ∧ b.length ≤ 4 * n) ∨ (∃ x a, it = [.start x a]) ∨ ∃ x, it = [.stop x]
theorem small_unit {n : Nat} (st : LS) {b : List UInt8} (h : b.length ≤ 4 * n) : Small n (unitL2 st b) := by
  unfold unitL2
  split
  · exact .inl rfl
  · exact .inr (.inl ⟨b, rfl, h⟩)
theorem tag_small {W k : Nat} {L : List UInt8} {st st' : LS} {n : Nat} {it : List Item} (h : tagL W k L st = .done n st' it) (m : Nat) : Small m it := by
  unfold tagL at h
  simp only at h
  split at h
  · cases h
  · simp only [Res.done.injEq] at h
    rw [← h.2.2]
    split
    · split
      · exact .inr (.inr (.inl ⟨_, _, rfl⟩))
      · exact .inr (.inr (.inr ⟨_, rfl⟩))
    · exact .inl rfl
theorem ref_small {st st' : LS} {L : List UInt8} {n : Nat} {it : List Item} (h : refRes st L = .done n st' it) : Small n it := by
  unfold refRes at h
  split at h
  · cases h
  · rename_i e he
    simp only [Res.done.injEq] at h
    obtain ⟨rfl, -, h3⟩ := h
    rw [← h3]
    have := unr_len false _ (L.take e) (Nat.le_refl _)
    exact small_unit st (Nat.le_trans this (by rw [List.length_take]; omega))
theorem byte_small {st st' : LS} {c : UInt8} {n : Nat} {it : List Item} (h : byteRes st c = .done n st' it) : Small n it := by
  unfold byteRes at h
  cases h
  exact small_unit st (by simp)
theorem step_small {W : Nat} {st st' : LS} {L : List UInt8} {n : Nat} {it : List Item} (h : stepL W st L = .done n st' it) : Small n it := by
  unfold stepL at h
  split at h
  · unfold commentRes at h
    split at h <;> cases h
    exact .inl rfl
  · split at h
    · unfold bogusRes at h
      split at h <;> cases h
      exact .inl rfl
    · split at h
      · unfold skipTagRes at h; cases h; exact .inl rfl
      · split at h
        · unfold dataRes at h
          split at h
          · unfold markupRes at h
            split at h
            · cases h
            · split at h
              · exact tag_small h _
              · split at h
                · exact tag_small h _
                · split at h
                  · cases h; exact .inl rfl
                  · split at h
                    · cases h; exact .inl rfl
                    · exact byte_small h
          · split at h
            · exact ref_small h
            · exact byte_small h
        · split at h
          · unfold areaRes at h
            split at h
            · simp only at h
              split at h
              · cases h
              · split at h
                · exact tag_small h _
                · exact byte_small h
            · split at h
              · exact ref_small h
              · exact byte_small h
          · unfold rawRes at h
            split at h
            · cases h; exact .inl rfl
            · rename_i i hi
              split at h
              · cases h; exact .inl rfl
              · simp only at h
                split at h
                · cases h
                · split at h
                  · cases ht : tagL W 2 (L.drop i) st with
                    | more m s => rw [ht] at h; cases h
                    | done m s it2 =>
                      rw [ht] at h
                      simp only [Res.shift, Res.done.injEq] at h
                      rw [← h.2.2]
                      exact tag_small ht _
                  · cases h; exact .inl rfl
def putAll (s : List Ev × List UInt8) (l : List Item) : List Ev × List UInt8 := l.foldl putI s
theorem putAll_app (s : List Ev × List UInt8) (a b : List Item) : putAll s (a ++ b) = putAll (putAll s a) b := List.foldl_append ..
theorem flush_len (s : List Ev × List UInt8) : (flushE s).length ≤ s.1.length + 1 := by
  unfold flushE
  split
  · omega
  · simp
theorem small_put {n : Nat} {it : List Item} (h : Small n it) (h0 : 0 < n) (s : List Ev × List UInt8) : (putAll s it).1.length ≤ s.1.length + 2 * n ∧ (putAll s it).2.length ≤ s.2.length + 4 * n := by
  have hf := flush_len s
  rcases h with rfl | ⟨b, rfl, hb⟩ | ⟨x, a, rfl⟩ | ⟨x, rfl⟩
  · exact ⟨by show s.1.length ≤ _; omega, by show s.2.length ≤ _; omega⟩
  · refine ⟨by show s.1.length ≤ _; omega, ?_⟩
    show (s.2 ++ b).length ≤ _
    rw [List.length_append]
    omega
  · refine ⟨?_, by show ([] : List UInt8).length ≤ _; simp⟩
    show (flushE s ++ [_]).length ≤ _
    rw [List.length_append]
    simp
    omega
  · refine ⟨?_, by show ([] : List UInt8).length ≤ _; simp⟩
    show (flushE s ++ [_]).length ≤ _
    rw [List.length_append]
    simp
    omega
end Go.Proofs.YtkcgmimldjeaiaaDoor
