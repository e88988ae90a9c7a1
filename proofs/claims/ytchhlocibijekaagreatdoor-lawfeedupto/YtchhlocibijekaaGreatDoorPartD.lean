/-
  Parts of the walk, joined: LexFind, TagRef, LexLaw, RefRun, RefSet, InBuilder.
-/
import Derived.Lib.Index
import Derived.Lib.Strings
import Derived.Test.YtchhlocibijekaaGreatDoorPartC
import Derived.Test.YtchhlocibijekaaGreatDoorShelf
import Derived.Laws.Tables
import Derived.Lib.Builder
import Derived.Lib.FrozenHead2
import Derived.Lib.OthersKept
/-
  What the library's searches find, in the words of the plain lexer; how much a step puts out.
-/
namespace Go.Proofs.YtchhlocibijekaaGreatDoor

theorem indexByte_idx (x : UInt8) : ∀ L : List UInt8, Go.Lib.indexByte L x = match byteIdx x L with | some i => (i : Int) | none => -1
  | [] => rfl
  | c :: r => by
    have ih := indexByte_idx x r
    unfold Go.Lib.indexByte byteIdx
    by_cases hc : c = x
    · rw [if_pos (by rw [beq_iff_eq]; exact hc), if_pos hc]
      rfl
    · rw [if_neg (by rw [beq_iff_eq]; exact hc), if_neg hc, ih]
      cases byteIdx x r with
      | none => rfl
      | some i =>
        show (if ((i : Int) == -1) = true then (-1 : Int) else (i : Int) + 1) = ((i + 1 : Nat) : Int)
        rw [if_neg (by rw [beq_iff_eq]; omega)]
        omega
def comI (d : Nat) (o : Option Nat) : Int := match o with | some n => (n : Int) + d - 3 | none => -1
theorem index_cons (c : UInt8) (r sub : List UInt8) (h : sub.isPrefixOf (c :: r) = false) : Go.Lib.index (c :: r) sub = if Go.Lib.index r sub = -1 then -1 else Go.Lib.index r sub + 1 := by
  conv => lhs; unfold Go.Lib.index
  rw [h]
  by_cases hh : Go.Lib.index r sub = -1 <;> simp [hh]
theorem comI_succ (d : Nat) (o : Option Nat) (hd : ∀ n, o = some n → 3 ≤ n + d) : (if comI d o = -1 then (-1 : Int) else comI d o + 1) = comI (d + 1) o := by
  cases o with
  | none => rfl
  | some n =>
    have := hd n rfl
    unfold comI
    simp only
    rw [if_neg (by omega)]
    omega
theorem com_ge : ∀ (L : List UInt8) (d n : Nat), d ≤ 2 → (comL d L).1 = some n → 3 ≤ n + d
  | [], d, n, _, h => by simp [comL] at h
  | c :: r, d, n, hd, h => by
    unfold comL at h
    split at h
    · rename_i hc
      simp only [Option.some.injEq] at h
      omega
    · simp only [Option.map_eq_some_iff] at h
      obtain ⟨m, hm, rfl⟩ := h
      have := com_ge r _ m (by split <;> omega) hm
      split at this <;> omega
theorem index_com : ∀ (L : List UInt8) (d : Nat), d ≤ 2 → Go.Lib.index (List.replicate d 45 ++ L) [45, 45, 62] = comI d (comL d L).1
  | [], d, hd => by
    rcases (show d = 0 ∨ d = 1 ∨ d = 2 by omega) with rfl | rfl | rfl <;> rfl
  | c :: r, d, hd => by
    unfold comL
    by_cases hc : c = 62 ∧ d = 2
    · obtain ⟨rfl, rfl⟩ := hc
      rw [if_pos ⟨rfl, rfl⟩]
      rfl
    · rw [if_neg hc]
      by_cases h45 : c = 45
      · subst h45
        rw [if_pos rfl]
        have ih := index_com r (min (d + 1) 2) (by omega)
        have hg := fun n => com_ge r (min (d + 1) 2) n (by omega)
        rcases (show d = 0 ∨ d = 1 ∨ d = 2 by omega) with rfl | rfl | rfl
        · show Go.Lib.index (45 :: r) _ = _
          rw [show (45 :: r : List UInt8) = List.replicate (min (0 + 1) 2) 45 ++ r from rfl, ih]
          cases (comL (min (0 + 1) 2) r).1 with
          | none => rfl
          | some n => show (n : Int) + _ - 3 = ((n + 1 : Nat) : Int) + _ - 3; omega
        · show Go.Lib.index (45 :: 45 :: r) _ = _
          rw [show (45 :: 45 :: r : List UInt8) = List.replicate (min (1 + 1) 2) 45 ++ r from rfl, ih]
          cases (comL (min (1 + 1) 2) r).1 with
          | none => rfl
          | some n => show (n : Int) + _ - 3 = ((n + 1 : Nat) : Int) + _ - 3; omega
        · show Go.Lib.index (45 :: 45 :: 45 :: r) _ = _
          rw [index_cons _ _ _ (by simp [List.isPrefixOf]), show (45 :: 45 :: r : List UInt8) = List.replicate (min (2 + 1) 2) 45 ++ r from rfl, ih, comI_succ _ _ hg]
          cases (comL (min (2 + 1) 2) r).1 with
          | none => rfl
          | some n => show (n : Int) + _ - 3 = ((n + 1 : Nat) : Int) + _ - 3; omega
      · rw [if_neg h45]
        have ih := index_com r 0 (by omega)
        have hg := fun n => com_ge r 0 n (by omega)
        have h45' : (45 == c) = false := by rw [beq_eq_false_iff_ne]; exact fun h => h45 h.symm
        have e0 : Go.Lib.index (c :: r) [45, 45, 62] = comI 1 (comL 0 r).1 := by
          rw [index_cons _ _ _ (by simp [List.isPrefixOf, h45']), show r = List.replicate 0 45 ++ r from rfl, ih, comI_succ _ _ hg]
          rfl
        have g1 : ∀ n, (comL 0 r).1 = some n → 3 ≤ n + 1 := fun n h => by have := hg n h; omega
        have e1 : Go.Lib.index (45 :: c :: r) [45, 45, 62] = comI 2 (comL 0 r).1 := by
          rw [index_cons _ _ _ (by simp [List.isPrefixOf, h45']), e0, comI_succ _ _ g1]
        rcases (show d = 0 ∨ d = 1 ∨ d = 2 by omega) with rfl | rfl | rfl
        · show Go.Lib.index (c :: r) _ = _
          rw [e0]
          cases (comL 0 r).1 with
          | none => rfl
          | some n => show (n : Int) + _ - 3 = ((n + 1 : Nat) : Int) + _ - 3; omega
        · show Go.Lib.index (45 :: c :: r) _ = _
          rw [e1]
          cases (comL 0 r).1 with
          | none => rfl
          | some n => show (n : Int) + _ - 3 = ((n + 1 : Nat) : Int) + _ - 3; omega
        · show Go.Lib.index (45 :: 45 :: c :: r) _ = _
          have h62 : (62 == c) = false := by rw [beq_eq_false_iff_ne]; exact fun h => hc ⟨h.symm, rfl⟩
          have g2 : ∀ n, (comL 0 r).1 = some n → 3 ≤ n + 2 := fun n h => by have := hg n h; omega
          rw [index_cons _ _ _ (by simp [List.isPrefixOf, h62]), e1, comI_succ _ _ g2]
          cases (comL 0 r).1 with
          | none => rfl
          | some n => show (n : Int) + _ - 3 = ((n + 1 : Nat) : Int) + _ - 3; omega
/-- the dashes at the end, two at most -/
def dashes (X : List UInt8) : Nat := if [45, 45] <:+ X then 2 else if [45] <:+ X then 1 else 0
theorem dashes_cons (c : UInt8) (r : List UInt8) (h : [45, 45] ≠ c :: r) (h1 : [45] ≠ c :: r) : dashes (c :: r) = dashes r := by
  unfold dashes
  simp only [List.suffix_cons_iff, h, h1, false_or]
theorem com_dash : ∀ (L : List UInt8) (d : Nat), d ≤ 2 → (comL d L).1 = none → (comL d L).2 = dashes (List.replicate d 45 ++ L)
  | [], d, hd, _ => by
    rcases (show d = 0 ∨ d = 1 ∨ d = 2 by omega) with rfl | rfl | rfl <;> decide
  | c :: r, d, hd, h => by
    unfold comL at h ⊢
    by_cases hc : c = 62 ∧ d = 2
    · rw [if_pos hc] at h
      cases h
    · rw [if_neg hc] at h ⊢
      simp only [Option.map_eq_none_iff] at h
      have ih := com_dash r _ (by split <;> omega) h
      show (comL (if c = 45 then min (d + 1) 2 else 0) r).2 = _
      rw [ih]
      by_cases h45 : c = 45
      · subst h45
        rw [if_pos rfl]
        rcases (show d = 0 ∨ d = 1 ∨ d = 2 by omega) with rfl | rfl | rfl
        · rfl
        · rfl
        · show dashes (45 :: 45 :: r) = dashes (45 :: 45 :: 45 :: r)
          rw [dashes_cons 45 (45 :: 45 :: r) (by simp) (by simp)]
      · rw [if_neg h45]
        have h45' : (45 : UInt8) ≠ c := fun h => h45 h.symm
        have e0 : dashes (c :: r) = dashes r := dashes_cons c r (by simp [h45']) (by simp [h45'])
        have e1 : dashes (45 :: c :: r) = dashes r := by rw [dashes_cons 45 (c :: r) (by simp [h45']) (by simp), e0]
        rcases (show d = 0 ∨ d = 1 ∨ d = 2 by omega) with rfl | rfl | rfl
        · exact e0.symm
        · exact e1.symm
        · show dashes r = dashes (45 :: 45 :: c :: r)
          rw [dashes_cons 45 (45 :: c :: r) (by simp) (by simp), e1]

/-! ## how much a step puts out -/

def Small (n : Nat) (it : List Item) : Prop := it = [] ∨ (∃ b, it = [.unit b] ∧ b.length ≤ 4 * n) ∨ (∃ x a, it = [.start x a]) ∨ ∃ x, it = [.stop x]
theorem small_unit {n : Nat} (st : LS) {b : List UInt8} (h : b.length ≤ 4 * n) : Small n (unitL2 st b) := by
  unfold unitL2
  split
  · exact .inl rfl
  · exact .inr (.inl ⟨b, rfl, h⟩)
theorem tag_small {W k : Nat} {L : List UInt8} {st st' : LS} {n : Nat} {it : List Item} (h : tagL W k L st = .done n st' it) (m : Nat) : Small m it := by
  unfold tagL at h
  simp only at h
  split at h
  · cases h
  · simp only [Res.done.injEq] at h
    rw [← h.2.2]
    split
    · split
      · exact .inr (.inr (.inl ⟨_, _, rfl⟩))
      · exact .inr (.inr (.inr ⟨_, rfl⟩))
    · exact .inl rfl
theorem ref_small {st st' : LS} {L : List UInt8} {n : Nat} {it : List Item} (h : refRes st L = .done n st' it) : Small n it := by
  unfold refRes at h
  split at h
  · cases h
  · rename_i e he
    simp only [Res.done.injEq] at h
    obtain ⟨rfl, -, h3⟩ := h
    rw [← h3]
    have := unr_len false _ (L.take e) (Nat.le_refl _)
    exact small_unit st (Nat.le_trans this (by rw [List.length_take]; omega))
theorem byte_small {st st' : LS} {c : UInt8} {n : Nat} {it : List Item} (h : byteRes st c = .done n st' it) : Small n it := by
  unfold byteRes at h
  cases h
  exact small_unit st (by simp)
theorem step_small {W : Nat} {st st' : LS} {L : List UInt8} {n : Nat} {it : List Item} (h : stepL W st L = .done n st' it) : Small n it := by
  unfold stepL at h
  split at h
  · unfold commentRes at h
    split at h <;> cases h
    exact .inl rfl
  · split at h
    · unfold bogusRes at h
      split at h <;> cases h
      exact .inl rfl
    · split at h
      · unfold skipTagRes at h; cases h; exact .inl rfl
      · split at h
        · unfold dataRes at h
          split at h
          · unfold markupRes at h
            split at h
            · cases h
            · split at h
              · exact tag_small h _
              · split at h
                · exact tag_small h _
                · split at h
                  · cases h; exact .inl rfl
                  · split at h
                    · cases h; exact .inl rfl
                    · exact byte_small h
          · split at h
            · exact ref_small h
            · exact byte_small h
        · split at h
          · unfold areaRes at h
            split at h
            · simp only at h
              split at h
              · cases h
              · split at h
                · exact tag_small h _
                · exact byte_small h
            · split at h
              · exact ref_small h
              · exact byte_small h
          · unfold rawRes at h
            split at h
            · cases h; exact .inl rfl
            · rename_i i hi
              split at h
              · cases h; exact .inl rfl
              · simp only at h
                split at h
                · cases h
                · split at h
                  · cases ht : tagL W 2 (L.drop i) st with
                    | more m s => rw [ht] at h; cases h
                    | done m s it2 =>
                      rw [ht] at h
                      simp only [Res.shift, Res.done.injEq] at h
                      rw [← h.2.2]
                      exact tag_small ht _
                  · cases h; exact .inl rfl
def putAll (s : List Ev × List UInt8) (l : List Item) : List Ev × List UInt8 := l.foldl putI s
theorem putAll_app (s : List Ev × List UInt8) (a b : List Item) : putAll s (a ++ b) = putAll (putAll s a) b := List.foldl_append ..
theorem flush_len (s : List Ev × List UInt8) : (flushE s).length ≤ s.1.length + 1 := by
  unfold flushE
  split
  · omega
  · simp
theorem small_put {n : Nat} {it : List Item} (h : Small n it) (h0 : 0 < n) (s : List Ev × List UInt8) : (putAll s it).1.length ≤ s.1.length + 2 * n ∧ (putAll s it).2.length ≤ s.2.length + 4 * n := by
  have hf := flush_len s
  rcases h with rfl | ⟨b, rfl, hb⟩ | ⟨x, a, rfl⟩ | ⟨x, rfl⟩
  · exact ⟨by show s.1.length ≤ _; omega, by show s.2.length ≤ _; omega⟩
  · refine ⟨by show s.1.length ≤ _; omega, ?_⟩
    show (s.2 ++ b).length ≤ _
    rw [List.length_append]
    omega
  · refine ⟨?_, by show ([] : List UInt8).length ≤ _; simp⟩
    show (flushE s ++ [_]).length ≤ _
    rw [List.length_append]
    simp
    omega
  · refine ⟨?_, by show ([] : List UInt8).length ≤ _; simp⟩
    show (flushE s ++ [_]).length ≤ _
    rw [List.length_append]
    simp
    omega
end Go.Proofs.YtchhlocibijekaaGreatDoor

/-
  A tag by search: attribute by attribute, the end of each looked for, is the tag by its states. No program is named here.
-/
namespace Go.Proofs.YtchhlocibijekaaGreatDoor

theorem all8 {p : UInt8 → Prop} (h : ∀ i : Fin 256, p (UInt8.ofNat i.val)) (c : UInt8) : p c := by
  have := h ⟨c.toNat, c.toNat_lt⟩
  simpa using this
theorem span_of (p : UInt8 → Bool) : ∀ L : List UInt8, L = L.takeWhile p ++ L.dropWhile p ∧ (∀ c ∈ L.takeWhile p, p c = true) ∧ ∀ c t, L.dropWhile p = c :: t → p c = false
  | [] => by simp
  | x :: L => by
    obtain ⟨h1, h2, h3⟩ := span_of p L
    by_cases hx : p x = true
    · rw [List.takeWhile_cons_of_pos hx, List.dropWhile_cons_of_pos hx]
      refine ⟨by rw [List.cons_append, ← h1], fun c hc => ?_, h3⟩
      rcases List.mem_cons.1 hc with rfl | hc
      · exact hx
      · exact h2 c hc
    · rw [List.takeWhile_cons_of_neg hx, List.dropWhile_cons_of_neg hx]
      refine ⟨rfl, fun c h => (by cases h), fun c t h => ?_⟩
      obtain ⟨rfl, _⟩ := List.cons.inj h
      simpa using hx

def spS : List UInt8 := [9, 10, 12, 13, 32]
def nameE : List UInt8 := [9, 10, 12, 13, 32, 47, 62, 61]
def tagE : List UInt8 := [9, 10, 12, 13, 32, 47, 62]
def gapE : List UInt8 := [9, 10, 12, 13, 32, 47]
def bareE : List UInt8 := [9, 10, 12, 13, 32, 62]
theorem next3 : ∀ c : UInt8, (tagE.contains c = false → nextT 3 c = 3) ∧ (tagE.contains c = true → nextT 3 c ≠ 3 ∧ nextT 3 c = nextT 4 c) := all8 (by decide +kernel)
theorem next4 : ∀ c : UInt8, (gapE.contains c = true → nextT 4 c = 4) ∧ (gapE.contains c = false → c ≠ 62 → nextT 4 c = 5) ∧ (c = 62 → nextT 4 c = 0) := all8 (by decide +kernel)
theorem next5 : ∀ c : UInt8, (nameE.contains c = false → nextT 5 c = 5) ∧ (nameE.contains c = true → spS.contains c = false → c ≠ 61 → nextT 5 c = nextT 4 c ∧ nextT 5 c ≠ 5 ∧ nextT 4 c ≠ 5) ∧ (spS.contains c = true → nextT 5 c = 6) ∧ (c = 61 → nextT 5 c = 7) := all8 (by decide +kernel)
theorem next6 : ∀ c : UInt8, (spS.contains c = true → nextT 6 c = 6) ∧ (spS.contains c = false → c ≠ 61 → nextT 6 c = nextT 4 c ∧ nextT 6 c ≠ 6) ∧ (c = 61 → nextT 6 c = 7) := all8 (by decide +kernel)
theorem next7 : ∀ c : UInt8, (spS.contains c = true → nextT 7 c = 7) ∧ (c = 62 → nextT 7 c = 0 ∧ nextT 4 c = 0) ∧ (c = 34 → nextT 7 c = 8) ∧ (c = 39 → nextT 7 c = 9) ∧ (spS.contains c = false → c ≠ 62 → c ≠ 34 → c ≠ 39 → nextT 7 c = 10) := all8 (by decide +kernel)
theorem next8 : ∀ c : UInt8, (c ≠ 34 → nextT 8 c = 8) ∧ (c = 34 → nextT 8 c = 4) := all8 (by decide +kernel)
theorem next9 : ∀ c : UInt8, (c ≠ 39 → nextT 9 c = 9) ∧ (c = 39 → nextT 9 c = 4) := all8 (by decide +kernel)
theorem next10 : ∀ c : UInt8, (bareE.contains c = false → nextT 10 c = 10) ∧ (bareE.contains c = true → nextT 10 c = nextT 4 c ∧ nextT 10 c ≠ 10) := all8 (by decide +kernel)

theorem pass_seg {s : Nat} (hs : s ≠ 0) : ∀ (seg r : List UInt8), (∀ c ∈ seg, nextT s c = s) → passL s (seg ++ r) = (seg.length + (passL s r).1, (passL s r).2)
  | [], r, _ => by simp
  | c :: seg, r, h => by
    rw [List.cons_append]
    show (if s = 0 then (0, 0) else _) = _
    rw [if_neg hs, h c (by simp), pass_seg hs seg r (fun x hx => h x (by simp [hx]))]
    simp only [List.length_cons, Prod.mk.injEq, and_true]
    omega
theorem pass_one {s : Nat} (hs : s ≠ 0) (c : UInt8) (r : List UInt8) : passL s (c :: r) = ((passL (nextT s c) r).1 + 1, (passL (nextT s c) r).2) := by
  show (if s = 0 then (0, 0) else _) = _
  rw [if_neg hs]
theorem pass_zero : ∀ L : List UInt8, passL 0 L = (0, 0)
  | [] => rfl
  | _ :: _ => rfl
theorem attrs_seg {s : Nat} : ∀ (seg r part : List UInt8) (acc : List (List UInt8 × List UInt8)), (∀ c ∈ seg, nextT s c = s) → attrsL s part acc (seg ++ r) = attrsL s (part ++ seg) acc r
  | [], r, part, acc, _ => by simp
  | c :: seg, r, part, acc, h => by
    rw [List.cons_append]
    conv => lhs; unfold attrsL
    rw [if_pos (h c (by simp)), attrs_seg seg r (part ++ [c]) acc (fun x hx => h x (by simp [hx]))]
    simp only [List.append_assoc, List.cons_append, List.nil_append]
theorem attrs_turn {s : Nat} {c : UInt8} (h : nextT s c ≠ s) (part r : List UInt8) (acc : List (List UInt8 × List UInt8)) : attrsL s part acc (c :: r) =
    attrsL (nextT s c) (if nextT s c = 8 ∨ nextT s c = 9 then [] else [c]) (if s = 5 then acc ++ [(part.map lowC, [])] else if s = 8 ∨ s = 9 ∨ s = 10 then acc.dropLast ++ [((acc.getLast?.getD ([], [])).1, unr true part)] else acc) r := by
  conv => lhs; unfold attrsL
  rw [if_neg h]
theorem attrs_turn0 {s : Nat} {c : UInt8} (h : nextT s c ≠ s) (s5 : s ≠ 5) (s8 : s ≠ 8) (s9 : s ≠ 9) (s10 : s ≠ 10) (part r : List UInt8) (acc : List (List UInt8 × List UInt8)) : attrsL s part acc (c :: r) =
    attrsL (nextT s c) (if nextT s c = 8 ∨ nextT s c = 9 then [] else [c]) acc r := by
  rw [attrs_turn h]
  simp only [s5, s8, s9, s10, if_false, or_self]
theorem attrs_turn5 {c : UInt8} (h : nextT 5 c ≠ 5) (part r : List UInt8) (acc : List (List UInt8 × List UInt8)) : attrsL 5 part acc (c :: r) =
    attrsL (nextT 5 c) (if nextT 5 c = 8 ∨ nextT 5 c = 9 then [] else [c]) (acc ++ [(part.map lowC, [])]) r := by
  rw [attrs_turn h]
  simp only [if_true]
theorem attrs_turnV {s : Nat} {c : UInt8} (h : nextT s c ≠ s) (hs : s = 8 ∨ s = 9 ∨ s = 10) (part r nm v : List UInt8) (acc : List (List UInt8 × List UInt8)) : attrsL s part (acc ++ [(nm, v)]) (c :: r) =
    attrsL (nextT s c) (if nextT s c = 8 ∨ nextT s c = 9 then [] else [c]) (acc ++ [(nm, unr true part)]) r := by
  rw [attrs_turn h]
  have h5 : s ≠ 5 := by omega
  simp only [h5, if_false, hs, if_true, List.dropLast_concat, List.getLast?_append, List.getLast?_singleton, Option.some_or, Option.getD_some]
/-- in the gap what was gathered means nothing -/
theorem attrs_gap : ∀ (L p q : List UInt8) (acc : List (List UInt8 × List UInt8)), attrsL 4 p acc L = attrsL 4 q acc L
  | [], _, _, _ => rfl
  | c :: r, p, q, acc => by
    by_cases h : nextT 4 c = 4
    · unfold attrsL
      rw [if_pos h, if_pos h]
      exact attrs_gap r _ _ acc
    · rw [attrs_turn0 h (by decide) (by decide) (by decide) (by decide), attrs_turn0 h (by decide) (by decide) (by decide) (by decide)]
theorem gap_step (c : UInt8) (q r : List UInt8) (acc : List (List UInt8 × List UInt8)) : attrsL (nextT 4 c) (if nextT 4 c = 8 ∨ nextT 4 c = 9 then [] else [c]) acc r = attrsL 4 q acc (c :: r) := by
  by_cases h4 : nextT 4 c = 4
  · conv => rhs; unfold attrsL
    rw [if_pos h4, h4, if_neg (by decide)]
    exact attrs_gap r _ _ acc
  · rw [attrs_turn0 h4 (by decide) (by decide) (by decide) (by decide)]
/-- a state that does at a byte what the gap does -/
theorem attrs_like {s : Nat} {c : UInt8} (h : nextT s c = nextT 4 c) (hs : nextT s c ≠ s) (s5 : s ≠ 5) (s8 : s ≠ 8) (s9 : s ≠ 9) (s10 : s ≠ 10) (part q r : List UInt8) (acc : List (List UInt8 × List UInt8)) : attrsL s part acc (c :: r) = attrsL 4 q acc (c :: r) := by
  rw [attrs_turn0 hs s5 s8 s9 s10, h]
  exact gap_step c q r acc
theorem attrs_like5 {c : UInt8} (h : nextT 5 c = nextT 4 c) (hs : nextT 5 c ≠ 5) (part q r : List UInt8) (acc : List (List UInt8 × List UInt8)) : attrsL 5 part acc (c :: r) = attrsL 4 q (acc ++ [(part.map lowC, [])]) (c :: r) := by
  rw [attrs_turn5 hs, h]
  exact gap_step c q r _
theorem attrs_like10 {c : UInt8} (h : nextT 10 c = nextT 4 c) (hs : nextT 10 c ≠ 10) (part q r nm v : List UInt8) (acc : List (List UInt8 × List UInt8)) : attrsL 10 part (acc ++ [(nm, v)]) (c :: r) = attrsL 4 q (acc ++ [(nm, unr true part)]) (c :: r) := by
  rw [attrs_turnV hs (by decide), h]
  exact gap_step c q r _

/-- what stands behind the = of an attribute: it, what is left, and the state in which the bytes end -/
def attrV (nm t2 : List UInt8) : (List UInt8 × List UInt8) × List UInt8 × Nat :=
  match t2.dropWhile spS.contains with
  | [] => ((nm, []), [], 7)
  | q :: t3 =>
    if q = 34 ∨ q = 39 then
      match t3.dropWhile (· != q) with
      | [] => ((nm, unr true (t3.takeWhile (· != q))), [], if q = 34 then 8 else 9)
      | _ :: t4 => ((nm, unr true (t3.takeWhile (· != q))), t4, 0)
    else if q = 62 then ((nm, []), q :: t3, 0)
    else
      match t3.dropWhile fun c => !bareE.contains c with
      | [] => ((nm, unr true (q :: t3.takeWhile fun c => !bareE.contains c)), [], 10)
      | c5 :: t5 => ((nm, unr true (q :: t3.takeWhile fun c => !bareE.contains c)), c5 :: t5, 0)
def attrR (nm : List UInt8) : List UInt8 → (List UInt8 × List UInt8) × List UInt8 × Nat
  | [] => ((nm, []), [], 5)
  | c1 :: t1 =>
    match (c1 :: t1).dropWhile spS.contains with
    | [] => ((nm, []), [], 6)
    | c2 :: t2 => if c2 = 61 then attrV nm t2 else ((nm, []), c2 :: t2, 0)
/-- the attribute whose name begins here -/
def attrAtL : List UInt8 → (List UInt8 × List UInt8) × List UInt8 × Nat
  | [] => (([], []), [], 5)
  | c0 :: t => attrR ((c0 :: t.takeWhile fun c => !nameE.contains c).map lowC) (t.dropWhile fun c => !nameE.contains c)

/-- what an attribute by search has to do with the states -/
def AttrOk (c0 : UInt8) (t : List UInt8) (x : (List UInt8 × List UInt8) × List UInt8 × Nat) : Prop :=
  (x.2.2 ≠ 0 → x.2.1 = [] ∧ passL 5 t = (t.length, x.2.2)) ∧
  (x.2.2 = 0 → ∃ seg, t = seg ++ x.2.1 ∧ passL 5 t = (seg.length + (passL 4 x.2.1).1, (passL 4 x.2.1).2) ∧
    ∀ acc X, X ≠ [] → X.head? = x.2.1.head? → attrsL 5 [c0] acc (seg ++ X) = attrsL 4 [] (acc ++ [x.1]) X)
theorem head_cons {X : List UInt8} {c : UInt8} {r : List UInt8} (h : X.head? = (c :: r).head?) : ∃ X', X = c :: X' := by
  cases X with
  | nil => simp at h
  | cons y X' => simp at h; exact ⟨X', by rw [h]⟩
theorem pass_like {s : Nat} (hs : s ≠ 0) {c : UInt8} (h : nextT s c = nextT 4 c) (r : List UInt8) : passL s (c :: r) = passL 4 (c :: r) := by
  rw [pass_one hs, pass_one (by decide), h]
/-- a name and the spaces behind it, up to what is no = -/
theorem name_other (c0 : UInt8) (n0 n1 : List UInt8) (c2 : UInt8) (hn : ∀ c ∈ n0, nextT 5 c = 5) (h1 : ∀ c ∈ n1, spS.contains c = true) (hc : spS.contains c2 = false) (hc61 : c2 ≠ 61) (hE : n1 = [] → nameE.contains c2 = true) :
    (∀ r, passL 5 (n0 ++ (n1 ++ c2 :: r)) = (n0.length + n1.length + (passL 4 (c2 :: r)).1, (passL 4 (c2 :: r)).2)) ∧
    ∀ acc Y, attrsL 5 [c0] acc (n0 ++ (n1 ++ c2 :: Y)) = attrsL 4 [] (acc ++ [((c0 :: n0).map lowC, [])]) (c2 :: Y) := by
  cases n1 with
  | nil =>
    obtain ⟨e1, e2, e3⟩ := (next5 c2).2.1 (hE rfl) hc hc61
    refine ⟨fun r => ?_, fun acc Y => ?_⟩
    · rw [List.nil_append, pass_seg (by decide) n0 _ hn, pass_like (by decide) e1]; simp
    · rw [List.nil_append, attrs_seg n0 _ _ _ hn, attrs_like5 e1 e2 _ []]; rfl
  | cons x n1 =>
    have hx := (next5 x).2.2.1 (h1 x (by simp))
    have hn1 : ∀ c ∈ n1, nextT 6 c = 6 := fun c hc => (next6 c).1 (h1 c (by simp [hc]))
    obtain ⟨e1, e2⟩ := (next6 c2).2.1 hc hc61
    refine ⟨fun r => ?_, fun acc Y => ?_⟩
    · rw [pass_seg (by decide) n0 _ hn, List.cons_append, pass_one (by decide), hx, pass_seg (by decide) n1 _ hn1, pass_like (by decide) e1]
      simp only [List.length_cons, Prod.mk.injEq, and_true]; omega
    · rw [attrs_seg n0 _ _ _ hn, (show (x :: n1) ++ _ = x :: (n1 ++ _) from rfl), attrs_turn5 (by rw [hx]; decide), hx, if_neg (by decide), attrs_seg n1 _ _ _ hn1, attrs_like e1 e2 (by decide) (by decide) (by decide) (by decide) _ []]; rfl
/-- a name and the spaces behind it, up to and with a = -/
theorem name_eq (c0 : UInt8) (n0 n1 : List UInt8) (hn : ∀ c ∈ n0, nextT 5 c = 5) (h1 : ∀ c ∈ n1, spS.contains c = true) :
    (∀ r, passL 5 (n0 ++ (n1 ++ 61 :: r)) = (n0.length + n1.length + 1 + (passL 7 r).1, (passL 7 r).2)) ∧
    ∀ acc Y, attrsL 5 [c0] acc (n0 ++ (n1 ++ 61 :: Y)) = attrsL 7 [61] (acc ++ [((c0 :: n0).map lowC, [])]) Y := by
  cases n1 with
  | nil =>
    have e1 := (next5 61).2.2.2 rfl
    refine ⟨fun r => ?_, fun acc Y => ?_⟩
    · rw [List.nil_append, pass_seg (by decide) n0 _ hn, pass_one (by decide), e1]; simp only [List.length_nil, Prod.mk.injEq, and_true]; omega
    · rw [List.nil_append, attrs_seg n0 _ _ _ hn, attrs_turn5 (by rw [e1]; decide), e1]; rfl
  | cons x n1 =>
    have hx := (next5 x).2.2.1 (h1 x (by simp))
    have hn1 : ∀ c ∈ n1, nextT 6 c = 6 := fun c hc => (next6 c).1 (h1 c (by simp [hc]))
    have e1 := (next6 61).2.2 rfl
    refine ⟨fun r => ?_, fun acc Y => ?_⟩
    · rw [pass_seg (by decide) n0 _ hn, List.cons_append, pass_one (by decide), hx, pass_seg (by decide) n1 _ hn1, pass_one (by decide), e1]
      simp only [List.length_cons, Prod.mk.injEq, and_true]; omega
    · rw [attrs_seg n0 _ _ _ hn, (show (x :: n1) ++ _ = x :: (n1 ++ _) from rfl), attrs_turn5 (by rw [hx]; decide), hx, if_neg (by decide), attrs_seg n1 _ _ _ hn1, attrs_turn0 (by rw [e1]; decide) (by decide) (by decide) (by decide) (by decide), e1]; rfl
theorem last_value {s : Nat} (hs : s = 8 ∨ s = 9) {c : UInt8} (h : nextT s c = 4) (v p r nm : List UInt8) (hv : ∀ x ∈ v, nextT s x = s) (acc : List (List UInt8 × List UInt8)) : attrsL s [] (acc ++ [(nm, p)]) (v ++ c :: r) = attrsL 4 [] (acc ++ [(nm, unr true v)]) r := by
  rw [attrs_seg v _ _ _ hv, attrs_turnV (by rw [h]; omega) (by omega), h, if_neg (by decide), attrs_gap r [c] [], List.nil_append]
theorem attr_ok (c0 : UInt8) (t : List UInt8) : AttrOk c0 t (attrAtL (c0 :: t)) := by
  show AttrOk c0 t (attrR ((c0 :: t.takeWhile fun c => !nameE.contains c).map lowC) (t.dropWhile fun c => !nameE.contains c))
  obtain ⟨a1, a2, a3⟩ := span_of (fun c => !nameE.contains c) t
  generalize t.takeWhile (fun c => !nameE.contains c) = n0 at a1 a2 ⊢
  have hn : ∀ c ∈ n0, nextT 5 c = 5 := fun c hc => (next5 c).1 (by simpa using a2 c hc)
  cases hr1 : t.dropWhile (fun c => !nameE.contains c) with
  | nil =>
    rw [hr1, List.append_nil] at a1
    subst a1
    show AttrOk c0 t ((_, []), [], 5)
    refine ⟨fun _ => ⟨rfl, ?_⟩, fun h => by simp at h⟩
    have := pass_seg (by decide) t [] hn
    rw [List.append_nil] at this
    rw [this]
    rfl
  | cons c1 t1 =>
    rw [hr1] at a1
    have hc1 : nameE.contains c1 = true := by simpa using a3 c1 t1 hr1
    obtain ⟨b1, b2, b3⟩ := span_of spS.contains (c1 :: t1)
    generalize (c1 :: t1).takeWhile spS.contains = n1 at b1 b2
    unfold attrR
    simp only
    cases hr2 : (c1 :: t1).dropWhile spS.contains with
    | nil =>
      rw [hr2, List.append_nil] at b1
      subst a1
      refine ⟨fun _ => ⟨rfl, ?_⟩, fun h => by simp at h⟩
      rw [pass_seg (by decide) n0 _ hn, pass_one (by decide)]
      rw [(next5 c1).2.2.1 (b2 c1 (by rw [← b1]; simp))]
      have := pass_seg (s := 6) (by decide) t1 [] (fun c hc => (next6 c).1 (b2 c (by rw [← b1]; simp [hc])))
      rw [List.append_nil] at this
      rw [this]
      simp [passL]
    | cons c2 t2 =>
      rw [hr2] at b1
      have hc2 : spS.contains c2 = false := b3 c2 t2 hr2
      rw [b1] at a1
      simp only
      by_cases h61 : c2 = 61
      · subst h61
        obtain ⟨p1, p2⟩ := name_eq c0 n0 n1 hn b2
        rw [if_pos rfl]
        obtain ⟨d1, d2, d3⟩ := span_of spS.contains t2
        generalize t2.takeWhile spS.contains = n2 at d1 d2
        unfold attrV
        have hn2 : ∀ c ∈ n2, nextT 7 c = 7 := fun c hc => (next7 c).1 (d2 c hc)
        cases hr3 : t2.dropWhile spS.contains with
        | nil =>
          rw [hr3, List.append_nil] at d1
          refine ⟨fun _ => ⟨rfl, ?_⟩, fun h => by simp at h⟩
          have := pass_seg (s := 7) (by decide) n2 [] hn2
          rw [List.append_nil, ← d1] at this
          rw [a1, p1, this, d1]
          simp [passL]; omega
        | cons q t3 =>
          rw [hr3] at d1
          have hq : spS.contains q = false := d3 q t3 hr3
          simp only
          by_cases hq2 : q = 34 ∨ q = 39
          · rw [if_pos hq2]
            obtain ⟨s, hs, hqs⟩ : ∃ s, (s = 8 ∨ s = 9) ∧ nextT 7 q = s ∧ (if q = 34 then 8 else 9) = s ∧ (∀ c : UInt8, c ≠ q → nextT s c = s) ∧ nextT s q = 4 := by
              rcases hq2 with rfl | rfl
              · exact ⟨8, .inl rfl, by decide, rfl, fun c => (next8 c).1, by decide⟩
              · exact ⟨9, .inr rfl, by decide, rfl, fun c => (next9 c).1, by decide⟩
            obtain ⟨q1, q2, q3, q4⟩ := hqs
            have hs0 : s ≠ 0 := by omega
            obtain ⟨e1, e2, e3⟩ := span_of (· != q) t3
            generalize t3.takeWhile (· != q) = v at e1 e2 ⊢
            have hv : ∀ c ∈ v, nextT s c = s := fun c hc => q3 c (by simpa using e2 c hc)
            cases hr4 : t3.dropWhile (· != q) with
            | nil =>
              rw [hr4, List.append_nil] at e1
              refine ⟨fun _ => ⟨rfl, ?_⟩, fun h => ?_⟩
              · have := pass_seg hs0 v [] hv
                rw [List.append_nil] at this
                simp only
                rw [q2, a1, p1, d1, pass_seg (by decide) n2 _ hn2, pass_one (by decide), q1, e1, this]
                simp [passL]; omega
              · simp only at h
                rw [q2] at h
                exact absurd h hs0
            | cons q' t4 =>
              rw [hr4] at e1
              obtain rfl : q' = q := by simpa using e3 q' t4 hr4
              refine ⟨fun h => absurd rfl h, fun _ => ⟨n0 ++ (n1 ++ 61 :: (n2 ++ q' :: (v ++ [q']))), ?_, ?_, fun acc X hX hh => ?_⟩⟩
              · rw [a1, d1, e1]; simp
              · rw [a1, p1, d1, pass_seg (by decide) n2 _ hn2, pass_one (by decide), q1, e1, pass_seg hs0 v _ hv, pass_one hs0, q4]
                simp; omega
              · have hx : (n0 ++ (n1 ++ 61 :: (n2 ++ q' :: (v ++ [q'])))) ++ X = n0 ++ (n1 ++ 61 :: (n2 ++ q' :: (v ++ q' :: X))) := by simp
                rw [hx, p2, attrs_seg n2 _ _ _ hn2, attrs_turn0 (by rw [q1]; omega) (by decide) (by decide) (by decide) (by decide), q1, if_pos (by omega), last_value hs q4 v [] X _ hv]
          · rw [if_neg hq2]
            by_cases hq62 : q = 62
            · subst hq62
              rw [if_pos rfl]
              obtain ⟨k1, k2⟩ := (next7 62).2.1 rfl
              refine ⟨fun h => absurd rfl h, fun _ => ⟨n0 ++ (n1 ++ 61 :: n2), ?_, ?_, fun acc X hX hh => ?_⟩⟩
              · rw [a1, d1]; simp
              · rw [a1, p1, d1, pass_seg (by decide) n2 _ hn2, pass_like (by decide) (k1.trans k2.symm)]
                simp; omega
              · obtain ⟨X', rfl⟩ := head_cons hh
                have hx : (n0 ++ (n1 ++ 61 :: n2)) ++ 62 :: X' = n0 ++ (n1 ++ 61 :: (n2 ++ 62 :: X')) := by simp
                rw [hx, p2, attrs_seg n2 _ _ _ hn2, attrs_like (k1.trans k2.symm) (by rw [k1]; decide) (by decide) (by decide) (by decide) (by decide) _ []]
            · rw [if_neg hq62]
              have hq10 : nextT 7 q = 10 := (next7 q).2.2.2.2 hq hq62 (fun h => hq2 (.inl h)) (fun h => hq2 (.inr h))
              have hqb : bareE.contains q = false := by
                have : ∀ q : UInt8, bareE.contains q = (spS.contains q || q == 62) := all8 (by decide +kernel)
                rw [this, hq, Bool.false_or]
                exact beq_eq_false_iff_ne.2 hq62
              obtain ⟨e1, e2, e3⟩ := span_of (fun c => !bareE.contains c) t3
              generalize t3.takeWhile (fun c => !bareE.contains c) = v at e1 e2 ⊢
              have hv : ∀ c ∈ v, nextT 10 c = 10 := fun c hc => (next10 c).1 (by simpa using e2 c hc)
              cases hr4 : t3.dropWhile (fun c => !bareE.contains c) with
              | nil =>
                rw [hr4, List.append_nil] at e1
                refine ⟨fun _ => ⟨rfl, ?_⟩, fun h => by simp at h⟩
                have := pass_seg (s := 10) (by decide) v [] hv
                rw [List.append_nil] at this
                rw [a1, p1, d1, pass_seg (by decide) n2 _ hn2, pass_one (by decide), hq10, e1, this]
                simp [passL]; omega
              | cons c5 t5 =>
                rw [hr4] at e1
                have hc5 : bareE.contains c5 = true := by simpa using e3 c5 t5 hr4
                obtain ⟨k1, k2⟩ := (next10 c5).2 hc5
                refine ⟨fun h => absurd rfl h, fun _ => ⟨n0 ++ (n1 ++ 61 :: (n2 ++ q :: v)), ?_, ?_, fun acc X hX hh => ?_⟩⟩
                · rw [a1, d1, e1]; simp
                · rw [a1, p1, d1, pass_seg (by decide) n2 _ hn2, pass_one (by decide), hq10, e1, pass_seg (by decide) v _ hv, pass_like (by decide) k1]
                  simp; omega
                · obtain ⟨X', rfl⟩ := head_cons hh
                  have hx : (n0 ++ (n1 ++ 61 :: (n2 ++ q :: v))) ++ c5 :: X' = n0 ++ (n1 ++ 61 :: (n2 ++ q :: (v ++ c5 :: X'))) := by simp
                  rw [hx, p2, attrs_seg n2 _ _ _ hn2, attrs_turn0 (by rw [hq10]; decide) (by decide) (by decide) (by decide) (by decide), hq10, if_neg (by decide), attrs_seg v _ _ _ hv, attrs_like10 k1 k2 _ []]
                  rfl
      · obtain ⟨p1, p2⟩ := name_other c0 n0 n1 c2 hn b2 hc2 h61 (fun h => by
          subst h
          obtain ⟨rfl, _⟩ := List.cons.inj b1
          exact hc1)
        rw [if_neg h61]
        refine ⟨fun h => absurd rfl h, fun _ => ⟨n0 ++ n1, ?_, ?_, fun acc X hX hh => ?_⟩⟩
        · rw [a1]; simp
        · rw [a1, p1]; simp
        · obtain ⟨X', rfl⟩ := head_cons hh
          rw [List.append_assoc, p2]

/-- on from the gap: the attributes, what is left, the state -/
def gapL : Nat → List (List UInt8 × List UInt8) → List UInt8 → List (List UInt8 × List UInt8) × List UInt8 × Nat
  | 0, acc, r => (acc, r, 4)
  | f + 1, acc, r =>
    match r.dropWhile gapE.contains with
    | [] => (acc, [], 4)
    | c :: t =>
      if c = 62 then (acc, t, 0) else
      if (attrAtL (c :: t)).2.2 ≠ 0 then (acc ++ [(attrAtL (c :: t)).1], (attrAtL (c :: t)).2.1, (attrAtL (c :: t)).2.2)
      else gapL f (acc ++ [(attrAtL (c :: t)).1]) (attrAtL (c :: t)).2.1
def GapOk (acc : List (List UInt8 × List UInt8)) (r : List UInt8) (x : List (List UInt8 × List UInt8) × List UInt8 × Nat) : Prop :=
  (x.2.2 ≠ 0 → x.2.1 = [] ∧ passL 4 r = (r.length, x.2.2)) ∧
  (x.2.2 = 0 → ∃ seg, r = seg ++ x.2.1 ∧ passL 4 r = (seg.length, 0) ∧ seg ≠ [] ∧ attrsL 4 [] acc seg = x.1)
theorem gap_ok : ∀ (f : Nat) (acc : List (List UInt8 × List UInt8)) (r : List UInt8), r.length < f → GapOk acc r (gapL f acc r)
  | 0, _, r, h => absurd h (Nat.not_lt_zero _)
  | f + 1, acc, r, h => by
    unfold gapL
    obtain ⟨a1, a2, a3⟩ := span_of gapE.contains r
    generalize r.takeWhile gapE.contains = g at a1 a2 ⊢
    have hg : ∀ c ∈ g, nextT 4 c = 4 := fun c hc => (next4 c).1 (a2 c hc)
    cases hr : r.dropWhile gapE.contains with
    | nil =>
      rw [hr, List.append_nil] at a1
      refine ⟨fun _ => ⟨rfl, ?_⟩, fun h => by simp at h⟩
      have := pass_seg (s := 4) (by decide) g [] hg
      rw [List.append_nil] at this
      rw [a1, this]
      rfl
    | cons c t =>
      rw [hr] at a1
      have hc : gapE.contains c = false := a3 c t hr
      simp only
      by_cases h62 : c = 62
      · subst h62
        have e := (next4 62).2.2 rfl
        rw [if_pos rfl]
        refine ⟨fun h => absurd rfl h, fun _ => ⟨g ++ [62], by rw [a1]; simp, ?_, by simp, ?_⟩⟩
        · rw [a1, pass_seg (by decide) g _ hg, pass_one (by decide), e, pass_zero]; simp
        · rw [attrs_seg g _ _ _ hg, attrs_turn0 (by rw [e]; decide) (by decide) (by decide) (by decide) (by decide)]; simp [attrsL]
      · rw [if_neg h62]
        have h5 := (next4 c).2.1 hc h62
        obtain ⟨k1, k2⟩ := attr_ok c t
        generalize hx : attrAtL (c :: t) = x at k1 k2 ⊢
        obtain ⟨a, r2, st⟩ := x
        simp only at k1 k2 ⊢
        by_cases hst : st = 0
        · rw [if_neg (by simpa using hst)]
          obtain ⟨seg, s1, s2, s3⟩ := k2 hst
          have ih := gap_ok f (acc ++ [a]) r2 (by
            rw [a1, s1] at h
            simp only [List.length_append, List.length_cons] at h
            omega)
          obtain ⟨i1, i2⟩ := ih
          have hp : passL 4 r = (g.length + 1 + seg.length + (passL 4 r2).1, (passL 4 r2).2) := by
            rw [a1, pass_seg (by decide) g _ hg, pass_one (by decide), h5, s2]
            simp only [Prod.mk.injEq, and_true]; omega
          refine ⟨fun hz => ?_, fun hz => ?_⟩
          · obtain ⟨j1, j2⟩ := i1 hz
            refine ⟨j1, ?_⟩
            rw [hp, j2, a1, s1]
            simp only [List.length_append, List.length_cons, Prod.mk.injEq, and_true]; omega
          · obtain ⟨seg2, j1, j2, j3, j4⟩ := i2 hz
            refine ⟨g ++ c :: (seg ++ seg2), ?_, ?_, by simp, ?_⟩
            · rw [a1, s1]
              conv => lhs; rw [j1]
              simp
            · rw [hp, j2]
              simp only [List.length_append, List.length_cons, Prod.mk.injEq, and_true]; omega
            · rw [attrs_seg g _ _ _ hg, attrs_turn0 (by rw [h5]; decide) (by decide) (by decide) (by decide) (by decide), h5, if_neg (by decide), s3 acc seg2 j3 ?_, j4]
              rw [j1]
              cases seg2 with
              | nil => exact absurd rfl j3
              | cons y z => rfl
        · rw [if_pos (by simpa using hst)]
          obtain ⟨j1, j2⟩ := k1 hst
          refine ⟨fun _ => ⟨j1, ?_⟩, fun hz => absurd hz hst⟩
          rw [a1, pass_seg (by decide) g _ hg, pass_one (by decide), h5, j2]
          simp only [List.length_append, List.length_cons]
/-- a tag whose name begins here -/
def tagAtL (L : List UInt8) : List UInt8 × List (List UInt8 × List UInt8) × List UInt8 × Nat :=
  match L.dropWhile fun c => !tagE.contains c with
  | [] => ((L.takeWhile fun c => !tagE.contains c).map lowC, [], [], 3)
  | c :: t => ((L.takeWhile fun c => !tagE.contains c).map lowC, gapL (t.length + 2) [] (c :: t))
theorem take_len {A B : List UInt8} : (A ++ B).take A.length = A := by simp
theorem tagName_of (n : List UInt8) (h3 : ∀ c ∈ n, nextT 3 c = 3) (c : UInt8) (hc : nextT 3 c ≠ 3) (t : List UInt8) : tagNameL (n ++ c :: t) = n.map lowC := by
  unfold tagNameL
  congr 1
  induction n with
  | nil => rw [List.nil_append, List.takeWhile_cons_of_neg (by simpa using hc)]
  | cons x n ih => rw [List.cons_append, List.takeWhile_cons_of_pos (by simpa using h3 x (by simp)), ih (fun y hy => h3 y (by simp [hy]))]
theorem tagName_all (n : List UInt8) (h3 : ∀ c ∈ n, nextT 3 c = 3) : tagNameL n = n.map lowC := by
  unfold tagNameL
  congr 1
  induction n with
  | nil => rfl
  | cons x n ih => rw [List.takeWhile_cons_of_pos (by simpa using h3 x (by simp)), ih (fun y hy => h3 y (by simp [hy]))]
theorem tagAt_ok (L : List UInt8) : (tagAtL L).1 = tagNameL (L.take (passL 3 L).1) ∧ (tagAtL L).2.2.1.length + (passL 3 L).1 = L.length ∧ (tagAtL L).2.2.1 = L.drop (passL 3 L).1 ∧ (tagAtL L).2.2.2 = (passL 3 L).2 ∧
    ((passL 3 L).2 = 0 → (tagAtL L).2.1 = attrsL 3 [] [] (L.take (passL 3 L).1)) := by
  unfold tagAtL
  obtain ⟨a1, a2, a3⟩ := span_of (fun c => !tagE.contains c) L
  generalize L.takeWhile (fun c => !tagE.contains c) = n at a1 a2 ⊢
  have hn : ∀ c ∈ n, nextT 3 c = 3 := fun c hc => (next3 c).1 (by simpa using a2 c hc)
  cases hr : L.dropWhile (fun c => !tagE.contains c) with
  | nil =>
    rw [hr, List.append_nil] at a1
    have := pass_seg (s := 3) (by decide) n [] hn
    rw [List.append_nil] at this
    have h : passL 3 L = (L.length, 3) := by rw [a1, this]; rfl
    rw [h]
    refine ⟨?_, by simp, by simp, rfl, fun h => by simp at h⟩
    rw [List.take_length, a1, tagName_all n hn]
  | cons c t =>
    rw [hr] at a1
    have hc : tagE.contains c = true := by simpa using a3 c t hr
    obtain ⟨e1, e2⟩ := (next3 c).2 hc
    have hp : passL 3 L = (n.length + (passL 4 (c :: t)).1, (passL 4 (c :: t)).2) := by rw [a1, pass_seg (by decide) n _ hn, pass_like (by decide) e2]
    obtain ⟨k1, k2⟩ := gap_ok (t.length + 2) [] (c :: t) (by simp)
    simp only
    generalize gapL (t.length + 2) [] (c :: t) = x at k1 k2 ⊢
    obtain ⟨A, r2, st⟩ := x
    simp only at k1 k2 ⊢
    by_cases hst : st = 0
    · subst hst
      obtain ⟨seg, s1, s2, s3, s4⟩ := k2 rfl
      rw [hp, s2]
      have hL : L = (n ++ seg) ++ r2 := by rw [a1, s1]; simp
      have ht : L.take (n.length + seg.length) = n ++ seg := by rw [hL, ← List.length_append, take_len]
      have hd : L.drop (n.length + seg.length) = r2 := by rw [hL, ← List.length_append, List.drop_left]
      simp only
      rw [ht, hd]
      obtain ⟨y, z, rfl⟩ : ∃ y z, seg = y :: z := by cases seg with | nil => exact absurd rfl s3 | cons y z => exact ⟨y, z, rfl⟩
      obtain ⟨rfl, _⟩ := List.cons.inj s1
      refine ⟨(tagName_of n hn c e1 z).symm, by rw [hL]; simp; omega, by simp, by simp, fun _ => ?_⟩
      rw [attrs_seg n _ _ _ hn, attrs_like e2 e1 (by decide) (by decide) (by decide) (by decide) _ [], s4]
    · obtain ⟨j1, j2⟩ := k1 hst
      have hlen : passL 3 L = (L.length, st) := by rw [hp, j2, a1]; simp
      rw [hlen]
      simp only
      rw [List.take_length, List.drop_length]
      refine ⟨?_, by rw [j1]; simp, j1, by simp, fun h => absurd h hst⟩
      rw [a1, tagName_of n hn c e1 t]
end Go.Proofs.YtchhlocibijekaaGreatDoor

/-
  Feeding a text in pieces, as the plain lexer has it: what a run leaves, how much it tells, and that the pieces' events are those of the whole.
-/
namespace Go.Proofs.YtchhlocibijekaaGreatDoor

theorem run_ind {W : Nat} (hW : 32 ≤ W) (P : LS → List UInt8 → LS × List UInt8 × List Item → Prop) (h0 : ∀ st, P st [] (st, [], []))
    (hm : ∀ st L n st', st.scan ≤ 10 → L ≠ [] → stepL W st L = .more n st' → P st L (st', L.drop n, []))
    (hd : ∀ st L n st' it R, st.scan ≤ 10 → L ≠ [] → stepL W st L = .done n st' it → P st' (L.drop n) R → P st L (R.1, R.2.1, it ++ R.2.2)) :
    ∀ (N : Nat) (st : LS) (L : List UInt8), st.scan ≤ 10 → L.length ≤ N → P st L (runL W st L)
  | _, st, [], _, _ => by rw [run_nil]; exact h0 st
  | 0, st, c :: r, _, h => by simp at h
  | N + 1, st, c :: r, hs, h => by
    cases hst : stepL W st (c :: r) with
    | more n st' => rw [run_more (by simp) hst]; exact hm st _ n st' hs (by simp) hst
    | done n st' it =>
      obtain ⟨h1, h2, h3⟩ := step_pos hW hs (by simp) hst
      rw [run_done hW hs (by simp) hst]
      exact hd st _ n st' it _ hs (by simp) hst (run_ind hW P h0 hm hd N st' _ h3 (by rw [List.length_drop]; omega))

theorem insF_le (name : List UInt8) : ∀ (l : List (List UInt8)) (i : Nat), insF name i l = 0 ∨ insF name i l < i + l.length
  | [], i => .inl rfl
  | x :: r, i => by
    unfold insF
    split
    · exact .inr (by simp)
    · rcases insF_le name r (i + 1) with h | h
      · exact .inl h
      · exact .inr (by rw [List.length_cons]; omega)
theorem inside_le (name : List UInt8) : insideL name ≤ 10 := by
  rcases insF_le name rawNames 1 with h | h
  · unfold insideL; omega
  · have : rawNames.length = 10 := rfl
    unfold insideL
    omega
theorem tag_mode {W k : Nat} {L : List UInt8} {st : LS} (hm : st.mode ≤ 10) : (∀ n st', tagL W k L st = .more n st' → st'.mode ≤ 10) ∧ ∀ n st' it, tagL W k L st = .done n st' it → st'.mode ≤ 10 := by
  unfold tagL
  simp only
  split
  · exact ⟨fun n st' h => by cases h; exact hm, fun n st' it h => by cases h⟩
  · refine ⟨fun n st' h => (by cases h), fun n st' it h => ?_⟩
    simp only [Res.done.injEq] at h
    rw [← h.2.1]
    split
    · exact inside_le _
    · exact Nat.zero_le _
theorem ref_mode {L : List UInt8} {st : LS} (hm : st.mode ≤ 10) : (∀ n st', refRes st L = .more n st' → st'.mode ≤ 10) ∧ ∀ n st' it, refRes st L = .done n st' it → st'.mode ≤ 10 := by
  unfold refRes
  split
  · exact ⟨fun n st' h => by cases h; exact hm, fun n st' it h => by cases h⟩
  · exact ⟨fun n st' h => (by cases h), fun n st' it h => by cases h; exact hm⟩
theorem byte_mode {c : UInt8} {st : LS} (hm : st.mode ≤ 10) : (∀ n st', byteRes st c = .more n st' → st'.mode ≤ 10) ∧ ∀ n st' it, byteRes st c = .done n st' it → st'.mode ≤ 10 :=
  ⟨fun n st' h => (by cases h), fun n st' it h => by cases h; exact hm⟩
theorem step_mode {W : Nat} {L : List UInt8} {st : LS} (hm : st.mode ≤ 10) : (∀ n st', stepL W st L = .more n st' → st'.mode ≤ 10) ∧ ∀ n st' it, stepL W st L = .done n st' it → st'.mode ≤ 10 := by
  unfold stepL
  split
  · unfold commentRes
    split
    · exact ⟨fun n st' h => (by cases h), fun n st' it h => by cases h; exact hm⟩
    · exact ⟨fun n st' h => by cases h; exact hm, fun n st' it h => by cases h⟩
  · split
    · unfold bogusRes
      split
      · exact ⟨fun n st' h => (by cases h), fun n st' it h => by cases h; exact hm⟩
      · exact ⟨fun n st' h => by cases h; exact hm, fun n st' it h => by cases h⟩
    · split
      · unfold skipTagRes
        exact ⟨fun n st' h => (by cases h), fun n st' it h => by cases h; exact hm⟩
      · split
        · unfold dataRes
          split
          · unfold markupRes
            split
            · exact ⟨fun n st' h => by cases h; exact hm, fun n st' it h => by cases h⟩
            · split
              · exact tag_mode hm
              · split
                · exact tag_mode hm
                · split
                  · exact ⟨fun n st' h => (by cases h), fun n st' it h => by cases h; exact hm⟩
                  · split
                    · exact ⟨fun n st' h => (by cases h), fun n st' it h => by cases h; exact hm⟩
                    · exact byte_mode hm
          · split
            · exact ref_mode hm
            · exact byte_mode hm
        · split
          · unfold areaRes
            split
            · simp only
              split
              · exact ⟨fun n st' h => by cases h; exact hm, fun n st' it h => by cases h⟩
              · split
                · exact tag_mode hm
                · exact byte_mode hm
            · split
              · exact ref_mode hm
              · exact byte_mode hm
          · unfold rawRes
            split
            · exact ⟨fun n st' h => (by cases h), fun n st' it h => by cases h; exact hm⟩
            · rename_i i hi
              split
              · exact ⟨fun n st' h => (by cases h), fun n st' it h => by cases h; exact hm⟩
              · simp only
                split
                · exact ⟨fun n st' h => by cases h; exact hm, fun n st' it h => by cases h⟩
                · split
                  · have ht := tag_mode (W := W) (k := 2) (L := L.drop i) (st := st) hm
                    cases hr : tagL W 2 (L.drop i) st with
                    | more m s =>
                      refine ⟨fun n st' h => ?_, fun n st' it h => by cases h⟩
                      cases h
                      exact ht.1 _ _ hr
                    | done m s it2 =>
                      refine ⟨fun n st' h => (by cases h), fun n st' it h => ?_⟩
                      cases h
                      exact ht.2 _ _ _ hr
                  · exact ⟨fun n st' h => (by cases h), fun n st' it h => by cases h; exact hm⟩
theorem run_mode {W : Nat} (hW : 32 ≤ W) (st : LS) (L : List UInt8) (h0 : st.scan ≤ 10) (hm : st.mode ≤ 10) : (runL W st L).1.mode ≤ 10 :=
  run_ind hW (fun st _ R => st.mode ≤ 10 → R.1.mode ≤ 10) (fun _ h => h) (fun _ _ _ _ _ _ h hm => (step_mode hm).1 _ _ h) (fun _ _ _ _ _ _ _ _ h ih hm => ih ((step_mode hm).2 _ _ _ h)) L.length st L h0 (Nat.le_refl _) hm
theorem run_rest {W : Nat} (hW : 32 ≤ W) (st : LS) (L : List UInt8) (h0 : st.scan ≤ 10) : (runL W st L).2.1.length ≤ L.length ∧ (runL W st L).2.1 = L.drop (L.length - (runL W st L).2.1.length) := by
  refine run_ind hW (fun _ L R => R.2.1.length ≤ L.length ∧ R.2.1 = L.drop (L.length - R.2.1.length)) (fun _ => ⟨Nat.le_refl _, rfl⟩) ?_ ?_ L.length st L h0 (Nat.le_refl _)
  · intro st L n st' hs hL h
    obtain ⟨h1, -⟩ := step_more hW hs hL h
    refine ⟨by simp only [List.length_drop]; omega, ?_⟩
    simp only [List.length_drop]
    rw [show L.length - (L.length - n) = n by omega]
  · intro st L n st' it R hs hL h ih
    obtain ⟨h1, h2, -⟩ := step_pos hW hs hL h
    obtain ⟨i1, i2⟩ := ih
    rw [List.length_drop] at i1 i2
    refine ⟨by simp only; omega, ?_⟩
    simp only
    rw [List.drop_drop] at i2
    rw [show L.length - R.2.1.length = n + (L.length - n - R.2.1.length) by omega]
    exact i2
theorem run_grow {W : Nat} (hW : 32 ≤ W) (st : LS) (L : List UInt8) (h0 : st.scan ≤ 10) (s : List Ev × List UInt8) :
    (putAll s (runL W st L).2.2).1.length ≤ s.1.length + 2 * (L.length - (runL W st L).2.1.length) ∧ (putAll s (runL W st L).2.2).2.length ≤ s.2.length + 4 * (L.length - (runL W st L).2.1.length) := by
  refine (run_ind hW (fun _ L R => R.2.1.length ≤ L.length ∧ ∀ s, (putAll s R.2.2).1.length ≤ s.1.length + 2 * (L.length - R.2.1.length) ∧ (putAll s R.2.2).2.length ≤ s.2.length + 4 * (L.length - R.2.1.length)) (fun _ => ⟨Nat.le_refl _, fun s => ⟨Nat.le_add_right _ _, Nat.le_add_right _ _⟩⟩) ?_ ?_ L.length st L h0 (Nat.le_refl _)).2 s
  · intro st L n st' hs hL h
    exact ⟨by simp only [List.length_drop]; omega, fun s => ⟨Nat.le_add_right _ _, Nat.le_add_right _ _⟩⟩
  · intro st L n st' it R hs hL h ih
    obtain ⟨h1, h2, -⟩ := step_pos hW hs hL h
    obtain ⟨i0, i3⟩ := ih
    rw [List.length_drop] at i0
    refine ⟨by simp only; omega, fun s => ?_⟩
    obtain ⟨g1, g2⟩ := small_put (step_small h) h1 s
    obtain ⟨i1, i2⟩ := i3 (putAll s it)
    simp only
    rw [putAll_app]
    rw [List.length_drop] at i1 i2
    omega

/-! ## the law -/

def st0 : LS := ⟨0, 0, false⟩
structure Fed (W : Nat) (whole : List UInt8) (st : LS) (held : List UInt8) (all : List Ev) : Prop where
  it : ∃ items, runL W st0 whole = (st, held, items) ∧ joinEv all = joinEv (items.map toEv)
theorem Fed.next {W : Nat} (hW : 32 ≤ W) {whole : List UInt8} {st : LS} {held : List UInt8} {all : List Ev} (h : Fed W whole st held all) (p : List UInt8) :
    Fed W (whole ++ p) (runL W st (held ++ p)).1 (runL W st (held ++ p)).2.1 (all ++ evsL (runL W st (held ++ p)).2.2) := by
  obtain ⟨items, h1, h2⟩ := h.it
  have hc := run_cut hW whole.length st0 whole p (by decide) (Nat.le_refl _)
  have hs : st.scan ≤ 10 := by have := run_scan hW whole.length st0 whole (by decide) (Nat.le_refl _); rw [h1] at this; exact this
  rw [h1] at hc
  exact ⟨_, hc, evs_append items _ (run_full hW _ st _ hs (Nat.le_refl _)) all h2⟩
theorem Fed.first {W : Nat} (_hW : 32 ≤ W) : Fed W [120] (runL W st0 [120]).1 (runL W st0 [120]).2.1 (evsL (runL W st0 [120]).2.2) :=
  ⟨(runL W st0 [120]).2.2, rfl, by rw [evs_join _ (run_full _hW _ st0 _ (by decide) (Nat.le_refl _)), join_idem]⟩
theorem Fed.small {W : Nat} (hW : 32 ≤ W) {whole : List UInt8} {st : LS} {held : List UInt8} {all : List Ev} (h : Fed W whole st held all) : held.length ≤ W ∧ held.length ≤ whole.length ∧ st.scan ≤ 10 ∧ st.mode ≤ 10 := by
  obtain ⟨items, h1, h2⟩ := h.it
  have a := run_held hW whole.length st0 whole (by decide) (Nat.le_refl _)
  have b := (run_rest hW st0 whole (by decide)).1
  have c := run_scan hW whole.length st0 whole (by decide) (Nat.le_refl _)
  have d := run_mode hW st0 whole (by decide) (by decide)
  rw [h1] at a b c d
  exact ⟨a, b, c, d⟩
theorem Fed.last {W : Nat} (hW : 32 ≤ W) {whole : List UInt8} {st : LS} {held : List UInt8} {all : List Ev} (h : Fed W whole st held all) :
    runL W st held = (st, held, []) ∧ joinEv (all ++ evsL (endL st held)) = evsL (wholeL W st0 whole) := by
  obtain ⟨items, h1, h2⟩ := h.it
  have ha := run_again hW st0 whole (by decide)
  rw [h1] at ha
  have hfull : ∀ i ∈ wholeL W st0 whole, fullI i := fun i hi => by
    rcases List.mem_append.1 hi with hi | hi
    · exact run_full hW _ st0 _ (by decide) (Nat.le_refl _) i hi
    · exact end_full _ _ i hi
  refine ⟨ha, ?_⟩
  rw [evs_append items _ (end_full st held) all h2, evs_join _ hfull]
  unfold wholeL
  rw [h1]
theorem whole_x {W : Nat} (hW : 32 ≤ W) (r : List UInt8) : ∃ b l, evsL (wholeL W st0 (120 :: r)) = .text (120 :: b) :: l := by
  have hst : stepL W st0 (120 :: r) = .done 1 st0 [.unit [120]] := rfl
  have hfull : ∀ i ∈ wholeL W st0 (120 :: r), fullI i := fun i hi => by
    rcases List.mem_append.1 hi with hi | hi
    · exact run_full hW _ st0 _ (by decide) (Nat.le_refl _) i hi
    · exact end_full _ _ i hi
  rw [evs_join _ hfull]
  unfold wholeL
  rw [run_done hW (by decide) (by simp) hst]
  show ∃ b l, joinEv (((Item.unit [120] :: _) ++ _).map toEv) = _
  rw [List.cons_append, List.map_cons]
  show ∃ b l, jcons (.text [120]) _ = _
  cases joinEv _ with
  | nil => exact ⟨[], [], rfl⟩
  | cons e l =>
    cases e with
    | text c => exact ⟨c, l, rfl⟩
    | start n a => exact ⟨[], _, rfl⟩
    | stop n => exact ⟨[], _, rfl⟩
end Go.Proofs.YtchhlocibijekaaGreatDoor

/-
  The reference's lexer by search, piece by piece, is the run. No program is named here.
-/
namespace Go.Proofs.YtchhlocibijekaaGreatDoor

theorem pass_takes : ∀ (L : List UInt8) (s : Nat), passL s (L.take (passL s L).1) = passL s L
  | [], s => by simp [passL]
  | c :: r, s => by
    by_cases hs : s = 0
    · subst hs; rw [pass_zero]; rfl
    · rw [pass_one hs, List.take_succ_cons, pass_one hs, pass_takes r]
theorem pass_lens : ∀ (L : List UInt8) (s : Nat), (passL s L).1 ≤ L.length
  | [], s => by simp [passL]
  | c :: r, s => by
    by_cases hs : s = 0
    · subst hs; rw [pass_zero]; simp
    · rw [pass_one hs]; have := pass_lens r (nextT s c); simp only [List.length_cons]; omega
theorem pass_all : ∀ (L : List UInt8) (s : Nat), s ≠ 0 → (passL s L).2 ≠ 0 → (passL s L).1 = L.length
  | [], s, _, _ => by simp [passL]
  | c :: r, s, hs, h => by
    rw [pass_one hs] at h ⊢
    simp only at h ⊢
    by_cases hn : nextT s c = 0
    · rw [hn, pass_zero] at h; exact absurd rfl h
    · rw [pass_all r _ hn h]; rfl

/-- does the text begin the end tag: 0 no, 1 it can't be told yet, 2 yes -/
def closeL (whole L : List UInt8) : Nat :=
  if L.length ≤ whole.length then (if (L.map lowC).isPrefixOf whole then 1 else 0)
  else if (L.take whole.length).map lowC = whole ∧ tagE.contains (L.getD whole.length 0) = true then 2 else 0
theorem ends_tag : ∀ c : UInt8, endsC c = tagE.contains c := all8 (by decide +kernel)
theorem close_own : ∀ (o L : List UInt8), closeL o L = ownL o L
  | o, [] => by simp [closeL, ownL]
  | [], c :: r => by
    unfold closeL ownL
    rw [ends_tag]
    simp
  | o :: os, c :: r => by
    have ih := close_own os r
    unfold closeL at ih ⊢
    unfold ownL
    by_cases h : lowC c = o
    · rw [if_pos h, ← ih]
      simp only [List.length_cons, Nat.add_le_add_iff_right, List.map_cons, List.isPrefixOf, h, beq_self_eq_true, Bool.true_and, List.take_succ_cons, List.cons.injEq, true_and, List.getD_cons_succ]
    · rw [if_neg h]
      have hb : (lowC c == o) = false := beq_eq_false_iff_ne.2 h
      simp [hb, h, List.isPrefixOf]

def tagPieceL (W : Nat) (L : List UInt8) (k : Nat) : Nat × Nat :=
  if (passL 3 (L.drop k)).2 ≠ 0 ∧ L.length ≤ W then (0, 0)
  else ((if k = 2 then 3 else 2) + (if W < k + (passL 3 (L.drop k)).1 then 2 else 0), k + (passL 3 (L.drop k)).1)
def runPieceL (L : List UInt8) : Nat × Nat := match refEnd L with
  | none => (0, 0)
  | some e => (1, e)
def dataPieceL (W : Nat) (L : List UInt8) : Nat × Nat :=
  if L = [60] ∨ L = [60, 47] ∨ L = [60, 33] ∨ L = [60, 33, 45] then (0, 0)
  else if letterC (L.getD 1 0) then tagPieceL W L 1
  else if L.getD 1 0 = 47 ∧ letterC (L.getD 2 0) = true then tagPieceL W L 2
  else if [60, 33, 45, 45] <+: L then (6, 2)
  else if L.getD 1 0 = 47 ∨ L.getD 1 0 = 33 ∨ L.getD 1 0 = 63 then (7, 2)
  else (1, 1)
/-- what stands at the front, and its length -/
def pieceL (W mode : Nat) (L : List UInt8) : Nat × Nat :=
  if mode = 10 then (8, L.length)
  else if mode < 2 ∧ L.getD 0 0 = 38 then runPieceL L
  else if L.getD 0 0 ≠ 60 ∧ mode < 2 then (1, 1)
  else if L.getD 0 0 ≠ 60 then (8, 1)
  else if mode = 0 then dataPieceL W L
  else if ownL (60 :: 47 :: rawL mode) L = 1 then (0, 0)
  else if ownL (60 :: 47 :: rawL mode) L = 2 then tagPieceL W L 2
  else if mode = 1 then (1, 1) else (8, 1)
/-- what a told piece comes to -/
def toldL (kind : Nat) (S : List UInt8) (st : LS) : LS × List Item :=
  if kind = 1 then (noEat st, unitL2 st (unr false S))
  else if kind = 6 then (⟨st.mode, 1, false⟩, [])
  else if kind = 7 then (⟨st.mode, 2, false⟩, [])
  else if kind = 3 ∨ kind = 5 then (⟨0, (tagAtL (S.drop 2)).2.2.2, false⟩, if kind = 3 then [.stop (tagAtL (S.drop 2)).1] else [])
  else if kind = 2 ∨ kind = 4 then (⟨insideL (tagAtL (S.drop 1)).1, (tagAtL (S.drop 1)).2.2.2, eatsL (tagAtL (S.drop 1)).1⟩, if kind = 2 then [.start (tagAtL (S.drop 1)).1 (tagAtL (S.drop 1)).2.1] else [])
  else (st, [])

/-- what a piece has to do with a step -/
def PieceOk (st : LS) (L : List UInt8) (r : Res) (x : Nat × Nat) : Prop :=
  (x.1 = 0 → r = .more 0 st) ∧ (x.1 ≠ 0 → (0 < x.2 ∧ x.2 ≤ L.length) ∧ r = .done x.2 (toldL x.1 (L.take x.2) st).1 (toldL x.1 (L.take x.2) st).2)
theorem tag_piece (W k : Nat) (hk : k = 1 ∨ k = 2) (st : LS) (L : List UInt8) (hkl : k ≤ L.length) : PieceOk st L (tagL W k L st) (tagPieceL W L k) := by
  have hle := pass_lens (L.drop k) 3
  have hall := pass_all (L.drop k) 3 (by decide)
  have hT0 := pass_takes (L.drop k) 3
  rw [List.length_drop] at hle hall
  have e1 : tagPieceL W L k = if (passL 3 (L.drop k)).2 ≠ 0 ∧ L.length ≤ W then (0, 0)
    else ((if k = 2 then 3 else 2) + (if W < k + (passL 3 (L.drop k)).1 then 2 else 0), k + (passL 3 (L.drop k)).1) := rfl
  have e2 : tagL W k L st = if k + (passL 3 (L.drop k)).1 ≤ W ∧ (passL 3 (L.drop k)).2 ≠ 0 then .more 0 st
    else .done (k + (passL 3 (L.drop k)).1) ⟨if k = 1 then insideL (tagNameL ((L.drop k).take (passL 3 (L.drop k)).1)) else 0, (passL 3 (L.drop k)).2, if k = 1 then eatsL (tagNameL ((L.drop k).take (passL 3 (L.drop k)).1)) else false⟩
      (if k + (passL 3 (L.drop k)).1 ≤ W then (if k = 1 then [.start (tagNameL ((L.drop k).take (passL 3 (L.drop k)).1)) (attrsL 3 [] [] ((L.drop k).take (passL 3 (L.drop k)).1))] else [.stop (tagNameL ((L.drop k).take (passL 3 (L.drop k)).1))]) else []) := rfl
  rw [e1, e2]
  clear e1 e2
  obtain ⟨p, hp⟩ : ∃ p, passL 3 (L.drop k) = p := ⟨_, rfl⟩
  rw [hp] at hle hall hT0 ⊢
  have hd : (L.take (k + p.1)).drop k = (L.drop k).take p.1 := by rw [List.drop_take]; congr 1; omega
  have hlen : ((L.drop k).take p.1).length = p.1 := by rw [List.length_take, List.length_drop]; omega
  have hTT : ((L.drop k).take p.1).take p.1 = (L.drop k).take p.1 := List.take_of_length_le (by omega)
  obtain ⟨t1, t2, t3, t4, t5⟩ := tagAt_ok ((L.drop k).take p.1)
  rw [hT0] at t1 t2 t3 t4 t5
  rw [hTT] at t1 t5
  generalize (L.drop k).take p.1 = T at *
  by_cases hz : p.2 = 0
  · rw [if_neg (show ¬ (k + p.1 ≤ W ∧ p.2 ≠ 0) from fun h => h.2 hz), if_neg (show ¬ (p.2 ≠ 0 ∧ L.length ≤ W) from fun h => h.1 hz)]
    refine ⟨fun h => ?_, fun _ => ?_⟩
    · simp only at h; split at h <;> split at h <;> omega
    · refine ⟨⟨by simp only; omega, by simp only; omega⟩, ?_⟩
      rcases hk with rfl | rfl
      · by_cases hw : 1 + p.1 ≤ W
        · simp only [if_true, if_pos hw, if_neg (show ¬ W < 1 + p.1 by omega), toldL, hd, t1, t4, t5 hz]
          rfl
        · simp only [if_true, if_neg hw, if_pos (show W < 1 + p.1 by omega), toldL, hd, t1, t4]
          rfl
      · by_cases hw : 2 + p.1 ≤ W
        · simp only [if_true, if_pos hw, if_neg (show ¬ W < 2 + p.1 by omega), toldL, hd, t1, t4]
          rfl
        · simp only [if_true, if_neg hw, if_pos (show W < 2 + p.1 by omega), toldL, hd, t4]
          rfl
  · have hp1 := hall hz
    by_cases hw : L.length ≤ W
    · rw [if_pos (show k + p.1 ≤ W ∧ p.2 ≠ 0 from ⟨by omega, hz⟩), if_pos (show p.2 ≠ 0 ∧ L.length ≤ W from ⟨hz, hw⟩)]
      exact ⟨fun _ => rfl, fun h => absurd rfl h⟩
    · have hw2 : ¬ k + p.1 ≤ W := by omega
      rw [if_neg (show ¬ (k + p.1 ≤ W ∧ p.2 ≠ 0) from fun h => hw2 h.1), if_neg (show ¬ (p.2 ≠ 0 ∧ L.length ≤ W) from fun h => hw h.2), if_pos (show W < k + p.1 by omega)]
      refine ⟨fun h => ?_, fun _ => ?_⟩
      · simp only at h; split at h <;> omega
      · refine ⟨⟨by simp only; omega, by simp only; omega⟩, ?_⟩
        rcases hk with rfl | rfl
        · simp only [if_true, if_neg hw2, toldL, hd, t1, t4]
          rfl
        · simp only [if_true, if_neg hw2, toldL, hd, t4]
          rfl
theorem unit_piece (st : LS) (c : UInt8) (r : List UInt8) (hc : c ≠ 38) : PieceOk st (c :: r) (byteRes st c) (1, 1) := by
  refine ⟨fun h => absurd h (by decide), fun _ => ⟨⟨by decide, by simp⟩, ?_⟩⟩
  show byteRes st c = .done 1 (toldL 1 [c] st).1 (toldL 1 [c] st).2
  unfold toldL byteRes
  rw [if_pos rfl, unr_other false c [] hc, unr_nil]
theorem ref_piece (st : LS) (L : List UInt8) (hL : L ≠ []) : PieceOk st L (refRes st L) (runPieceL L) := by
  unfold refRes runPieceL
  cases he : refEnd L with
  | none => exact ⟨fun _ => rfl, fun h => absurd rfl h⟩
  | some e =>
    obtain ⟨a1, a2, _⟩ := ref_stable he hL []
    refine ⟨fun h => absurd h (by simp), fun _ => ⟨⟨a1, a2⟩, ?_⟩⟩
    unfold toldL
    rw [if_pos rfl]
theorem data_piece (W : Nat) (st : LS) (r : List UInt8) : PieceOk st (60 :: r) (markupRes W st (60 :: r)) (dataPieceL W (60 :: r)) := by
  unfold markupRes dataPieceL
  by_cases h1 : (60 :: r : List UInt8) = [60] ∨ (60 :: r : List UInt8) = [60, 47] ∨ (60 :: r : List UInt8) = [60, 33] ∨ (60 :: r : List UInt8) = [60, 33, 45]
  · rw [if_pos h1, if_pos h1]
    exact ⟨fun _ => rfl, fun h => absurd rfl h⟩
  · rw [if_neg h1, if_neg h1]
    by_cases h2 : letterC ((60 :: r).getD 1 0) = true
    · rw [if_pos h2, if_pos h2]
      exact tag_piece W 1 (.inl rfl) st _ (by simp)
    · rw [if_neg h2, if_neg h2]
      by_cases h3 : (60 :: r).getD 1 0 = 47 ∧ letterC ((60 :: r).getD 2 0) = true
      · rw [if_pos h3, if_pos h3]
        refine tag_piece W 2 (.inr rfl) st _ ?_
        cases r with
        | nil => exact absurd (.inl rfl) h1
        | cons x y => simp
      · rw [if_neg h3, if_neg h3]
        by_cases h4 : [60, 33, 45, 45] <+: 60 :: r
        · rw [if_pos h4, if_pos h4]
          refine ⟨fun h => absurd h (by decide), fun _ => ⟨⟨by decide, ?_⟩, ?_⟩⟩
          · have := h4.length_le
            simp only [List.length_cons] at this ⊢
            omega
          unfold toldL
          rw [if_neg (by decide), if_pos rfl]
        · rw [if_neg h4, if_neg h4]
          by_cases h5 : (60 :: r).getD 1 0 = 33 ∨ (60 :: r).getD 1 0 = 63 ∨ (60 :: r).getD 1 0 = 47
          · rw [if_pos h5, if_pos (h5.elim (fun h => .inr (.inl h)) (fun h => h.elim (fun h => .inr (.inr h)) .inl))]
            refine ⟨fun h => absurd h (by decide), fun _ => ⟨⟨by decide, ?_⟩, ?_⟩⟩
            · cases r with
              | nil => exact absurd (.inl rfl) h1
              | cons x y => simp
            unfold toldL
            rw [if_neg (by decide), if_neg (by decide), if_pos rfl]
          · rw [if_neg h5, if_neg (fun h => h5 (h.elim (fun h => .inr (.inr h)) (fun h => h.elim .inl (fun h => .inr (.inl h)))))]
            exact unit_piece st 60 r (by decide)
/-- the step that a piece is: as the reader's, but that a byte which is passed in a raw text is a step of its own -/
theorem piece_step (W : Nat) (st : LS) (hs : st.scan = 0) (c : UInt8) (r : List UInt8) (hraw : st.mode < 2 ∨ st.mode = 10 ∨ c = 60) : PieceOk st (c :: r) (stepL W st (c :: r)) (pieceL W st.mode (c :: r)) := by
  have hst : stepL W st (c :: r) = if st.mode = 0 then dataRes W st (c :: r) else if st.mode = 1 then areaRes W st (c :: r) else rawRes W st (c :: r) := by
    unfold stepL
    rw [if_neg (by omega), if_neg (by omega), if_neg (by omega)]
  have h0 : (c :: r).getD 0 0 = c := rfl
  have hpc : pieceL W st.mode (c :: r) = if st.mode = 10 then (8, (c :: r).length)
    else if st.mode < 2 ∧ c = 38 then runPieceL (c :: r)
    else if c ≠ 60 ∧ st.mode < 2 then (1, 1)
    else if c ≠ 60 then (8, 1)
    else if st.mode = 0 then dataPieceL W (c :: r)
    else if ownL (60 :: 47 :: rawL st.mode) (c :: r) = 1 then (0, 0)
    else if ownL (60 :: 47 :: rawL st.mode) (c :: r) = 2 then tagPieceL W (c :: r) 2
    else if st.mode = 1 then (1, 1) else (8, 1) := rfl
  have own_ok : ∀ r' : List UInt8, PieceOk st (60 :: r') (if ownL (60 :: 47 :: rawL st.mode) (60 :: r') = 1 then .more 0 st else if ownL (60 :: 47 :: rawL st.mode) (60 :: r') = 2 then tagL W 2 (60 :: r') st else if st.mode = 1 then byteRes st 60 else .done 1 st [])
      (if ownL (60 :: 47 :: rawL st.mode) (60 :: r') = 1 then (0, 0) else if ownL (60 :: 47 :: rawL st.mode) (60 :: r') = 2 then tagPieceL W (60 :: r') 2 else if st.mode = 1 then (1, 1) else (8, 1)) := fun r' => by
    by_cases ho : ownL (60 :: 47 :: rawL st.mode) (60 :: r') = 1
    · simp only [if_pos ho]; exact ⟨fun _ => rfl, fun h => absurd rfl h⟩
    · simp only [if_neg ho]
      by_cases ho2 : ownL (60 :: 47 :: rawL st.mode) (60 :: r') = 2
      · simp only [if_pos ho2]
        refine tag_piece W 2 (.inr rfl) st _ ?_
        have := own_two _ _ ho2
        simp only [List.length_cons] at this ⊢
        omega
      · simp only [if_neg ho2]
        by_cases hm1 : st.mode = 1
        · simp only [if_pos hm1]
          exact unit_piece st 60 r' (by decide)
        · simp only [if_neg hm1]
          exact ⟨fun h => absurd h (by decide), fun _ => ⟨⟨by decide, by simp⟩, rfl⟩⟩
  by_cases h10 : st.mode = 10
  · rw [hpc, if_pos h10, hst, if_neg (show ¬ st.mode = 0 by omega), if_neg (show ¬ st.mode = 1 by omega)]
    have hr : rawRes W st (c :: r) = .done (c :: r).length st [] := by
      unfold rawRes
      split
      · rfl
      · rw [if_pos h10]
    rw [hr]
    exact ⟨fun h => absurd h (by simp), fun _ => ⟨⟨by simp, Nat.le_refl _⟩, rfl⟩⟩
  · rw [hpc, if_neg h10]
    by_cases hm : st.mode < 2
    · have hs2 : ∀ R, (st.mode = 0 → dataRes W st (c :: r) = R) → (st.mode = 1 → areaRes W st (c :: r) = R) → stepL W st (c :: r) = R := fun R f0 f1 => by
        rw [hst]
        by_cases hm0 : st.mode = 0
        · rw [if_pos hm0]; exact f0 hm0
        · rw [if_neg hm0, if_pos (by omega)]; exact f1 (by omega)
      by_cases h38 : c = 38
      · subst h38
        rw [if_pos ⟨hm, rfl⟩, hs2 (refRes st (38 :: r)) (fun _ => rfl) (fun _ => rfl)]
        exact ref_piece st _ (by simp)
      · rw [if_neg (fun h => h38 h.2)]
        by_cases h60 : c = 60
        · subst h60
          rw [if_neg (fun h => h.1 rfl), if_neg (fun h => h rfl)]
          by_cases hm0 : st.mode = 0
          · rw [if_pos hm0, hs2 (markupRes W st (60 :: r)) (fun _ => rfl) (fun h => by omega)]
            exact data_piece W st r
          · rw [if_neg hm0]
            have hm1 : st.mode = 1 := by omega
            have hown := own_ok r
            rw [hs2 _ (fun h => absurd h hm0) (fun _ => (show areaRes W st (60 :: r) = if ownL (60 :: 47 :: rawL 1) (60 :: r) = 1 then .more 0 st else if ownL (60 :: 47 :: rawL 1) (60 :: r) = 2 then tagL W 2 (60 :: r) st else byteRes st 60 from rfl))]
            simp only [hm1, if_true] at hown ⊢
            exact hown
        · rw [if_pos ⟨h60, hm⟩, hs2 (byteRes st c) (fun _ => by unfold dataRes; rw [h0, if_neg h60, if_neg h38]) (fun _ => by unfold areaRes; rw [h0, if_neg h60, if_neg h38])]
          exact unit_piece st c r h38
    · obtain rfl : c = 60 := hraw.elim (fun h => absurd h hm) (fun h => h.elim (fun h => absurd h h10) id)
      rw [if_neg (fun h => hm h.1), if_neg (fun h => hm h.2), if_neg (fun h => h rfl), if_neg (show ¬ st.mode = 0 by omega), hst, if_neg (show ¬ st.mode = 0 by omega), if_neg (show ¬ st.mode = 1 by omega)]
      have ha : rawRes W st (60 :: r) = if ownL (60 :: 47 :: rawL st.mode) (60 :: r) = 1 then .more 0 st else if ownL (60 :: 47 :: rawL st.mode) (60 :: r) = 2 then tagL W 2 (60 :: r) st else .done 1 st [] := by
        rw [raw_at h10 0 rfl]
        simp only [List.drop_zero, shift_zero]
      have hown := own_ok r
      have hm1 : ¬ st.mode = 1 := by omega
      simp only [if_neg hm1] at hown ⊢
      rw [ha]
      exact hown
/-- a byte that is passed in a raw text -/
theorem raw_pass {W : Nat} (hW : 32 ≤ W) (st : LS) (hs : st.scan = 0) (hm : 2 ≤ st.mode) (h10 : st.mode ≠ 10) (c : UInt8) (r : List UInt8) (hc : c ≠ 60) : runL W st (c :: r) = runL W st r := by
  have hst : ∀ L, stepL W st L = rawRes W st L := fun L => by
    unfold stepL
    rw [if_neg (by omega), if_neg (by omega), if_neg (by omega), if_neg (by omega), if_neg (by omega)]
  have hb : byteIdx 60 (c :: r) = (byteIdx 60 r).map (· + 1) := by
    show (if c = 60 then some 0 else _) = _
    rw [if_neg hc]
  cases hi : byteIdx 60 r with
  | none =>
    have h1 : stepL W st (c :: r) = .done (c :: r).length st [] := by
      rw [hst]; unfold rawRes; rw [hb, hi]; rfl
    rw [run_done hW (by omega) (by simp) h1, List.drop_length, run_nil]
    cases r with
    | nil => rfl
    | cons x y =>
      have h2 : stepL W st (x :: y) = .done (x :: y).length st [] := by
        rw [hst]; unfold rawRes; rw [hi]
      rw [run_done hW (by omega) (by simp) h2, List.drop_length, run_nil]
  | some i =>
    have hr : r ≠ [] := by rintro rfl; simp [byteIdx] at hi
    refine run_shift hW (by omega) (by omega) (n := 1) hr (by simp) rfl ?_
    rw [hst, hst, raw_at h10 (i + 1) (by rw [hb, hi]; rfl), raw_at h10 i hi]
    simp only [List.drop_succ_cons]
    split
    · simp [Res.shift]; omega
    · split
      · rw [shift_shift, Nat.add_comm]
      · simp [Res.shift]; omega
theorem told_ok {kind : Nat} {S : List UInt8} {st : LS} (h0 : st.scan = 0) (hm : st.mode ≤ 10) : (toldL kind S st).1.scan ≤ 10 ∧ (toldL kind S st).1.mode ≤ 10 := by
  have hp : ∀ L : List UInt8, (tagAtL L).2.2.2 ≤ 10 := fun L => by
    rw [(tagAt_ok L).2.2.2.1]
    have := pass_range L 3 (.inr ⟨by omega, by omega⟩)
    omega
  unfold toldL
  split
  · exact ⟨by show st.scan ≤ 10; omega, hm⟩
  · split
    · exact ⟨by show (1 : Nat) ≤ 10; decide, hm⟩
    · split
      · exact ⟨by show (2 : Nat) ≤ 10; decide, hm⟩
      · split
        · exact ⟨hp _, by show (0 : Nat) ≤ 10; decide⟩
        · split
          · exact ⟨hp _, inside_le _⟩
          · exact ⟨by show st.scan ≤ 10; omega, hm⟩
theorem told_run {W : Nat} (hW : 32 ≤ W) (st : LS) (hs : st.scan = 0) (hm : st.mode ≤ 10) (L : List UInt8) (hL : L ≠ []) : ((pieceL W st.mode L).1 = 0 → runL W st L = (st, L, [])) ∧
    ((pieceL W st.mode L).1 ≠ 0 → 0 < (pieceL W st.mode L).2 ∧ (pieceL W st.mode L).2 ≤ L.length ∧ ∃ st' it, toldL (pieceL W st.mode L).1 (L.take (pieceL W st.mode L).2) st = (st', it) ∧ st'.scan ≤ 10 ∧ st'.mode ≤ 10 ∧
      runL W st L = ((runL W st' (L.drop (pieceL W st.mode L).2)).1, (runL W st' (L.drop (pieceL W st.mode L).2)).2.1, it ++ (runL W st' (L.drop (pieceL W st.mode L).2)).2.2)) := by
  obtain ⟨c, r, rfl⟩ : ∃ c r, L = c :: r := by cases L with | nil => exact absurd rfl hL | cons c r => exact ⟨c, r, rfl⟩
  by_cases hraw : st.mode < 2 ∨ st.mode = 10 ∨ c = 60
  · obtain ⟨k0, k1⟩ := piece_step W st hs c r hraw
    refine ⟨fun h => ?_, fun h => ?_⟩
    · rw [run_more hL (k0 h)]; rfl
    · obtain ⟨⟨a1, a2⟩, a3⟩ := k1 h
      have ho := told_ok (kind := (pieceL W st.mode (c :: r)).1) (S := (c :: r).take (pieceL W st.mode (c :: r)).2) hs hm
      exact ⟨a1, a2, _, _, rfl, ho.1, ho.2, run_done hW (by omega) hL a3⟩
  · have h1 : 2 ≤ st.mode := Nat.le_of_not_lt (fun h => hraw (.inl h))
    have h2 : st.mode ≠ 10 := fun h => hraw (.inr (.inl h))
    have h3 : c ≠ 60 := fun h => hraw (.inr (.inr h))
    have hp : pieceL W st.mode (c :: r) = (8, 1) := by
      have h0 : (c :: r).getD 0 0 = c := rfl
      unfold pieceL
      rw [if_neg h2, if_neg (show ¬ (st.mode < 2 ∧ _) from fun h => by omega), if_neg (show ¬ (_ ∧ st.mode < 2) from fun h => by omega), if_pos (show (c :: r).getD 0 0 ≠ 60 from h3)]
    rw [hp]
    refine ⟨fun h => absurd h (by decide), fun _ => ⟨by decide, by simp, st, [], rfl, by omega, hm, ?_⟩⟩
    show runL W st (c :: r) = ((runL W st r).1, (runL W st r).2.1, [] ++ (runL W st r).2.2)
    rw [raw_pass hW st hs h1 h2 c r h3]
    rfl
end Go.Proofs.YtchhlocibijekaaGreatDoor

/-
  scrubref's until and lowered: their walks.
-/
namespace Go.Proofs.YtchhlocibijekaaGreatDoor
open Go.RowKit Go.Lib Own

set_option maxHeartbeats 1000000 in
theorem until_any (s : ByteArray) (i : Nat) (set : ByteArray) (w : World) (hi : i ≤ s.size) (hs : s.size ≤ 140737488355328) (ht : set.size ≤ 1000000) :
    Calls Tryz.prog 50 #[.string s, .int .i64 i, .string set] w fun e w' => e = .returned (.int .i64 ((i + ((s.data.toList.drop i).takeWhile fun c => !set.data.toList.contains c).length : Nat) : Int)) ∧ w' = w := by
  obtain ⟨r, hr⟩ : ∃ r, i + ((s.data.toList.drop i).takeWhile fun c => !set.data.toList.contains c).length = r := ⟨_, rfl⟩
  rw [hr]
  have HR := hid hr
  clear hr
  go_enter Tryz.func50, Tryz.ntmps50
  go_wp2
  go_loopw [1] (fun iv wr => ∃ k : Nat, iv = .int .i64 k ∧ k ≤ s.size ∧ wr = w ∧ Hid (k + ((s.data.toList.drop k).takeWhile fun c => !set.data.toList.contains c).length = r)) (fun iv _ => s.size - (RowKit.intOf iv).toNat)
  case atStart => exact ⟨i, rfl, hi, rfl, HR.out⟩
  case round =>
    obtain ⟨k, rfl, hk, rfl, HA⟩ := hrel
    by_cases hp : k < s.size
    · obtain ⟨x, hx⟩ : ∃ x, s[k]'hp = x := ⟨_, rfl⟩
      have hl := getElem_list hp hx
      have hc := fun W => among_any x set W ht
      obtain ⟨b, hb⟩ : ∃ b, set.data.toList.contains x = b := ⟨_, rfl⟩
      rw [hb] at hc
      have HC := hid hc
      cases b
      · have HB : Hid (k + 1 + ((s.data.toList.drop (k + 1)).takeWhile fun c => !set.data.toList.contains c).length = r) := by
          have := HA.out
          rw [while_step hl (by rw [hb]; rfl), List.length_cons] at this
          exact hid (by omega)
        clear hl hb hc HA
        go_wp2_with (go_at_call 74; refine (HC.out _).mono ?_; rintro e w' ⟨rfl, rfl⟩)
        go_roundw
        case rel => exact ⟨k + 1, rfl, by omega, by first | rfl | trivial, HB⟩
        case measure => simp [RowKit.intOf]; omega
      · have HB : Hid (k = r) := by
          have := HA.out
          rw [while_stop (fun c hc => by rw [hl] at hc; cases hc; rw [hb]; rfl)] at this
          simpa [Hid] using this
        clear hl hb hc HA
        go_wp2_with (go_at_call 74; refine (HC.out _).mono ?_; rintro e w' ⟨rfl, rfl⟩)
        go_ret
        exact ⟨ret_i64 (by have := HB.out; omega), rfl⟩
    · have HB : Hid (k = r) := by
        have := HA.out
        rw [List.drop_of_length_le (by rw [← size_eq]; omega)] at this
        simpa [Hid] using this
      clear HA
      go_wp2
      go_ret
      exact ⟨ret_i64 (by have := HB.out; omega), rfl⟩

set_option maxHeartbeats 4000000 in
set_option maxRecDepth 100000 in
theorem lowered_any (s : ByteArray) (w : World) (hs : s.size ≤ 10000000) :
    Calls Tryz.prog 72 #[.string s] w fun e w' => e = .returned (.string ⟨(s.data.toList.map lowC).toArray⟩) ∧ Below w.heap.size w w' := by
  obtain ⟨i0, hi, hz0, hz1, hz2⟩ := info_parts info_u8
  go_enter Tryz.func72, Tryz.ntmps72
  go_wp2
  go_loopw [3, 4] (fun bv iv wr => ∃ k : Nat, iv = .int .i64 k ∧ wr.ownsRow w.heap.size 5 1 bv ((s.data.toList.take k).map lowC).length (byteCells ((s.data.toList.take k).map lowC)) ∧ Below w.heap.size w wr ∧ k ≤ s.size) (fun _ iv _ => s.size - (RowKit.intOf iv).toNat)
  case atStart => exact ⟨0, rfl, World.ownsRow_nil _ _ _ _, Below.refl _ _, Nat.zero_le _⟩
  case round =>
    obtain ⟨k, rfl, hown, hbw, hk⟩ := hrel
    by_cases hp : k < s.size
    · obtain ⟨x, hx⟩ : ∃ x, s[k]'hp = x := ⟨_, rfl⟩
      have hl := getElem_list hp hx
      have hlt := hown.lt
      have hbs := hbw.size
      have hx0 := x.toNat_lt
      have hstep : (s.data.toList.take (k + 1)).map lowC = (s.data.toList.take k).map lowC ++ [lowC x] := by
        rw [List.take_add_one, hl, List.map_append]; rfl
      have hlz : ((s.data.toList.take k).map lowC).length = k := by rw [List.length_map, List.length_take, ← size_eq]; omega
      generalize (s.data.toList.take k).map lowC = acc at hown hstep hlz
      have hok := fun (w3 : World) (v3 : Value) (y : UInt8) (h : w3.ownsRow w.heap.size 5 1 v3 (k + 1) (byteCells acc ++ byteCells [y])) => own_cat (a := acc) (L := [y]) (by rw [hlz]; exact h)
      have HK := hid hok
      clear hok
      have hyz : ((lowC x).toNat : Int) = if 65 ≤ (x.toNat : Int) ∧ (x.toNat : Int) ≤ 90 then (x.toNat : Int) + 32 else (x.toNat : Int) := by
        rw [← lowZ_C]; rfl
      generalize lowC x = y at hstep hyz
      have HS := hid hstep
      have hA1 := hid (cells_len [y])
      have hA2 := hid (cells_new [y])
      have hA3 := hid (byteCells_one [y])
      have hA4 := hid (show acc.length + 1 ≤ maxLen by unfold maxLen; omega)
      have hA5 := hid (show (acc.length + 1) * 1 ≤ 140737488355328 by omega)
      have hcl : ∀ z : Int, ((y.toNat : Int) = z) → (byteCells [y]).toArray = #[Value.int .u8 z] := fun z hz => by subst hz; rfl
      have hCL := hid hcl
      clear hstep hl hcl
      by_cases hu : 65 ≤ (x.toNat : Int) ∧ (x.toNat : Int) ≤ 90
      · rw [if_pos hu] at hyz
        obtain ⟨u1, u2⟩ := hu
        have q0 := hCL.out _ hyz
        clear hyz
        go_wp2_with (at_builtin; refine wpList_append_own _ rfl (.tmp 23) (.tmp 25) 37 rfl w.heap.size 5 i0 (.int .u8 0) 1 1 Tryz.underlying37 hi hz0 hz1 hz2 rfl (by decide) _ _ _ rfl (hown.alloc _) ⟨_, 0, none⟩ 1 1 (byteCells [y]) rfl hA1.out (by have := hA2.out wr; rw [q0] at this; exact this) hA3.out hA4.out hA5.out ?_ ?_)
        · first | omega | (simp; omega)
        · intro v' w2 hown2 hgrow _
          have hbw2 := (hbw.alloc hbs _).grown hgrow (by simp; omega) (fun k hk => (hlt k hk).1)
          have hown3 := HK.out _ _ _ hown2
          clear hown2 hgrow hbw hown hlt hbs
          go_wp2
          go_roundw
          case rel => exact ⟨k + 1, rfl, by rw [HS.out]; exact hown3, hbw2, by omega⟩
          case measure => simp [RowKit.intOf]; omega
      · rw [if_neg hu] at hyz
        have q0 := hCL.out _ hyz
        clear hyz
        have q1 : ¬ (65 ≤ (x.toNat : Int) ∧ (x.toNat : Int) ≤ 90) := hu
        by_cases h65 : 65 ≤ (x.toNat : Int)
        · have h90 : ¬ (x.toNat : Int) ≤ 90 := fun h => hu ⟨h65, h⟩
          clear q1 hu
          go_wp2_with (at_builtin; refine wpList_append_own _ rfl (.tmp 23) (.tmp 25) 37 rfl w.heap.size 5 i0 (.int .u8 0) 1 1 Tryz.underlying37 hi hz0 hz1 hz2 rfl (by decide) _ _ _ rfl (hown.alloc _) ⟨_, 0, none⟩ 1 1 (byteCells [y]) rfl hA1.out (by have := hA2.out wr; rw [q0] at this; exact this) hA3.out hA4.out hA5.out ?_ ?_)
          · first | omega | (simp; omega)
          · intro v' w2 hown2 hgrow _
            have hbw2 := (hbw.alloc hbs _).grown hgrow (by simp; omega) (fun k hk => (hlt k hk).1)
            have hown3 := HK.out _ _ _ hown2
            clear hown2 hgrow hbw hown hlt hbs
            go_wp2
            go_roundw
            case rel => exact ⟨k + 1, rfl, by rw [HS.out]; exact hown3, hbw2, by omega⟩
            case measure => simp [RowKit.intOf]; omega
        · clear q1 hu
          go_wp2_with (at_builtin; refine wpList_append_own _ rfl (.tmp 23) (.tmp 25) 37 rfl w.heap.size 5 i0 (.int .u8 0) 1 1 Tryz.underlying37 hi hz0 hz1 hz2 rfl (by decide) _ _ _ rfl (hown.alloc _) ⟨_, 0, none⟩ 1 1 (byteCells [y]) rfl hA1.out (by have := hA2.out wr; rw [q0] at this; exact this) hA3.out hA4.out hA5.out ?_ ?_)
          · first | omega | (simp; omega)
          · intro v' w2 hown2 hgrow _
            have hbw2 := (hbw.alloc hbs _).grown hgrow (by simp; omega) (fun k hk => (hlt k hk).1)
            have hown3 := HK.out _ _ _ hown2
            clear hown2 hgrow hbw hown hlt hbs
            go_wp2
            go_roundw
            case rel => exact ⟨k + 1, rfl, by rw [HS.out]; exact hown3, hbw2, by omega⟩
            case measure => simp [RowKit.intOf]; omega
    · have hks : k = s.size := by omega
      subst hks
      have hall : s.data.toList.take s.size = s.data.toList := List.take_of_length_le (by rw [← size_eq]; omega)
      rw [hall] at hown
      have ht := own_text wr _ _ (s.data.toList.map lowC) hown
      go_wp2
      go_ret
      exact ⟨rfl, hbw⟩
end Go.Proofs.YtchhlocibijekaaGreatDoor

/-
  A strings.Builder that lies inside another block, at some offset: its methods' walks.
-/
namespace Go.Proofs.YtchhlocibijekaaGreatDoor
open Go.RowKit Go.Lib Own

/-- behind it block b holds cs', and nothing else has changed -/
structure Just (W W' : World) (b : Nat) (cs' : Array Value) (T : TypeId) : Prop where
  os : W'.os = W.os
  tape : W'.tape = W.tape
  output : W'.output = W.output
  size : W'.heap.size = W.heap.size
  at_ : W'.heap[b]? = some (.cells cs' T (0, 0))
  other : ∀ k, k ≠ b → W'.heap[k]? = W.heap[k]?
theorem just_set {W : World} {b j : Nat} {cs : Array Value} {T : TypeId} (h : W.heap[b]? = some (.cells cs T (0, 0))) (v : Value) : Just W (W.setCell ⟨b, j, none⟩ v) b (cs.setIfInBounds j v) T :=
  ⟨rfl, rfl, rfl, by simp, heap_setCell_same W b j cs T v h, fun k hk => heap_setCell_other W ⟨b, j, none⟩ k v (fun e => hk (by simp [e]))⟩
theorem just_same {W : World} {b : Nat} {cs : Array Value} {T : TypeId} (h : W.heap[b]? = some (.cells cs T (0, 0))) : Just W W b cs T := ⟨rfl, rfl, rfl, rfl, h, fun _ _ => rfl⟩
theorem cell_at {W : World} {b : Nat} {cs : Array Value} {T : TypeId} (h : W.heap[b]? = some (.cells cs T (0, 0))) {j : Nat} {v : Value} (hv : cs[j]? = some v) : W.cell? ⟨b, j, none⟩ = some v := by
  rw [cell_of_row W b j cs T (0, 0) h]; exact hv
theorem free_at {W : World} {b : Nat} {cs : Array Value} {T : TypeId} (h : W.heap[b]? = some (.cells cs T (0, 0))) (j : Nat) : W.frozen? ⟨b, j, none⟩ = false := frozen_of_row W b j cs T h
theorem shape_at {W : World} {b : Nat} {cs : Array Value} {T : TypeId} (h : W.heap[b]? = some (.cells cs T (0, 0))) : W.shape? b = some (T, cs.size) := by
  simp [World.shape?, h]
theorem set_same {cs : Array Value} {j : Nat} {v : Value} (h : cs[j]? = some v) : cs.setIfInBounds j v = cs := by
  obtain ⟨h1, h2⟩ := Array.getElem?_eq_some_iff.1 h
  subst h2
  simp [Array.setIfInBounds, h1]
theorem builder_info : ∃ j, Tryz.prog.info? 39 = some j ∧ j.size = 2 := by
  have h : (Tryz.prog.info? 39).map (·.size) = some 2 := by kernel_rfl
  obtain ⟨j, h1, h2⟩ := Option.map_eq_some_iff.1 h
  exact ⟨j, h1, h2⟩

set_option maxHeartbeats 1000000 in
set_option maxRecDepth 100000 in
theorem copy_in (b o : Nat) (cs : Array Value) (T : TypeId) (p : Value) (w : World) (hb : w.heap[b]? = some (.cells cs T (0, 0))) (hp : cs[o]? = some p) (hpp : p = .pointer none ∨ p = .pointer (some ⟨b, o, none⟩))
    (hl : liesAt Tryz.prog Tryz.prog.depth T (cs.size / Tryz.prog.cellsOf T) o 39 1 = true) :
    Calls Tryz.prog 87 #[.pointer (some ⟨b, o, none⟩)] w fun e w' => e = .returned (.tuple #[]) ∧ Just w w' b (cs.setIfInBounds o (.pointer (some ⟨b, o, none⟩))) T := by
  obtain ⟨j, hj, hjs⟩ := builder_info
  have h0 := cell_at hb hp
  have hfz := free_at hb o
  have hsh := shape_at hb
  have hoff := (Array.getElem?_eq_some_iff.1 hp).1
  rcases hpp with rfl | rfl
  · go_enter Tryz.func87, Tryz.ntmps87
    go_wp2
    rw [Lib.run_to_unsafe w ⟨b, o, none⟩ Tryz.underlying36 Tryz.underlying117 hj (by rw [hjs]; decide) hsh hoff]
    simp only [Result.andThen]
    rw [Oper.upon_value]
    go_wp2
    rw [run_callFunc_extern Tryz.func113 (by kernel_rfl) (by kernel_rfl) (by kernel_rfl) (e := Extern.AbiNoEscape.same) (by kernel_rfl)]
    rw [Lib.run_noEscape]
    simp only [Result.andThen]
    rw [Oper.upon_value]
    go_wp2
    rw [Lib.run_from_unsafe w ⟨b, o, none⟩ Tryz.underlying117 Tryz.underlying36 hj hsh hl]
    simp only [Result.andThen]
    rw [Oper.upon_value]
    go_wp2
    go_end0
    exact ⟨rfl, just_set hb _⟩
  · go_enter Tryz.func87, Tryz.ntmps87
    go_wp2
    rw [Lib.run_neq_ptr_same w _ Tryz.underlying36 hj]
    go_wp2
    go_end0
    exact ⟨rfl, by rw [set_same hp]; exact just_same hb⟩
/-- a builder at cell o of block b, whose bytes lie in a row of the call's own -/
structure InB (W : World) (base b o : Nat) (cs : Array Value) (T : TypeId) (p v : Value) (bs : List UInt8) : Prop where
  at_ : W.heap[b]? = some (.cells cs T (0, 0))
  lo : base ≤ b
  cp : cs[o]? = some p
  cv : cs[o + 1]? = some v
  hp : p = .pointer none ∨ p = .pointer (some ⟨b, o, none⟩)
  own : W.ownsRowF base 5 1 v bs.length (byteCells bs)
  ne : v.ownBlock ≠ some b
theorem Just.below {W W' : World} {b : Nat} {cs : Array Value} {T : TypeId} (h : Just W W' b cs T) {base : Nat} (hb : base ≤ b) : Below base W W' :=
  ⟨h.os, h.tape, h.output, by rw [h.size]; exact Nat.le_refl _, fun k hk => h.other k (by omega)⟩

set_option maxHeartbeats 2000000 in
set_option maxRecDepth 100000 in
theorem write_in (base b o : Nat) (cs : Array Value) (T : TypeId) (p v : Value) (bs : List UInt8) (s : ByteArray) (w : World) (h : InB w base b o cs T p v bs)
    (hl : liesAt Tryz.prog Tryz.prog.depth T (cs.size / Tryz.prog.cellsOf T) o 39 1 = true) (hT : T ≠ 5) (hlen : bs.length + s.size ≤ 140737488355328) :
    Calls Tryz.prog 63 #[.pointer (some ⟨b, o, none⟩), .string s] w fun e w' => e = .returned (.tuple #[.int .i64 s.size, .nilIface]) ∧
      ∃ v', InB w' base b o ((cs.setIfInBounds o (.pointer (some ⟨b, o, none⟩))).setIfInBounds (o + 1) v') T (.pointer (some ⟨b, o, none⟩)) v' (bs ++ s.data.toList) ∧ Below base w w' ∧
        ∀ k, k < w.heap.size → k ≠ b → v.ownBlock ≠ some k → w'.heap[k]? = w.heap[k]? := by
  obtain ⟨i0, hi, hz0, hz1, hz2⟩ := info_parts info_u8
  obtain ⟨hat, hlo, hcp, hcv, hpp, hown, hne⟩ := h
  have hcopy := copy_in b o cs T p w hat hcp hpp hl
  have hbs : b < w.heap.size := (Array.getElem?_eq_some_iff.1 hat).1
  have hsz := (Array.getElem?_eq_some_iff.1 hcv).1
  have HC := hid hcopy
  clear hcopy
  go_enter Tryz.func63, Tryz.ntmps63
  go_wp2_with fail
  refine HC.out.mono ?_
  rintro e w1 ⟨rfl, j1⟩
  obtain ⟨cs1, hcs1⟩ : ∃ cs1, cs.setIfInBounds o (.pointer (some ⟨b, o, none⟩)) = cs1 := ⟨_, rfl⟩
  have hv1 : cs1[o + 1]? = some v := by
    rw [← hcs1, Array.getElem?_setIfInBounds, if_neg (by omega)]
    exact hcv
  have hp1 : cs1[o]? = some (.pointer (some ⟨b, o, none⟩)) := by
    rw [← hcs1, Array.getElem?_setIfInBounds, if_pos rfl, if_pos (by omega)]
  rw [hcs1] at j1
  have c1 := cell_at j1.at_ hv1
  have hg1 : w.grownBy w1 (some b) := ⟨j1.os, j1.tape, j1.output, by rw [j1.size]; exact Nat.le_refl _, fun k _ hk => j1.other k (fun e => hk (by rw [e]))⟩
  have hown1 := hown.kept hg1 (.inr hne)
  have hbel1 := j1.below hlo
  have hb1 := j1.at_
  have hoth1 := j1.other
  have hbs1 : b < w1.heap.size := by rw [j1.size]; exact hbs
  have hle1 : w.heap.size ≤ w1.heap.size := by rw [j1.size]; exact Nat.le_refl _
  clear HC hown hg1 j1 hat
  go_wp2_with (at_builtin; refine Lib.wpList_append_own_stringF _ rfl _ _ 37 9 rfl base 5 i0 Tryz.underlying37 Tryz.underlying9 hi hz0 hz1 hz2 _ _ _ rfl hown1 s rfl ?c3 ?c4 ?c5 ?_)
  case c3 => unfold maxLen; omega
  case c4 => omega
  case c5 => omega
  intro v' w2 hown' hgrow _
  have hb2 : w2.heap[b]? = some (.cells cs1 T (0, 0)) := by
    rw [hgrow.block b hbs1 (fun e => hne e.symm)]
    exact hb1
  have hne' : v'.ownBlock ≠ some b := by
    intro he
    rcases hown'.2 with ⟨rfl, _⟩ | ⟨g, cap, cur, fz, rfl, _, hg, _⟩
    · cases he
    · simp only [Value.ownBlock, Option.some.injEq] at he
      subst he
      rw [hg] at hb2
      simp only [Option.some.injEq, Obj.cells.injEq] at hb2
      exact hT hb2.2.1.symm
  have d1 := cell_at hb2 hv1
  have f1 := free_at hb2 (o + 1)
  have hbw2 : Below base w w2 := hbel1.grown hgrow (by omega) (fun k hk => (hown1.lt k hk).1)
  have hsz2 : w1.heap.size ≤ w2.heap.size := hgrow.size
  have hkeep : ∀ k, k < w.heap.size → k ≠ b → v.ownBlock ≠ some k → w2.heap[k]? = w.heap[k]? := fun k hk h1 h2 => (hgrow.block k (by omega) (fun e => h2 e.symm)).trans (hoth1 k h1)
  obtain ⟨ao, n', cap, rfl⟩ : ∃ ao n' cap, v' = .slice ao n' cap := by
    rcases hown'.2 with ⟨hv, _⟩ | ⟨g, cap, cur, fz, hv, _⟩
    · exact ⟨_, _, _, hv⟩
    · exact ⟨_, _, _, hv⟩
  have hj2 := just_set (j := o + 1) hb2 (.slice ao n' cap)
  have hown2 := hown'.kept (w' := w2.setCell ⟨b, o + 1, none⟩ (.slice ao n' cap)) (row := some b) ⟨hj2.os, hj2.tape, hj2.output, by rw [hj2.size]; exact Nat.le_refl _, fun k _ hk => hj2.other k (fun e => hk (by rw [e]))⟩ (.inr hne')
  go_wp2
  go_ret2
  subst hcs1
  refine ⟨rfl, .slice ao n' cap, ⟨hj2.at_, hlo, ?_, ?_, .inr rfl, ?_, hne'⟩, hbw2.trans (hj2.below hlo), fun k hk h1 h2 => (hj2.other k h1).trans (hkeep k hk h1 h2)⟩
  · rw [Array.getElem?_setIfInBounds, if_neg (by omega)]; exact hp1
  · rw [Array.getElem?_setIfInBounds, if_pos rfl, if_pos (Array.getElem?_eq_some_iff.1 hv1).1]
  · rw [byteCells_append, List.length_append, ← size_eq]
    exact hown2

/-- a cell of a struct that a pointer leads to: Len, Reset, PutText -/
theorem len_in (base b o : Nat) (cs : Array Value) (T : TypeId) (p v : Value) (bs : List UInt8) (w : World) (h : InB w base b o cs T p v bs) :
    Calls Tryz.prog 47 #[.pointer (some ⟨b, o, none⟩)] w fun e w' => e = .returned (.int .i64 bs.length) ∧ w' = w := by
  have c1 := cell_at h.at_ h.cv
  obtain ⟨ao, cap, rfl⟩ : ∃ ao cap, v = .slice ao bs.length cap := by
    rcases h.own.2 with ⟨hv, h0⟩ | ⟨g, cap, cur, fz, hv, _⟩
    · exact ⟨none, 0, by rw [hv, h0]⟩
    · exact ⟨_, _, hv⟩
  go_enter Tryz.func47, Tryz.ntmps47
  go_wp2
  go_ret
  exact ⟨rfl, rfl⟩
theorem reset_in (base b o : Nat) (cs : Array Value) (T : TypeId) (p v : Value) (w : World) (hat : w.heap[b]? = some (.cells cs T (0, 0))) (hlo : base ≤ b) (hcp : cs[o]? = some p) (hcv : cs[o + 1]? = some v) :
    Calls Tryz.prog 49 #[.pointer (some ⟨b, o, none⟩)] w fun e w' => e = .returned (.tuple #[]) ∧
      InB w' base b o ((cs.setIfInBounds o (.pointer none)).setIfInBounds (o + 1) (.slice none 0 0)) T (.pointer none) (.slice none 0 0) [] ∧ Below base w w' ∧ ∀ k, k ≠ b → w'.heap[k]? = w.heap[k]? := by
  have c0 := cell_at hat hcp
  have f0 := free_at hat o
  have j1 := just_set (j := o) hat (.pointer none)
  have hv1 : (cs.setIfInBounds o (.pointer none))[o + 1]? = some v := by
    rw [Array.getElem?_setIfInBounds, if_neg (by omega)]; exact hcv
  have hp1 : (cs.setIfInBounds o (.pointer none))[o]? = some (.pointer none) := by
    rw [Array.getElem?_setIfInBounds, if_pos rfl, if_pos (Array.getElem?_eq_some_iff.1 hcp).1]
  have c1 := cell_at j1.at_ hv1
  have f1 := free_at j1.at_ (o + 1)
  have j2 := just_set (j := o + 1) j1.at_ (.slice none 0 0)
  have hb1 := j1.below hlo
  have hb2 := j2.below hlo
  have hfin : InB ((w.setCell ⟨b, o, none⟩ (.pointer none)).setCell ⟨b, o + 1, none⟩ (.slice none 0 0)) base b o ((cs.setIfInBounds o (.pointer none)).setIfInBounds (o + 1) (.slice none 0 0)) T (.pointer none) (.slice none 0 0) [] := by
    refine ⟨j2.at_, hlo, ?_, ?_, .inl rfl, ⟨rfl, .inl ⟨rfl, rfl⟩⟩, by simp [Value.ownBlock]⟩
    · rw [Array.getElem?_setIfInBounds, if_neg (by omega)]; exact hp1
    · rw [Array.getElem?_setIfInBounds, if_pos rfl, if_pos (Array.getElem?_eq_some_iff.1 hv1).1]
  have hkp : ∀ k, k ≠ b → ((w.setCell ⟨b, o, none⟩ (.pointer none)).setCell ⟨b, o + 1, none⟩ (.slice none 0 0)).heap[k]? = w.heap[k]? := fun k hk => (j2.other k hk).trans (j1.other k hk)
  have HF := hid hfin
  have HK := hid hkp
  clear hfin hkp j1 j2
  go_enter Tryz.func49, Tryz.ntmps49
  go_wp2
  go_end0
  exact ⟨rfl, HF.out, hb1.trans hb2, HK.out⟩

theorem freeze_other (w : World) (g n k : Nat) (hk : k ≠ g) : (w.freeze ⟨g, 0, none⟩ n).heap[k]? = w.heap[k]? := by
  unfold World.freeze
  split
  · rfl
  · simp only [Array.getElem?_modify]
    rw [if_neg (fun e => hk e.symm)]
set_option maxHeartbeats 2000000 in
set_option maxRecDepth 100000 in
theorem string_in (base b o : Nat) (cs : Array Value) (T : TypeId) (p v : Value) (bs : List UInt8) (w : World) (h : InB w base b o cs T p v bs) (h0 : bs ≠ []) :
    Calls Tryz.prog 48 #[.pointer (some ⟨b, o, none⟩)] w fun e w' => e = .returned (.string ⟨bs.toArray⟩) ∧ w'.heap[b]? = some (.cells cs T (0, 0)) ∧ Below base w w' ∧
      ∀ k, k ≠ b → v.ownBlock ≠ some k → w'.heap[k]? = w.heap[k]? := by
  obtain ⟨hat, hlo, hcp, hcv, hpp, hown, hne⟩ := h
  have hl0 : bs.length ≠ 0 := by simpa using h0
  obtain ⟨g, cap, cur, fz, rfl, hbg, hg, hfz, hnc, hcm, hcs, htake⟩ : ∃ g cap cur fz, v = .slice (some ⟨g, 0, none⟩) bs.length cap ∧ base ≤ g ∧ w.heap[g]? = some (.cells cur 5 fz) ∧ fz.2 ≤ bs.length * 1 ∧ bs.length ≤ cap ∧ cap ≤ maxLen ∧ cur.size = cap * 1 ∧ cur.toList.take (bs.length * 1) = byteCells bs := by
    rcases hown.2 with ⟨_, hz⟩ | ⟨g, cap, cur, fz, hv, r⟩
    · exact absurd hz hl0
    · exact ⟨g, cap, cur, fz, hv, r⟩
  have hgb : g ≠ b := fun e => hne (by simp [Value.ownBlock, e])
  have c1 : w.drew.cell? ⟨b, o + 1, none⟩ = some (.slice (some ⟨g, 0, none⟩) bs.length cap) := cell_at hat hcv
  have hSD : (Builtin.unsafeSliceData_ #[37] 99 #[.slice (some ⟨g, 0, none⟩) bs.length cap]).run Tryz.prog w.drew = .ok (.pointer (some ⟨g, 0, none⟩)) w.drew :=
    Lib.run_unsafeSliceData_row _ _ _ _ _ _ (by omega)
  have hUS : (Builtin.unsafeString_ #[99, 3] 9 #[.pointer (some ⟨g, 0, none⟩), .int .i64 bs.length]).run Tryz.prog w.drew = .ok (.string ⟨bs.toArray⟩) (w.drew.freeze ⟨g, 0, none⟩ bs.length) := by
    refine Lib.run_unsafeString_row w.drew 99 3 9 5 Tryz.underlying99 (by kernel_rfl) g cur.size (by have hg' : w.drew.heap[g]? = some (.cells cur 5 fz) := hg; simp [World.shape?, hg']) bs h0 (by omega) (by unfold maxLen at hcm; omega) ?_
    intro j x hx
    have := hown.cells (g := g) rfl j (.int .u8 x.toNat) (by simp [Lib.byteCells, hx])
    exact this
  have hb2 : (w.drew.freeze ⟨g, 0, none⟩ bs.length).heap[b]? = some (.cells cs T (0, 0)) := (freeze_other w.drew g bs.length b (fun e => hgb e.symm)).trans hat
  have hk2 : ∀ k, k ≠ b → (Value.slice (some ⟨g, 0, none⟩) bs.length cap).ownBlock ≠ some k → (w.drew.freeze ⟨g, 0, none⟩ bs.length).heap[k]? = w.heap[k]? := fun k _ hk => freeze_other w.drew g bs.length k (fun e => hk (by simp [Value.ownBlock, e]))
  have hbel : Below base w (w.drew.freeze ⟨g, 0, none⟩ bs.length) := Lib.below_freeze (Below.drew (Below.refl base w)) (p := ⟨g, 0, none⟩) hbg _
  have HB := hid hb2
  have HK := hid hk2
  clear hb2 hk2 hown htake
  go_enter Tryz.func48, Tryz.ntmps48
  go_wp2
  go_region
  all_goals (go_wp2; go_ret; exact ⟨rfl, HB.out, hbel, HK.out⟩)
end Go.Proofs.YtchhlocibijekaaGreatDoor
