/-
  Parts of the walk, joined: LexCut, LexRun, LexWhole.
-/
import Derived.Test.YtialeicpelehoaaDoorPartA
/-
  A text may be cut anywhere: the run over the whole is the run over its first part and then over what that holds and the rest.
-/
namespace Go.Proofs.YtialeicpelehoaaDoor

theorem shift_zero (r : Res) : r.shift 0 = r := by cases r <;> simp [Res.shift]
theorem shift_shift (r : Res) (a b : Nat) : (r.shift a).shift b = r.shift (b + a) := by cases r <;> simp [Res.shift, Nat.add_assoc]

theorem pass_append : ∀ (A B : List UInt8) (s : Nat), ((passL s A).2 = 0 ∧ (passL s A).1 ≤ A.length ∧ passL s (A ++ B) = passL s A) ∨
    ((passL s A).2 ≠ 0 ∧ (passL s A).1 = A.length ∧ passL s (A ++ B) = (A.length + (passL (passL s A).2 B).1, (passL (passL s A).2 B).2))
  | [], B, s => by
    by_cases hs : s = 0
    · subst hs
      refine .inl ⟨rfl, by simp [passL], ?_⟩
      cases B <;> simp [passL]
    · exact .inr ⟨hs, rfl, by simp [passL]⟩
  | c :: A, B, s => by
    by_cases hs : s = 0
    · subst hs
      exact .inl ⟨by simp [passL], by simp [passL], by simp [passL]⟩
    · have ih := pass_append A B (nextT s c)
      simp only [List.cons_append, passL, if_neg hs, List.length_cons]
      rcases ih with ⟨h1, h2, h3⟩ | ⟨h1, h2, h3⟩
      · exact .inl ⟨h1, by omega, by rw [h3]⟩
      · refine .inr ⟨h1, by omega, ?_⟩
        rw [h3]
        simp only [Prod.mk.injEq, and_true]
        omega
theorem next_range (s : Nat) (h0 : 3 ≤ s) (h1 : s ≤ 10) (c : UInt8) : nextT s c = 0 ∨ 3 ≤ nextT s c ∧ nextT s c ≤ 10 := by
  have hc : colC c < 7 := by unfold colC; (repeat' split) <;> omega
  have hall : ∀ (i : Fin 8) (k : Fin 7), (tagTab.getD i.val []).getD k.val 0 = 0 ∨ 3 ≤ (tagTab.getD i.val []).getD k.val 0 ∧ (tagTab.getD i.val []).getD k.val 0 ≤ 10 := by decide +kernel
  exact hall ⟨s - 3, by omega⟩ ⟨colC c, hc⟩
theorem pass_range : ∀ (L : List UInt8) (s : Nat), (s = 0 ∨ 3 ≤ s ∧ s ≤ 10) → (passL s L).2 = 0 ∨ 3 ≤ (passL s L).2 ∧ (passL s L).2 ≤ 10
  | [], s, h => h
  | c :: L, s, h => by
    unfold passL
    split
    · exact .inl rfl
    · exact pass_range L _ (next_range s (by omega) (by omega) c)
theorem insF_none {name : List UInt8} : ∀ (l : List (List UInt8)) (i : Nat), (∀ x ∈ l, name ≠ x) → insF name i l = 0
  | [], _, _ => rfl
  | x :: r, i, h => by
    unfold insF
    rw [if_neg (h x (.head _))]
    exact insF_none r (i + 1) (fun y hy => h y (.tail _ hy))
theorem inside_long {name : List UInt8} (h : 10 < name.length) : insideL name = 0 ∧ eatsL name = false := by
  refine ⟨insF_none rawNames 1 (fun x hx h2 => ?_), ?_⟩
  · subst h2
    have : ∀ y ∈ rawNames, y.length ≤ 10 := by decide +kernel
    have := this name hx
    omega
  unfold eatsL
  rw [Bool.or_eq_false_iff]
  refine ⟨beq_eq_false_iff_ne.2 (fun h2 => ?_), beq_eq_false_iff_ne.2 (fun h2 => ?_)⟩
  · rw [h2] at h; simp at h
  · rw [h2] at h; simp at h
theorem takeWhile_more {p : UInt8 → Bool} : ∀ (A B : List UInt8), (A.takeWhile p = A) ∨ (A ++ B).takeWhile p = A.takeWhile p
  | [], _ => .inl rfl
  | c :: A, B => by
    by_cases hc : p c = true
    · rcases takeWhile_more A B with h | h
      · exact .inl (by rw [List.takeWhile_cons, if_pos hc, h])
      · exact .inr (by rw [List.cons_append, List.takeWhile_cons, List.takeWhile_cons, if_pos hc, if_pos hc, h])
    · exact .inr (by rw [List.cons_append, List.takeWhile_cons, List.takeWhile_cons, if_neg hc, if_neg hc])
theorem takeWhile_ge {p : UInt8 → Bool} : ∀ {A : List UInt8} (B : List UInt8), A.takeWhile p = A → A.length ≤ ((A ++ B).takeWhile p).length
  | [], _, _ => Nat.zero_le _
  | c :: A, B, h => by
    by_cases hc : p c = true
    · rw [List.takeWhile_cons, if_pos hc] at h
      have := takeWhile_ge B (List.cons.inj h).2
      rw [List.cons_append, List.takeWhile_cons, if_pos hc, List.length_cons, List.length_cons]
      omega
    · rw [List.takeWhile_cons, if_neg hc] at h
      cases h
/-- what a long tag does to the mode is told by its first bytes -/
theorem name_long (A B : List UInt8) (h : 30 ≤ A.length) : insideL (tagNameL (A ++ B)) = insideL (tagNameL A) ∧ eatsL (tagNameL (A ++ B)) = eatsL (tagNameL A) := by
  unfold tagNameL
  rcases takeWhile_more (p := fun c => nextT 3 c == 3) A B with h1 | h1
  · have h2 := takeWhile_ge B h1
    have l1 := inside_long (name := ((A ++ B).takeWhile fun c => nextT 3 c == 3).map lowC) (by rw [List.length_map]; omega)
    have l2 := inside_long (name := (A.takeWhile fun c => nextT 3 c == 3).map lowC) (by rw [List.length_map, h1]; omega)
    rw [l1.1, l1.2, l2.1, l2.2]
    exact ⟨rfl, rfl⟩
  · rw [h1]
    exact ⟨rfl, rfl⟩

theorem tag_cases (W k : Nat) (hW : 32 ≤ W) (A : List UInt8) (st : LS) (hk0 : 1 ≤ k) (hk2 : k ≤ 2) (hk : k ≤ A.length) :
    (tagL W k A st = .more 0 st) ∨ (∃ n st' it, 0 < n ∧ n ≤ A.length ∧ st'.scan ≤ 10 ∧ ∀ B, tagL W k (A ++ B) st = .done n st' it) ∨
    (∃ st', 3 ≤ st'.scan ∧ st'.scan ≤ 10 ∧ tagL W k A st = .done A.length st' [] ∧ ∀ B, tagL W k (A ++ B) st = (skipTagRes st' B).shift A.length) := by
  have hdrop : ∀ B, (A ++ B).drop k = A.drop k ++ B := fun B => List.drop_append_of_le_length hk
  have hrange := pass_range (A.drop k) 3 (.inr ⟨by omega, by omega⟩)
  by_cases hp : (passL 3 (A.drop k)).2 = 0
  · refine .inr (.inl ?_)
    have hle : (passL 3 (A.drop k)).1 ≤ (A.drop k).length := by
      rcases pass_append (A.drop k) [] 3 with ⟨_, h, _⟩ | ⟨h, _⟩
      · exact h
      · exact absurd hp h
    refine ⟨k + (passL 3 (A.drop k)).1, ⟨if k = 1 then insideL (tagNameL ((A.drop k).take (passL 3 (A.drop k)).1)) else 0, (passL 3 (A.drop k)).2, if k = 1 then eatsL (tagNameL ((A.drop k).take (passL 3 (A.drop k)).1)) else false⟩,
      if k + (passL 3 (A.drop k)).1 ≤ W then (if k = 1 then [.start (tagNameL ((A.drop k).take (passL 3 (A.drop k)).1)) (attrsL 3 [] [] ((A.drop k).take (passL 3 (A.drop k)).1))] else [.stop (tagNameL ((A.drop k).take (passL 3 (A.drop k)).1))]) else [],
      by omega, by rw [List.length_drop] at hle; omega, by show (passL 3 (A.drop k)).2 ≤ 10; omega, fun B => ?_⟩
    have h2 : passL 3 (A.drop k ++ B) = passL 3 (A.drop k) := by
      rcases pass_append (A.drop k) B 3 with ⟨_, _, h⟩ | ⟨h, _⟩
      · exact h
      · exact absurd hp h
    unfold tagL
    simp only [hdrop, h2]
    rw [if_neg (fun h => h.2 hp), List.take_append_of_le_length hle]
  · have hlen : k + (passL 3 (A.drop k)).1 = A.length := by
      rcases pass_append (A.drop k) [] 3 with ⟨h, _⟩ | ⟨_, h, _⟩
      · exact absurd h hp
      · rw [h, List.length_drop]; omega
    by_cases hw : A.length ≤ W
    · refine .inl ?_
      unfold tagL
      simp only
      rw [if_pos ⟨by omega, hp⟩]
    · refine .inr (.inr ?_)
      have htake : (A.drop k).take (passL 3 (A.drop k)).1 = A.drop k := List.take_of_length_le (by rw [List.length_drop]; omega)
      refine ⟨⟨if k = 1 then insideL (tagNameL (A.drop k)) else 0, (passL 3 (A.drop k)).2, if k = 1 then eatsL (tagNameL (A.drop k)) else false⟩, by show 3 ≤ (passL 3 (A.drop k)).2; omega, by show (passL 3 (A.drop k)).2 ≤ 10; omega, ?_, fun B => ?_⟩
      · unfold tagL
        simp only
        rw [htake, hlen, if_neg (fun h => hw h.1), if_neg hw]
      · have h2 : passL 3 (A.drop k ++ B) = ((A.drop k).length + (passL (passL 3 (A.drop k)).2 B).1, (passL (passL 3 (A.drop k)).2 B).2) := by
          rcases pass_append (A.drop k) B 3 with ⟨h, _⟩ | ⟨_, _, h⟩
          · exact absurd h hp
          · exact h
        have hl : k + (A.drop k).length = A.length := by rw [List.length_drop]; omega
        unfold tagL skipTagRes
        simp only [hdrop, h2, Res.shift]
        have c2 : ¬ k + ((A.drop k).length + (passL (passL 3 (A.drop k)).2 B).1) ≤ W := by omega
        rw [if_neg (fun h => c2 h.1), if_neg c2]
        have ht2 : (A.drop k ++ B).take ((A.drop k).length + (passL (passL 3 (A.drop k)).2 B).1) = A.drop k ++ B.take (passL (passL 3 (A.drop k)).2 B).1 := by
          rw [List.take_append, List.take_of_length_le (by omega)]
          congr 1
          rw [Nat.add_sub_cancel_left]
        rw [ht2]
        obtain ⟨n1, n2⟩ := name_long (A.drop k) (B.take (passL (passL 3 (A.drop k)).2 B).1) (by rw [List.length_drop]; omega)
        rw [n1, n2, ← Nat.add_assoc, hl]

theorem own_stable : ∀ (o A B : List UInt8), ownL o A ≠ 1 → ownL o (A ++ B) = ownL o A
  | _, [], _, h => by unfold ownL at h; exact absurd rfl h
  | [], c :: A, B, _ => rfl
  | o :: os, c :: A, B, h => by
    rw [List.cons_append]
    unfold ownL at h ⊢
    split
    · rename_i hc
      rw [if_pos hc] at h
      exact own_stable os A B h
    · rfl
theorem own_two : ∀ (o A : List UInt8), ownL o A = 2 → o.length < A.length
  | _, [], h => by unfold ownL at h; simp at h
  | [], c :: A, _ => by simp
  | o :: os, c :: A, h => by
    unfold ownL at h
    split at h
    · have := own_two os A h
      simp only [List.length_cons]
      omega
    · simp at h
theorem byte_append (x : UInt8) : ∀ (A B : List UInt8), (∃ i, byteIdx x A = some i ∧ i < A.length ∧ A[i]? = some x ∧ byteIdx x (A ++ B) = some i) ∨ (byteIdx x A = none ∧ byteIdx x (A ++ B) = (byteIdx x B).map (· + A.length))
  | [], B => .inr ⟨rfl, by cases h : byteIdx x B <;> simp [h]⟩
  | c :: A, B => by
    by_cases hc : c = x
    · exact .inl ⟨0, by simp [byteIdx, hc], by simp, by simp [hc], by simp [byteIdx, hc]⟩
    · rcases byte_append x A B with ⟨i, h1, h2, h3, h4⟩ | ⟨h1, h2⟩
      · exact .inl ⟨i + 1, by simp [byteIdx, hc, h1], by simp; omega, by simpa using h3, by simp [byteIdx, hc, h4]⟩
      · refine .inr ⟨by simp [byteIdx, hc, h1], ?_⟩
        simp only [List.cons_append, byteIdx, if_neg hc, h2, List.length_cons]
        cases byteIdx x B <;> simp [Nat.add_assoc]
theorem com_append : ∀ (A B : List UInt8) (d : Nat), (∃ n, (comL d A).1 = some n ∧ 0 < n ∧ n ≤ A.length ∧ (comL d (A ++ B)).1 = some n) ∨
    ((comL d A).1 = none ∧ (comL d (A ++ B)).1 = (comL (comL d A).2 B).1.map (· + A.length) ∧ (comL d (A ++ B)).2 = (comL (comL d A).2 B).2)
  | [], B, d => .inr ⟨rfl, by simp only [List.nil_append, comL, List.length_nil]; cases (comL d B).1 <;> rfl, rfl⟩
  | c :: A, B, d => by
    by_cases hc : c = 62 ∧ d = 2
    · exact .inl ⟨1, by simp [comL, hc], by omega, by simp, by simp [comL, hc]⟩
    · rcases com_append A B (if c = 45 then min (d + 1) 2 else 0) with ⟨n, h1, h2, h3, h4⟩ | ⟨h1, h2, h3⟩
      · exact .inl ⟨n + 1, by simp only [comL, if_neg hc, h1]; rfl, by omega, by simp; omega, by simp only [List.cons_append, comL, if_neg hc, h4]; rfl⟩
      · refine .inr ⟨by simp only [comL, if_neg hc, h1]; rfl, ?_, ?_⟩
        · simp only [List.cons_append, comL, if_neg hc, h2, List.length_cons]
          cases (comL (comL (if c = 45 then min (d + 1) 2 else 0) A).2 B).1 <;> simp [Nat.add_assoc]
        · simp only [List.cons_append, comL, if_neg hc, h3]
/-- the dashes that stand at the end -/
theorem com_tail : ∀ (A : List UInt8) (d : Nat), d ≤ 2 → (comL d A).1 = none → (comL d A).2 ≤ 2 ∧ List.replicate (comL d A).2 45 <:+ List.replicate d 45 ++ A
  | [], d, hd, _ => ⟨hd, by simp [comL]⟩
  | c :: A, d, hd, h => by
    by_cases hc : c = 62 ∧ d = 2
    · rw [comL, if_pos hc] at h; simp at h
    · rw [comL, if_neg hc] at h ⊢
      simp only at h ⊢
      have h' : (comL (if c = 45 then min (d + 1) 2 else 0) A).1 = none := by
        cases hx : (comL (if c = 45 then min (d + 1) 2 else 0) A).1 with
        | none => rfl
        | some n => rw [hx] at h; simp at h
      obtain ⟨i1, i2⟩ := com_tail A (if c = 45 then min (d + 1) 2 else 0) (by split <;> omega) h'
      refine ⟨i1, i2.trans ?_⟩
      by_cases h45 : c = 45
      · subst h45
        rw [if_pos rfl]
        have e : List.replicate d (45 : UInt8) ++ 45 :: A = List.replicate (d + 1) 45 ++ A := by
          rw [List.replicate_succ', List.append_assoc]; rfl
        rw [e]
        rcases Nat.lt_or_ge d 2 with h2 | h2
        · rw [Nat.min_eq_left (by omega)]; exact List.suffix_refl _
        · obtain rfl : d = 2 := by omega
          exact ⟨[45], rfl⟩
      · rw [if_neg h45]
        exact ⟨List.replicate d 45 ++ [c], by simp⟩
theorem com_dashes (d : Nat) (hd : d ≤ 2) (B : List UInt8) : (comL 0 (List.replicate d 45 ++ B)).1 = (comL d B).1.map (· + d) ∧ (comL 0 (List.replicate d 45 ++ B)).2 = (comL d B).2 := by
  have h : comL 0 (List.replicate d 45) = (none, d) := by
    rcases (show d = 0 ∨ d = 1 ∨ d = 2 by omega) with rfl | rfl | rfl <;> rfl
  rcases com_append (List.replicate d 45) B 0 with ⟨n, h1, _⟩ | ⟨_, h2, h3⟩
  · rw [h] at h1; simp at h1
  · rw [h] at h2 h3
    rw [h2, h3, List.length_replicate]
    exact ⟨rfl, rfl⟩
theorem com_le : ∀ (B : List UInt8) (d : Nat), (comL d B).2 ≤ d + B.length
  | [], d => by simp [comL]
  | c :: B, d => by
    unfold comL
    split
    · exact Nat.zero_le _
    · have := com_le B (if c = 45 then min (d + 1) 2 else 0)
      have hm : (if c = 45 then min (d + 1) 2 else 0) ≤ d + 1 := by split <;> omega
      generalize (if c = 45 then min (d + 1) 2 else 0) = k at this hm ⊢
      simp only [List.length_cons]
      omega
theorem take_while (m : Nat) (p : UInt8 → Bool) (X B : List UInt8) (h : ((X.take m).takeWhile p).length = m ∨ ((X.take m).takeWhile p).length < X.length) : ((X ++ B).take m).takeWhile p = (X.take m).takeWhile p := by
  have hl := (List.takeWhile_prefix (p := p) (l := X.take m)).length_le
  rw [List.length_take] at hl
  rw [List.take_append]
  rcases h with h | h
  · rw [show m - X.length = 0 from by omega, List.take_zero, List.append_nil]
  · rcases takeWhile_more (p := p) (X.take m) (B.take (m - X.length)) with h2 | h2
    · rw [h2, List.length_take] at h
      rw [show m - X.length = 0 from by omega, List.take_zero, List.append_nil]
    · exact h2
/-- the run's end, before it is asked whether it is the end of what there is -/
def refRun (L : List UInt8) : Nat := (if L[1]? = some 35 then 2 else 1) + (((L.drop (if L[1]? = some 35 then 2 else 1)).take (32 - (if L[1]? = some 35 then 2 else 1))).takeWhile alnumC).length
theorem refEnd_eq (L : List UInt8) : refEnd L = if refRun L < 32 then (if refRun L = L.length then none else some (if L[refRun L]? = some 59 then refRun L + 1 else refRun L)) else some (refRun L) := rfl
theorem ref_stable {A : List UInt8} {e : Nat} (h : refEnd A = some e) (hA : A ≠ []) (B : List UInt8) : 0 < e ∧ e ≤ A.length ∧ refEnd (A ++ B) = some e := by
  have hpos := List.length_pos_iff.2 hA
  have h2 : 2 ≤ A.length := by
    rcases Nat.lt_or_ge A.length 2 with h1 | h1
    · exfalso
      have h3 : A[1]? = none := List.getElem?_eq_none (by omega)
      have hr : refRun A = 1 := by
        unfold refRun
        rw [h3, if_neg (by simp), List.drop_of_length_le (by omega)]
        rfl
      rw [refEnd_eq, hr, if_pos (by omega), if_pos (by omega)] at h
      simp at h
    · exact h1
  have h1 : (A ++ B)[1]? = A[1]? := List.getElem?_append_left (by omega)
  obtain ⟨s, hs⟩ : ∃ s, (if A[1]? = some 35 then 2 else 1) = s := ⟨_, rfl⟩
  have hs12 : 1 ≤ s ∧ s ≤ 2 := by rw [← hs]; split <;> omega
  have hrA : refRun A = s + (((A.drop s).take (32 - s)).takeWhile alnumC).length := by unfold refRun; rw [hs]
  have hrB : refRun (A ++ B) = s + (((A.drop s ++ B).take (32 - s)).takeWhile alnumC).length := by
    unfold refRun
    rw [h1, hs, List.drop_append_of_le_length (by omega)]
  have hl := (List.takeWhile_prefix (p := alnumC) (l := (A.drop s).take (32 - s))).length_le
  rw [List.length_take, List.length_drop] at hl
  obtain ⟨t, ht⟩ : ∃ t, (((A.drop s).take (32 - s)).takeWhile alnumC).length = t := ⟨_, rfl⟩
  rw [ht] at hrA hl
  have hcase : (t = 32 - s) ∨ (t < 32 - s ∧ s + t < A.length) := by
    rcases Nat.lt_or_ge t (32 - s) with h3 | h3
    · refine .inr ⟨h3, ?_⟩
      rcases Nat.lt_or_ge (s + t) A.length with h4 | h4
      · exact h4
      · exfalso
        rw [refEnd_eq, hrA, if_pos (by omega), if_pos (by omega)] at h
        simp at h
    · exact .inl (by omega)
  have hsame : refRun (A ++ B) = refRun A := by
    rw [hrB, hrA, take_while (32 - s) alnumC (A.drop s) B (by rw [ht, List.length_drop]; rcases hcase with h3 | h3; exact .inl h3; exact .inr (by omega)), ht]
  rcases hcase with h3 | ⟨h3, h4⟩
  · rw [refEnd_eq, hrA, if_neg (by omega)] at h
    rw [refEnd_eq, hsame, hrA, if_neg (by omega)]
    have := Option.some.inj h
    refine ⟨by omega, by omega, h⟩
  · have h5 : (A ++ B)[s + t]? = A[s + t]? := List.getElem?_append_left (by omega)
    rw [refEnd_eq, hrA, if_pos (by omega), if_neg (by omega)] at h
    rw [refEnd_eq, hsame, hrA, if_pos (by omega), if_neg (by rw [List.length_append]; omega), h5]
    refine ⟨?_, ?_, h⟩
    · have := Option.some.inj h
      rw [← this]
      split <;> omega
    · have := Option.some.inj h
      rw [← this]
      split <;> omega

/-- what a step at A comes to, whatever comes behind A -/
def Firm (W : Nat) (st : LS) (A : List UInt8) : Prop := ∃ n st' it, 0 < n ∧ n ≤ A.length ∧ st'.scan ≤ 10 ∧ ∀ B, stepL W st (A ++ B) = .done n st' it
def Soft (W : Nat) (st : LS) (A : List UInt8) : Prop :=
  ∃ n st', n ≤ A.length ∧ st'.scan ≤ 10 ∧ (stepL W st A = .more n st' ∨ (stepL W st A = .done n st' [] ∧ n = A.length)) ∧ ∀ B, A.drop n ++ B ≠ [] → stepL W st (A ++ B) = (stepL W st' (A.drop n ++ B)).shift n
theorem soft_held {W : Nat} {st : LS} {A : List UInt8} (h0 : st.scan ≤ 10) (h : stepL W st A = .more 0 st) : Soft W st A :=
  ⟨0, st, Nat.zero_le _, h0, .inl h, fun B _ => by rw [List.drop_zero, shift_zero]⟩
theorem getD_append {A B : List UInt8} {i : Nat} (h : i < A.length) : (A ++ B).getD i 0 = A.getD i 0 := by
  rw [List.getD_eq_getElem?_getD, List.getD_eq_getElem?_getD, List.getElem?_append_left h]
theorem skip_step {W : Nat} {st : LS} (h0 : 3 ≤ st.scan) (L : List UInt8) : stepL W st L = skipTagRes st L := by
  unfold stepL
  rw [if_neg (by omega), if_neg (by omega), if_pos (by omega)]
end Go.Proofs.YtialeicpelehoaaDoor

/-
  The lexer's run over a text that is cut: what each step comes to, and the whole.
-/
namespace Go.Proofs.YtialeicpelehoaaDoor

section
variable {W : Nat} {st : LS} {A : List UInt8}
theorem app_nil {R : List UInt8 → Res} (h : ∀ B, stepL W st (A ++ B) = R (A ++ B)) : stepL W st A = R A := by
  have := h []
  rwa [List.append_nil] at this
theorem byte_step {c : UInt8} (h0 : st.scan ≤ 10) (hA : A ≠ []) (h : ∀ B, stepL W st (A ++ B) = byteRes st c) : Firm W st A ∨ Soft W st A :=
  .inl ⟨1, noEat st, unitL2 st [c], by omega, List.length_pos_iff.2 hA, h0, h⟩
theorem ref_step (h0 : st.scan ≤ 10) (hA : A ≠ []) (h : ∀ B, stepL W st (A ++ B) = refRes st (A ++ B)) : Firm W st A ∨ Soft W st A := by
  cases he : refEnd A with
  | none =>
    refine .inr (soft_held h0 ?_)
    rw [app_nil h]
    unfold refRes
    rw [he]
  | some e =>
    obtain ⟨h1, h2, _⟩ := ref_stable he hA []
    refine .inl ⟨e, noEat st, unitL2 st (unr false (A.take e)), h1, h2, h0, fun B => ?_⟩
    obtain ⟨_, _, h3⟩ := ref_stable he hA B
    rw [h B]
    unfold refRes
    rw [h3]
    simp only
    rw [List.take_append_of_le_length h2]
theorem tag_step {k : Nat} (hW : 32 ≤ W) (h0 : st.scan ≤ 10) (hk0 : 1 ≤ k) (hk2 : k ≤ 2) (hk : k ≤ A.length) (h : ∀ B, stepL W st (A ++ B) = tagL W k (A ++ B) st) : Firm W st A ∨ Soft W st A := by
  have hA : stepL W st A = tagL W k A st := app_nil (R := fun L => tagL W k L st) h
  rcases tag_cases W k hW A st hk0 hk2 hk with h1 | ⟨n, st', it, a1, a2, a3, a4⟩ | ⟨st', a1, a2, a3, a4⟩
  · exact .inr (soft_held h0 (hA.trans h1))
  · exact .inl ⟨n, st', it, a1, a2, a3, fun B => (h B).trans (a4 B)⟩
  · refine .inr ⟨A.length, st', Nat.le_refl _, a2, .inr ⟨hA.trans a3, rfl⟩, fun B _ => ?_⟩
    rw [h B, a4 B, List.drop_length, List.nil_append, skip_step a1]
end

theorem comment_step (W : Nat) (st : LS) (A : List UInt8) (hs : st.scan = 1) : Firm W st A ∨ Soft W st A := by
  have hst : ∀ L, stepL W st L = commentRes st L := fun L => by unfold stepL; rw [if_pos hs]
  cases hc : (comL 0 A).1 with
  | some n =>
    have hn : 0 < n ∧ n ≤ A.length := by
      rcases com_append A [] 0 with ⟨m, h1, h2, h3, _⟩ | ⟨h1, _⟩
      · rw [hc] at h1; rw [Option.some.inj h1]; exact ⟨h2, h3⟩
      · rw [hc] at h1; cases h1
    refine .inl ⟨n, { st with scan := 0 }, [], hn.1, hn.2, by simp, fun B => ?_⟩
    rw [hst]
    unfold commentRes
    rcases com_append A B 0 with ⟨m, h1, _, _, h4⟩ | ⟨h1, _⟩
    · rw [hc] at h1
      rw [h4, Option.some.inj h1]
    · rw [hc] at h1; cases h1
  | none =>
    obtain ⟨t1, t2⟩ := com_tail A 0 (by omega) hc
    obtain ⟨F, hF⟩ := t2
    rw [List.replicate_zero, List.nil_append] at hF
    obtain ⟨d, hd⟩ : ∃ d, (comL 0 A).2 = d := ⟨_, rfl⟩
    rw [hd] at t1 hF
    have hl : F.length + d = A.length := by rw [← hF, List.length_append, List.length_replicate]
    have hdrop : A.drop (A.length - d) = List.replicate d 45 := by
      rw [← hF, List.length_append, List.length_replicate, Nat.add_sub_cancel, List.drop_left]
    refine .inr ⟨A.length - d, st, by omega, by omega, .inl ?_, fun B _ => ?_⟩
    · rw [hst]
      unfold commentRes
      rw [hc, hd]
    · rw [hst, hst, hdrop]
      unfold commentRes
      obtain ⟨c1, c2⟩ := com_dashes d t1 B
      rcases com_append A B 0 with ⟨m, h1, _⟩ | ⟨_, h2, h3⟩
      · rw [hc] at h1; cases h1
      · rw [h2, h3, c1, c2, hd]
        cases (comL d B).1 with
        | none => simp only [Option.map_none, Res.shift, List.length_append, List.length_replicate]; congr 1; have : (comL d B).2 ≤ d + B.length := com_le B d; omega
        | some m => simp only [Option.map_some, Res.shift]; congr 1; omega
theorem bogus_step (W : Nat) (st : LS) (A : List UInt8) (hs : st.scan = 2) : Firm W st A ∨ Soft W st A := by
  have hst : ∀ L, stepL W st L = bogusRes st L := fun L => by unfold stepL; rw [if_neg (by omega), if_pos hs]
  cases hc : byteIdx 62 A with
  | some n =>
    have hn : n < A.length := by
      rcases byte_append 62 A [] with ⟨m, h1, h2, _⟩ | ⟨h1, _⟩
      · rw [hc] at h1; rw [Option.some.inj h1]; exact h2
      · rw [hc] at h1; cases h1
    refine .inl ⟨n + 1, { st with scan := 0 }, [], by omega, hn, by simp, fun B => ?_⟩
    rw [hst]
    unfold bogusRes
    rcases byte_append 62 A B with ⟨m, h1, _, _, h4⟩ | ⟨h1, _⟩
    · rw [hc] at h1
      rw [h4, Option.some.inj h1]
    · rw [hc] at h1; cases h1
  | none =>
    refine .inr ⟨A.length, st, Nat.le_refl _, by omega, .inl ?_, fun B _ => ?_⟩
    · rw [hst]
      unfold bogusRes
      rw [hc]
    · rw [hst, hst, List.drop_length, List.nil_append]
      unfold bogusRes
      rcases byte_append 62 A B with ⟨m, h1, _⟩ | ⟨_, h2⟩
      · rw [hc] at h1; cases h1
      · rw [h2]
        cases byteIdx 62 B with
        | none => simp [Res.shift]
        | some m => simp only [Option.map_some, Res.shift]; congr 1; omega
theorem skip_tag_step (W : Nat) (st : LS) (A : List UInt8) (h3 : 3 ≤ st.scan) (h0 : st.scan ≤ 10) (hA : A ≠ []) : Firm W st A ∨ Soft W st A := by
  have hst : ∀ L, stepL W st L = skipTagRes st L := skip_step h3
  have hrange := pass_range A st.scan (.inr ⟨h3, h0⟩)
  by_cases hp : (passL st.scan A).2 = 0
  · have hle : (passL st.scan A).1 ≤ A.length := by
      rcases pass_append A [] st.scan with ⟨_, h, _⟩ | ⟨h, _⟩
      · exact h
      · exact absurd hp h
    have hpos : 0 < (passL st.scan A).1 := by
      cases A with
      | nil => exact absurd rfl hA
      | cons c A => unfold passL; rw [if_neg (by omega)]; simp
    refine .inl ⟨(passL st.scan A).1, { st with scan := (passL st.scan A).2 }, [], hpos, hle, by show (passL st.scan A).2 ≤ 10; omega, fun B => ?_⟩
    rw [hst]
    unfold skipTagRes
    rcases pass_append A B st.scan with ⟨_, _, h⟩ | ⟨h, _⟩
    · rw [h]
    · exact absurd hp h
  · have hlen : (passL st.scan A).1 = A.length := by
      rcases pass_append A [] st.scan with ⟨h, _⟩ | ⟨_, h, _⟩
      · exact absurd h hp
      · exact h
    refine .inr ⟨A.length, { st with scan := (passL st.scan A).2 }, Nat.le_refl _, by show (passL st.scan A).2 ≤ 10; omega, .inr ⟨?_, rfl⟩, fun B _ => ?_⟩
    · rw [hst]
      unfold skipTagRes
      rw [hlen]
    · rw [hst, List.drop_length, List.nil_append, skip_step (by show 3 ≤ (passL st.scan A).2; omega)]
      unfold skipTagRes
      rcases pass_append A B st.scan with ⟨h, _⟩ | ⟨_, _, h⟩
      · exact absurd h hp
      · rw [h]
        rfl

theorem ne_app {A : List UInt8} (hA : A ≠ []) (B : List UInt8) : (A ++ B).getD 0 0 = A.getD 0 0 := getD_append (List.length_pos_iff.2 hA)
theorem data_step (W : Nat) (hW : 32 ≤ W) (st : LS) (A : List UInt8) (hA : A ≠ []) (hs : st.scan = 0) (hm : st.mode = 0) : Firm W st A ∨ Soft W st A := by
  have hst : ∀ L, stepL W st L = dataRes W st L := fun L => by unfold stepL; rw [if_neg (by omega), if_neg (by omega), if_neg (by omega), if_pos hm]
  have h0 : st.scan ≤ 10 := by omega
  by_cases h60 : A.getD 0 0 = 60
  · have hst2 : ∀ B, stepL W st (A ++ B) = markupRes W st (A ++ B) := fun B => by rw [hst]; unfold dataRes; rw [ne_app hA, if_pos h60]
    obtain ⟨r, hr⟩ : ∃ r, A = 60 :: r := by
      cases A with
      | nil => exact absurd rfl hA
      | cons c r => exact ⟨r, by simp at h60; rw [h60]⟩
    by_cases hsp : A = [60] ∨ A = [60, 47] ∨ A = [60, 33] ∨ A = [60, 33, 45]
    · refine .inr (soft_held h0 ?_)
      rw [app_nil hst2]
      unfold markupRes
      rw [if_pos hsp]
    · have hl2 : 2 ≤ A.length := by
        rw [hr, List.length_cons]
        cases r with
        | nil => exact absurd (.inl hr) hsp
        | cons _ _ => simp
      have hspB : ∀ B, ¬ (A ++ B = [60] ∨ A ++ B = [60, 47] ∨ A ++ B = [60, 33] ∨ A ++ B = [60, 33, 45]) := by
        intro B h
        have hpre : ∀ X : List UInt8, A ++ B = X → A = X.take A.length := fun X hX => by rw [← hX, List.take_left]
        rcases h with h | h | h | h
        · have := congrArg List.length h; rw [List.length_append] at this; simp at this; omega
        · have h1 := hpre _ h
          have := congrArg List.length h; rw [List.length_append] at this; simp at this
          rw [show A.length = 2 from by omega] at h1
          exact hsp (.inr (.inl h1))
        · have h1 := hpre _ h
          have := congrArg List.length h; rw [List.length_append] at this; simp at this
          rw [show A.length = 2 from by omega] at h1
          exact hsp (.inr (.inr (.inl h1)))
        · have h1 := hpre _ h
          have := congrArg List.length h; rw [List.length_append] at this; simp at this
          rcases (show A.length = 2 ∨ A.length = 3 by omega) with e | e
          · rw [e] at h1; exact hsp (.inr (.inr (.inl h1)))
          · rw [e] at h1; exact hsp (.inr (.inr (.inr h1)))
      have g1 : ∀ B, (A ++ B).getD 1 0 = A.getD 1 0 := fun B => getD_append (by omega)
      by_cases hlet : letterC (A.getD 1 0) = true
      · refine tag_step (k := 1) hW h0 (by omega) (by omega) (by omega) (fun B => ?_)
        rw [hst2]
        unfold markupRes
        rw [if_neg (hspB B), g1, if_pos hlet]
      · by_cases hsl : A.getD 1 0 = 47
        · have hl3 : 3 ≤ A.length := by
            rcases Nat.lt_or_ge A.length 3 with h | h
            · exfalso
              rw [hr] at hsl h hsp
              cases r with
              | nil => simp at hsl
              | cons c r =>
                cases r with
                | nil => simp at hsl; exact hsp (.inr (.inl (by rw [hsl])))
                | cons _ _ => simp at h; omega
            · exact h
          have g2 : ∀ B, (A ++ B).getD 2 0 = A.getD 2 0 := fun B => getD_append (by omega)
          by_cases hlet2 : letterC (A.getD 2 0) = true
          · refine tag_step (k := 2) hW h0 (by omega) (by omega) (by omega) (fun B => ?_)
            rw [hst2]
            unfold markupRes
            rw [if_neg (hspB B), g1, g2, if_neg hlet, if_pos ⟨hsl, hlet2⟩]
          · refine .inl ⟨2, ⟨st.mode, 2, false⟩, [], by omega, by omega, by simp, fun B => ?_⟩
            rw [hst2]
            unfold markupRes
            have hnp : ¬ [60, 33, 45, 45] <+: (A ++ B) := by
              rintro ⟨t, ht⟩
              have := g1 B
              rw [← ht] at this
              rw [hsl] at this
              simp at this
            rw [if_neg (hspB B), g1, g2, if_neg hlet, if_neg (fun h => hlet2 h.2), if_neg hnp, if_pos (.inr (.inr hsl))]
        · by_cases hcm : [60, 33, 45, 45] <+: A
          · refine .inl ⟨2, ⟨st.mode, 1, false⟩, [], by omega, by omega, by simp, fun B => ?_⟩
            rw [hst2]
            unfold markupRes
            rw [if_neg (hspB B), g1, if_neg hlet, if_neg (fun h => hsl h.1), if_pos (hcm.trans (List.prefix_append A B))]
          · have hcmB : ∀ B, ¬ [60, 33, 45, 45] <+: (A ++ B) := by
              intro B h
              rcases Nat.lt_or_ge A.length 4 with h4 | h4
              · have h5 : A <+: [60, 33, 45, 45] := by
                  refine List.prefix_of_prefix_length_le (List.prefix_append A B) h (by simp; omega)
                have h6 := List.prefix_iff_eq_take.1 h5
                rcases (show A.length = 2 ∨ A.length = 3 by omega) with e | e
                · rw [e] at h6; exact hsp (.inr (.inr (.inl h6)))
                · rw [e] at h6; exact hsp (.inr (.inr (.inr h6)))
              · exact hcm (List.prefix_of_prefix_length_le h (List.prefix_append A B) (by simp; omega))
            by_cases hbg : A.getD 1 0 = 33 ∨ A.getD 1 0 = 63 ∨ A.getD 1 0 = 47
            · refine .inl ⟨2, ⟨st.mode, 2, false⟩, [], by omega, by omega, by simp, fun B => ?_⟩
              rw [hst2]
              unfold markupRes
              rw [if_neg (hspB B), g1, if_neg hlet, if_neg (fun h => hsl h.1), if_neg (hcmB B), if_pos hbg]
            · refine byte_step (c := 60) h0 hA (fun B => ?_)
              rw [hst2]
              unfold markupRes
              rw [if_neg (hspB B), g1, if_neg hlet, if_neg (fun h => hsl h.1), if_neg (hcmB B), if_neg hbg]
  · by_cases h38 : A.getD 0 0 = 38
    · refine ref_step h0 hA (fun B => ?_)
      rw [hst]
      unfold dataRes
      rw [ne_app hA, if_neg h60, if_pos h38]
    · refine byte_step (c := A.getD 0 0) h0 hA (fun B => ?_)
      rw [hst]
      unfold dataRes
      rw [ne_app hA, if_neg h60, if_neg h38]
theorem area_step (W : Nat) (hW : 32 ≤ W) (st : LS) (A : List UInt8) (hA : A ≠ []) (hs : st.scan = 0) (hm : st.mode = 1) : Firm W st A ∨ Soft W st A := by
  have hst : ∀ L, stepL W st L = areaRes W st L := fun L => by unfold stepL; rw [if_neg (by omega), if_neg (by omega), if_neg (by omega), if_neg (by omega), if_pos hm]
  have h0 : st.scan ≤ 10 := by omega
  by_cases h60 : A.getD 0 0 = 60
  · by_cases o1 : ownL (60 :: 47 :: rawL 1) A = 1
    · refine .inr (soft_held h0 ?_)
      rw [hst]
      unfold areaRes
      rw [if_pos h60]
      simp only
      rw [if_pos o1]
    · have hos := fun B => own_stable (60 :: 47 :: rawL 1) A B o1
      by_cases o2 : ownL (60 :: 47 :: rawL 1) A = 2
      · refine tag_step (k := 2) hW h0 (by omega) (by omega) (by have := own_two _ _ o2; simp only [List.length_cons] at this; omega) (fun B => ?_)
        rw [hst]
        unfold areaRes
        rw [ne_app hA, if_pos h60]
        simp only
        rw [hos B, if_neg o1, if_pos o2]
      · refine byte_step (c := 60) h0 hA (fun B => ?_)
        rw [hst]
        unfold areaRes
        rw [ne_app hA, if_pos h60]
        simp only
        rw [hos B, if_neg o1, if_neg o2]
  · by_cases h38 : A.getD 0 0 = 38
    · refine ref_step h0 hA (fun B => ?_)
      rw [hst]
      unfold areaRes
      rw [ne_app hA, if_neg h60, if_pos h38]
    · refine byte_step (c := A.getD 0 0) h0 hA (fun B => ?_)
      rw [hst]
      unfold areaRes
      rw [ne_app hA, if_neg h60, if_neg h38]
theorem raw_at {W : Nat} {st : LS} {L : List UInt8} (h10 : st.mode ≠ 10) (i : Nat) (h : byteIdx 60 L = some i) : rawRes W st L =
    if ownL (60 :: 47 :: rawL st.mode) (L.drop i) = 1 then .more i st else if ownL (60 :: 47 :: rawL st.mode) (L.drop i) = 2 then (tagL W 2 (L.drop i) st).shift i else .done (i + 1) st [] := by
  unfold rawRes
  rw [h]
  simp only
  rw [if_neg h10]
theorem raw_step (W : Nat) (hW : 32 ≤ W) (st : LS) (A : List UInt8) (hs : st.scan = 0) (hm : st.mode ≠ 0) (hm1 : st.mode ≠ 1) : Firm W st A ∨ Soft W st A := by
  have hst : ∀ L, stepL W st L = rawRes W st L := fun L => by unfold stepL; rw [if_neg (by omega), if_neg (by omega), if_neg (by omega), if_neg hm, if_neg hm1]
  have h0 : st.scan ≤ 10 := by omega
  by_cases h10 : st.mode = 10
  · have hr : ∀ L, rawRes W st L = .done L.length st [] := fun L => by
      unfold rawRes
      cases byteIdx 60 L with
      | none => rfl
      | some i => simp only; rw [if_pos h10]
    refine .inr ⟨A.length, st, Nat.le_refl _, h0, .inr ⟨(hst A).trans (hr A), rfl⟩, fun B _ => ?_⟩
    rw [hst, hst, hr, hr, List.drop_length, List.nil_append, List.length_append]
    rfl
  · cases hc : byteIdx 60 A with
    | none =>
      refine .inr ⟨A.length, st, Nat.le_refl _, h0, .inr ⟨?_, rfl⟩, fun B _ => ?_⟩
      · rw [hst]; unfold rawRes; rw [hc]
      · rw [hst, hst, List.drop_length, List.nil_append]
        rcases byte_append 60 A B with ⟨m, h1, _⟩ | ⟨_, h2⟩
        · rw [hc] at h1; cases h1
        · cases hb : byteIdx 60 B with
          | none =>
            rw [hb] at h2
            unfold rawRes
            rw [h2, hb]
            simp [Res.shift]
          | some m =>
            rw [hb] at h2
            have hd : (A ++ B).drop (m + A.length) = B.drop m := by rw [Nat.add_comm, ← List.drop_drop, List.drop_left]
            rw [raw_at h10 _ h2, raw_at h10 _ hb, hd]
            split
            · simp only [Res.shift]; rw [Nat.add_comm]
            · split
              · rw [shift_shift, Nat.add_comm]
              · simp only [Res.shift]; congr 1; omega
    | some i =>
      obtain ⟨hi, hx⟩ : i < A.length ∧ A[i]? = some 60 := by
        rcases byte_append 60 A [] with ⟨m, h1, h2, h3, _⟩ | ⟨h1, _⟩
        · rw [hc] at h1; rw [Option.some.inj h1]; exact ⟨h2, h3⟩
        · rw [hc] at h1; cases h1
      have hcB : ∀ B, byteIdx 60 (A ++ B) = some i := fun B => by
        rcases byte_append 60 A B with ⟨m, h1, _, _, h4⟩ | ⟨h1, _⟩
        · rw [hc] at h1; rw [h4, Option.some.inj h1]
        · rw [hc] at h1; cases h1
      have hd : ∀ B, (A ++ B).drop i = A.drop i ++ B := fun B => List.drop_append_of_le_length (by omega)
      have hat : ∀ B, byteIdx 60 (A.drop i ++ B) = some 0 := fun B => by
        obtain ⟨h1, h2⟩ := List.getElem?_eq_some_iff.1 hx
        rw [List.drop_eq_getElem_cons h1, h2]
        simp [byteIdx]
      have hne : A.drop i ≠ [] := by
        intro h
        have := congrArg List.length h
        rw [List.length_drop] at this
        simp at this
        omega
      by_cases o1 : ownL (60 :: 47 :: rawL st.mode) (A.drop i) = 1
      · refine .inr ⟨i, st, by omega, h0, .inl ?_, fun B _ => ?_⟩
        · rw [hst, raw_at h10 _ hc, if_pos o1]
        · rw [hst, hst, raw_at h10 _ (hcB B), raw_at h10 _ (hat B), hd, List.drop_zero]
          split
          · simp [Res.shift]
          · split
            · rw [shift_shift, Nat.add_zero]
            · simp [Res.shift]
      · have hos := fun B => own_stable (60 :: 47 :: rawL st.mode) (A.drop i) B o1
        by_cases o2 : ownL (60 :: 47 :: rawL st.mode) (A.drop i) = 2
        · have hstB : ∀ B, stepL W st (A ++ B) = (tagL W 2 (A.drop i ++ B) st).shift i := fun B => by
            rw [hst, raw_at h10 _ (hcB B), hd, hos B, if_neg o1, if_pos o2]
          have hstA : stepL W st A = (tagL W 2 (A.drop i) st).shift i := by
            have := hstB []
            rwa [List.append_nil, List.append_nil] at this
          have hk : 2 ≤ (A.drop i).length := by have := own_two _ _ o2; simp only [List.length_cons] at this; omega
          rcases tag_cases W 2 hW (A.drop i) st (by omega) (by omega) hk with h1 | ⟨n, st', it, a1, a2, a3, a4⟩ | ⟨st', a1, a2, a3, a4⟩
          · refine .inr ⟨i, st, by omega, h0, .inl ?_, fun B _ => ?_⟩
            · rw [hstA, h1]; simp [Res.shift]
            · rw [hstB, hst, raw_at h10 _ (hat B), List.drop_zero, hos B, if_neg o1, if_pos o2, shift_zero]
          · refine .inl ⟨i + n, st', it, by omega, by rw [List.length_drop] at a2; omega, a3, fun B => ?_⟩
            rw [hstB, a4]; rfl
          · have hl : i + (A.drop i).length = A.length := by rw [List.length_drop]; omega
            refine .inr ⟨A.length, st', Nat.le_refl _, a2, .inr ⟨?_, rfl⟩, fun B _ => ?_⟩
            · rw [hstA, a3]; simp only [Res.shift]; rw [hl]
            · rw [hstB, a4, List.drop_length, List.nil_append, skip_step a1, shift_shift, hl]
        · refine .inl ⟨i + 1, st, [], by omega, by omega, h0, fun B => ?_⟩
          rw [hst, raw_at h10 _ (hcB B), hd, hos B, if_neg o1, if_neg o2]
theorem step_cases (W : Nat) (hW : 32 ≤ W) (st : LS) (h0 : st.scan ≤ 10) (A : List UInt8) (hA : A ≠ []) : Firm W st A ∨ Soft W st A := by
  by_cases h1 : st.scan = 1
  · exact comment_step W st A h1
  · by_cases h2 : st.scan = 2
    · exact bogus_step W st A h2
    · by_cases h3 : st.scan = 0
      · by_cases m0 : st.mode = 0
        · exact data_step W hW st A hA h3 m0
        · by_cases m1 : st.mode = 1
          · exact area_step W hW st A hA h3 m1
          · exact raw_step W hW st A h3 m0 m1
      · exact skip_tag_step W st A (by omega) h0 hA
end Go.Proofs.YtialeicpelehoaaDoor

/-
  The lexer's run over pieces is the run over the whole.
-/
namespace Go.Proofs.YtialeicpelehoaaDoor

theorem step_pos {W : Nat} (hW : 32 ≤ W) {st : LS} (h0 : st.scan ≤ 10) {L : List UInt8} (hL : L ≠ []) {n : Nat} {st' : LS} {it : List Item} (h : stepL W st L = .done n st' it) : 0 < n ∧ n ≤ L.length ∧ st'.scan ≤ 10 := by
  rcases step_cases W hW st h0 L hL with ⟨m, s, i, a1, a2, a3, a4⟩ | ⟨m, s, a1, a2, a3, _⟩
  · have := a4 []
    rw [List.append_nil, h] at this
    cases this
    exact ⟨a1, a2, a3⟩
  · rcases a3 with a3 | ⟨a3, a4⟩
    · rw [h] at a3; cases a3
    · rw [h] at a3
      cases a3
      exact ⟨by rw [a4]; exact List.length_pos_iff.2 hL, a1, a2⟩
theorem step_more {W : Nat} (hW : 32 ≤ W) {st : LS} (h0 : st.scan ≤ 10) {L : List UInt8} (hL : L ≠ []) {n : Nat} {st' : LS} (h : stepL W st L = .more n st') : n ≤ L.length ∧ st'.scan ≤ 10 := by
  rcases step_cases W hW st h0 L hL with ⟨m, s, i, a1, a2, a3, a4⟩ | ⟨m, s, a1, a2, a3, _⟩
  · have := a4 []
    rw [List.append_nil, h] at this
    cases this
  · rcases a3 with a3 | ⟨a3, _⟩
    · rw [h] at a3
      cases a3
      exact ⟨a1, a2⟩
    · rw [h] at a3; cases a3
theorem runF_fuel {W : Nat} (hW : 32 ≤ W) : ∀ (f g : Nat) (st : LS) (L : List UInt8), st.scan ≤ 10 → L.length ≤ f → L.length ≤ g → runF W f st L = runF W g st L
  | 0, 0, _, _, _, _, _ => rfl
  | 0, g + 1, st, L, _, h, _ => by
    obtain rfl := List.length_eq_zero_iff.1 (Nat.le_zero.1 h)
    rfl
  | f + 1, 0, st, L, _, _, h => by
    obtain rfl := List.length_eq_zero_iff.1 (Nat.le_zero.1 h)
    rfl
  | f + 1, g + 1, st, L, h0, hf, hg => by
    unfold runF
    by_cases hL : L = []
    · rw [if_pos hL, if_pos hL]
    · rw [if_neg hL, if_neg hL]
      cases hs : stepL W st L with
      | more n st' => rfl
      | done n st' it =>
        obtain ⟨h1, h2, h3⟩ := step_pos hW h0 hL hs
        simp only
        rw [runF_fuel hW f g st' (L.drop n) h3 (by rw [List.length_drop]; omega) (by rw [List.length_drop]; omega)]
theorem run_nil (W : Nat) (st : LS) : runL W st [] = (st, [], []) := rfl
theorem run_more {W : Nat} {st : LS} {L : List UInt8} (hL : L ≠ []) {n : Nat} {st' : LS} (h : stepL W st L = .more n st') : runL W st L = (st', L.drop n, []) := by
  unfold runL
  cases L with
  | nil => exact absurd rfl hL
  | cons c r =>
    rw [List.length_cons]
    unfold runF
    rw [if_neg hL, h]
theorem run_done {W : Nat} (hW : 32 ≤ W) {st : LS} (h0 : st.scan ≤ 10) {L : List UInt8} (hL : L ≠ []) {n : Nat} {st' : LS} {it : List Item} (h : stepL W st L = .done n st' it) :
    runL W st L = ((runL W st' (L.drop n)).1, (runL W st' (L.drop n)).2.1, it ++ (runL W st' (L.drop n)).2.2) := by
  obtain ⟨h1, h2, h3⟩ := step_pos hW h0 hL h
  unfold runL
  cases L with
  | nil => exact absurd rfl hL
  | cons c r =>
    rw [List.length_cons, runF, if_neg hL, h]
    simp only
    rw [runF_fuel hW r.length ((c :: r).drop n).length st' ((c :: r).drop n) h3 (by rw [List.length_drop, List.length_cons]; omega) (Nat.le_refl _)]
theorem run_scan {W : Nat} (hW : 32 ≤ W) : ∀ (N : Nat) (st : LS) (L : List UInt8), st.scan ≤ 10 → L.length ≤ N → (runL W st L).1.scan ≤ 10
  | _, st, [], h0, _ => h0
  | 0, st, c :: r, _, h => by simp at h
  | N + 1, st, c :: r, h0, h => by
    cases hs : stepL W st (c :: r) with
    | more n st' => rw [run_more (by simp) hs]; exact (step_more hW h0 (by simp) hs).2
    | done n st' it =>
      obtain ⟨h1, h2, h3⟩ := step_pos hW h0 (by simp) hs
      rw [run_done hW h0 (by simp) hs]
      exact run_scan hW N st' _ h3 (by rw [List.length_drop]; omega)
/-- where a step leaves part of the bytes, they are taken up as if they had come at once -/
theorem run_shift {W : Nat} (hW : 32 ≤ W) {st st' : LS} (h0 : st.scan ≤ 10) (h0' : st'.scan ≤ 10) {n : Nat} {X Y : List UInt8} (hX : X ≠ []) (hY : Y ≠ []) (hd : Y.drop n = X) (h : stepL W st Y = (stepL W st' X).shift n) : runL W st Y = runL W st' X := by
  cases hs : stepL W st' X with
  | more m s =>
    rw [hs] at h
    rw [run_more hX hs, run_more hY h, ← hd, List.drop_drop]
  | done m s it =>
    rw [hs] at h
    rw [run_done hW h0' hX hs, run_done hW h0 hY h, ← hd, List.drop_drop]
theorem run_cut {W : Nat} (hW : 32 ≤ W) : ∀ (N : Nat) (st : LS) (A B : List UInt8), st.scan ≤ 10 → A.length ≤ N →
    runL W st (A ++ B) = ((runL W (runL W st A).1 ((runL W st A).2.1 ++ B)).1, (runL W (runL W st A).1 ((runL W st A).2.1 ++ B)).2.1, (runL W st A).2.2 ++ (runL W (runL W st A).1 ((runL W st A).2.1 ++ B)).2.2)
  | _, st, [], B, _, _ => by rw [run_nil]; rfl
  | 0, st, c :: r, B, _, h => by simp at h
  | N + 1, st, c :: r, B, h0, h => by
    have hA : c :: r ≠ [] := by simp
    have hAB : c :: r ++ B ≠ [] := by simp
    rcases step_cases W hW st h0 (c :: r) hA with ⟨n, st', it, a1, a2, a3, a4⟩ | ⟨n, st', a1, a2, a3, a4⟩
    · have s1 : stepL W st (c :: r) = .done n st' it := by have := a4 []; rwa [List.append_nil] at this
      have ih := run_cut hW N st' ((c :: r).drop n) B a3 (by rw [List.length_drop]; omega)
      rw [run_done hW h0 hA s1, run_done hW h0 hAB (a4 B), List.drop_append_of_le_length a2, ih]
      simp only [List.append_assoc]
    · have hr : runL W st (c :: r) = (st', (c :: r).drop n, []) := by
        rcases a3 with a3 | ⟨a3, a5⟩
        · exact run_more hA a3
        · rw [run_done hW h0 hA a3, a5, List.drop_length, run_nil]
          rfl
      rw [hr]
      simp only [List.nil_append]
      by_cases hX : (c :: r).drop n ++ B = []
      · have hB : B = [] := (List.append_eq_nil_iff.1 hX).2
        have hD : (c :: r).drop n = [] := (List.append_eq_nil_iff.1 hX).1
        rw [hB, List.append_nil, List.append_nil, hr, hD, run_nil]
      · rw [run_shift hW h0 a2 hX hAB (List.drop_append_of_le_length a1) (a4 B hX)]
/-- what is held needs more bytes: run again it gives nothing -/
theorem run_again {W : Nat} (hW : 32 ≤ W) (st : LS) (A : List UInt8) (h0 : st.scan ≤ 10) : runL W (runL W st A).1 (runL W st A).2.1 = ((runL W st A).1, (runL W st A).2.1, []) := by
  have h := run_cut hW A.length st A [] h0 (Nat.le_refl _)
  rw [List.append_nil, List.append_nil] at h
  have h1 := congrArg (fun x => x.1) h
  have h2 := congrArg (fun x => x.2.1) h
  have h3 := congrArg (fun x => x.2.2) h
  simp only at h1 h2 h3
  have h4 : (runL W (runL W st A).1 (runL W st A).2.1).2.2 = [] := by
    have := congrArg List.length h3
    rw [List.length_append] at this
    exact List.eq_nil_of_length_eq_zero (by omega)
  exact Prod.ext h1.symm (Prod.ext h2.symm h4)

/-! ## what is held is short -/

theorem own_held : ∀ (o A : List UInt8), ownL o A = 1 → A.length ≤ o.length
  | _, [], _ => Nat.zero_le _
  | [], c :: A, h => by unfold ownL at h; split at h <;> simp at h
  | o :: os, c :: A, h => by
    unfold ownL at h
    split at h
    · have := own_held os A h
      simp only [List.length_cons]
      omega
    · simp at h
theorem raw_len (m : Nat) : (rawL m).length ≤ 10 := by
  unfold rawL
  rw [List.getD_eq_getElem?_getD]
  cases h : rawNames[m - 1]? with
  | none => simp
  | some x =>
    have : ∀ y ∈ rawNames, y.length ≤ 10 := by decide +kernel
    exact this x (List.mem_of_getElem? h)
theorem tag_held {W k n : Nat} {L : List UInt8} {st st' : LS} (hk : k ≤ L.length) (h : tagL W k L st = .more n st') : L.length ≤ W ∧ n = 0 := by
  unfold tagL at h
  simp only at h
  split at h
  · rename_i hc
    simp only [Res.more.injEq] at h
    refine ⟨?_, h.1.symm⟩
    rcases pass_append (L.drop k) [] 3 with ⟨h1, _⟩ | ⟨_, h1, _⟩
    · exact absurd h1 hc.2
    · have := hc.1
      rw [h1, List.length_drop] at this
      omega
  · cases h
theorem ref_held {n : Nat} {L : List UInt8} {st st' : LS} (h : refRes st L = .more n st') : L.length < 32 ∧ n = 0 := by
  unfold refRes at h
  split at h
  · rename_i hr
    simp only [Res.more.injEq] at h
    refine ⟨?_, h.1.symm⟩
    rw [refEnd_eq] at hr
    split at hr
    · split at hr
      · omega
      · cases hr
    · cases hr
  · cases h
theorem step_held {W : Nat} (hW : 32 ≤ W) {st : LS} {L : List UInt8} {n : Nat} {st' : LS} (h : stepL W st L = .more n st') : L.length - n ≤ W := by
  unfold stepL at h
  split at h
  · unfold commentRes at h
    split at h
    · cases h
    · rename_i hc
      simp only [Res.more.injEq] at h
      have := (com_tail L 0 (by omega) hc).1
      omega
  · split at h
    · unfold bogusRes at h
      split at h
      · cases h
      · simp only [Res.more.injEq] at h
        omega
    · split at h
      · unfold skipTagRes at h; cases h
      · split at h
        · unfold dataRes at h
          split at h
          · rename_i h60
            unfold markupRes at h
            split at h
            · rename_i hs
              rcases hs with hs | hs | hs | hs <;> (rw [hs]; simp; omega)
            · split at h
              · rename_i hs hl
                have hk : 1 ≤ L.length := by
                  cases L with
                  | nil => simp at h60
                  | cons _ _ => simp
                have := (tag_held hk h).1
                omega
              · split at h
                · rename_i hl
                  have hk : 2 ≤ L.length := by
                    cases L with
                    | nil => simp at h60
                    | cons _ r =>
                      cases r with
                      | nil => simp at hl
                      | cons _ _ => simp
                  have := (tag_held hk h).1
                  omega
                · split at h
                  · cases h
                  · split at h
                    · cases h
                    · unfold byteRes at h; cases h
          · split at h
            · have := ref_held h; omega
            · unfold byteRes at h; cases h
        · split at h
          · unfold areaRes at h
            split at h
            · simp only at h
              split at h
              · rename_i ho
                have h1 := own_held _ _ ho
                have h2 := raw_len 1
                simp only [List.length_cons] at h1
                omega
              · split at h
                · rename_i ho
                  have h1 := own_two _ _ ho
                  simp only [List.length_cons] at h1
                  have := (tag_held (by omega) h).1
                  omega
                · unfold byteRes at h; cases h
            · split at h
              · have := ref_held h; omega
              · unfold byteRes at h; cases h
          · unfold rawRes at h
            split at h
            · cases h
            · rename_i i hi
              split at h
              · cases h
              · simp only at h
                split at h
                · rename_i ho
                  have h1 := own_held _ _ ho
                  have h2 := raw_len st.mode
                  simp only [Res.more.injEq] at h
                  simp only [List.length_cons, List.length_drop] at h1
                  omega
                · split at h
                  · rename_i ho
                    have h1 := own_two _ _ ho
                    simp only [List.length_cons] at h1
                    cases ht : tagL W 2 (L.drop i) st with
                    | more m s =>
                      rw [ht] at h
                      simp only [Res.shift, Res.more.injEq] at h
                      have h2 := tag_held (by omega) ht
                      rw [List.length_drop] at h2
                      omega
                    | done m s it =>
                      rw [ht] at h
                      cases h
                  · cases h
theorem run_held {W : Nat} (hW : 32 ≤ W) : ∀ (N : Nat) (st : LS) (L : List UInt8), st.scan ≤ 10 → L.length ≤ N → (runL W st L).2.1.length ≤ W
  | _, st, [], _, _ => by rw [run_nil]; simp
  | 0, st, c :: r, _, h => by simp at h
  | N + 1, st, c :: r, h0, h => by
    cases hs : stepL W st (c :: r) with
    | more n st' =>
      rw [run_more (by simp) hs]
      have := step_held hW hs
      simp only [List.length_drop]
      exact this
    | done n st' it =>
      obtain ⟨h1, h2, h3⟩ := step_pos hW h0 (by simp) hs
      rw [run_done hW h0 (by simp) hs]
      exact run_held hW N st' _ h3 (by rw [List.length_drop]; omega)
end Go.Proofs.YtialeicpelehoaaDoor
