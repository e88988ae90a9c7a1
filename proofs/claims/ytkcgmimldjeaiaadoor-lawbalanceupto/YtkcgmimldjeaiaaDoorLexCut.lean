/-
  A text may be cut anywhere: the run over the whole is the run over its first part and then over what that holds and the rest.
-/
import Derived.Test.YtkcgmimldjeaiaaDoorLex
namespace Go.Proofs.YtkcgmimldjeaiaaDoor

theorem shift_zero (r : Res) : r.shift 0 = r := by cases r <;> simp [Res.shift]
theorem shift_shift (r : Res) (a b : Nat) : (r.shift a).shift b = r.shift (b + a) := by cases r <;> simp [Res.shift, Nat.add_assoc]

theorem pass_append : ∀ (A B : List UInt8) (s : Nat), ((passL s A).2 = 0 ∧ (passL s A).1 ≤ A.length ∧ passL s (A ++ B) = passL s A) ∨
    ((passL s A).2 ≠ 0 ∧ (passL s A).1 = A.length ∧ passL s (A ++ B) = (A.length + (passL (passL s A).2 B).1, (passL (passL s A).2 B).2))
  | [], B, s => by
    by_cases hs : s = 0
    · subst hs
      refine .inl ⟨rfl, by simp [passL], ?_⟩
      cases B <;> simp [passL]
    · exact .inr ⟨hs, rfl, by simp [passL]⟩
  | c :: A, B, s => by
    by_cases hs : s = 0
    · subst hs
      exact .inl ⟨by simp [passL], by simp [passL], by simp [passL]⟩
    · have ih := pass_append A B (nextT s c)
      simp only [List.cons_append, passL, if_neg hs, List.length_cons]
      rcases ih with ⟨h1, h2, h3⟩ | ⟨h1, h2, h3⟩
      · exact .inl ⟨h1, by omega, by rw [h3]⟩
      · refine .inr ⟨h1, by omega, ?_⟩
        rw [h3]
        simp only [Prod.mk.injEq, and_true]
        omega
theorem next_range (s : Nat) (h0 : 3 ≤ s) (h1 : s ≤ 10) (c : UInt8) : nextT s c = 0 ∨ 3 ≤ nextT s c ∧ nextT s c ≤ 10 := by
  have hc : colC c < 7 := by unfold colC; (repeat' split) <;> omega
  have hall : ∀ (i : Fin 8) (k : Fin 7), (tagTab.getD i.val []).getD k.val 0 = 0 ∨ 3 ≤ (tagTab.getD i.val []).getD k.val 0 ∧ (tagTab.getD i.val []).getD k.val 0 ≤ 10 := by decide +kernel
  exact hall ⟨s - 3, by omega⟩ ⟨colC c, hc⟩
theorem pass_range : ∀ (L : List UInt8) (s : Nat), (s = 0 ∨ 3 ≤ s ∧ s ≤ 10) → (passL s L).2 = 0 ∨ 3 ≤ (passL s L).2 ∧ (passL s L).2 ≤ 10
  | [], s, h => h
  | c :: L, s, h => by
    unfold passL
    split
    · exact .inl rfl
    · exact pass_range L _ (next_range s (by omega) (by omega) c)
theorem insF_none {name : List UInt8} : ∀ (l : List (List UInt8)) (i : Nat), (∀ x ∈ l, name ≠ x) → insF name i l = 0
  | [], _, _ => rfl
  | x :: r, i, h => by
    unfold insF
    rw [if_neg (h x (.head _))]
    exact insF_none r (i + 1) (fun y hy => h y (.tail _ hy))
theorem inside_long {name : List UInt8} (h : 10 < name.length) : insideL name = 0 ∧ eatsL name = false := by
  refine ⟨insF_none rawNames 1 (fun x hx h2 => ?_), ?_⟩
  · subst h2
    have : ∀ y ∈ rawNames, y.length ≤ 10 := by decide +kernel
    have := this name hx
    omega
  unfold eatsL
  rw [Bool.or_eq_false_iff]
  refine ⟨beq_eq_false_iff_ne.2 (fun h2 => ?_), beq_eq_false_iff_ne.2 (fun h2 => ?_)⟩
  · rw [h2] at h; simp at h
  · rw [h2] at h; simp at h
theorem takeWhile_more {p : UInt8 → Bool} : ∀ (A B : List UInt8), (A.takeWhile p = A) ∨ (A ++ B).takeWhile p = A.takeWhile p
  | [], _ => .inl rfl
  | c :: A, B => by
    by_cases hc : p c = true
    · rcases takeWhile_more A B with h | h
      · exact .inl (by rw [List.takeWhile_cons, if_pos hc, h])
      · exact .inr (by rw [List.cons_append, List.takeWhile_cons, List.takeWhile_cons, if_pos hc, if_pos hc, h])
    · exact .inr (by rw [List.cons_append, List.takeWhile_cons, List.takeWhile_cons, if_neg hc, if_neg hc])
theorem takeWhile_ge {p : UInt8 → Bool} : ∀ {A : List UInt8} (B : List UInt8), A.takeWhile p = A → A.length ≤ ((A ++ B).takeWhile p).length
  | [], _, _ => Nat.zero_le _
  | c :: A, B, h => by
    by_cases hc : p c = true
    · rw [List.takeWhile_cons, if_pos hc] at h
      have := takeWhile_ge B (List.cons.inj h).2
      rw [List.cons_append, List.takeWhile_cons, if_pos hc, List.length_cons, List.length_cons]
      omega
    · rw [List.takeWhile_cons, if_neg hc] at h
      cases h
/-- what a long tag does to the mode is told by its first bytes -/
theorem name_long (A B : List UInt8) (h : 30 ≤ A.length) : insideL (tagNameL (A ++ B)) = insideL (tagNameL A) ∧ eatsL (tagNameL (A ++ B)) = eatsL (tagNameL A) := by
  unfold tagNameL
  rcases takeWhile_more (p := fun c => nextT 3 c == 3) A B with h1 | h1
  · have h2 := takeWhile_ge B h1
    have l1 := inside_long (name := ((A ++ B).takeWhile fun c => nextT 3 c == 3).map lowC) (by rw [List.length_map]; omega)
    have l2 := inside_long (name := (A.takeWhile fun c => nextT 3 c == 3).map lowC) (by rw [List.length_map, h1]; omega)
    rw [l1.1, l1.2, l2.1, l2.2]
    exact ⟨rfl, rfl⟩
  · rw [h1]
    exact ⟨rfl, rfl⟩

theorem tag_cases (W k : Nat) (hW : 32 ≤ W) (A : List UInt8) (st : LS) (hk0 : 1 ≤ k) (hk2 : k ≤ 2) (hk : k ≤ A.length) :
    (tagL W k A st = .more 0 st) ∨ (∃ n st' it, 0 < n ∧ n ≤ A.length ∧ st'.scan ≤ 10 ∧ ∀ B, tagL W k (A ++ B) st = .done n st' it) ∨
    (∃ st', 3 ≤ st'.scan ∧ st'.scan ≤ 10 ∧ tagL W k A st = .done A.length st' [] ∧ ∀ B, tagL W k (A ++ B) st = (skipTagRes st' B).shift A.length) := by
  have hdrop : ∀ B, (A ++ B).drop k = A.drop k ++ B := fun B => List.drop_append_of_le_length hk
  have hrange := pass_range (A.drop k) 3 (.inr ⟨by omega, by omega⟩)
  by_cases hp : (passL 3 (A.drop k)).2 = 0
  · refine .inr (.inl ?_)
    have hle : (passL 3 (A.drop k)).1 ≤ (A.drop k).length := by
      rcases pass_append (A.drop k) [] 3 with ⟨_, h, _⟩ | ⟨h, _⟩
      · exact h
      · exact absurd hp h
    refine ⟨k + (passL 3 (A.drop k)).1, ⟨if k = 1 then insideL (tagNameL ((A.drop k).take (passL 3 (A.drop k)).1)) else 0, (passL 3 (A.drop k)).2, if k = 1 then eatsL (tagNameL ((A.drop k).take (passL 3 (A.drop k)).1)) else false⟩,
      if k + (passL 3 (A.drop k)).1 ≤ W then (if k = 1 then [.start (tagNameL ((A.drop k).take (passL 3 (A.drop k)).1)) (attrsL 3 [] [] ((A.drop k).take (passL 3 (A.drop k)).1))] else [.stop (tagNameL ((A.drop k).take (passL 3 (A.drop k)).1))]) else [],
      by omega, by rw [List.length_drop] at hle; omega, by show (passL 3 (A.drop k)).2 ≤ 10; omega, fun B => ?_⟩
    have h2 : passL 3 (A.drop k ++ B) = passL 3 (A.drop k) := by
      rcases pass_append (A.drop k) B 3 with ⟨_, _, h⟩ | ⟨h, _⟩
      · exact h
      · exact absurd hp h
    unfold tagL
    simp only [hdrop, h2]
    rw [if_neg (fun h => h.2 hp), List.take_append_of_le_length hle]
  · have hlen : k + (passL 3 (A.drop k)).1 = A.length := by
      rcases pass_append (A.drop k) [] 3 with ⟨h, _⟩ | ⟨_, h, _⟩
      · exact absurd h hp
      · rw [h, List.length_drop]; omega
    by_cases hw : A.length ≤ W
    · refine .inl ?_
      unfold tagL
      simp only
      rw [if_pos ⟨by omega, hp⟩]
    · refine .inr (.inr ?_)
      have htake : (A.drop k).take (passL 3 (A.drop k)).1 = A.drop k := List.take_of_length_le (by rw [List.length_drop]; omega)
      refine ⟨⟨if k = 1 then insideL (tagNameL (A.drop k)) else 0, (passL 3 (A.drop k)).2, if k = 1 then eatsL (tagNameL (A.drop k)) else false⟩, by show 3 ≤ (passL 3 (A.drop k)).2; omega, by show (passL 3 (A.drop k)).2 ≤ 10; omega, ?_, fun B => ?_⟩
      · unfold tagL
        simp only
        rw [htake, hlen, if_neg (fun h => hw h.1), if_neg hw]
      · have h2 : passL 3 (A.drop k ++ B) = ((A.drop k).length + (passL (passL 3 (A.drop k)).2 B).1, (passL (passL 3 (A.drop k)).2 B).2) := by
          rcases pass_append (A.drop k) B 3 with ⟨h, _⟩ | ⟨_, _, h⟩
          · exact absurd h hp
          · exact h
        have hl : k + (A.drop k).length = A.length := by rw [List.length_drop]; omega
        unfold tagL skipTagRes
        simp only [hdrop, h2, Res.shift]
        have c2 : ¬ k + ((A.drop k).length + (passL (passL 3 (A.drop k)).2 B).1) ≤ W := by omega
        rw [if_neg (fun h => c2 h.1), if_neg c2]
        have ht2 : (A.drop k ++ B).take ((A.drop k).length + (passL (passL 3 (A.drop k)).2 B).1) = A.drop k ++ B.take (passL (passL 3 (A.drop k)).2 B).1 := by
          rw [List.take_append, List.take_of_length_le (by omega)]
          congr 1
          rw [Nat.add_sub_cancel_left]
        rw [ht2]
        obtain ⟨n1, n2⟩ := name_long (A.drop k) (B.take (passL (passL 3 (A.drop k)).2 B).1) (by rw [List.length_drop]; omega)
        rw [n1, n2, ← Nat.add_assoc, hl]

theorem own_stable : ∀ (o A B : List UInt8), ownL o A ≠ 1 → ownL o (A ++ B) = ownL o A
  | _, [], _, h => by unfold ownL at h; exact absurd rfl h
  | [], c :: A, B, _ => rfl
  | o :: os, c :: A, B, h => by
    rw [List.cons_append]
    unfold ownL at h ⊢
    split
    · rename_i hc
      rw [if_pos hc] at h
      exact own_stable os A B h
    · rfl
theorem own_two : ∀ (o A : List UInt8), ownL o A = 2 → o.length < A.length
  | _, [], h => by unfold ownL at h; simp at h
  | [], c :: A, _ => by simp
  | o :: os, c :: A, h => by
    unfold ownL at h
    split at h
    · have := own_two os A h
      simp only [List.length_cons]
      omega
    · simp at h
theorem byte_append (x : UInt8) : ∀ (A B : List UInt8), (∃ i, byteIdx x A = some i ∧ i < A.length ∧ A[i]? = some x ∧ byteIdx x (A ++ B) = some i) ∨ (byteIdx x A = none ∧ byteIdx x (A ++ B) = (byteIdx x B).map (· + A.length))
  | [], B => .inr ⟨rfl, by cases h : byteIdx x B <;> simp [h]⟩
  | c :: A, B => by
    by_cases hc : c = x
    · exact .inl ⟨0, by simp [byteIdx, hc], by simp, by simp [hc], by simp [byteIdx, hc]⟩
    · rcases byte_append x A B with ⟨i, h1, h2, h3, h4⟩ | ⟨h1, h2⟩
      · exact .inl ⟨i + 1, by simp [byteIdx, hc, h1], by simp; omega, by simpa using h3, by simp [byteIdx, hc, h4]⟩
      · refine .inr ⟨by simp [byteIdx, hc, h1], ?_⟩
        simp only [List.cons_append, byteIdx, if_neg hc, h2, List.length_cons]
        cases byteIdx x B <;> simp [Nat.add_assoc]
theorem com_append : ∀ (A B : List UInt8) (d : Nat), (∃ n, (comL d A).1 = some n ∧ 0 < n ∧ n ≤ A.length ∧ (comL d (A ++ B)).1 = some n) ∨
    ((comL d A).1 = none ∧ (comL d (A ++ B)).1 = (comL (comL d A).2 B).1.map (· + A.length) ∧ (comL d (A ++ B)).2 = (comL (comL d A).2 B).2)
  | [], B, d => .inr ⟨rfl, by simp only [List.nil_append, comL, List.length_nil]; cases (comL d B).1 <;> rfl, rfl⟩
  | c :: A, B, d => by
    by_cases hc : c = 62 ∧ d = 2
    · exact .inl ⟨1, by simp [comL, hc], by omega, by simp, by simp [comL, hc]⟩
    · rcases com_append A B (if c = 45 then min (d + 1) 2 else 0) with ⟨n, h1, h2, h3, h4⟩ | ⟨h1, h2, h3⟩
      · exact .inl ⟨n + 1, by simp only [comL, if_neg hc, h1]; rfl, by omega, by simp; omega, by simp only [List.cons_append, comL, if_neg hc, h4]; rfl⟩
      · refine .inr ⟨by simp only [comL, if_neg hc, h1]; rfl, ?_, ?_⟩
        · simp only [List.cons_append, comL, if_neg hc, h2, List.length_cons]
          cases (comL (comL (if c = 45 then min (d + 1) 2 else 0) A).2 B).1 <;> simp [Nat.add_assoc]
        · simp only [List.cons_append, comL, if_neg hc, h3]
/-- the dashes that stand at the end -/
theorem com_tail : ∀ (A : List UInt8) (d : Nat), d ≤ 2 → (comL d A).1 = none → (comL d A).2 ≤ 2 ∧ List.replicate (comL d A).2 45 <:+ List.replicate d 45 ++ A
  | [], d, hd, _ => ⟨hd, by simp [comL]⟩
  | c :: A, d, hd, h => by
    by_cases hc : c = 62 ∧ d = 2
    · rw [comL, if_pos hc] at h; simp at h
    · rw [comL, if_neg hc] at h ⊢
      simp only at h ⊢
      have h' : (comL (if c = 45 then min (d + 1) 2 else 0) A).1 = none := by
        cases hx : (comL (if c = 45 then min (d + 1) 2 else 0) A).1 with
        | none => rfl
        | some n => rw [hx] at h; simp at h
      obtain ⟨i1, i2⟩ := com_tail A (if c = 45 then min (d + 1) 2 else 0) (by split <;> omega) h'
      refine ⟨i1, i2.trans ?_⟩
      by_cases h45 : c = 45
      · subst h45
        rw [if_pos rfl]
        have e : List.replicate d (45 : UInt8) ++ 45 :: A = List.replicate (d + 1) 45 ++ A := by
          rw [List.replicate_succ', List.append_assoc]; rfl
        rw [e]
        rcases Nat.lt_or_ge d 2 with h2 | h2
        · rw [Nat.min_eq_left (by omega)]; exact List.suffix_refl _
        · obtain rfl : d = 2 := by omega
          exact ⟨[45], rfl⟩
      · rw [if_neg h45]
        exact ⟨List.replicate d 45 ++ [c], by simp⟩
theorem com_dashes (d : Nat) (hd : d ≤ 2) (B : List UInt8) : (comL 0 (List.replicate d 45 ++ B)).1 = (comL d B).1.map (· + d) ∧ (comL 0 (List.replicate d 45 ++ B)).2 = (comL d B).2 := by
  have h : comL 0 (List.replicate d 45) = (none, d) := by
    rcases (show d = 0 ∨ d = 1 ∨ d = 2 by omega) with rfl | rfl | rfl <;> rfl
  rcases com_append (List.replicate d 45) B 0 with ⟨n, h1, _⟩ | ⟨_, h2, h3⟩
  · rw [h] at h1; simp at h1
  · rw [h] at h2 h3
    rw [h2, h3, List.length_replicate]
    exact ⟨rfl, rfl⟩
theorem com_le : ∀ (B : List UInt8) (d : Nat), (comL d B).2 ≤ d + B.length
  | [], d => by simp [comL]
  | c :: B, d => by
    unfold comL
    split
    · exact Nat.zero_le _
    · have := com_le B (if c = 45 then min (d + 1) 2 else 0)
      have hm : (if c = 45 then min (d + 1) 2 else 0) ≤ d + 1 := by split <;> omega
      generalize (if c = 45 then min (d + 1) 2 else 0) = k at this hm ⊢
      simp only [List.length_cons]
      omega
theorem take_while (m : Nat) (p : UInt8 → Bool) (X B : List UInt8) (h : ((X.take m).takeWhile p).length = m ∨ ((X.take m).takeWhile p).length < X.length) : ((X ++ B).take m).takeWhile p = (X.take m).takeWhile p := by
  have hl := (List.takeWhile_prefix (p := p) (l := X.take m)).length_le
  rw [List.length_take] at hl
  rw [List.take_append]
  rcases h with h | h
  · rw [show m - X.length = 0 from by omega, List.take_zero, List.append_nil]
  · rcases takeWhile_more (p := p) (X.take m) (B.take (m - X.length)) with h2 | h2
    · rw [h2, List.length_take] at h
      rw [show m - X.length = 0 from by omega, List.take_zero, List.append_nil]
    · exact h2
/-- the run's end, before it is asked whether it is the end of what there is -/
def refRun (L : List UInt8) : Nat := (if L[1]? = some 35 then 2 else 1) + (((L.drop (if L[1]? = some 35 then 2 else 1)).take (32 - (if L[1]? = some 35 then 2 else 1))).takeWhile alnumC).length
theorem refEnd_eq (L : List UInt8) : refEnd L = if refRun L < 32 then (if refRun L = L.length then none else some (if L[refRun L]? = some 59 then refRun L + 1 else refRun L)) else some (refRun L) := rfl
theorem ref_stable {A : List UInt8} {e : Nat} (h : refEnd A = some e) (hA : A ≠ []) (B : List UInt8) : 0 < e ∧ e ≤ A.length ∧ refEnd (A ++ B) = some e := by
  have hpos := List.length_pos_iff.2 hA
  have h2 : 2 ≤ A.length := by
    rcases Nat.lt_or_ge A.length 2 with h1 | h1
    · exfalso
      have h3 : A[1]? = none := List.getElem?_eq_none (by omega)
      have hr : refRun A = 1 := by
        unfold refRun
        rw [h3, if_neg (by simp), List.drop_of_length_le (by omega)]
        rfl
      rw [refEnd_eq, hr, if_pos (by omega), if_pos (by omega)] at h
      simp at h
    · exact h1
  have h1 : (A ++ B)[1]? = A[1]? := List.getElem?_append_left (by omega)
  obtain ⟨s, hs⟩ : ∃ s, (if A[1]? = some 35 then 2 else 1) = s := ⟨_, rfl⟩
  have hs12 : 1 ≤ s ∧ s ≤ 2 := by rw [← hs]; split <;> omega
  have hrA : refRun A = s + (((A.drop s).take (32 - s)).takeWhile alnumC).length := by unfold refRun; rw [hs]
  have hrB : refRun (A ++ B) = s + (((A.drop s ++ B).take (32 - s)).takeWhile alnumC).length := by
    unfold refRun
    rw [h1, hs, List.drop_append_of_le_length (by omega)]
  have hl := (List.takeWhile_prefix (p := alnumC) (l := (A.drop s).take (32 - s))).length_le
  rw [List.length_take, List.length_drop] at hl
  obtain ⟨t, ht⟩ : ∃ t, (((A.drop s).take (32 - s)).takeWhile alnumC).length = t := ⟨_, rfl⟩
  rw [ht] at hrA hl
  have hcase : (t = 32 - s) ∨ (t < 32 - s ∧ s + t < A.length) := by
    rcases Nat.lt_or_ge t (32 - s) with h3 | h3
    · refine .inr ⟨h3, ?_⟩
      rcases Nat.lt_or_ge (s + t) A.length with h4 | h4
      · exact h4
      · exfalso
        rw [refEnd_eq, hrA, if_pos (by omega), if_pos (by omega)] at h
        simp at h
    · exact .inl (by omega)
  have hsame : refRun (A ++ B) = refRun A := by
    rw [hrB, hrA, take_while (32 - s) alnumC (A.drop s) B (by rw [ht, List.length_drop]; rcases hcase with h3 | h3; exact .inl h3; exact .inr (by omega)), ht]
  rcases hcase with h3 | ⟨h3, h4⟩
  · rw [refEnd_eq, hrA, if_neg (by omega)] at h
    rw [refEnd_eq, hsame, hrA, if_neg (by omega)]
    have := Option.some.inj h
    refine ⟨by omega, by omega, h⟩
  · have h5 : (A ++ B)[s + t]? = A[s + t]? := List.getElem?_append_left (by omega)
    rw [refEnd_eq, hrA, if_pos (by omega), if_neg (by omega)] at h
    rw [refEnd_eq, hsame, hrA, if_pos (by omega), if_neg (by rw [List.length_append]; omega), h5]
    refine ⟨?_, ?_, h⟩
    · have := Option.some.inj h
      rw [← this]
      split <;> omega
    · have := Option.some.inj h
      rw [← this]
      split <;> omega

/-- what a step at A comes to, whatever comes behind A -/
def Firm (W : Nat) (st : LS) (A : List UInt8) : Prop := ∃ n st' it, 0 < n ∧ n ≤ A.length ∧ st'.scan ≤ 10 ∧ ∀ B, stepL W st (A ++ B) = .done n st' it
def Soft (W : Nat) (st : LS) (A : List UInt8) : Prop :=
  ∃ n st', n ≤ A.length ∧ st'.scan ≤ 10 ∧ (stepL W st A = .more n st' ∨ (stepL W st A = .done n st' [] ∧ n = A.length)) ∧ ∀ B, A.drop n ++ B ≠ [] → stepL W st (A ++ B) = (stepL W st' (A.drop n ++ B)).shift n
theorem soft_held {W : Nat} {st : LS} {A : List UInt8} (h0 : st.scan ≤ 10) (h : stepL W st A = .more 0 st) : Soft W st A :=
  ⟨0, st, Nat.zero_le _, h0, .inl h, fun B _ => by rw [List.drop_zero, shift_zero]⟩
theorem getD_append {A B : List UInt8} {i : Nat} (h : i < A.length) : (A ++ B).getD i 0 = A.getD i 0 := by
  rw [List.getD_eq_getElem?_getD, List.getD_eq_getElem?_getD, List.getElem?_append_left h]
theorem skip_step {W : Nat} {st : LS} (h0 : 3 ≤ st.scan) (L : List UInt8) : stepL W st L = skipTagRes st L := by
  unfold stepL
  rw [if_neg (by omega), if_neg (by omega), if_pos (by omega)]
end Go.Proofs.YtkcgmimldjeaiaaDoor
