/-
  A tag by search: attribute by attribute, the end of each looked for, is the tag by its states. No program is named here.
-/
import Derived.Test.YtkcgmimldjeaiaaDoorLexFind
namespace Go.Proofs.YtkcgmimldjeaiaaDoor

theorem all8 {p : UInt8 → Prop} (h : ∀ i : Fin 256, p (UInt8.ofNat i.val)) (c : UInt8) : p c := by
  have := h ⟨c.toNat, c.toNat_lt⟩
  simpa using this
theorem span_of (p : UInt8 → Bool) : ∀ L : List UInt8, L = L.takeWhile p ++ L.dropWhile p ∧ (∀ c ∈ L.takeWhile p, p c = true) ∧ ∀ c t, L.dropWhile p = c :: t → p c = false
  | [] => by simp
  | x :: L => by
    obtain ⟨h1, h2, h3⟩ := span_of p L
    by_cases hx : p x = true
    · rw [List.takeWhile_cons_of_pos hx, List.dropWhile_cons_of_pos hx]
      refine ⟨by rw [List.cons_append, ← h1], fun c hc => ?_, h3⟩
      rcases List.mem_cons.1 hc with rfl | hc
      · exact hx
      · exact h2 c hc
    · rw [List.takeWhile_cons_of_neg hx, List.dropWhile_cons_of_neg hx]
      refine ⟨rfl, fun c h => (by cases h), fun c t h => ?_⟩
      obtain ⟨rfl, _⟩ := List.cons.inj h
      simpa using hx

def spS : List UInt8 := [9, 10, 12, 13, 32]
def nameE : List UInt8 := [9, 10, 12, 13, 32, 47, 62, 61]
def tagE : List UInt8 := [9, 10, 12, 13, 32, 47, 62]
def gapE : List UInt8 := [9, 10, 12, 13, 32, 47]
def bareE : List UInt8 := [9, 10, 12, 13, 32, 62]
theorem next3 : ∀ c : UInt8, (tagE.contains c = false → nextT 3 c = 3) ∧ (tagE.contains c = true → nextT 3 c ≠ 3 ∧ nextT 3 c = nextT 4 c) := all8 (by decide +kernel)
theorem next4 : ∀ c : UInt8, (gapE.contains c = true → nextT 4 c = 4) ∧ (gapE.contains c = false → c ≠ 62 → nextT 4 c = 5) ∧ (c = 62 → nextT 4 c = 0) := all8 (by decide +kernel)
theorem next5 : ∀ c : UInt8, (nameE.contains c = false → nextT 5 c = 5) ∧ (nameE.contains c = true → spS.contains c = false → c ≠ 61 → nextT 5 c = nextT 4 c ∧ nextT 5 c ≠ 5 ∧ nextT 4 c ≠ 5) ∧ (spS.contains c = true → nextT 5 c = 6) ∧ (c = 61 → nextT 5 c = 7) := all8 (by decide +kernel)
theorem next6 : ∀ c : UInt8, (spS.contains c = true → nextT 6 c = 6) ∧ (spS.contains c = false → c ≠ 61 → nextT 6 c = nextT 4 c ∧ nextT 6 c ≠ 6) ∧ (c = 61 → nextT 6 c = 7) := all8 (by decide +kernel)
theorem next7 : ∀ c : UInt8, (spS.contains c = true → nextT 7 c = 7) ∧ (c = 62 → nextT 7 c = 0 ∧ nextT 4 c = 0) ∧ (c = 34 → nextT 7 c = 8) ∧ (c = 39 → nextT 7 c = 9) ∧ (spS.contains c = false → c ≠ 62 → c ≠ 34 → c ≠ 39 → nextT 7 c = 10) := all8 (by decide +kernel)
theorem next8 : ∀ c : UInt8, (c ≠ 34 → nextT 8 c = 8) ∧ (c = 34 → nextT 8 c = 4) := all8 (by decide +kernel)
theorem next9 : ∀ c : UInt8, (c ≠ 39 → nextT 9 c = 9) ∧ (c = 39 → nextT 9 c = 4) := all8 (by decide +kernel)
theorem next10 : ∀ c : UInt8, (bareE.contains c = false → nextT 10 c = 10) ∧ (bareE.contains c = true → nextT 10 c = nextT 4 c ∧ nextT 10 c ≠ 10) := all8 (by decide +kernel)

theorem pass_seg {s : Nat} (hs : s ≠ 0) : ∀ (seg r : List UInt8), (∀ c ∈ seg, nextT s c = s) → passL s (seg ++ r) = (seg.length + (passL s r).1, (passL s r).2)
  | [], r, _ => by simp
  | c :: seg, r, h => by
    rw [List.cons_append]
    show (if s = 0 then (0, 0) else _) = _
    rw [if_neg hs, h c (by simp), pass_seg hs seg r (fun x hx => h x (by simp [hx]))]
    simp only [List.length_cons, Prod.mk.injEq, and_true]
    omega
theorem pass_one {s : Nat} (hs : s ≠ 0) (c : UInt8) (r : List UInt8) : passL s (c :: r) = ((passL (nextT s c) r).1 + 1, (passL (nextT s c) r).2) := by
  show (if s = 0 then (0, 0) else _) = _
  rw [if_neg hs]
theorem pass_zero : ∀ L : List UInt8, passL 0 L = (0, 0)
  | [] => rfl
  | _ :: _ => rfl
theorem attrs_seg {s : Nat} : ∀ (seg r part : List UInt8) (acc : List (List UInt8 × List UInt8)), (∀ c ∈ seg, nextT s c = s) → attrsL s part acc (seg ++ r) = attrsL s (part ++ seg) acc r
  | [], r, part, acc, _ => by simp
  | c :: seg, r, part, acc, h => by
    rw [List.cons_append]
    conv => lhs; unfold attrsL
    rw [if_pos (h c (by simp)), attrs_seg seg r (part ++ [c]) acc (fun x hx => h x (by simp [hx]))]
    simp only [List.append_assoc, List.cons_append, List.nil_append]
theorem attrs_turn {s : Nat} {c : UInt8} (h : nextT s c ≠ s) (part r : List UInt8) (acc : List (List UInt8 × List UInt8)) : attrsL s part acc (c :: r) =
    attrsL (nextT s c) (if nextT s c = 8 ∨ nextT s c = 9 then [] else [c]) (if s = 5 then acc ++ [(part.map lowC, [])] else if s = 8 ∨ s = 9 ∨ s = 10 then acc.dropLast ++ [((acc.getLast?.getD ([], [])).1, unr true part)] else acc) r := by
  conv => lhs; unfold attrsL
  rw [if_neg h]
theorem attrs_turn0 {s : Nat} {c : UInt8} (h : nextT s c ≠ s) (s5 : s ≠ 5) (s8 : s ≠ 8) (s9 : s ≠ 9) (s10 : s ≠ 10) (part r : List UInt8) (acc : List (List UInt8 × List UInt8)) : attrsL s part acc (c :: r) =
    attrsL (nextT s c) (if nextT s c = 8 ∨ nextT s c = 9 then [] else [c]) acc r := by
  rw [attrs_turn h]
  simp only [s5, s8, s9, s10, if_false, or_self]
theorem attrs_turn5 {c : UInt8} (h : nextT 5 c ≠ 5) (part r : List UInt8) (acc : List (List UInt8 × List UInt8)) : attrsL 5 part acc (c :: r) =
    attrsL (nextT 5 c) (if nextT 5 c = 8 ∨ nextT 5 c = 9 then [] else [c]) (acc ++ [(part.map lowC, [])]) r := by
  rw [attrs_turn h]
  simp only [if_true]
theorem attrs_turnV {s : Nat} {c : UInt8} (h : nextT s c ≠ s) (hs : s = 8 ∨ s = 9 ∨ s = 10) (part r nm v : List UInt8) (acc : List (List UInt8 × List UInt8)) : attrsL s part (acc ++ [(nm, v)]) (c :: r) =
    attrsL (nextT s c) (if nextT s c = 8 ∨ nextT s c = 9 then [] else [c]) (acc ++ [(nm, unr true part)]) r := by
  rw [attrs_turn h]
  have h5 : s ≠ 5 := by omega
  simp only [h5, if_false, hs, if_true, List.dropLast_concat, List.getLast?_append, List.getLast?_singleton, Option.some_or, Option.getD_some]
/-- in the gap what was gathered means nothing -/
theorem attrs_gap : ∀ (L p q : List UInt8) (acc : List (List UInt8 × List UInt8)), attrsL 4 p acc L = attrsL 4 q acc L
  | [], _, _, _ => rfl
  | c :: r, p, q, acc => by
    by_cases h : nextT 4 c = 4
    · unfold attrsL
      rw [if_pos h, if_pos h]
      exact attrs_gap r _ _ acc
    · rw [attrs_turn0 h (by decide) (by decide) (by decide) (by decide), attrs_turn0 h (by decide) (by decide) (by decide) (by decide)]
theorem gap_step (c : UInt8) (q r : List UInt8) (acc : List (List UInt8 × List UInt8)) : attrsL (nextT 4 c) (if nextT 4 c = 8 ∨ nextT 4 c = 9 then [] else [c]) acc r = attrsL 4 q acc (c :: r) := by
  by_cases h4 : nextT 4 c = 4
  · conv => rhs; unfold attrsL
    rw [if_pos h4, h4, if_neg (by decide)]
    exact attrs_gap r _ _ acc
  · rw [attrs_turn0 h4 (by decide) (by decide) (by decide) (by decide)]
/-- a state that does at a byte what the gap does -/
theorem attrs_like {s : Nat} {c : UInt8} (h : nextT s c = nextT 4 c) (hs : nextT s c ≠ s) (s5 : s ≠ 5) (s8 : s ≠ 8) (s9 : s ≠ 9) (s10 : s ≠ 10) (part q r : List UInt8) (acc : List (List UInt8 × List UInt8)) : attrsL s part acc (c :: r) = attrsL 4 q acc (c :: r) := by
  rw [attrs_turn0 hs s5 s8 s9 s10, h]
  exact gap_step c q r acc
theorem attrs_like5 {c : UInt8} (h : nextT 5 c = nextT 4 c) (hs : nextT 5 c ≠ 5) (part q r : List UInt8) (acc : List (List UInt8 × List UInt8)) : attrsL 5 part acc (c :: r) = attrsL 4 q (acc ++ [(part.map lowC, [])]) (c :: r) := by
  rw [attrs_turn5 hs, h]
  exact gap_step c q r _
theorem attrs_like10 {c : UInt8} (h : nextT 10 c = nextT 4 c) (hs : nextT 10 c ≠ 10) (part q r nm v : List UInt8) (acc : List (List UInt8 × List UInt8)) : attrsL 10 part (acc ++ [(nm, v)]) (c :: r) = attrsL 4 q (acc ++ [(nm, unr true part)]) (c :: r) := by
  rw [attrs_turnV hs (by decide), h]
  exact gap_step c q r _

/-- what stands behind the = of an attribute: it, what is left, and the state in which the bytes end -/
def attrV (nm t2 : List UInt8) : (List UInt8 × List UInt8) × List UInt8 × Nat :=
  match t2.dropWhile spS.contains with
  | [] => ((nm, []), [], 7)
  | q :: t3 =>
    if q = 34 ∨ q = 39 then
      match t3.dropWhile (· != q) with
      | [] => ((nm, unr true (t3.takeWhile (· != q))), [], if q = 34 then 8 else 9)
      | _ :: t4 => ((nm, unr true (t3.takeWhile (· != q))), t4, 0)
    else if q = 62 then ((nm, []), q :: t3, 0)
    else
      match t3.dropWhile fun c => !bareE.contains c with
      | [] => ((nm, unr true (q :: t3.takeWhile fun c => !bareE.contains c)), [], 10)
      | c5 :: t5 => ((nm, unr true (q :: t3.takeWhile fun c => !bareE.contains c)), c5 :: t5, 0)
def attrR (nm : List UInt8) : List UInt8 → (List UInt8 × List UInt8) × List UInt8 × Nat
  | [] => ((nm, []), [], 5)
  | c1 :: t1 =>
    match (c1 :: t1).dropWhile spS.contains with
    | [] => ((nm, []), [], 6)
    | c2 :: t2 => if c2 = 61 then attrV nm t2 else ((nm, []), c2 :: t2, 0)
/-- the attribute whose name begins here -/
def attrAtL : List UInt8 → (List UInt8 × List UInt8) × List UInt8 × Nat
  | [] => (([], []), [], 5)
  | c0 :: t => attrR ((c0 :: t.takeWhile fun c => !nameE.contains c).map lowC) (t.dropWhile fun c => !nameE.contains c)

/-- what an attribute by search has to do with the states -/
def AttrOk (c0 : UInt8) (t : List UInt8) (x : (List UInt8 × List UInt8) × List UInt8 × Nat) : Prop :=
  (x.2.2 ≠ 0 → x.2.1 = [] ∧ passL 5 t = (t.length, x.2.2)) ∧
  (x.2.2 = 0 → ∃ seg, t = seg ++ x.2.1 ∧ passL 5 t = (seg.length + (passL 4 x.2.1).1, (passL 4 x.2.1).2) ∧
    ∀ acc X, X ≠ [] → X.head? = x.2.1.head? → attrsL 5 [c0] acc (seg ++ X) = attrsL 4 [] (acc ++ [x.1]) X)
theorem head_cons {X : List UInt8} {c : UInt8} {r : List UInt8} (h : X.head? = (c :: r).head?) : ∃ X', X = c :: X' := by
  cases X with
  | nil => simp at h
  | cons y X' => simp at h; exact ⟨X', by rw [h]⟩
theorem pass_like {s : Nat} (hs : s ≠ 0) {c : UInt8} (h : nextT s c = nextT 4 c) (r : List UInt8) : passL s (c :: r) = passL 4 (c :: r) := by
  rw [pass_one hs, pass_one (by decide), h]
/-- a name and the spaces behind it, up to what is no = -/
theorem name_other (c0 : UInt8) (n0 n1 : List UInt8) (c2 : UInt8) (hn : ∀ c ∈ n0, nextT 5 c = 5) (h1 : ∀ c ∈ n1, spS.contains c = true) (hc : spS.contains c2 = false) (hc61 : c2 ≠ 61) (hE : n1 = [] → nameE.contains c2 = true) :
    (∀ r, passL 5 (n0 ++ (n1 ++ c2 :: r)) = (n0.length + n1.length + (passL 4 (c2 :: r)).1, (passL 4 (c2 :: r)).2)) ∧
    ∀ acc Y, attrsL 5 [c0] acc (n0 ++ (n1 ++ c2 :: Y)) = attrsL 4 [] (acc ++ [((c0 :: n0).map lowC, [])]) (c2 :: Y) := by
  cases n1 with
  | nil =>
    obtain ⟨e1, e2, e3⟩ := (next5 c2).2.1 (hE rfl) hc hc61
    refine ⟨fun r => ?_, fun acc Y => ?_⟩
    · rw [List.nil_append, pass_seg (by decide) n0 _ hn, pass_like (by decide) e1]; simp
    · rw [List.nil_append, attrs_seg n0 _ _ _ hn, attrs_like5 e1 e2 _ []]; rfl
  | cons x n1 =>
    have hx := (next5 x).2.2.1 (h1 x (by simp))
    have hn1 : ∀ c ∈ n1, nextT 6 c = 6 := fun c hc => (next6 c).1 (h1 c (by simp [hc]))
    obtain ⟨e1, e2⟩ := (next6 c2).2.1 hc hc61
    refine ⟨fun r => ?_, fun acc Y => ?_⟩
    · rw [pass_seg (by decide) n0 _ hn, List.cons_append, pass_one (by decide), hx, pass_seg (by decide) n1 _ hn1, pass_like (by decide) e1]
      simp only [List.length_cons, Prod.mk.injEq, and_true]; omega
    · rw [attrs_seg n0 _ _ _ hn, (show (x :: n1) ++ _ = x :: (n1 ++ _) from rfl), attrs_turn5 (by rw [hx]; decide), hx, if_neg (by decide), attrs_seg n1 _ _ _ hn1, attrs_like e1 e2 (by decide) (by decide) (by decide) (by decide) _ []]; rfl
/-- a name and the spaces behind it, up to and with a = -/
theorem name_eq (c0 : UInt8) (n0 n1 : List UInt8) (hn : ∀ c ∈ n0, nextT 5 c = 5) (h1 : ∀ c ∈ n1, spS.contains c = true) :
    (∀ r, passL 5 (n0 ++ (n1 ++ 61 :: r)) = (n0.length + n1.length + 1 + (passL 7 r).1, (passL 7 r).2)) ∧
    ∀ acc Y, attrsL 5 [c0] acc (n0 ++ (n1 ++ 61 :: Y)) = attrsL 7 [61] (acc ++ [((c0 :: n0).map lowC, [])]) Y := by
  cases n1 with
  | nil =>
    have e1 := (next5 61).2.2.2 rfl
    refine ⟨fun r => ?_, fun acc Y => ?_⟩
    · rw [List.nil_append, pass_seg (by decide) n0 _ hn, pass_one (by decide), e1]; simp only [List.length_nil, Prod.mk.injEq, and_true]; omega
    · rw [List.nil_append, attrs_seg n0 _ _ _ hn, attrs_turn5 (by rw [e1]; decide), e1]; rfl
  | cons x n1 =>
    have hx := (next5 x).2.2.1 (h1 x (by simp))
    have hn1 : ∀ c ∈ n1, nextT 6 c = 6 := fun c hc => (next6 c).1 (h1 c (by simp [hc]))
    have e1 := (next6 61).2.2 rfl
    refine ⟨fun r => ?_, fun acc Y => ?_⟩
    · rw [pass_seg (by decide) n0 _ hn, List.cons_append, pass_one (by decide), hx, pass_seg (by decide) n1 _ hn1, pass_one (by decide), e1]
      simp only [List.length_cons, Prod.mk.injEq, and_true]; omega
    · rw [attrs_seg n0 _ _ _ hn, (show (x :: n1) ++ _ = x :: (n1 ++ _) from rfl), attrs_turn5 (by rw [hx]; decide), hx, if_neg (by decide), attrs_seg n1 _ _ _ hn1, attrs_turn0 (by rw [e1]; decide) (by decide) (by decide) (by decide) (by decide), e1]; rfl
theorem last_value {s : Nat} (hs : s = 8 ∨ s = 9) {c : UInt8} (h : nextT s c = 4) (v p r nm : List UInt8) (hv : ∀ x ∈ v, nextT s x = s) (acc : List (List UInt8 × List UInt8)) : attrsL s [] (acc ++ [(nm, p)]) (v ++ c :: r) = attrsL 4 [] (acc ++ [(nm, unr true v)]) r := by
  rw [attrs_seg v _ _ _ hv, attrs_turnV (by rw [h]; omega) (by omega), h, if_neg (by decide), attrs_gap r [c] [], List.nil_append]
theorem attr_ok (c0 : UInt8) (t : List UInt8) : AttrOk c0 t (attrAtL (c0 :: t)) := by
  show AttrOk c0 t (attrR ((c0 :: t.takeWhile fun c => !nameE.contains c).map lowC) (t.dropWhile fun c => !nameE.contains c))
  obtain ⟨a1, a2, a3⟩ := span_of (fun c => !nameE.contains c) t
  generalize t.takeWhile (fun c => !nameE.contains c) = n0 at a1 a2 ⊢
  have hn : ∀ c ∈ n0, nextT 5 c = 5 := fun c hc => (next5 c).1 (by simpa using a2 c hc)
  cases hr1 : t.dropWhile (fun c => !nameE.contains c) with
  | nil =>
    rw [hr1, List.append_nil] at a1
    subst a1
    show AttrOk c0 t ((_, []), [], 5)
    refine ⟨fun _ => ⟨rfl, ?_⟩, fun h => by simp at h⟩
    have := pass_seg (by decide) t [] hn
    rw [List.append_nil] at this
    rw [this]
    rfl
  | cons c1 t1 =>
    rw [hr1] at a1
    have hc1 : nameE.contains c1 = true := by simpa using a3 c1 t1 hr1
    obtain ⟨b1, b2, b3⟩ := span_of spS.contains (c1 :: t1)
    generalize (c1 :: t1).takeWhile spS.contains = n1 at b1 b2
    unfold attrR
    simp only
    cases hr2 : (c1 :: t1).dropWhile spS.contains with
    | nil =>
      rw [hr2, List.append_nil] at b1
      subst a1
      refine ⟨fun _ => ⟨rfl, ?_⟩, fun h => by simp at h⟩
      rw [pass_seg (by decide) n0 _ hn, pass_one (by decide)]
      rw [(next5 c1).2.2.1 (b2 c1 (by rw [← b1]; simp))]
      have := pass_seg (s := 6) (by decide) t1 [] (fun c hc => (next6 c).1 (b2 c (by rw [← b1]; simp [hc])))
      rw [List.append_nil] at this
      rw [this]
      simp [passL]
    | cons c2 t2 =>
      rw [hr2] at b1
      have hc2 : spS.contains c2 = false := b3 c2 t2 hr2
      rw [b1] at a1
      simp only
      by_cases h61 : c2 = 61
      · subst h61
        obtain ⟨p1, p2⟩ := name_eq c0 n0 n1 hn b2
        rw [if_pos rfl]
        obtain ⟨d1, d2, d3⟩ := span_of spS.contains t2
        generalize t2.takeWhile spS.contains = n2 at d1 d2
        unfold attrV
        have hn2 : ∀ c ∈ n2, nextT 7 c = 7 := fun c hc => (next7 c).1 (d2 c hc)
        cases hr3 : t2.dropWhile spS.contains with
        | nil =>
          rw [hr3, List.append_nil] at d1
          refine ⟨fun _ => ⟨rfl, ?_⟩, fun h => by simp at h⟩
          have := pass_seg (s := 7) (by decide) n2 [] hn2
          rw [List.append_nil, ← d1] at this
          rw [a1, p1, this, d1]
          simp [passL]; omega
        | cons q t3 =>
          rw [hr3] at d1
          have hq : spS.contains q = false := d3 q t3 hr3
          simp only
          by_cases hq2 : q = 34 ∨ q = 39
          · rw [if_pos hq2]
            obtain ⟨s, hs, hqs⟩ : ∃ s, (s = 8 ∨ s = 9) ∧ nextT 7 q = s ∧ (if q = 34 then 8 else 9) = s ∧ (∀ c : UInt8, c ≠ q → nextT s c = s) ∧ nextT s q = 4 := by
              rcases hq2 with rfl | rfl
              · exact ⟨8, .inl rfl, by decide, rfl, fun c => (next8 c).1, by decide⟩
              · exact ⟨9, .inr rfl, by decide, rfl, fun c => (next9 c).1, by decide⟩
            obtain ⟨q1, q2, q3, q4⟩ := hqs
            have hs0 : s ≠ 0 := by omega
            obtain ⟨e1, e2, e3⟩ := span_of (· != q) t3
            generalize t3.takeWhile (· != q) = v at e1 e2 ⊢
            have hv : ∀ c ∈ v, nextT s c = s := fun c hc => q3 c (by simpa using e2 c hc)
            cases hr4 : t3.dropWhile (· != q) with
            | nil =>
              rw [hr4, List.append_nil] at e1
              refine ⟨fun _ => ⟨rfl, ?_⟩, fun h => ?_⟩
              · have := pass_seg hs0 v [] hv
                rw [List.append_nil] at this
                simp only
                rw [q2, a1, p1, d1, pass_seg (by decide) n2 _ hn2, pass_one (by decide), q1, e1, this]
                simp [passL]; omega
              · simp only at h
                rw [q2] at h
                exact absurd h hs0
            | cons q' t4 =>
              rw [hr4] at e1
              obtain rfl : q' = q := by simpa using e3 q' t4 hr4
              refine ⟨fun h => absurd rfl h, fun _ => ⟨n0 ++ (n1 ++ 61 :: (n2 ++ q' :: (v ++ [q']))), ?_, ?_, fun acc X hX hh => ?_⟩⟩
              · rw [a1, d1, e1]; simp
              · rw [a1, p1, d1, pass_seg (by decide) n2 _ hn2, pass_one (by decide), q1, e1, pass_seg hs0 v _ hv, pass_one hs0, q4]
                simp; omega
              · have hx : (n0 ++ (n1 ++ 61 :: (n2 ++ q' :: (v ++ [q'])))) ++ X = n0 ++ (n1 ++ 61 :: (n2 ++ q' :: (v ++ q' :: X))) := by simp
                rw [hx, p2, attrs_seg n2 _ _ _ hn2, attrs_turn0 (by rw [q1]; omega) (by decide) (by decide) (by decide) (by decide), q1, if_pos (by omega), last_value hs q4 v [] X _ hv]
          · rw [if_neg hq2]
            by_cases hq62 : q = 62
            · subst hq62
              rw [if_pos rfl]
              obtain ⟨k1, k2⟩ := (next7 62).2.1 rfl
              refine ⟨fun h => absurd rfl h, fun _ => ⟨n0 ++ (n1 ++ 61 :: n2), ?_, ?_, fun acc X hX hh => ?_⟩⟩
              · rw [a1, d1]; simp
              · rw [a1, p1, d1, pass_seg (by decide) n2 _ hn2, pass_like (by decide) (k1.trans k2.symm)]
                simp; omega
              · obtain ⟨X', rfl⟩ := head_cons hh
                have hx : (n0 ++ (n1 ++ 61 :: n2)) ++ 62 :: X' = n0 ++ (n1 ++ 61 :: (n2 ++ 62 :: X')) := by simp
                rw [hx, p2, attrs_seg n2 _ _ _ hn2, attrs_like (k1.trans k2.symm) (by rw [k1]; decide) (by decide) (by decide) (by decide) (by decide) _ []]
            · rw [if_neg hq62]
              have hq10 : nextT 7 q = 10 := (next7 q).2.2.2.2 hq hq62 (fun h => hq2 (.inl h)) (fun h => hq2 (.inr h))
              have hqb : bareE.contains q = false := by
                have : ∀ q : UInt8, bareE.contains q = (spS.contains q || q == 62) := all8 (by decide +kernel)
                rw [this, hq, Bool.false_or]
                exact beq_eq_false_iff_ne.2 hq62
              obtain ⟨e1, e2, e3⟩ := span_of (fun c => !bareE.contains c) t3
              generalize t3.takeWhile (fun c => !bareE.contains c) = v at e1 e2 ⊢
              have hv : ∀ c ∈ v, nextT 10 c = 10 := fun c hc => (next10 c).1 (by simpa using e2 c hc)
              cases hr4 : t3.dropWhile (fun c => !bareE.contains c) with
              | nil =>
                rw [hr4, List.append_nil] at e1
                refine ⟨fun _ => ⟨rfl, ?_⟩, fun h => by simp at h⟩
                have := pass_seg (s := 10) (by decide) v [] hv
                rw [List.append_nil] at this
                rw [a1, p1, d1, pass_seg (by decide) n2 _ hn2, pass_one (by decide), hq10, e1, this]
                simp [passL]; omega
              | cons c5 t5 =>
                rw [hr4] at e1
                have hc5 : bareE.contains c5 = true := by simpa using e3 c5 t5 hr4
                obtain ⟨k1, k2⟩ := (next10 c5).2 hc5
                refine ⟨fun h => absurd rfl h, fun _ => ⟨n0 ++ (n1 ++ 61 :: (n2 ++ q :: v)), ?_, ?_, fun acc X hX hh => ?_⟩⟩
                · rw [a1, d1, e1]; simp
                · rw [a1, p1, d1, pass_seg (by decide) n2 _ hn2, pass_one (by decide), hq10, e1, pass_seg (by decide) v _ hv, pass_like (by decide) k1]
                  simp; omega
                · obtain ⟨X', rfl⟩ := head_cons hh
                  have hx : (n0 ++ (n1 ++ 61 :: (n2 ++ q :: v))) ++ c5 :: X' = n0 ++ (n1 ++ 61 :: (n2 ++ q :: (v ++ c5 :: X'))) := by simp
                  rw [hx, p2, attrs_seg n2 _ _ _ hn2, attrs_turn0 (by rw [hq10]; decide) (by decide) (by decide) (by decide) (by decide), hq10, if_neg (by decide), attrs_seg v _ _ _ hv, attrs_like10 k1 k2 _ []]
                  rfl
      · obtain ⟨p1, p2⟩ := name_other c0 n0 n1 c2 hn b2 hc2 h61 (fun h => by
          subst h
          obtain ⟨rfl, _⟩ := List.cons.inj b1
          exact hc1)
        rw [if_neg h61]
        refine ⟨fun h => absurd rfl h, fun _ => ⟨n0 ++ n1, ?_, ?_, fun acc X hX hh => ?_⟩⟩
        · rw [a1]; simp
        · rw [a1, p1]; simp
        · obtain ⟨X', rfl⟩ := head_cons hh
          rw [List.append_assoc, p2]

/-- on from the gap: the attributes, what is left, the state -/
def gapL : Nat → List (List UInt8 × List UInt8) → List UInt8 → List (List UInt8 × List UInt8) × List UInt8 × Nat
  | 0, acc, r => (acc, r, 4)
  | f + 1, acc, r =>
    match r.dropWhile gapE.contains with
    | [] => (acc, [], 4)
    | c :: t =>
      if c = 62 then (acc, t, 0) else
      if (attrAtL (c :: t)).2.2 ≠ 0 then (acc ++ [(attrAtL (c :: t)).1], (attrAtL (c :: t)).2.1, (attrAtL (c :: t)).2.2)
      else gapL f (acc ++ [(attrAtL (c :: t)).1]) (attrAtL (c :: t)).2.1
def GapOk (acc : List (List UInt8 × List UInt8)) (r : List UInt8) (x : List (List UInt8 × List UInt8) × List UInt8 × Nat) : Prop :=
  (x.2.2 ≠ 0 → x.2.1 = [] ∧ passL 4 r = (r.length, x.2.2)) ∧
  (x.2.2 = 0 → ∃ seg, r = seg ++ x.2.1 ∧ passL 4 r = (seg.length, 0) ∧ seg ≠ [] ∧ attrsL 4 [] acc seg = x.1)
theorem gap_ok : ∀ (f : Nat) (acc : List (List UInt8 × List UInt8)) (r : List UInt8), r.length < f → GapOk acc r (gapL f acc r)
  | 0, _, r, h => absurd h (Nat.not_lt_zero _)
  | f + 1, acc, r, h => by
    unfold gapL
    obtain ⟨a1, a2, a3⟩ := span_of gapE.contains r
    generalize r.takeWhile gapE.contains = g at a1 a2 ⊢
    have hg : ∀ c ∈ g, nextT 4 c = 4 := fun c hc => (next4 c).1 (a2 c hc)
    cases hr : r.dropWhile gapE.contains with
    | nil =>
      rw [hr, List.append_nil] at a1
      refine ⟨fun _ => ⟨rfl, ?_⟩, fun h => by simp at h⟩
      have := pass_seg (s := 4) (by decide) g [] hg
      rw [List.append_nil] at this
      rw [a1, this]
      rfl
    | cons c t =>
      rw [hr] at a1
      have hc : gapE.contains c = false := a3 c t hr
      simp only
      by_cases h62 : c = 62
      · subst h62
        have e := (next4 62).2.2 rfl
        rw [if_pos rfl]
        refine ⟨fun h => absurd rfl h, fun _ => ⟨g ++ [62], by rw [a1]; simp, ?_, by simp, ?_⟩⟩
        · rw [a1, pass_seg (by decide) g _ hg, pass_one (by decide), e, pass_zero]; simp
        · rw [attrs_seg g _ _ _ hg, attrs_turn0 (by rw [e]; decide) (by decide) (by decide) (by decide) (by decide)]; simp [attrsL]
      · rw [if_neg h62]
        have h5 := (next4 c).2.1 hc h62
        obtain ⟨k1, k2⟩ := attr_ok c t
        generalize hx : attrAtL (c :: t) = x at k1 k2 ⊢
        obtain ⟨a, r2, st⟩ := x
        simp only at k1 k2 ⊢
        by_cases hst : st = 0
        · rw [if_neg (by simpa using hst)]
          obtain ⟨seg, s1, s2, s3⟩ := k2 hst
          have ih := gap_ok f (acc ++ [a]) r2 (by
            rw [a1, s1] at h
            simp only [List.length_append, List.length_cons] at h
            omega)
          obtain ⟨i1, i2⟩ := ih
          have hp : passL 4 r = (g.length + 1 + seg.length + (passL 4 r2).1, (passL 4 r2).2) := by
            rw [a1, pass_seg (by decide) g _ hg, pass_one (by decide), h5, s2]
            simp only [Prod.mk.injEq, and_true]; omega
          refine ⟨fun hz => ?_, fun hz => ?_⟩
          · obtain ⟨j1, j2⟩ := i1 hz
            refine ⟨j1, ?_⟩
            rw [hp, j2, a1, s1]
            simp only [List.length_append, List.length_cons, Prod.mk.injEq, and_true]; omega
          · obtain ⟨seg2, j1, j2, j3, j4⟩ := i2 hz
            refine ⟨g ++ c :: (seg ++ seg2), ?_, ?_, by simp, ?_⟩
            · rw [a1, s1]
              conv => lhs; rw [j1]
              simp
            · rw [hp, j2]
              simp only [List.length_append, List.length_cons, Prod.mk.injEq, and_true]; omega
            · rw [attrs_seg g _ _ _ hg, attrs_turn0 (by rw [h5]; decide) (by decide) (by decide) (by decide) (by decide), h5, if_neg (by decide), s3 acc seg2 j3 ?_, j4]
              rw [j1]
              cases seg2 with
              | nil => exact absurd rfl j3
              | cons y z => rfl
        · rw [if_pos (by simpa using hst)]
          obtain ⟨j1, j2⟩ := k1 hst
          refine ⟨fun _ => ⟨j1, ?_⟩, fun hz => absurd hz hst⟩
          rw [a1, pass_seg (by decide) g _ hg, pass_one (by decide), h5, j2]
          simp only [List.length_append, List.length_cons]
/-- a tag whose name begins here -/
def tagAtL (L : List UInt8) : List UInt8 × List (List UInt8 × List UInt8) × List UInt8 × Nat :=
  match L.dropWhile fun c => !tagE.contains c with
  | [] => ((L.takeWhile fun c => !tagE.contains c).map lowC, [], [], 3)
  | c :: t => ((L.takeWhile fun c => !tagE.contains c).map lowC, gapL (t.length + 2) [] (c :: t))
theorem take_len {A B : List UInt8} : (A ++ B).take A.length = A := by simp
theorem tagName_of (n : List UInt8) (h3 : ∀ c ∈ n, nextT 3 c = 3) (c : UInt8) (hc : nextT 3 c ≠ 3) (t : List UInt8) : tagNameL (n ++ c :: t) = n.map lowC := by
  unfold tagNameL
  congr 1
  induction n with
  | nil => rw [List.nil_append, List.takeWhile_cons_of_neg (by simpa using hc)]
  | cons x n ih => rw [List.cons_append, List.takeWhile_cons_of_pos (by simpa using h3 x (by simp)), ih (fun y hy => h3 y (by simp [hy]))]
theorem tagName_all (n : List UInt8) (h3 : ∀ c ∈ n, nextT 3 c = 3) : tagNameL n = n.map lowC := by
  unfold tagNameL
  congr 1
  induction n with
  | nil => rfl
  | cons x n ih => rw [List.takeWhile_cons_of_pos (by simpa using h3 x (by simp)), ih (fun y hy => h3 y (by simp [hy]))]
theorem tagAt_ok (L : List UInt8) : (tagAtL L).1 = tagNameL (L.take (passL 3 L).1) ∧ (tagAtL L).2.2.1.length + (passL 3 L).1 = L.length ∧ (tagAtL L).2.2.1 = L.drop (passL 3 L).1 ∧ (tagAtL L).2.2.2 = (passL 3 L).2 ∧
    ((passL 3 L).2 = 0 → (tagAtL L).2.1 = attrsL 3 [] [] (L.take (passL 3 L).1)) := by
  unfold tagAtL
  obtain ⟨a1, a2, a3⟩ := span_of (fun c => !tagE.contains c) L
  generalize L.takeWhile (fun c => !tagE.contains c) = n at a1 a2 ⊢
  have hn : ∀ c ∈ n, nextT 3 c = 3 := fun c hc => (next3 c).1 (by simpa using a2 c hc)
  cases hr : L.dropWhile (fun c => !tagE.contains c) with
  | nil =>
    rw [hr, List.append_nil] at a1
    have := pass_seg (s := 3) (by decide) n [] hn
    rw [List.append_nil] at this
    have h : passL 3 L = (L.length, 3) := by rw [a1, this]; rfl
    rw [h]
    refine ⟨?_, by simp, by simp, rfl, fun h => by simp at h⟩
    rw [List.take_length, a1, tagName_all n hn]
  | cons c t =>
    rw [hr] at a1
    have hc : tagE.contains c = true := by simpa using a3 c t hr
    obtain ⟨e1, e2⟩ := (next3 c).2 hc
    have hp : passL 3 L = (n.length + (passL 4 (c :: t)).1, (passL 4 (c :: t)).2) := by rw [a1, pass_seg (by decide) n _ hn, pass_like (by decide) e2]
    obtain ⟨k1, k2⟩ := gap_ok (t.length + 2) [] (c :: t) (by simp)
    simp only
    generalize gapL (t.length + 2) [] (c :: t) = x at k1 k2 ⊢
    obtain ⟨A, r2, st⟩ := x
    simp only at k1 k2 ⊢
    by_cases hst : st = 0
    · subst hst
      obtain ⟨seg, s1, s2, s3, s4⟩ := k2 rfl
      rw [hp, s2]
      have hL : L = (n ++ seg) ++ r2 := by rw [a1, s1]; simp
      have ht : L.take (n.length + seg.length) = n ++ seg := by rw [hL, ← List.length_append, take_len]
      have hd : L.drop (n.length + seg.length) = r2 := by rw [hL, ← List.length_append, List.drop_left]
      simp only
      rw [ht, hd]
      obtain ⟨y, z, rfl⟩ : ∃ y z, seg = y :: z := by cases seg with | nil => exact absurd rfl s3 | cons y z => exact ⟨y, z, rfl⟩
      obtain ⟨rfl, _⟩ := List.cons.inj s1
      refine ⟨(tagName_of n hn c e1 z).symm, by rw [hL]; simp; omega, by simp, by simp, fun _ => ?_⟩
      rw [attrs_seg n _ _ _ hn, attrs_like e2 e1 (by decide) (by decide) (by decide) (by decide) _ [], s4]
    · obtain ⟨j1, j2⟩ := k1 hst
      have hlen : passL 3 L = (L.length, st) := by rw [hp, j2, a1]; simp
      rw [hlen]
      simp only
      rw [List.take_length, List.drop_length]
      refine ⟨?_, by rw [j1]; simp, j1, by simp, fun h => absurd h hst⟩
      rw [a1, tagName_of n hn c e1 t]
end Go.Proofs.YtkcgmimldjeaiaaDoor
