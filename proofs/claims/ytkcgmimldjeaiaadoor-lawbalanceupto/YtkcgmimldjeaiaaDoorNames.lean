/-
  Character references: as plain functions on lists of bytes. No program is named here.
-/
import Derived.Lib.RuneBytes
namespace Go.Proofs.YtkcgmimldjeaiaaDoor

/-! ## names: two searches that find the same -/

def step1 (L : List UInt8) (a : Nat × Int) (t : List UInt8 × Int) : Nat × Int := if a.1 < t.1.length ∧ t.1 <+: L then (t.1.length, t.2) else a
def name1 (L : List UInt8) (T : List (List UInt8 × Int)) : Nat × Int := T.foldl (step1 L) (0, 0)
def shut1 (L : List UInt8) (a : Nat × Int) : Nat × Int := if 0 < a.1 ∧ L[a.1 - 1]? ≠ some 59 ∧ L[a.1]? = some 59 then (a.1 + 1, a.2) else a

def stepE (L : List UInt8) (a : List UInt8 × Int) (t : List UInt8 × Int) : List UInt8 × Int :=
  let n := if t.1 ++ [59] <+: L then t.1 ++ [59] else t.1
  if n <+: L ∧ a.1.length < n.length then (n, t.2) else a
def stepC (L : List UInt8) (a : List UInt8 × Int) (t : List UInt8 × Int) : List UInt8 × Int := if t.1 <+: L ∧ a.1.length < t.1.length then t else a
def name2 (L : List UInt8) (E C : List (List UInt8 × Int)) : List UInt8 × Int := C.foldl (stepC L) (E.foldl (stepE L) ([], 0))

/-- the two searches, side by side -/
def Side (L : List UInt8) (N : List (List UInt8)) (a : Nat × Int) (b : List UInt8 × Int) : Prop :=
  a.2 = b.2 ∧ ((a.1 = 0 ∧ b.1 = []) ∨ (0 < a.1 ∧ a.1 ≤ L.length ∧ b.1 = L.take a.1 ∧ (L[a.1 - 1]? = some 59 ∨ L[a.1]? ≠ some 59)) ∨
    (0 < a.1 ∧ a.1 < L.length ∧ L[a.1 - 1]? ≠ some 59 ∧ L[a.1]? = some 59 ∧ b.1 = L.take (a.1 + 1) ∧ L.take a.1 ∈ N))

theorem take_last (L : List UInt8) (m : Nat) (h0 : 0 < m) (h1 : m ≤ L.length) : (L.take m).getLast? = L[m - 1]? := by
  rw [List.getLast?_eq_getElem?, List.length_take, Nat.min_eq_left h1, List.getElem?_take_of_lt (by omega)]
theorem take_shut (L p : List UInt8) (hp : p <+: L) : p ++ [59] <+: L ↔ L[p.length]? = some 59 := by
  obtain ⟨r, rfl⟩ := hp
  rw [List.prefix_append_right_inj]
  cases r with
  | nil => simp
  | cons x r => simp [List.cons_prefix_cons, eq_comm]

theorem side_E {L : List UInt8} {N : List (List UInt8)} {a : Nat × Int} {b t : List UInt8 × Int} (h : Side L N a b) (hN : t.1 ∈ N) (h0 : t.1 ≠ []) (h1 : t.1.getLast? ≠ some 59) :
    Side L N (step1 L a t) (stepE L b t) := by
  obtain ⟨p, k⟩ := t
  obtain ⟨l, c⟩ := a
  obtain ⟨b, c'⟩ := b
  obtain ⟨hc, h⟩ := h
  simp only at hc h h0 h1 hN ⊢
  subst hc
  by_cases hp : p <+: L
  · have hle := hp.length_le
    have hpe := List.prefix_iff_eq_take.1 hp
    have hm : 0 < p.length := List.length_pos_iff.2 h0
    have hL1 : L[p.length - 1]? ≠ some 59 := by rw [← take_last L p.length hm hle, ← hpe]; exact h1
    have hs := take_shut L p hp
    by_cases hL : L[p.length]? = some 59
    · have hlt : p.length < L.length := (List.getElem?_eq_some_iff.1 hL).1
      have hpt : p ++ [59] = L.take (p.length + 1) := by
        have := List.prefix_iff_eq_take.1 (hs.2 hL)
        simpa using this
      have key : (l < p.length ↔ b.length < p.length + 1) := by
        rcases h with ⟨rfl, rfl⟩ | ⟨a0, a1, rfl, a2⟩ | ⟨a0, a1, a2, a3, rfl, a4⟩
        · simp; omega
        · rw [List.length_take, Nat.min_eq_left a1]
          constructor
          · intro; omega
          · intro hx
            rcases Nat.lt_or_ge l p.length with hy | hy
            · exact hy
            · have : l = p.length := by omega
              subst this
              rcases a2 with a2 | a2
              · exact absurd a2 hL1
              · exact absurd hL a2
        · rw [List.length_take, Nat.min_eq_left (by omega)]; omega
      simp only [step1, stepE, hp, hs.2 hL, if_true, and_true, true_and, List.length_append, List.length_singleton]
      by_cases hk : l < p.length
      · rw [if_pos hk, if_pos (key.1 hk)]
        exact ⟨rfl, .inr (.inr ⟨hm, hlt, hL1, hL, hpt, by rw [← hpe]; exact hN⟩)⟩
      · rw [if_neg hk, if_neg (fun x => hk (key.2 x))]
        exact ⟨rfl, h⟩
    · have key : (l < p.length ↔ b.length < p.length) := by
        rcases h with ⟨rfl, rfl⟩ | ⟨a0, a1, rfl, a2⟩ | ⟨a0, a1, a2, a3, rfl, a4⟩
        · simp
        · rw [List.length_take, Nat.min_eq_left a1]
        · rw [List.length_take, Nat.min_eq_left (by omega)]
          constructor
          · intro hx
            rcases Nat.lt_or_ge (l + 1) p.length with hy | hy
            · exact hy
            · exfalso
              have e : p.length - 1 = l := by omega
              rw [e] at hL1
              exact hL1 a3
          · intro; omega
      have hno : ¬ p ++ [59] <+: L := fun x => hL (hs.1 x)
      simp only [step1, stepE, hno, hp, if_false, and_true, true_and]
      by_cases hk : l < p.length
      · rw [if_pos hk, if_pos (key.1 hk)]
        exact ⟨rfl, .inr (.inl ⟨hm, hle, hpe, .inr hL⟩)⟩
      · rw [if_neg hk, if_neg (fun x => hk (key.2 x))]
        exact ⟨rfl, h⟩
  · have hp2 : ¬ p ++ [59] <+: L := fun x => hp ((List.prefix_append p [59]).trans x)
    simp only [step1, stepE, hp, hp2, if_false, and_false, false_and]
    exact ⟨rfl, h⟩

theorem side_C {L : List UInt8} {N : List (List UInt8)} {a : Nat × Int} {b t : List UInt8 × Int} (h : Side L N a b) (h0 : t.1 ≠ []) (h1 : t.1.getLast? = some 59) (h2 : ∀ n ∈ N, t.1 ≠ n ++ [59]) :
    Side L N (step1 L a t) (stepC L b t) := by
  obtain ⟨p, k⟩ := t
  obtain ⟨l, c⟩ := a
  obtain ⟨b, c'⟩ := b
  obtain ⟨hc, h⟩ := h
  simp only at hc h h0 h1 h2 ⊢
  subst hc
  by_cases hp : p <+: L
  · have hle := hp.length_le
    have hpe := List.prefix_iff_eq_take.1 hp
    have hm : 0 < p.length := List.length_pos_iff.2 h0
    have hL1 : L[p.length - 1]? = some 59 := by rw [← take_last L p.length hm hle, ← hpe]; exact h1
    have key : (l < p.length ↔ b.length < p.length) := by
      rcases h with ⟨rfl, rfl⟩ | ⟨a0, a1, rfl, a2⟩ | ⟨a0, a1, a2, a3, rfl, a4⟩
      · simp
      · rw [List.length_take, Nat.min_eq_left a1]
      · rw [List.length_take, Nat.min_eq_left (by omega)]
        constructor
        · intro hx
          rcases Nat.lt_or_ge (l + 1) p.length with hy | hy
          · exact hy
          · exfalso
            have e : p.length = l + 1 := by omega
            refine h2 _ a4 ?_
            rw [hpe, e]
            have := (take_shut L (L.take l) (List.take_prefix _ _)).2 (by rw [List.length_take, Nat.min_eq_left (by omega)]; exact a3)
            have := List.prefix_iff_eq_take.1 this
            rw [this, List.length_append, List.length_take, Nat.min_eq_left (by omega)]
            rfl
        · intro; omega
    simp only [step1, stepC, hp, and_true, true_and]
    by_cases hk : l < p.length
    · rw [if_pos hk, if_pos (key.1 hk)]
      exact ⟨rfl, .inr (.inl ⟨hm, hle, hpe, .inl hL1⟩)⟩
    · rw [if_neg hk, if_neg (fun x => hk (key.2 x))]
      exact ⟨rfl, h⟩
  · simp only [step1, stepC, hp, if_false, and_false, false_and]
    exact ⟨rfl, h⟩

theorem side_all (L : List UInt8) (E C : List (List UInt8 × Int)) (hE : ∀ t ∈ E, t.1 ≠ [] ∧ t.1.getLast? ≠ some 59) (hC : ∀ t ∈ C, t.1 ≠ [] ∧ t.1.getLast? = some 59 ∧ ∀ n ∈ E.map (·.1), t.1 ≠ n ++ [59]) :
    Side L (E.map (·.1)) (name1 L (E ++ C)) (name2 L E C) := by
  have h1 : ∀ (X : List (List UInt8 × Int)), (∀ t ∈ X, t ∈ E) → ∀ a b, Side L (E.map (·.1)) a b → Side L (E.map (·.1)) (X.foldl (step1 L) a) (X.foldl (stepE L) b) := by
    intro X
    induction X with
    | nil => intro _ a b h; exact h
    | cons t X ih =>
      intro hX a b h
      have ht := hX t (.head _)
      exact ih (fun u hu => hX u (.tail _ hu)) _ _ (side_E h (List.mem_map.2 ⟨t, ht, rfl⟩) (hE t ht).1 (hE t ht).2)
  have h2 : ∀ (X : List (List UInt8 × Int)), (∀ t ∈ X, t ∈ C) → ∀ a b, Side L (E.map (·.1)) a b → Side L (E.map (·.1)) (X.foldl (step1 L) a) (X.foldl (stepC L) b) := by
    intro X
    induction X with
    | nil => intro _ a b h; exact h
    | cons t X ih =>
      intro hX a b h
      have ht := hX t (.head _)
      exact ih (fun u hu => hX u (.tail _ hu)) _ _ (side_C h (hC t ht).1 (hC t ht).2.1 (hC t ht).2.2)
  unfold name1 name2
  rw [List.foldl_append]
  exact h2 C (fun _ h => h) _ _ (h1 E (fun _ h => h) _ _ ⟨rfl, .inl ⟨rfl, rfl⟩⟩)

theorem names_eq (L : List UInt8) (E C : List (List UInt8 × Int)) (hE : ∀ t ∈ E, t.1 ≠ [] ∧ t.1.getLast? ≠ some 59) (hC : ∀ t ∈ C, t.1 ≠ [] ∧ t.1.getLast? = some 59 ∧ ∀ n ∈ E.map (·.1), t.1 ≠ n ++ [59]) :
    (name2 L E C).1 = L.take (shut1 L (name1 L (E ++ C))).1 ∧ (name2 L E C).2 = (shut1 L (name1 L (E ++ C))).2 ∧ (shut1 L (name1 L (E ++ C))).1 ≤ L.length := by
  have h := side_all L E C hE hC
  generalize name1 L (E ++ C) = a at h ⊢
  generalize name2 L E C = b at h ⊢
  obtain ⟨hc, h⟩ := h
  unfold shut1
  rcases h with ⟨h0, h1⟩ | ⟨a0, a1, a2, a3⟩ | ⟨a0, a1, a2, a3, a4, _⟩
  · rw [if_neg (by omega)]; exact ⟨by rw [h1, h0]; rfl, hc.symm, by omega⟩
  · rw [if_neg (by rintro ⟨_, x, y⟩; rcases a3 with a3 | a3; exact x a3; exact a3 y)]
    exact ⟨a2, hc.symm, a1⟩
  · rw [if_pos ⟨a0, a2, a3⟩]; exact ⟨a4, hc.symm, a1⟩

/-! ## numbers -/

def digD (c : UInt8) : Bool := decide (48 ≤ c.toNat ∧ c.toNat ≤ 57)
def digX (c : UInt8) : Bool := decide (48 ≤ c.toNat ∧ c.toNat ≤ 57 ∨ 65 ≤ c.toNat ∧ c.toNat ≤ 70 ∨ 97 ≤ c.toNat ∧ c.toNat ≤ 102)
/-- what a digit counts -/
def digV (c : UInt8) : Nat := if c.toNat ≤ 57 then c.toNat - 48 else if c.toNat ≤ 70 then c.toNat - 55 else c.toNat - 87
def valS (b v : Nat) (l : List UInt8) : Nat := l.foldl (fun v c => if v < 1114112 then v * b + digV c else v) v
def valM (b v : Nat) (l : List UInt8) : Nat := l.foldl (fun v c => min (v * b + digV c) 1114112) v
theorem val_eq (b : Nat) (hb : 0 < b) : ∀ (l : List UInt8) (v : Nat), valM b (min v 1114112) l = min (valS b v l) 1114112
  | [], v => rfl
  | c :: l, v => by
    have h := val_eq b hb l (if v < 1114112 then v * b + digV c else v)
    unfold valM valS at h ⊢
    rw [List.foldl_cons, List.foldl_cons, ← h]
    congr 1
    split
    · rename_i hv
      rw [Nat.min_eq_left (a := v) (by omega)]
    · rename_i hv
      rw [Nat.min_eq_right (a := v) (by omega)]
      have : 1114112 * 1 ≤ 1114112 * b := Nat.mul_le_mul_left _ hb
      omega
end Go.Proofs.YtkcgmimldjeaiaaDoor
