/-
  Parts of the walk, joined: Names, Plain, RefText, Good, Byte, Text, Enc, RefTabs, Hidden, FindNum, Set, Remap.
-/
import Derived.Lib.RuneBytes
import Derived.Lib.TrimUEq
import Derived.Lib.DecodeNEq
import Derived.Shelf.Unicode.DecodeSlow
import Derived.Test.YtchhlocibijekaaGreatDoorProg
import Derived.WalkKit
import Derived.WalkLawsBesides
import Derived.WalkSpells
import Derived.Laws.BitsLemmas
import Derived.LoopN
import Derived.Deep.MidRow
import Derived.Test.YtchhlocibijekaaGreatDoorShelf
import Derived.Lib.IndexBytes
import Derived.Deep.QuietTactic
import Derived.BigQuiet
import Derived.BigCall
import Derived.Deep.Cut
import Derived.Great.Walk
import Derived.Great.BuildSlice
/-
  Character references: as plain functions on lists of bytes. No program is named here.
-/
namespace Go.Proofs.YtchhlocibijekaaGreatDoor

/-! ## names: two searches that find the same -/

def step1 (L : List UInt8) (a : Nat × Int) (t : List UInt8 × Int) : Nat × Int := if a.1 < t.1.length ∧ t.1 <+: L then (t.1.length, t.2) else a
def name1 (L : List UInt8) (T : List (List UInt8 × Int)) : Nat × Int := T.foldl (step1 L) (0, 0)
def shut1 (L : List UInt8) (a : Nat × Int) : Nat × Int := if 0 < a.1 ∧ L[a.1 - 1]? ≠ some 59 ∧ L[a.1]? = some 59 then (a.1 + 1, a.2) else a

def stepE (L : List UInt8) (a : List UInt8 × Int) (t : List UInt8 × Int) : List UInt8 × Int :=
  let n := if t.1 ++ [59] <+: L then t.1 ++ [59] else t.1
  if n <+: L ∧ a.1.length < n.length then (n, t.2) else a
def stepC (L : List UInt8) (a : List UInt8 × Int) (t : List UInt8 × Int) : List UInt8 × Int := if t.1 <+: L ∧ a.1.length < t.1.length then t else a
def name2 (L : List UInt8) (E C : List (List UInt8 × Int)) : List UInt8 × Int := C.foldl (stepC L) (E.foldl (stepE L) ([], 0))

/-- the two searches, side by side -/
def Side (L : List UInt8) (N : List (List UInt8)) (a : Nat × Int) (b : List UInt8 × Int) : Prop :=
  a.2 = b.2 ∧ ((a.1 = 0 ∧ b.1 = []) ∨ (0 < a.1 ∧ a.1 ≤ L.length ∧ b.1 = L.take a.1 ∧ (L[a.1 - 1]? = some 59 ∨ L[a.1]? ≠ some 59)) ∨
    (0 < a.1 ∧ a.1 < L.length ∧ L[a.1 - 1]? ≠ some 59 ∧ L[a.1]? = some 59 ∧ b.1 = L.take (a.1 + 1) ∧ L.take a.1 ∈ N))

theorem take_last (L : List UInt8) (m : Nat) (h0 : 0 < m) (h1 : m ≤ L.length) : (L.take m).getLast? = L[m - 1]? := by
  rw [List.getLast?_eq_getElem?, List.length_take, Nat.min_eq_left h1, List.getElem?_take_of_lt (by omega)]
theorem take_shut (L p : List UInt8) (hp : p <+: L) : p ++ [59] <+: L ↔ L[p.length]? = some 59 := by
  obtain ⟨r, rfl⟩ := hp
  rw [List.prefix_append_right_inj]
  cases r with
  | nil => simp
  | cons x r => simp [List.cons_prefix_cons, eq_comm]

theorem side_E {L : List UInt8} {N : List (List UInt8)} {a : Nat × Int} {b t : List UInt8 × Int} (h : Side L N a b) (hN : t.1 ∈ N) (h0 : t.1 ≠ []) (h1 : t.1.getLast? ≠ some 59) :
    Side L N (step1 L a t) (stepE L b t) := by
  obtain ⟨p, k⟩ := t
  obtain ⟨l, c⟩ := a
  obtain ⟨b, c'⟩ := b
  obtain ⟨hc, h⟩ := h
  simp only at hc h h0 h1 hN ⊢
  subst hc
  by_cases hp : p <+: L
  · have hle := hp.length_le
    have hpe := List.prefix_iff_eq_take.1 hp
    have hm : 0 < p.length := List.length_pos_iff.2 h0
    have hL1 : L[p.length - 1]? ≠ some 59 := by rw [← take_last L p.length hm hle, ← hpe]; exact h1
    have hs := take_shut L p hp
    by_cases hL : L[p.length]? = some 59
    · have hlt : p.length < L.length := (List.getElem?_eq_some_iff.1 hL).1
      have hpt : p ++ [59] = L.take (p.length + 1) := by
        have := List.prefix_iff_eq_take.1 (hs.2 hL)
        simpa using this
      have key : (l < p.length ↔ b.length < p.length + 1) := by
        rcases h with ⟨rfl, rfl⟩ | ⟨a0, a1, rfl, a2⟩ | ⟨a0, a1, a2, a3, rfl, a4⟩
        · simp; omega
        · rw [List.length_take, Nat.min_eq_left a1]
          constructor
          · intro; omega
          · intro hx
            rcases Nat.lt_or_ge l p.length with hy | hy
            · exact hy
            · have : l = p.length := by omega
              subst this
              rcases a2 with a2 | a2
              · exact absurd a2 hL1
              · exact absurd hL a2
        · rw [List.length_take, Nat.min_eq_left (by omega)]; omega
      simp only [step1, stepE, hp, hs.2 hL, if_true, and_true, true_and, List.length_append, List.length_singleton]
      by_cases hk : l < p.length
      · rw [if_pos hk, if_pos (key.1 hk)]
        exact ⟨rfl, .inr (.inr ⟨hm, hlt, hL1, hL, hpt, by rw [← hpe]; exact hN⟩)⟩
      · rw [if_neg hk, if_neg (fun x => hk (key.2 x))]
        exact ⟨rfl, h⟩
    · have key : (l < p.length ↔ b.length < p.length) := by
        rcases h with ⟨rfl, rfl⟩ | ⟨a0, a1, rfl, a2⟩ | ⟨a0, a1, a2, a3, rfl, a4⟩
        · simp
        · rw [List.length_take, Nat.min_eq_left a1]
        · rw [List.length_take, Nat.min_eq_left (by omega)]
          constructor
          · intro hx
            rcases Nat.lt_or_ge (l + 1) p.length with hy | hy
            · exact hy
            · exfalso
              have e : p.length - 1 = l := by omega
              rw [e] at hL1
              exact hL1 a3
          · intro; omega
      have hno : ¬ p ++ [59] <+: L := fun x => hL (hs.1 x)
      simp only [step1, stepE, hno, hp, if_false, and_true, true_and]
      by_cases hk : l < p.length
      · rw [if_pos hk, if_pos (key.1 hk)]
        exact ⟨rfl, .inr (.inl ⟨hm, hle, hpe, .inr hL⟩)⟩
      · rw [if_neg hk, if_neg (fun x => hk (key.2 x))]
        exact ⟨rfl, h⟩
  · have hp2 : ¬ p ++ [59] <+: L := fun x => hp ((List.prefix_append p [59]).trans x)
    simp only [step1, stepE, hp, hp2, if_false, and_false, false_and]
    exact ⟨rfl, h⟩

theorem side_C {L : List UInt8} {N : List (List UInt8)} {a : Nat × Int} {b t : List UInt8 × Int} (h : Side L N a b) (h0 : t.1 ≠ []) (h1 : t.1.getLast? = some 59) (h2 : ∀ n ∈ N, t.1 ≠ n ++ [59]) :
    Side L N (step1 L a t) (stepC L b t) := by
  obtain ⟨p, k⟩ := t
  obtain ⟨l, c⟩ := a
  obtain ⟨b, c'⟩ := b
  obtain ⟨hc, h⟩ := h
  simp only at hc h h0 h1 h2 ⊢
  subst hc
  by_cases hp : p <+: L
  · have hle := hp.length_le
    have hpe := List.prefix_iff_eq_take.1 hp
    have hm : 0 < p.length := List.length_pos_iff.2 h0
    have hL1 : L[p.length - 1]? = some 59 := by rw [← take_last L p.length hm hle, ← hpe]; exact h1
    have key : (l < p.length ↔ b.length < p.length) := by
      rcases h with ⟨rfl, rfl⟩ | ⟨a0, a1, rfl, a2⟩ | ⟨a0, a1, a2, a3, rfl, a4⟩
      · simp
      · rw [List.length_take, Nat.min_eq_left a1]
      · rw [List.length_take, Nat.min_eq_left (by omega)]
        constructor
        · intro hx
          rcases Nat.lt_or_ge (l + 1) p.length with hy | hy
          · exact hy
          · exfalso
            have e : p.length = l + 1 := by omega
            refine h2 _ a4 ?_
            rw [hpe, e]
            have := (take_shut L (L.take l) (List.take_prefix _ _)).2 (by rw [List.length_take, Nat.min_eq_left (by omega)]; exact a3)
            have := List.prefix_iff_eq_take.1 this
            rw [this, List.length_append, List.length_take, Nat.min_eq_left (by omega)]
            rfl
        · intro; omega
    simp only [step1, stepC, hp, and_true, true_and]
    by_cases hk : l < p.length
    · rw [if_pos hk, if_pos (key.1 hk)]
      exact ⟨rfl, .inr (.inl ⟨hm, hle, hpe, .inl hL1⟩)⟩
    · rw [if_neg hk, if_neg (fun x => hk (key.2 x))]
      exact ⟨rfl, h⟩
  · simp only [step1, stepC, hp, if_false, and_false, false_and]
    exact ⟨rfl, h⟩

theorem side_all (L : List UInt8) (E C : List (List UInt8 × Int)) (hE : ∀ t ∈ E, t.1 ≠ [] ∧ t.1.getLast? ≠ some 59) (hC : ∀ t ∈ C, t.1 ≠ [] ∧ t.1.getLast? = some 59 ∧ ∀ n ∈ E.map (·.1), t.1 ≠ n ++ [59]) :
    Side L (E.map (·.1)) (name1 L (E ++ C)) (name2 L E C) := by
  have h1 : ∀ (X : List (List UInt8 × Int)), (∀ t ∈ X, t ∈ E) → ∀ a b, Side L (E.map (·.1)) a b → Side L (E.map (·.1)) (X.foldl (step1 L) a) (X.foldl (stepE L) b) := by
    intro X
    induction X with
    | nil => intro _ a b h; exact h
    | cons t X ih =>
      intro hX a b h
      have ht := hX t (.head _)
      exact ih (fun u hu => hX u (.tail _ hu)) _ _ (side_E h (List.mem_map.2 ⟨t, ht, rfl⟩) (hE t ht).1 (hE t ht).2)
  have h2 : ∀ (X : List (List UInt8 × Int)), (∀ t ∈ X, t ∈ C) → ∀ a b, Side L (E.map (·.1)) a b → Side L (E.map (·.1)) (X.foldl (step1 L) a) (X.foldl (stepC L) b) := by
    intro X
    induction X with
    | nil => intro _ a b h; exact h
    | cons t X ih =>
      intro hX a b h
      have ht := hX t (.head _)
      exact ih (fun u hu => hX u (.tail _ hu)) _ _ (side_C h (hC t ht).1 (hC t ht).2.1 (hC t ht).2.2)
  unfold name1 name2
  rw [List.foldl_append]
  exact h2 C (fun _ h => h) _ _ (h1 E (fun _ h => h) _ _ ⟨rfl, .inl ⟨rfl, rfl⟩⟩)

theorem names_eq (L : List UInt8) (E C : List (List UInt8 × Int)) (hE : ∀ t ∈ E, t.1 ≠ [] ∧ t.1.getLast? ≠ some 59) (hC : ∀ t ∈ C, t.1 ≠ [] ∧ t.1.getLast? = some 59 ∧ ∀ n ∈ E.map (·.1), t.1 ≠ n ++ [59]) :
    (name2 L E C).1 = L.take (shut1 L (name1 L (E ++ C))).1 ∧ (name2 L E C).2 = (shut1 L (name1 L (E ++ C))).2 ∧ (shut1 L (name1 L (E ++ C))).1 ≤ L.length := by
  have h := side_all L E C hE hC
  generalize name1 L (E ++ C) = a at h ⊢
  generalize name2 L E C = b at h ⊢
  obtain ⟨hc, h⟩ := h
  unfold shut1
  rcases h with ⟨h0, h1⟩ | ⟨a0, a1, a2, a3⟩ | ⟨a0, a1, a2, a3, a4, _⟩
  · rw [if_neg (by omega)]; exact ⟨by rw [h1, h0]; rfl, hc.symm, by omega⟩
  · rw [if_neg (by rintro ⟨_, x, y⟩; rcases a3 with a3 | a3; exact x a3; exact a3 y)]
    exact ⟨a2, hc.symm, a1⟩
  · rw [if_pos ⟨a0, a2, a3⟩]; exact ⟨a4, hc.symm, a1⟩

/-! ## numbers -/

def digD (c : UInt8) : Bool := decide (48 ≤ c.toNat ∧ c.toNat ≤ 57)
def digX (c : UInt8) : Bool := decide (48 ≤ c.toNat ∧ c.toNat ≤ 57 ∨ 65 ≤ c.toNat ∧ c.toNat ≤ 70 ∨ 97 ≤ c.toNat ∧ c.toNat ≤ 102)
/-- what a digit counts -/
def digV (c : UInt8) : Nat := if c.toNat ≤ 57 then c.toNat - 48 else if c.toNat ≤ 70 then c.toNat - 55 else c.toNat - 87
def valS (b v : Nat) (l : List UInt8) : Nat := l.foldl (fun v c => if v < 1114112 then v * b + digV c else v) v
def valM (b v : Nat) (l : List UInt8) : Nat := l.foldl (fun v c => min (v * b + digV c) 1114112) v
theorem val_eq (b : Nat) (hb : 0 < b) : ∀ (l : List UInt8) (v : Nat), valM b (min v 1114112) l = min (valS b v l) 1114112
  | [], v => rfl
  | c :: l, v => by
    have h := val_eq b hb l (if v < 1114112 then v * b + digV c else v)
    unfold valM valS at h ⊢
    rw [List.foldl_cons, List.foldl_cons, ← h]
    congr 1
    split
    · rename_i hv
      rw [Nat.min_eq_left (a := v) (by omega)]
    · rename_i hv
      rw [Nat.min_eq_right (a := v) (by omega)]
      have : 1114112 * 1 ≤ 1114112 * b := Nat.mul_le_mul_left _ hb
      omega
end Go.Proofs.YtchhlocibijekaaGreatDoor

/-
  Plain facts on bytes and characters: how a text is decoded, cut and put together. No program is named here.
-/
namespace Go.Proofs.YtchhlocibijekaaGreatDoor
open Go.Lib

/-- a good character, by its number -/
def goodB (c : Int) : Bool :=
  decide (c < 32 ∧ (c = 9 ∨ c = 10 ∨ c = 12) ∨
    32 ≤ c ∧ ¬ (127 ≤ c ∧ c ≤ 159) ∧ ¬ (55296 ≤ c ∧ c ≤ 57343) ∧ ¬ (64976 ≤ c ∧ c ≤ 65007) ∧ c ≤ 1114111 ∧ c % 65536 < 65534)

/-- do n bytes that begin so hold a whole character, or none -/
def fullN (n b0 b1 b2 : Nat) : Bool :=
  decide (0 < n ∧ (firstT b0 % 8 ≤ n ∨ (1 < n ∧ (b1 < accLo (firstT b0 / 16) ∨ accHi (firstT b0 / 16) < b1)) ∨ (2 < n ∧ (b2 < 128 ∨ 191 < b2))))
def fullL (l : List UInt8) : Bool := fullN l.length (l.getD 0 0).toNat (l.getD 1 0).toNat (l.getD 2 0).toNat

set_option maxRecDepth 100000 in
set_option maxHeartbeats 4000000 in
/-- what is no beginning of a character stays what it is, whatever comes behind it -/
theorem stableN (n m b0 b1 b2 b3 c1 c2 c3 : Nat) (hn : 1 ≤ n) (hm : n ≤ m) (l0 : b0 < 256) (l1 : b1 < 256) (l2 : b2 < 256) (l3 : b3 < 256) (m1 : c1 < 256) (m2 : c2 < 256) (m3 : c3 < 256)
    (e1 : 1 < n → c1 = b1) (e2 : 2 < n → c2 = b2) (e3 : 3 < n → c3 = b3) (h : (decodeN n b0 b1 b2 b3).1 ≠ 65533 ∨ fullN n b0 b1 b2 = true) :
    decodeN m b0 c1 c2 c3 = decodeN n b0 b1 b2 b3 := by
  rcases firstT_cases b0 with hX | hX | hX | hX | hX | hX | hX | hX | hX
  · rw [ascii_eq _ _ _ _ _ hX, ascii_eq _ _ _ _ _ hX]
  · rw [bad_eq _ _ _ _ _ (by omega) hX, bad_eq _ _ _ _ _ (by omega) hX]
  all_goals
    have hs := (slow_eq n b0 b1 b2 b3 hn l1 l2 l3 (by omega)).symm
    have ht := (slow_eq m b0 c1 c2 c3 (by omega) m1 m2 m3 (by omega)).symm
    rw [hs] at h ⊢
    rw [ht]
    clear hs ht
    simp only [fullN, hX, decide_eq_true_eq] at h
    simp only [hX, accLo, accHi, Nat.reduceMod, Nat.reduceDiv, Nat.reduceEqDiff, if_true, if_false] at h ⊢
    unfold slowN at h ⊢
    repeat' split at h
    all_goals (repeat' split)
    all_goals first
      | rfl
      | (exfalso; omega)
      | (rw [e1 (by omega)]; done)
      | (rw [e1 (by omega), e2 (by omega)]; done)
      | (rw [e1 (by omega), e2 (by omega), e3 (by omega)]; done)
      | (exfalso; simp at h; omega)
end Go.Proofs.YtchhlocibijekaaGreatDoor

/-
  Character references: the tables and the whole answer, as plain functions on lists of bytes.
-/
namespace Go.Proofs.YtchhlocibijekaaGreatDoor
open Go.Lib

def eitherT : List (List UInt8 × Int) := [([65, 77, 80], 38), ([97, 109, 112], 38), ([99, 111, 112, 121], 169), ([100, 101, 103], 176), ([71, 84], 62), ([103, 116], 62),
  ([76, 84], 60), ([108, 116], 60), ([110, 98, 115, 112], 160), ([110, 111, 116], 172), ([112, 97, 114, 97], 182), ([81, 85, 79, 84], 34),
  ([113, 117, 111, 116], 34), ([114, 101, 103], 174), ([116, 105, 109, 101, 115], 215)]
def closedT : List (List UInt8 × Int) := [([97, 112, 111, 115, 59], 39), ([98, 117, 108, 108, 59], 8226), ([99, 111, 108, 111, 110, 59], 58), ([99, 111, 112, 121, 115, 114, 59], 8471), ([101, 117, 114, 111, 59], 8364), ([103, 116, 100, 111, 116, 59], 8919),
  ([104, 101, 108, 108, 105, 112, 59], 8230), ([108, 100, 113, 117, 111, 59], 8220), ([108, 112, 97, 114, 59], 40), ([108, 115, 113, 117, 111, 59], 8216), ([108, 116, 105, 109, 101, 115, 59], 8905), ([109, 100, 97, 115, 104, 59], 8212),
  ([110, 100, 97, 115, 104, 59], 8211), ([78, 101, 119, 76, 105, 110, 101, 59], 10), ([110, 111, 116, 105, 110, 59], 8713), ([110, 117, 109, 59], 35), ([112, 97, 114, 97, 108, 108, 101, 108, 59], 8741), ([114, 100, 113, 117, 111, 59], 8221),
  ([114, 112, 97, 114, 59], 41), ([114, 115, 113, 117, 111, 59], 8217), ([115, 111, 108, 59], 47), ([84, 97, 98, 59], 9), ([116, 105, 109, 101, 115, 98, 59], 8864), ([116, 114, 97, 100, 101, 59], 8482)]
def replT : List Int := [8364, 65533, 8218, 402, 8222, 8230, 8224, 8225, 710, 8240, 352, 8249, 338, 65533, 381, 65533, 65533, 8216, 8217, 8220, 8221, 8226, 8211, 8212, 732, 8482, 353, 8250, 339, 65533, 382, 376]
def remapT : List (Int × Int) := [(128, 8364), (130, 8218), (131, 402), (132, 8222), (133, 8230), (134, 8224), (135, 8225), (136, 710), (137, 8240), (138, 352), (139, 8249), (140, 338), (142, 381), (145, 8216), (146, 8217), (147, 8220), (148, 8221), (149, 8226), (150, 8211), (151, 8212), (152, 732), (153, 8482), (154, 353), (155, 8250), (156, 339), (158, 382), (159, 376)]

theorem eitherT_ok : ∀ t ∈ eitherT, t.1 ≠ [] ∧ t.1.getLast? ≠ some 59 := by decide +kernel
theorem closedT_ok : ∀ t ∈ closedT, t.1 ≠ [] ∧ t.1.getLast? = some 59 ∧ ∀ n ∈ eitherT.map (·.1), t.1 ≠ n ++ [59] := by decide +kernel

def remapL : List (Int × Int) → Int → Int
  | [], v => v
  | p :: l, v => if p.1 = v then p.2 else remapL l v
theorem remapL_big : ∀ (l : List (Int × Int)) (v : Int), (∀ p ∈ l, p.1 ≤ 159) → 159 < v → remapL l v = v
  | [], _, _, _ => rfl
  | p :: l, v, h, hv => by
    have := h p (.head _)
    rw [remapL, if_neg (by omega)]
    exact remapL_big l v (fun q hq => h q (.tail _ hq)) hv
/-- what a number stands for -/
def numb (v : Int) : Int := if 128 ≤ v ∧ v ≤ 159 then replT.getD (v - 128).toNat 0 else if goodB v then v else 65533
def numbR (v : Int) : Int := if goodB (remapL remapT v) then remapL remapT v else 65533
theorem numb_small : ∀ v : Fin 160, numbR (v.val : Int) = numb (v.val : Int) := by decide +kernel
theorem numb_over (z : Int) (h : 159 < z) : numb z = if goodB z then z else 65533 := by
  unfold numb
  rw [if_neg (by omega)]
theorem numb_eq (v : Nat) : numbR (v : Int) = numb ((min v 1114112 : Nat) : Int) := by
  rcases Nat.lt_or_ge v 160 with h | h
  · rw [Nat.min_eq_left (by omega)]; exact numb_small ⟨v, h⟩
  · unfold numbR
    rw [remapL_big remapT _ (by decide +kernel) (by omega), numb_over _ (by omega)]
    rcases Nat.lt_or_ge v 1114112 with h2 | h2
    · rw [Nat.min_eq_left (by omega)]
    · rw [Nat.min_eq_right (by omega)]
      have h3 : goodB (v : Int) = false := by simp [goodB]; omega
      have h4 : goodB ((1114112 : Nat) : Int) = false := by decide +kernel
      rw [h3, h4]; rfl
theorem numb_good (v : Int) (_h : 0 ≤ v) : 0 ≤ numb v ∧ numb v ≤ 1114111 ∧ ¬ (55296 ≤ numb v ∧ numb v ≤ 57343) := by
  have ht : ∀ z ∈ replT, 0 ≤ z ∧ z ≤ 1114111 ∧ ¬ (55296 ≤ z ∧ z ≤ 57343) := by decide +kernel
  unfold numb
  split
  · have hl : (v - 128).toNat < replT.length := by have : replT.length = 32 := rfl; omega
    rw [List.getD_eq_getElem?_getD, List.getElem?_eq_getElem hl]
    exact ht _ (List.getElem_mem hl)
  · split
    · rename_i _ h
      simp [goodB] at h
      omega
    · omega

def hexN (N : List UInt8) : Bool := N[1]? == some 120 || N[1]? == some 88
def fromN (N : List UInt8) : Nat := if hexN N then 2 else 1
def baseN (N : List UInt8) : Nat := if hexN N then 16 else 10
def digN (N : List UInt8) : UInt8 → Bool := if hexN N then digX else digD
def digsN (N : List UInt8) : List UInt8 := (N.drop (fromN N)).takeWhile (digN N)
/-- the numeric reference that the bytes begin with: its length and its character -/
def numL (N : List UInt8) : Nat × Int :=
  if digsN N = [] then (0, 0) else
    (fromN N + (digsN N).length + (if N[fromN N + (digsN N).length]? = some 59 then 1 else 0), numb ((min (valS (baseN N) 0 (digsN N)) 1114112 : Nat) : Int))
def goesB (c : UInt8) : Bool := decide (c.toNat = 61 ∨ 48 ≤ c.toNat ∧ c.toNat ≤ 57 ∨ 65 ≤ c.toNat ∧ c.toNat ≤ 90 ∨ 97 ≤ c.toNat ∧ c.toNat ≤ 122)
def goesL (L : List UInt8) : Bool := match L with | [] => false | c :: _ => goesB c
def nameL (L : List UInt8) : Nat × Int := shut1 L (name1 L (eitherT ++ closedT))
/-- the reference that the bytes behind an ampersand begin with: its length, 0 where there is none, and its character -/
def refL (attr : Bool) (L : List UInt8) : Nat × Int :=
  if L[0]? = some 35 then numL (L.take 31)
  else if attr = true ∧ 0 < (nameL L).1 ∧ L[(nameL L).1 - 1]? ≠ some 59 ∧ goesL (L.drop (nameL L).1) = true then (0, 0) else nameL L
def oneL (attr : Bool) (L : List UInt8) : List UInt8 := if (refL attr L).1 = 0 then [38] else encodeRune (refL attr L).2

def unrL (attr : Bool) : Nat → List UInt8 → List UInt8
  | 0, _ => []
  | _ + 1, [] => []
  | n + 1, c :: r => if c = 38 then oneL attr r ++ unrL attr n (r.drop (refL attr r).1) else c :: unrL attr n r
def unr (attr : Bool) (L : List UInt8) : List UInt8 := unrL attr L.length L
theorem unrL_fuel (attr : Bool) : ∀ (f g : Nat) (L : List UInt8), L.length ≤ f → L.length ≤ g → unrL attr f L = unrL attr g L
  | 0, 0, _, _, _ => rfl
  | 0, g + 1, L, h, _ => by obtain rfl := List.length_eq_zero_iff.1 (Nat.le_zero.1 h); rfl
  | f + 1, 0, L, _, h => by obtain rfl := List.length_eq_zero_iff.1 (Nat.le_zero.1 h); rfl
  | f + 1, g + 1, [], _, _ => rfl
  | f + 1, g + 1, c :: r, h1, h2 => by
    simp only [List.length_cons] at h1 h2
    simp only [unrL]
    rw [unrL_fuel attr f g r (by omega) (by omega), unrL_fuel attr f g (r.drop _) (by rw [List.length_drop]; omega) (by rw [List.length_drop]; omega)]
theorem unr_nil (attr : Bool) : unr attr [] = [] := rfl
theorem unr_amp (attr : Bool) (r : List UInt8) : unr attr (38 :: r) = oneL attr r ++ unr attr (r.drop (refL attr r).1) := by
  unfold unr
  rw [List.length_cons, unrL, if_pos rfl, unrL_fuel attr r.length (r.drop (refL attr r).1).length _ (by rw [List.length_drop]; omega) (Nat.le_refl _)]
theorem unr_other (attr : Bool) (c : UInt8) (r : List UInt8) (h : c ≠ 38) : unr attr (c :: r) = c :: unr attr r := by
  unfold unr
  rw [List.length_cons, unrL, if_neg h]
theorem unr_ahead (attr : Bool) : ∀ (a r : List UInt8), (∀ c ∈ a, c ≠ 38) → unr attr (a ++ r) = a ++ unr attr r
  | [], _, _ => rfl
  | c :: a, r, h => by
    rw [List.cons_append, unr_other attr c _ (h c (.head _)), unr_ahead attr a r (fun d hd => h d (.tail _ hd))]; rfl
theorem oneL_len (attr : Bool) (L : List UInt8) : (oneL attr L).length ≤ 4 := by
  unfold oneL
  split
  · simp
  · rw [← runeCells_length]; unfold runeCells; rw [List.length_map]; exact (encodeRuneZ_length _).2
theorem unr_len (attr : Bool) : ∀ (n : Nat) (L : List UInt8), L.length ≤ n → (unr attr L).length ≤ 4 * L.length
  | _, [], _ => by rw [unr_nil]; simp
  | 0, c :: r, h => by simp at h
  | n + 1, c :: r, h => by
    simp only [List.length_cons] at h
    by_cases hc : c = 38
    · subst hc
      have h1 := oneL_len attr r
      have h2 := unr_len attr n (r.drop (refL attr r).1) (by rw [List.length_drop]; omega)
      rw [List.length_drop] at h2
      rw [unr_amp, List.length_append, List.length_cons]
      omega
    · have h2 := unr_len attr n r (by omega)
      rw [unr_other attr c r hc, List.length_cons, List.length_cons]
      omega

/-! ## what the loops go by -/

theorem while_step {p : UInt8 → Bool} {N : List UInt8} {e : Nat} {c : UInt8} (h : N[e]? = some c) (hp : p c = true) : (N.drop e).takeWhile p = c :: (N.drop (e + 1)).takeWhile p := by
  obtain ⟨h1, h2⟩ := List.getElem?_eq_some_iff.1 h
  rw [List.drop_eq_getElem_cons h1, h2, List.takeWhile_cons, if_pos hp]
theorem while_stop {p : UInt8 → Bool} {N : List UInt8} {e : Nat} (h : ∀ c, N[e]? = some c → p c = false) : (N.drop e).takeWhile p = [] := by
  rcases Nat.lt_or_ge e N.length with h1 | h1
  · rw [List.drop_eq_getElem_cons h1, List.takeWhile_cons, if_neg (by rw [h _ (List.getElem?_eq_getElem h1)]; simp)]
  · rw [List.drop_of_length_le h1]; rfl
/-- what a byte counts as a digit; 16: it is none -/
def digK (c : UInt8) : Nat := if 48 ≤ c.toNat ∧ c.toNat ≤ 57 then c.toNat - 48 else if 65 ≤ c.toNat ∧ c.toNat ≤ 70 then c.toNat - 55 else if 97 ≤ c.toNat ∧ c.toNat ≤ 102 then c.toNat - 87 else 16
theorem digK_D (c : UInt8) : decide (digK c < 10) = digD c := by
  unfold digK digD
  apply decide_eq_decide.2
  repeat' split
  all_goals omega
theorem digK_X (c : UInt8) : decide (digK c < 16) = digX c := by
  unfold digK digX
  apply decide_eq_decide.2
  repeat' split
  all_goals omega
theorem digK_V (c : UInt8) (h : digX c = true) : digK c = digV c := by
  unfold digX at h
  rw [decide_eq_true_eq] at h
  unfold digK digV
  repeat' split
  all_goals omega
theorem digV_lt (c : UInt8) (h : digX c = true) : digV c < 16 := by
  unfold digX at h
  rw [decide_eq_true_eq] at h
  unfold digV
  repeat' split
  all_goals omega
theorem digD_X (c : UInt8) (h : digD c = true) : digX c = true := by
  unfold digD at h
  unfold digX
  rw [decide_eq_true_eq] at h ⊢
  omega
theorem digN_K (N : List UInt8) (c : UInt8) : decide (digK c < baseN N) = digN N c := by
  unfold baseN digN
  split
  · exact digK_X c
  · exact digK_D c
theorem digN_X (N : List UInt8) (c : UInt8) (h : digN N c = true) : digX c = true := by
  unfold digN at h
  split at h
  · exact h
  · exact digD_X c h
end Go.Proofs.YtchhlocibijekaaGreatDoor

/-
  Whether a character is good: what chars.isGood answers, as a plain function, and its walk.
-/
namespace Go.Proofs.YtchhlocibijekaaGreatDoor
open Go.RowKit

theorem and65534 (a : Nat) : a &&& 65534 = 2 * (a / 2 % 32768) := by
  have h1 : (a &&& 65534) / 2 = a / 2 % 32768 := by
    rw [Nat.and_div_two]
    exact Nat.and_two_pow_sub_one_eq_mod (a / 2) 15
  have h2 : (a &&& 65534) % 2 = 0 := by
    have := @Nat.and_mod_two_pow a 65534 1
    simpa using this
  omega
theorem last_two (c : Int) (h0 : 0 ≤ c) (h1 : c ≤ 1114111) : (bits BinOp.and IntKind.i32 c 65534 != 65534) = decide (c % 65536 < 65534) := by
  obtain ⟨a, rfl⟩ := Int.eq_ofNat_of_zero_le h0
  have e : bits BinOp.and IntKind.i32 (a : Int) 65534 = ((a &&& 65534 : Nat) : Int) :=
    (bits_nat .i32 31 (by decide) wraps_i32 a 65534 (by omega) (by decide)).1
  rw [e, and65534]
  by_cases h : (a : Int) % 65536 < 65534
  · have : ¬ (((2 * (a / 2 % 32768) : Nat) : Int) = 65534) := by omega
    simp [h]; omega
  · have : (((2 * (a / 2 % 32768) : Nat) : Int) = 65534) := by omega
    simp [h, this]

theorem ret_bool {a b : Bool} (h : a = b) : Ending.returned (.bool a) = .returned (.bool b) := by rw [h]

set_option maxHeartbeats 400000 in
theorem good_any (c : Int) (h0 : 0 ≤ c) (h1 : c ≤ 1114112) (w : World) :
    Calls Tryz.prog 132 #[.int .i32 c] w fun e w' => e = .returned (.bool (goodB c)) ∧ w' = w := by
  go_enter Tryz.func132, Tryz.ntmps132
  go_wp2
  all_goals go_ret
  all_goals refine ⟨ret_bool ?_, rfl⟩
  all_goals first
    | (rw [last_two c (by omega) (by omega)]; unfold goodB; rw [decide_eq_decide]; omega)
    | (rw [Bool.eq_iff_iff]; simp only [goodB, decide_eq_true_iff, Bool.or_eq_true, beq_iff_eq, Bool.false_eq_true, false_iff, true_iff]; omega)
end Go.Proofs.YtchhlocibijekaaGreatDoor

/-
  Single bytes: scrub/ascii's functions, scrubref's, and what a digit counts: their walks.
-/
namespace Go.Proofs.YtchhlocibijekaaGreatDoor
open Go.RowKit Go.Lib

theorem ret_u8 {a b : Int} (h : a = b) : Ending.returned (.int .u8 a) = .returned (.int .u8 b) := by rw [h]
theorem ret_i64 {a b : Int} (h : a = b) : Ending.returned (.int .i64 a) = .returned (.int .i64 b) := by rw [h]
def lowZ (z : Int) : Int := if 65 ≤ z ∧ z ≤ 90 then z + 32 else z
def isDigZ (z : Int) : Bool := decide (48 ≤ z ∧ z ≤ 57)
def isLetZ (z : Int) : Bool := decide (65 ≤ z ∧ z ≤ 90 ∨ 97 ≤ z ∧ z ≤ 122)
def digZ (z : Int) : Int := if 48 ≤ z ∧ z ≤ 57 then z - 48 else if 65 ≤ z ∧ z ≤ 70 then z - 55 else if 97 ≤ z ∧ z ≤ 102 then z - 87 else 16

theorem low_any (z : Int) (h0 : 0 ≤ z) (h1 : z ≤ 255) (w : World) :
    Calls Tryz.prog 68 #[.int .u8 z] w fun e w' => e = .returned (.int .u8 (lowZ z)) ∧ w' = w := by
  go_enter Tryz.func68, Tryz.ntmps68
  go_wp2
  all_goals go_ret
  all_goals refine ⟨ret_u8 ?_, rfl⟩
  all_goals (unfold lowZ; split <;> omega)
theorem dig_any (z : Int) (_h0 : 0 ≤ z) (_h1 : z ≤ 255) (w : World) :
    Calls Tryz.prog 103 #[.int .u8 z] w fun e w' => e = .returned (.bool (isDigZ z)) ∧ w' = w := by
  go_enter Tryz.func103, Tryz.ntmps103
  go_wp2
  all_goals go_ret
  all_goals refine ⟨ret_bool ?_, rfl⟩
  all_goals (rw [Bool.eq_iff_iff]; simp [isDigZ]; omega)
theorem low_or (z : Int) : (65 ≤ z ∧ z ≤ 90 ∧ lowZ z = z + 32) ∨ (¬ (65 ≤ z ∧ z ≤ 90) ∧ lowZ z = z) := by
  unfold lowZ
  split <;> omega
theorem let_any (z : Int) (h0 : 0 ≤ z) (h1 : z ≤ 255) (w : World) :
    Calls Tryz.prog 101 #[.int .u8 z] w fun e w' => e = .returned (.bool (isLetZ z)) ∧ w' = w := by
  have hc := fun W => low_any z h0 h1 W
  have hl := low_or z
  generalize lowZ z = l at hc hl
  go_enter Tryz.func101, Tryz.ntmps101
  go_wp2_with (go_at_call 68; refine (hc _).mono ?_; rintro e w' ⟨rfl, rfl⟩)
  all_goals go_ret
  all_goals refine ⟨ret_bool ?_, rfl⟩
  all_goals (rw [Bool.eq_iff_iff]; simp [isLetZ]; omega)
theorem refDig_any (z : Int) (_h0 : 0 ≤ z) (_h1 : z ≤ 255) (w : World) :
    Calls Tryz.prog 96 #[.int .u8 z] w fun e w' => e = .returned (.bool (isDigZ z)) ∧ w' = w := by
  go_enter Tryz.func96, Tryz.ntmps96
  go_wp2
  all_goals go_ret
  all_goals refine ⟨ret_bool ?_, rfl⟩
  all_goals (rw [Bool.eq_iff_iff]; simp [isDigZ]; omega)
theorem refLet_any (z : Int) (_h0 : 0 ≤ z) (_h1 : z ≤ 255) (w : World) :
    Calls Tryz.prog 84 #[.int .u8 z] w fun e w' => e = .returned (.bool (isLetZ z)) ∧ w' = w := by
  go_enter Tryz.func84, Tryz.ntmps84
  go_wp2
  all_goals go_ret
  all_goals refine ⟨ret_bool ?_, rfl⟩
  all_goals (rw [Bool.eq_iff_iff]; simp [isLetZ]; omega)
theorem digit_any (z : Int) (h0 : 0 ≤ z) (h1 : z ≤ 255) (w : World) :
    Calls Tryz.prog 115 #[.int .u8 z] w fun e w' => e = .returned (.int .i64 (digZ z)) ∧ w' = w := by
  have hc := fun W => low_any z h0 h1 W
  have hl := low_or z
  generalize lowZ z = l at hc hl
  have hd := fun W => dig_any z h0 h1 W
  have hi : isDigZ z = decide (48 ≤ z ∧ z ≤ 57) := rfl
  generalize isDigZ z = d at hd hi
  go_enter Tryz.func115, Tryz.ntmps115
  go_wp2_with (first | (go_at_call 68; refine (hc _).mono ?_; rintro e w' ⟨rfl, rfl⟩) | (go_at_call 103; refine (hd _).mono ?_; rintro e w' ⟨rfl, rfl⟩))
  all_goals go_ret
  all_goals refine ⟨ret_i64 ?_, rfl⟩
  all_goals (unfold digZ; (repeat' split) <;> omega)
theorem hex_any (z : Int) (h0 : 0 ≤ z) (h1 : z ≤ 255) (h2 : digZ z < 16) (w : World) :
    Calls Tryz.prog 118 #[.int .u8 z] w fun e w' => e = .returned (.int .i64 (digZ z)) ∧ w' = w := by
  have hd := fun W => refDig_any z h0 h1 W
  have hi : isDigZ z = decide (48 ≤ z ∧ z ≤ 57) := rfl
  generalize isDigZ z = d at hd hi
  have hz : (48 ≤ z ∧ z ≤ 57 ∧ digZ z = z - 48) ∨ (65 ≤ z ∧ z ≤ 70 ∧ digZ z = z - 55) ∨ (97 ≤ z ∧ z ≤ 102 ∧ digZ z = z - 87) := by
    unfold digZ at h2 ⊢
    repeat' split at h2
    all_goals (repeat' split)
    all_goals omega
  generalize digZ z = v at hz
  go_enter Tryz.func118, Tryz.ntmps118
  go_wp2_with (go_at_call 96; refine (hd _).mono ?_; rintro e w' ⟨rfl, rfl⟩)
  all_goals go_ret
  all_goals refine ⟨ret_i64 ?_, rfl⟩
  all_goals omega
end Go.Proofs.YtchhlocibijekaaGreatDoor

/-
  The decoder as a plain function on bytes, that it may be cut anywhere, and what its texts are. No program is named here.
-/
namespace Go.Proofs.YtchhlocibijekaaGreatDoor
open Go.Lib

theorem byte_lt (l : List UInt8) (j : Nat) : (l.getD j 0).toNat < 256 := (l.getD j 0).toNat_lt
theorem width_le (l : List UInt8) (h : l ≠ []) : 1 ≤ (decodeL l).2 ∧ (decodeL l).2 ≤ l.length := by
  rw [decodeL_N]
  have : 1 ≤ l.length := by cases l with | nil => exact absurd rfl h | cons a r => simp
  unfold decodeN
  repeat' split
  all_goals simp only
  all_goals omega
theorem rune_le (l : List UInt8) : (decodeL l).1 ≤ 1114111 := by
  rw [decodeL_N]
  have h0 := byte_lt l 0
  unfold decodeN
  repeat' split
  all_goals simp only
  all_goals omega

theorem full_more (a b : List UInt8) (h : fullL a = true) : fullL (a ++ b) = true := by
  unfold fullL fullN at *
  simp only [decide_eq_true_eq] at *
  have g : ∀ j, j < a.length → (a ++ b).getD j 0 = a.getD j 0 := fun j hj => by simp [List.getD, List.getElem?_append_left hj]
  rw [g 0 (by omega), List.length_append]
  rcases h with ⟨h0, h1 | ⟨h1, h2⟩ | ⟨h1, h2⟩⟩
  · omega
  · rw [g 1 (by omega)]; omega
  · rw [g 2 (by omega)]; omega

theorem stableL (a b : List UInt8) (ha : a ≠ []) (h : (decodeL a).1 ≠ 65533 ∨ fullL a = true) : decodeL (a ++ b) = decodeL a := by
  have hl : 1 ≤ a.length := by cases a with | nil => exact absurd rfl ha | cons x r => simp
  have g : ∀ j, j < a.length → (a ++ b).getD j 0 = a.getD j 0 := fun j hj => by simp [List.getD, List.getElem?_append_left hj]
  rw [decodeL_N] at h
  rw [decodeL_N, decodeL_N, g 0 (by omega)]
  exact stableN _ _ _ _ _ _ _ _ _ hl (by simp) (byte_lt _ _) (byte_lt _ _) (byte_lt _ _) (byte_lt _ _) (byte_lt _ _) (byte_lt _ _) (byte_lt _ _)
    (fun hj => by rw [g 1 hj]) (fun hj => by rw [g 2 hj]) (fun hj => by rw [g 3 hj]) h

/-- what one character gives -/
def unitL (cr : Bool) (c : Nat) : List UInt8 :=
  if c = 13 then [10] else if c = 10 ∧ cr = true then [] else if goodB c = true then encodeRune c else encodeRune 65533
/-- the rest is an unfinished character, and more may come -/
def stopL (more : Bool) (l : List UInt8) : Bool := more && ((decodeL l).1 == 65533 && !fullL l)
/-- the text, what is left over, and whether the last character was a CR -/
def readL (more : Bool) : Nat → Bool → List UInt8 → List UInt8 × List UInt8 × Bool
  | 0, cr, _ => ([], [], cr)
  | f + 1, cr, l =>
    if l = [] then ([], [], cr)
    else if stopL more l = true then ([], l, cr)
    else (unitL cr (decodeL l).1 ++ (readL more f ((decodeL l).1 == 13) (l.drop (decodeL l).2)).1, (readL more f ((decodeL l).1 == 13) (l.drop (decodeL l).2)).2)
def rd (more : Bool) (cr : Bool) (l : List UInt8) : List UInt8 × List UInt8 × Bool := readL more l.length cr l

theorem readL_fuel (more : Bool) : ∀ (f g : Nat) (cr : Bool) (l : List UInt8), l.length ≤ f → l.length ≤ g → readL more f cr l = readL more g cr l
  | 0, 0, _, _, _, _ => rfl
  | 0, g + 1, cr, l, hf, _ => by
    have : l = [] := List.eq_nil_of_length_eq_zero (by omega)
    simp [readL, this]
  | f + 1, 0, cr, l, _, hg => by
    have : l = [] := List.eq_nil_of_length_eq_zero (by omega)
    simp [readL, this]
  | f + 1, g + 1, cr, l, hf, hg => by
    by_cases h0 : l = []
    · simp [readL, h0]
    · have hw := width_le l h0
      have ih := readL_fuel more f g ((decodeL l).1 == 13) (l.drop (decodeL l).2) (by simp; omega) (by simp; omega)
      simp only [readL, h0, if_false, ih]
theorem rd_nil (more cr : Bool) : rd more cr [] = ([], [], cr) := rfl
theorem rd_stop (more cr : Bool) (l : List UInt8) (h0 : l ≠ []) (h : stopL more l = true) : rd more cr l = ([], l, cr) := by
  unfold rd
  cases l with
  | nil => exact absurd rfl h0
  | cons a r => simp [readL, h]
theorem rd_step (more cr : Bool) (l : List UInt8) (h0 : l ≠ []) (h : stopL more l = false) :
    rd more cr l = (unitL cr (decodeL l).1 ++ (rd more ((decodeL l).1 == 13) (l.drop (decodeL l).2)).1, (rd more ((decodeL l).1 == 13) (l.drop (decodeL l).2)).2) := by
  have hw := width_le l h0
  have e : ∀ c, readL more (l.length - 1) c (l.drop (decodeL l).2) = rd more c (l.drop (decodeL l).2) :=
    fun c => readL_fuel more _ _ c _ (by simp; omega) (Nat.le_refl _)
  have e1 : l.length = (l.length - 1) + 1 := by omega
  conv => lhs; unfold rd; rw [e1]
  simp only [readL, h0, if_false, h, e, Bool.false_eq_true]

/-- THE CUT: bytes may be read in pieces -/
theorem rd_cut (more : Bool) (b : List UInt8) : ∀ (n : Nat) (cr : Bool) (a : List UInt8), a.length ≤ n →
    rd more cr (a ++ b) = ((rd true cr a).1 ++ (rd more (rd true cr a).2.2 ((rd true cr a).2.1 ++ b)).1, (rd more (rd true cr a).2.2 ((rd true cr a).2.1 ++ b)).2)
  | 0, cr, a, h => by
    have : a = [] := List.eq_nil_of_length_eq_zero (by omega)
    subst this
    simp [rd_nil]
  | n + 1, cr, a, h => by
    by_cases h0 : a = []
    · subst h0; simp [rd_nil]
    · by_cases hs : stopL true a = true
      · rw [rd_stop true cr a h0 hs]; simp
      · have hs' : stopL true a = false := by simpa using hs
        have hst : (decodeL a).1 ≠ 65533 ∨ fullL a = true := by
          by_cases h1 : (decodeL a).1 = 65533
          · right; simpa [stopL, h1] using hs'
          · exact Or.inl h1
        have he := stableL a b h0 hst
        have hs2 : stopL more (a ++ b) = false := by
          unfold stopL
          rw [he]
          rcases hst with h1 | h1
          · simp [h1]
          · simp [full_more a b h1]
        have hw := width_le a h0
        rw [rd_step more cr (a ++ b) (by simp [h0]) hs2, rd_step true cr a h0 hs', he]
        have hd : (a ++ b).drop (decodeL a).2 = a.drop (decodeL a).2 ++ b := List.drop_append_of_le_length hw.2
        rw [hd, rd_cut more b n _ (a.drop (decodeL a).2) (by simp; omega)]
        simp

theorem rd_len (more : Bool) : ∀ (n : Nat) (cr : Bool) (l : List UInt8), l.length ≤ n → (rd more cr l).1.length ≤ 4 * l.length ∧ (rd more cr l).2.1.length ≤ l.length
  | 0, cr, l, h => by
    have : l = [] := List.eq_nil_of_length_eq_zero (by omega)
    subst this; simp [rd_nil]
  | n + 1, cr, l, h => by
    by_cases h0 : l = []
    · subst h0; simp [rd_nil]
    · by_cases hs : stopL more l = true
      · rw [rd_stop more cr l h0 hs]; simp
      · rw [rd_step more cr l h0 (by simpa using hs)]
        have hw := width_le l h0
        have ih := rd_len more n ((decodeL l).1 == 13) (l.drop (decodeL l).2) (by simp; omega)
        have hu : (unitL cr (decodeL l).1).length ≤ 4 := by
          have e := fun r => (encodeRuneZ_length r).2
          unfold unitL
          repeat' split
          all_goals first | simp; done | (simp only [encodeRune, List.length_map]; exact e _)
        simp only [List.length_append, List.length_drop] at ih ⊢
        omega
end Go.Proofs.YtchhlocibijekaaGreatDoor

/-
  scrubref's encode, isCharacter, isGood: their walks.
-/
namespace Go.Proofs.YtchhlocibijekaaGreatDoor
open Go.RowKit Go.Lib

def charB (z : Int) : Bool := decide ((0 ≤ z ∧ z < 55296) ∨ (57344 ≤ z ∧ z < 1114112))

set_option maxHeartbeats 1000000 in
theorem isCharacter_any (z : Int) (w : World) :
    Calls Tryz.prog 133 #[.int .i64 z] w fun e w' => e = .returned (.bool (charB z)) ∧ w' = w := by
  go_enter Tryz.func133, Tryz.ntmps133
  go_wp2
  all_goals go_ret
  all_goals refine ⟨ret_bool ?_, rfl⟩
  all_goals (rw [Bool.eq_iff_iff]; simp only [charB, decide_eq_true_iff, Bool.or_eq_true, Bool.false_eq_true, false_iff, true_iff]; omega)

set_option maxHeartbeats 2000000 in
set_option maxRecDepth 100000 in
theorem encode_any (z : Int) (h0 : 0 ≤ z) (h1 : z ≤ 1114111) (h2 : ¬ (55296 ≤ z ∧ z ≤ 57343)) (w : World) :
    Calls Tryz.prog 71 #[.int .i64 z] w fun e w' => e = .returned (.slice (some ⟨w.heap.size, 0, none⟩) (encodeRune z).length (encodeRune z).length) ∧ w' = w.alloc (.cells (byteCells (encodeRune z)).toArray 5) := by
  rw [byteCells_encodeRune, ← runeCells_length]
  unfold runeCells
  by_cases c1 : z < 128
  · rw [encodeRuneZ_one (by omega) (by omega)]
    go_enter Tryz.func71, Tryz.ntmps71
    go_wp2
    go_ret
    refine ⟨rfl, ?_⟩
    have e : ∀ (a b : Array Value), a = b → w.alloc (.cells a 5) = w.alloc (.cells b 5) := fun a b h => by rw [h]
    apply e
    simp
  · by_cases c2 : z < 2048
    · rw [encodeRuneZ_two (by omega) (by omega)]
      go_enter Tryz.func71, Tryz.ntmps71
      go_wp2
      go_ret
      refine ⟨rfl, ?_⟩
      have e : ∀ (a b : Array Value), a = b → w.alloc (.cells a 5) = w.alloc (.cells b 5) := fun a b h => by rw [h]
      apply e
      simp
    · by_cases c3 : z < 65536
      · rw [encodeRuneZ_three (by omega)]
        go_enter Tryz.func71, Tryz.ntmps71
        go_wp2
        go_ret
        refine ⟨rfl, ?_⟩
        have e : ∀ (a b : Array Value), a = b → w.alloc (.cells a 5) = w.alloc (.cells b 5) := fun a b h => by rw [h]
        apply e
        simp
      · rw [encodeRuneZ_four (by omega) (by omega)]
        go_enter Tryz.func71, Tryz.ntmps71
        go_wp2
        go_ret
        refine ⟨rfl, ?_⟩
        have e : ∀ (a b : Array Value), a = b → w.alloc (.cells a 5) = w.alloc (.cells b 5) := fun a b h => by rw [h]
        apply e
        simp

set_option maxHeartbeats 2000000 in
theorem refGood_all (z : Int) (h0 : 0 ≤ z) (w : World) :
    Calls Tryz.prog 120 #[.int .i64 z] w fun e w' => e = .returned (.bool (goodB z)) ∧ w' = w := by
  by_cases hc : charB z = true
  · have hc' : (0 ≤ z ∧ z < 55296) ∨ (57344 ≤ z ∧ z < 1114112) := by unfold charB at hc; rw [decide_eq_true_iff] at hc; exact hc
    go_enter Tryz.func120, Tryz.ntmps120
    go_wp2_with (go_at_call 133; refine (isCharacter_any z _).mono ?_; rintro e w' ⟨rfl, rfl⟩)
    all_goals go_ret
    all_goals refine ⟨ret_bool ?_, rfl⟩
    all_goals rw [Bool.eq_iff_iff]
    all_goals (try simp only [bne_iff_ne, bne_eq_false_iff_eq, ne_eq] at *)
    all_goals (simp only [goodB, decide_eq_true_iff, Bool.and_eq_true, bne_iff_ne, Bool.false_eq_true, false_iff, true_iff]; omega)
  · have hc2 : charB z = false := by simpa using hc
    have hc' : 55296 ≤ z ∧ z ≤ 57343 ∨ 1114112 ≤ z := by unfold charB at hc2; rw [decide_eq_false_iff_not] at hc2; omega
    have hg : goodB z = false := by unfold goodB; rw [decide_eq_false_iff_not]; omega
    rw [hg]
    clear hc hg
    go_enter Tryz.func120, Tryz.ntmps120
    go_wp2_with (go_at_call 133; refine (isCharacter_any z _).mono ?_; rintro e w' ⟨rfl, rfl⟩)
    go_ret
    exact ⟨rfl, rfl⟩
theorem refGood_any (z : Int) (h0 : 0 ≤ z) (_h1 : z ≤ 1114111) (w : World) :
    Calls Tryz.prog 120 #[.int .i64 z] w fun e w' => e = .returned (.bool (goodB z)) ∧ w' = w := refGood_all z h0 w

theorem ret_int {a b : Int} (h : a = b) : Ending.returned (.int .i64 a) = .returned (.int .i64 b) := by rw [h]
end Go.Proofs.YtchhlocibijekaaGreatDoor

/-
  The tables of the character references, as they lie in memory, and what a number stands for: the walks.
-/
namespace Go.Proofs.YtchhlocibijekaaGreatDoor
open Go.RowKit Go.Lib

def strV (L : List UInt8) : Value := .string ⟨L.toArray⟩
def namesV : List Value := (eitherT ++ closedT).flatMap fun t => [strV t.1, .int .i32 t.2]
def replV : List Value := replT.map (Value.int .i32)
def eitherNV : List Value := eitherT.map fun t => strV t.1
def eitherCV : List Value := eitherT.map fun t => .int .i64 t.2
def closedNV : List Value := closedT.map fun t => strV t.1
def closedCV : List Value := closedT.map fun t => .int .i64 t.2

/-- the two tables of package chars hold what their initialisers lay -/
structure ChTabs (w : World) : Prop where
  names : w.rangeAt 0 0 namesV
  repl : w.rangeAt 8 0 replV
/-- the six tables hold what their initialisers lay -/
structure RefTabs (w : World) : Prop where
  ch : ChTabs w
  eitherN : w.rangeAt 1 0 eitherNV
  eitherC : w.rangeAt 2 0 eitherCV
  closedN : w.rangeAt 3 0 closedNV
  closedC : w.rangeAt 4 0 closedCV
theorem cell_block {w : World} {b o : Nat} {v : Value} (h : w.cell? ⟨b, o, none⟩ = some v) : b < w.heap.size := by
  unfold World.cell? at h
  rcases Nat.lt_or_ge b w.heap.size with h1 | h1
  · exact h1
  · simp [h1] at h
theorem rangeAt_below {w w' : World} {b o : Nat} {cs : List Value} (h : w.rangeAt b o cs) (hb : Below w.heap.size w w') : w'.rangeAt b o cs := by
  intro j v hv
  have hc := h j v hv
  have := hb.block b (cell_block hc)
  unfold World.cell? at hc ⊢
  rw [this]
  exact hc
theorem ChTabs.below {w w' : World} (h : ChTabs w) (hb : Below w.heap.size w w') : ChTabs w' := ⟨rangeAt_below h.names hb, rangeAt_below h.repl hb⟩
theorem RefTabs.below {w w' : World} (h : RefTabs w) (hb : Below w.heap.size w w') : RefTabs w' :=
  ⟨h.ch.below hb, rangeAt_below h.eitherN hb, rangeAt_below h.eitherC hb, rangeAt_below h.closedN hb, rangeAt_below h.closedC hb⟩
theorem ChTabs.replAt {w : World} (h : ChTabs w) (k : Nat) (hk : k < 32) : w.cell? ⟨8, k, none⟩ = some (.int .i32 (replT.getD k 0)) := by
  have := h.repl k (.int .i32 (replT.getD k 0)) (by
    have hl : k < replT.length := hk
    unfold replV
    rw [List.getElem?_map, List.getElem?_eq_getElem hl, List.getD_eq_getElem?_getD, List.getElem?_eq_getElem hl]
    rfl)
  rwa [Nat.zero_add] at this

theorem ret_i32 {a b : Int} (h : a = b) : Ending.returned (.int .i32 a) = .returned (.int .i32 b) := by rw [h]
set_option maxRecDepth 100000 in
theorem numb_any (z : Int) (h0 : 0 ≤ z) (h1 : z ≤ 1114112) (w : World) (hT : ChTabs w) :
    Calls Tryz.prog 116 #[.int .i32 z] w fun e w' => e = .returned (.int .i32 (numb z)) ∧ w' = w := by
  have hg := fun W => good_any z h0 h1 W
  by_cases hz : 128 ≤ z ∧ z ≤ 159
  · obtain ⟨z0, z1⟩ := hz
    have hn : numb z = replT.getD (z - 128).toNat 0 := if_pos ⟨z0, z1⟩
    have hc := hT.replAt (z - 128).toNat (by omega)
    rw [← hn] at hc
    generalize numb z = n at hc
    clear hn
    go_enter Tryz.func116, Tryz.ntmps116
    go_wp2
    all_goals go_ret
    all_goals exact ⟨rfl, rfl⟩
  · have hn : numb z = if goodB z then z else 65533 := if_neg hz
    generalize numb z = n at hn
    generalize goodB z = b at hn hg
    go_enter Tryz.func116, Tryz.ntmps116
    go_wp2_with (go_at_call 132; refine (hg _).mono ?_; rintro e w' ⟨rfl, rfl⟩)
    all_goals go_ret
    all_goals refine ⟨ret_i32 ?_, rfl⟩
    all_goals simp_all
end Go.Proofs.YtchhlocibijekaaGreatDoor

/-
  strings.Clone: its walk; facts that are kept out of sight.
-/
namespace Go.Proofs.YtchhlocibijekaaGreatDoor
open Go.RowKit Go.Lib

theorem clone_any (s : ByteArray) (w : World) (hlim : s.size ≤ 281474976710656) :
    Calls Tryz.prog 24 #[.string s] w fun e w' => e = .returned (.string s) ∧ Below w.heap.size w w' := by
  go_enter Tryz.func24, Tryz.ntmps24
  go_wp2_with (go_at_call 46; refine (Tryz.stringslite_Clone s _ hlim).mono ?_)
  rintro e w1 ⟨rfl, hb⟩
  go_wp2
  go_ret
  exact ⟨rfl, hb⟩

theorem builder_below {T e : TypeId} {B b : Nat} {bs : List Value} {W W' : World} (h : IsBuilderF T e B b bs W) (hb : Below W.heap.size W W') : IsBuilderF T e B b bs W' := by
  have one : ∀ p, BuilderAtF T e B b p bs W → BuilderAtF T e B b p bs W' := fun p x => by
    have hlt := x.lt
    obtain ⟨h1, v, h2, h3, h4⟩ := x
    refine ⟨h1, v, (hb.block b hlt).trans h2, ?_, h4⟩
    exact h3.kept (row := none) ⟨hb.os, hb.tape, hb.output, hb.size, fun k hk _ => hb.block k hk⟩ (by cases v.ownBlock <;> simp)
  rcases h with h | h
  · exact Or.inl (one _ h)
  · exact Or.inr (one _ h)
theorem hid {p : Prop} (h : p) : Hid p := h
end Go.Proofs.YtchhlocibijekaaGreatDoor

/-
  chars.findNumber: its walk.
-/
namespace Go.Proofs.YtchhlocibijekaaGreatDoor
open Go.RowKit Go.Lib

theorem digZ_K (c : UInt8) : digZ (c.toNat : Int) = (digK c : Int) := by
  unfold digZ digK
  repeat' split
  all_goals omega
theorem digit_u8 (c : UInt8) (w : World) : Calls Tryz.prog 115 #[.int .u8 c.toNat] w fun e w' => e = .returned (.int .i64 (digK c : Int)) ∧ w' = w := by
  rw [← digZ_K]
  exact digit_any _ (by omega) (by have := c.toNat_lt; omega) w
theorem digK_le (c : UInt8) : digK c ≤ 16 := by
  unfold digK
  repeat' split
  all_goals omega
theorem numL_eq (N : List UInt8) : numL N = if digsN N = [] then (0, 0) else (fromN N + (digsN N).length + (if N[fromN N + (digsN N).length]? = some 59 then 1 else 0), numb ((valM (baseN N) 0 (digsN N) : Nat) : Int)) := by
  have h := val_eq (baseN N) (by unfold baseN; split <;> omega) (digsN N) 0
  rw [Nat.min_eq_left (by omega)] at h
  rw [h]
  rfl
/-- what a loop over digits comes to -/
structure DigEnd (N : List UInt8) (F B : Nat) (dig : UInt8 → Bool) (r : Nat × Int) : Prop where
  none : (N.drop F).takeWhile dig = [] → r = (0, 0)
  shut : ∀ E V : Nat, (N.drop F).takeWhile dig ≠ [] → F + ((N.drop F).takeWhile dig).length = E → valM B 0 ((N.drop F).takeWhile dig) = V → N[E]? = some 59 → r = (E + 1, numb V)
  still : ∀ E V : Nat, (N.drop F).takeWhile dig ≠ [] → F + ((N.drop F).takeWhile dig).length = E → valM B 0 ((N.drop F).takeWhile dig) = V → N[E]? ≠ some 59 → r = (E, numb V)
theorem digEnd (N : List UInt8) : DigEnd N (fromN N) (baseN N) (digN N) (numL N) := by
  have h := numL_eq N
  unfold digsN at h
  refine ⟨fun h0 => by rw [h, if_pos h0], fun E V h0 h1 h2 h3 => ?_, fun E V h0 h1 h2 h3 => ?_⟩
  · rw [h, if_neg h0, h1, h2, if_pos h3]
  · rw [h, if_neg h0, h1, h2, if_neg h3]; rfl
theorem getElem_list {s : ByteArray} {e : Nat} {x : UInt8} (h : e < s.size) (hx : s[e]'h = x) : s.data.toList[e]? = some x := by
  rw [List.getElem?_eq_getElem (by rw [← size_eq]; exact h), ← hx]
  rfl
theorem getElem_over {s : ByteArray} {e : Nat} (h : ¬ e < s.size) : s.data.toList[e]? = none := by
  rw [List.getElem?_eq_none (by rw [← size_eq]; omega)]
theorem ret_two {a c : Int} {b d : Int} (h : a = b) (k : c = d) : Ending.returned (.tuple #[.int .i64 a, .int .i32 c]) = .returned (.tuple #[.int .i64 b, .int .i32 d]) := by rw [h, k]


set_option maxHeartbeats 1000000 in
set_option maxRecDepth 100000 in
theorem findNumber_one (s : ByteArray) (w : World) (h1 : s.size = 1) :
    Calls Tryz.prog 89 #[.string s] w fun e w' => e = .returned (.tuple #[.int .i64 0, .int .i32 0]) ∧ w' = w := by
  go_enter Tryz.func89, Tryz.ntmps89
  go_wp2
  go_loopw [6, 7] (fun ev nv wr => ev = .int .i64 1 ∧ nv = .int .i64 0 ∧ wr = w) (fun _ _ _ => 0)
  case atStart => exact ⟨rfl, rfl, rfl⟩
  case round =>
    obtain ⟨rfl, rfl, rfl⟩ := hrel
    go_wp2
    refine bodyPost_ret (v := .tuple #[.int .i64 0, .int .i32 0]) ?_ rfl ⟨rfl, rfl⟩
    simp [results, Tryz.results89, go_sem]

set_option maxHeartbeats 1000000 in
set_option maxRecDepth 100000 in
theorem findNumber_dec (s : ByteArray) (r : Nat × Int) (w : World) (hs : s.size ≤ 31) (h1 : 1 ≤ s.size) (h2 : 1 < s.size) (x1 : UInt8) (hx1 : s[1]'h2 = x1) (hn : (lowZ x1.toNat == 120) = false) (hR : DigEnd s.data.toList 1 10 digD r) (hT : ChTabs w) :
    Calls Tryz.prog 89 #[.string s] w fun e w' => e = .returned (.tuple #[.int .i64 (r.1 : Int), .int .i32 r.2]) ∧ w' = w := by
  have HR := hid hR
  have HT := hid hT
  obtain ⟨D, hD⟩ : ∃ D, (s.data.toList.drop 1).takeWhile digD = D := ⟨_, rfl⟩
  obtain ⟨V, hV⟩ : ∃ V, valM 10 0 D = V := ⟨_, rfl⟩
  have HD := hid hD
  have HV := hid hV
  clear hR hT hD hV
  go_enter Tryz.func89, Tryz.ntmps89
  have HY := hid (fun W => low_any (x1.toNat : Int) (by omega) (by have := x1.toNat_lt; omega) W)
  go_wp2_with (go_at_call 68; refine (HY.out _).mono ?_; rintro e W0 ⟨rfl, rfl⟩)
  go_loopw [6, 7] (fun ev nv wr => ∃ (e v : Nat), ev = .int .i64 e ∧ nv = .int .i64 v ∧ e ≤ s.size ∧ 1 ≤ e ∧ v ≤ 1114112 ∧ wr = W0 ∧ Hid (valM 10 v ((s.data.toList.drop e).takeWhile digD) = V) ∧ Hid (e + ((s.data.toList.drop e).takeWhile digD).length = 1 + D.length)) (fun ev _ _ => s.size - (RowKit.intOf ev).toNat)
  case atStart => exact ⟨1, 0, rfl, rfl, by omega, by omega, by omega, rfl, by rw [HD.out]; exact HV.out, by rw [HD.out]; exact hid rfl⟩
  case round =>
    obtain ⟨e, v, rfl, rfl, he, hF, hv, rfl, HA, HB⟩ := hrel
    by_cases hp : e < s.size
    · obtain ⟨x, hx⟩ : ∃ x, s[e]'hp = x := ⟨_, rfl⟩
      have hxl := hid (getElem_list hp hx)
      have hdx := fun W => digit_u8 x W
      have hdl := digK_le x
      have hdk : decide (digK x < 10) = digD x := digK_D x
      obtain ⟨d, hd⟩ : ∃ d, digK x = d := ⟨_, rfl⟩
      rw [hd] at hdx hdl hdk
      by_cases hlt : d < 10
      · have hdig : digD x = true := by rw [← hdk]; exact decide_eq_true hlt
        have hw := while_step hxl.out hdig
        have hdv : digV x = d := by rw [← hd]; exact (digK_V x (digD_X _ hdig)).symm
        have HA2 : Hid (valM 10 (min (v * 10 + d) 1114112) ((s.data.toList.drop (e + 1)).takeWhile digD) = V) := by
          have := HA.out
          rw [hw] at this
          unfold valM at this ⊢
          rw [List.foldl_cons, hdv] at this
          exact this
        have HB2 : Hid (e + 1 + ((s.data.toList.drop (e + 1)).takeWhile digD).length = 1 + D.length) := by
          have := HB.out
          rw [hw, List.length_cons] at this
          exact hid (by omega)
        have HX := hid hdx
        clear hd hw hdv hdig hdk HA HB hdx
        go_wp2_with (go_at_call 115; refine (HX.out _).mono ?_; rintro e w' ⟨rfl, rfl⟩)
        go_roundw
        case rel => exact ⟨e + 1, min (v * 10 + d) 1114112, rfl, by simp; omega, by omega, by omega, by omega, by first | rfl | trivial, HA2, HB2⟩
        case measure => simp [RowKit.intOf]; omega
      · have hdig : digD x = false := by rw [← hdk]; exact decide_eq_false hlt
        have hw : (s.data.toList.drop e).takeWhile digD = [] := while_stop (fun c hc => by rw [hxl.out] at hc; cases hc; exact hdig)
        have hE : v = V := by have := HA.out; rw [hw] at this; exact this
        have hL : e = 1 + D.length := by have := HB.out; rw [hw] at this; simpa using this
        have h59 : (x = 59 ∧ s.data.toList[e]? = some 59) ∨ (x ≠ 59 ∧ s.data.toList[e]? ≠ some 59) := by
          rw [hxl.out]
          by_cases h : x = 59
          · exact .inl ⟨h, by rw [h]⟩
          · exact .inr ⟨h, fun h2 => h (Option.some.inj h2)⟩
        have HX := hid hdx
        clear hd hw hdig hdk HA HB hdx
        subst hE
        by_cases hz : e = 1
        · subst hz
          obtain rfl : x = x1 := by rw [← hx, ← hx1]
          have hr := HR.out.none (by rw [HD.out]; exact List.eq_nil_of_length_eq_zero (by omega))
          clear hL
          go_wp2_with (go_at_call 115; refine (HX.out _).mono ?_; rintro e w' ⟨rfl, rfl⟩)
          rw [hr]
          refine bodyPost_ret (v := .tuple #[.int .i64 0, .int .i32 0]) ?_ rfl ⟨rfl, rfl⟩
          simp [results, Tryz.results89, go_sem]
        · have hne : (s.data.toList.drop 1).takeWhile digD ≠ [] := by rw [HD.out]; intro h; rw [h] at hL; simp at hL; exact hz hL
          have hle : 1 + ((s.data.toList.drop 1).takeWhile digD).length = e := by rw [HD.out]; exact hL.symm
          have hva : valM 10 0 ((s.data.toList.drop 1).takeWhile digD) = v := by rw [HD.out]; exact HV.out
          have HN := hid (fun W => numb_any (v : Int) (by omega) (by omega) W)
          rcases h59 with ⟨h59, h60⟩ | ⟨h59, h60⟩
          · have hr := hid (HR.out.shut e v hne hle hva h60)
            clear h60 hne hle hva hL
            subst h59
            go_wp2_with (first | (go_at_call 115; refine (HX.out _).mono ?_; rintro e w' ⟨rfl, rfl⟩) | (go_at_call 116; refine (HN.out _ HT.out).mono ?_; rintro e w' ⟨rfl, rfl⟩))
            rw [hr.out]
            refine bodyPost_ret (v := .tuple #[.int .i64 ((e + 1 : Nat) : Int), .int .i32 (numb v)]) ?_ rfl ⟨rfl, rfl⟩
            simp [results, Tryz.results89, go_sem]
          · have hr := hid (HR.out.still e v hne hle hva h60)
            have h61 : ((x.toNat : Int) == 59) = false := beq_eq_false_iff_ne.2 (fun h => h59 (UInt8.toNat_inj.1 (by simp; omega)))
            clear h60 hne hle hva hL
            go_wp2_with (first | (go_at_call 115; refine (HX.out _).mono ?_; rintro e w' ⟨rfl, rfl⟩) | (go_at_call 116; refine (HN.out _ HT.out).mono ?_; rintro e w' ⟨rfl, rfl⟩))
            rw [hr.out]
            refine bodyPost_ret (v := .tuple #[.int .i64 (e : Int), .int .i32 (numb v)]) ?_ rfl ⟨rfl, rfl⟩
            simp [results, Tryz.results89, go_sem]
    · have hn := getElem_over hp
      have hw : (s.data.toList.drop e).takeWhile digD = [] := while_stop (fun c hc => by rw [hn] at hc; cases hc)
      have hE : v = V := by have := HA.out; rw [hw] at this; exact this
      have hL : e = 1 + D.length := by have := HB.out; rw [hw] at this; simpa using this
      have h60 : s.data.toList[e]? ≠ some 59 := by rw [hn]; simp
      clear hw HA HB hn
      subst hE
      by_cases hz : e = 1
      · exfalso; omega
      · have hne : (s.data.toList.drop 1).takeWhile digD ≠ [] := by rw [HD.out]; intro h; rw [h] at hL; simp at hL; exact hz hL
        have hle : 1 + ((s.data.toList.drop 1).takeWhile digD).length = e := by rw [HD.out]; exact hL.symm
        have hva : valM 10 0 ((s.data.toList.drop 1).takeWhile digD) = v := by rw [HD.out]; exact HV.out
        have HN := hid (fun W => numb_any (v : Int) (by omega) (by omega) W)
        have hr := hid (HR.out.still e v hne hle hva h60)
        clear h60 hne hle hva hL
        go_wp2_with (go_at_call 116; refine (HN.out _ HT.out).mono ?_; rintro e w' ⟨rfl, rfl⟩)
        rw [hr.out]
        refine bodyPost_ret (v := .tuple #[.int .i64 (e : Int), .int .i32 (numb v)]) ?_ rfl ⟨rfl, rfl⟩
        simp [results, Tryz.results89, go_sem]

set_option maxHeartbeats 1000000 in
set_option maxRecDepth 100000 in
theorem findNumber_hex (s : ByteArray) (r : Nat × Int) (w : World) (hs : s.size ≤ 31) (h1 : 1 ≤ s.size) (h2 : 1 < s.size) (x1 : UInt8) (hx1 : s[1]'h2 = x1) (hn : (lowZ x1.toNat == 120) = true) (hR : DigEnd s.data.toList 2 16 digX r) (hT : ChTabs w) :
    Calls Tryz.prog 89 #[.string s] w fun e w' => e = .returned (.tuple #[.int .i64 (r.1 : Int), .int .i32 r.2]) ∧ w' = w := by
  have HR := hid hR
  have HT := hid hT
  obtain ⟨D, hD⟩ : ∃ D, (s.data.toList.drop 2).takeWhile digX = D := ⟨_, rfl⟩
  obtain ⟨V, hV⟩ : ∃ V, valM 16 0 D = V := ⟨_, rfl⟩
  have HD := hid hD
  have HV := hid hV
  clear hR hT hD hV
  go_enter Tryz.func89, Tryz.ntmps89
  have HY := hid (fun W => low_any (x1.toNat : Int) (by omega) (by have := x1.toNat_lt; omega) W)
  go_wp2_with (go_at_call 68; refine (HY.out _).mono ?_; rintro e W0 ⟨rfl, rfl⟩)
  go_loopw [6, 7] (fun ev nv wr => ∃ (e v : Nat), ev = .int .i64 e ∧ nv = .int .i64 v ∧ e ≤ s.size ∧ 2 ≤ e ∧ v ≤ 1114112 ∧ wr = W0 ∧ Hid (valM 16 v ((s.data.toList.drop e).takeWhile digX) = V) ∧ Hid (e + ((s.data.toList.drop e).takeWhile digX).length = 2 + D.length)) (fun ev _ _ => s.size - (RowKit.intOf ev).toNat)
  case atStart => exact ⟨2, 0, rfl, rfl, by omega, by omega, by omega, rfl, by rw [HD.out]; exact HV.out, by rw [HD.out]; exact hid rfl⟩
  case round =>
    obtain ⟨e, v, rfl, rfl, he, hF, hv, rfl, HA, HB⟩ := hrel
    by_cases hp : e < s.size
    · obtain ⟨x, hx⟩ : ∃ x, s[e]'hp = x := ⟨_, rfl⟩
      have hxl := hid (getElem_list hp hx)
      have hdx := fun W => digit_u8 x W
      have hdl := digK_le x
      have hdk : decide (digK x < 16) = digX x := digK_X x
      obtain ⟨d, hd⟩ : ∃ d, digK x = d := ⟨_, rfl⟩
      rw [hd] at hdx hdl hdk
      by_cases hlt : d < 16
      · have hdig : digX x = true := by rw [← hdk]; exact decide_eq_true hlt
        have hw := while_step hxl.out hdig
        have hdv : digV x = d := by rw [← hd]; exact (digK_V x hdig).symm
        have HA2 : Hid (valM 16 (min (v * 16 + d) 1114112) ((s.data.toList.drop (e + 1)).takeWhile digX) = V) := by
          have := HA.out
          rw [hw] at this
          unfold valM at this ⊢
          rw [List.foldl_cons, hdv] at this
          exact this
        have HB2 : Hid (e + 1 + ((s.data.toList.drop (e + 1)).takeWhile digX).length = 2 + D.length) := by
          have := HB.out
          rw [hw, List.length_cons] at this
          exact hid (by omega)
        have HX := hid hdx
        clear hd hw hdv hdig hdk HA HB hdx
        go_wp2_with (go_at_call 115; refine (HX.out _).mono ?_; rintro e w' ⟨rfl, rfl⟩)
        go_roundw
        case rel => exact ⟨e + 1, min (v * 16 + d) 1114112, rfl, by simp; omega, by omega, by omega, by omega, by first | rfl | trivial, HA2, HB2⟩
        case measure => simp [RowKit.intOf]; omega
      · have hdig : digX x = false := by rw [← hdk]; exact decide_eq_false hlt
        have hw : (s.data.toList.drop e).takeWhile digX = [] := while_stop (fun c hc => by rw [hxl.out] at hc; cases hc; exact hdig)
        have hE : v = V := by have := HA.out; rw [hw] at this; exact this
        have hL : e = 2 + D.length := by have := HB.out; rw [hw] at this; simpa using this
        have h59 : (x = 59 ∧ s.data.toList[e]? = some 59) ∨ (x ≠ 59 ∧ s.data.toList[e]? ≠ some 59) := by
          rw [hxl.out]
          by_cases h : x = 59
          · exact .inl ⟨h, by rw [h]⟩
          · exact .inr ⟨h, fun h2 => h (Option.some.inj h2)⟩
        have HX := hid hdx
        clear hd hw hdig hdk HA HB hdx
        subst hE
        by_cases hz : e = 2
        · subst hz
          skip
          have hr := HR.out.none (by rw [HD.out]; exact List.eq_nil_of_length_eq_zero (by omega))
          clear hL
          go_wp2_with (go_at_call 115; refine (HX.out _).mono ?_; rintro e w' ⟨rfl, rfl⟩)
          rw [hr]
          refine bodyPost_ret (v := .tuple #[.int .i64 0, .int .i32 0]) ?_ rfl ⟨rfl, rfl⟩
          simp [results, Tryz.results89, go_sem]
        · have hne : (s.data.toList.drop 2).takeWhile digX ≠ [] := by rw [HD.out]; intro h; rw [h] at hL; simp at hL; exact hz hL
          have hle : 2 + ((s.data.toList.drop 2).takeWhile digX).length = e := by rw [HD.out]; exact hL.symm
          have hva : valM 16 0 ((s.data.toList.drop 2).takeWhile digX) = v := by rw [HD.out]; exact HV.out
          have HN := hid (fun W => numb_any (v : Int) (by omega) (by omega) W)
          rcases h59 with ⟨h59, h60⟩ | ⟨h59, h60⟩
          · have hr := hid (HR.out.shut e v hne hle hva h60)
            clear h60 hne hle hva hL
            subst h59
            go_wp2_with (first | (go_at_call 115; refine (HX.out _).mono ?_; rintro e w' ⟨rfl, rfl⟩) | (go_at_call 116; refine (HN.out _ HT.out).mono ?_; rintro e w' ⟨rfl, rfl⟩))
            rw [hr.out]
            refine bodyPost_ret (v := .tuple #[.int .i64 ((e + 1 : Nat) : Int), .int .i32 (numb v)]) ?_ rfl ⟨rfl, rfl⟩
            simp [results, Tryz.results89, go_sem]
          · have hr := hid (HR.out.still e v hne hle hva h60)
            have h61 : ((x.toNat : Int) == 59) = false := beq_eq_false_iff_ne.2 (fun h => h59 (UInt8.toNat_inj.1 (by simp; omega)))
            clear h60 hne hle hva hL
            go_wp2_with (first | (go_at_call 115; refine (HX.out _).mono ?_; rintro e w' ⟨rfl, rfl⟩) | (go_at_call 116; refine (HN.out _ HT.out).mono ?_; rintro e w' ⟨rfl, rfl⟩))
            rw [hr.out]
            refine bodyPost_ret (v := .tuple #[.int .i64 (e : Int), .int .i32 (numb v)]) ?_ rfl ⟨rfl, rfl⟩
            simp [results, Tryz.results89, go_sem]
    · have hn := getElem_over hp
      have hw : (s.data.toList.drop e).takeWhile digX = [] := while_stop (fun c hc => by rw [hn] at hc; cases hc)
      have hE : v = V := by have := HA.out; rw [hw] at this; exact this
      have hL : e = 2 + D.length := by have := HB.out; rw [hw] at this; simpa using this
      have h60 : s.data.toList[e]? ≠ some 59 := by rw [hn]; simp
      clear hw HA HB hn
      subst hE
      by_cases hz : e = 2
      · subst hz
        have hr := HR.out.none (by rw [HD.out]; exact List.eq_nil_of_length_eq_zero (by omega))
        clear hL
        go_wp2
        refine bodyPost_ret (v := .tuple #[.int .i64 0, .int .i32 0]) ?_ rfl ⟨rfl, rfl⟩
        simp [results, Tryz.results89, go_sem]
      · have hne : (s.data.toList.drop 2).takeWhile digX ≠ [] := by rw [HD.out]; intro h; rw [h] at hL; simp at hL; exact hz hL
        have hle : 2 + ((s.data.toList.drop 2).takeWhile digX).length = e := by rw [HD.out]; exact hL.symm
        have hva : valM 16 0 ((s.data.toList.drop 2).takeWhile digX) = v := by rw [HD.out]; exact HV.out
        have HN := hid (fun W => numb_any (v : Int) (by omega) (by omega) W)
        have hr := hid (HR.out.still e v hne hle hva h60)
        clear h60 hne hle hva hL
        go_wp2_with (go_at_call 116; refine (HN.out _ HT.out).mono ?_; rintro e w' ⟨rfl, rfl⟩)
        rw [hr.out]
        refine bodyPost_ret (v := .tuple #[.int .i64 (e : Int), .int .i32 (numb v)]) ?_ rfl ⟨rfl, rfl⟩
        simp [results, Tryz.results89, go_sem]
end Go.Proofs.YtchhlocibijekaaGreatDoor

/-
  scrubref's among, past and begins: their walks.
-/
namespace Go.Proofs.YtchhlocibijekaaGreatDoor
open Go.RowKit Go.Lib

set_option maxHeartbeats 1000000 in
theorem among_any (c : UInt8) (set : ByteArray) (w : World) (hs : set.size ≤ 1000000) :
    Calls Tryz.prog 74 #[.int .u8 c.toNat, .string set] w fun e w' => e = .returned (.bool (set.data.toList.contains c)) ∧ w' = w := by
  obtain ⟨r, hr⟩ : ∃ r, set.data.toList.contains c = r := ⟨_, rfl⟩
  rw [hr]
  have HR := hid hr
  clear hr
  go_enter Tryz.func74, Tryz.ntmps74
  go_wp2
  go_loopw [5] (fun iv wr => ∃ k : Nat, iv = .int .i64 k ∧ k ≤ set.size ∧ wr = w ∧ Hid ((set.data.toList.drop k).contains c = r)) (fun iv _ => set.size - (RowKit.intOf iv).toNat)
  case atStart => exact ⟨0, rfl, Nat.zero_le _, rfl, HR.out⟩
  case round =>
    obtain ⟨k, rfl, hk, rfl, HA⟩ := hrel
    by_cases hp : k < set.size
    · obtain ⟨x, hx⟩ : ∃ x, set[k]'hp = x := ⟨_, rfl⟩
      have hl := getElem_list hp hx
      obtain ⟨h1, h2⟩ := List.getElem?_eq_some_iff.1 hl
      have hd := List.drop_eq_getElem_cons h1
      rw [h2] at hd
      have hcon : (set.data.toList.drop k).contains c = (c == x || (set.data.toList.drop (k + 1)).contains c) := by rw [hd, List.contains_cons]
      clear hl h1 h2 hd
      by_cases hc : c = x
      · subst hc
        have HB : Hid (true = r) := by rw [← HA.out, hcon]; simp [Hid]
        clear hcon HA
        go_wp2
        go_ret
        exact ⟨ret_bool HB.out, rfl⟩
      · have q : ((x.toNat : Int) == (c.toNat : Int)) = false := beq_eq_false_iff_ne.2 (fun h => hc (UInt8.toNat_inj.1 (by omega)))
        have HB : Hid ((set.data.toList.drop (k + 1)).contains c = r) := by
          have e : (c == x) = false := beq_eq_false_iff_ne.2 hc
          have := HA.out
          rw [hcon, e, Bool.false_or] at this
          exact this
        clear hcon HA
        go_wp2
        go_roundw
        case rel => exact ⟨k + 1, rfl, by omega, by first | rfl | trivial, HB⟩
        case measure => simp [RowKit.intOf]; omega
    · have HB : Hid (false = r) := by
        rw [← HA.out, List.drop_of_length_le (by rw [← size_eq]; omega)]
        rfl
      clear HA
      go_wp2
      go_ret
      exact ⟨ret_bool HB.out, rfl⟩

set_option maxHeartbeats 1000000 in
theorem past_any (s : ByteArray) (i : Nat) (set : ByteArray) (w : World) (hi : i ≤ s.size) (hs : s.size ≤ 140737488355328) (ht : set.size ≤ 1000000) :
    Calls Tryz.prog 82 #[.string s, .int .i64 i, .string set] w fun e w' => e = .returned (.int .i64 ((i + ((s.data.toList.drop i).takeWhile set.data.toList.contains).length : Nat) : Int)) ∧ w' = w := by
  obtain ⟨r, hr⟩ : ∃ r, i + ((s.data.toList.drop i).takeWhile set.data.toList.contains).length = r := ⟨_, rfl⟩
  rw [hr]
  have HR := hid hr
  clear hr
  go_enter Tryz.func82, Tryz.ntmps82
  go_wp2
  go_loopw [1] (fun iv wr => ∃ k : Nat, iv = .int .i64 k ∧ k ≤ s.size ∧ wr = w ∧ Hid (k + ((s.data.toList.drop k).takeWhile set.data.toList.contains).length = r)) (fun iv _ => s.size - (RowKit.intOf iv).toNat)
  case atStart => exact ⟨i, rfl, hi, rfl, HR.out⟩
  case round =>
    obtain ⟨k, rfl, hk, rfl, HA⟩ := hrel
    by_cases hp : k < s.size
    · obtain ⟨x, hx⟩ : ∃ x, s[k]'hp = x := ⟨_, rfl⟩
      have hl := getElem_list hp hx
      have hc := fun W => among_any x set W ht
      obtain ⟨b, hb⟩ : ∃ b, set.data.toList.contains x = b := ⟨_, rfl⟩
      rw [hb] at hc
      have HC := hid hc
      cases b
      · have HB : Hid (k = r) := by
          have := HA.out
          rw [while_stop (fun c hc => by rw [hl] at hc; cases hc; exact hb)] at this
          simpa [Hid] using this
        clear hl hb hc HA
        go_wp2_with (go_at_call 74; refine (HC.out _).mono ?_; rintro e w' ⟨rfl, rfl⟩)
        go_ret
        exact ⟨ret_i64 (by have := HB.out; omega), rfl⟩
      · have HB : Hid (k + 1 + ((s.data.toList.drop (k + 1)).takeWhile set.data.toList.contains).length = r) := by
          have := HA.out
          rw [while_step hl hb, List.length_cons] at this
          exact hid (by omega)
        clear hl hb hc HA
        go_wp2_with (go_at_call 74; refine (HC.out _).mono ?_; rintro e w' ⟨rfl, rfl⟩)
        go_roundw
        case rel => exact ⟨k + 1, rfl, by omega, by first | rfl | trivial, HB⟩
        case measure => simp [RowKit.intOf]; omega
    · have HB : Hid (k = r) := by
        have := HA.out
        rw [List.drop_of_length_le (by rw [← size_eq]; omega)] at this
        simpa [Hid] using this
      clear HA
      go_wp2
      go_ret
      exact ⟨ret_i64 (by have := HB.out; omega), rfl⟩

theorem begins_any (s t : ByteArray) (w : World) :
    Calls Tryz.prog 73 #[.string s, .string t] w fun e w' => e = .returned (.bool (t.data.toList.isPrefixOf s.data.toList)) ∧ w' = w := by
  have hp : t.data.toList.isPrefixOf s.data.toList = (decide (t.size ≤ s.size) && ((s.data.toList.take t.size) == t.data.toList)) := by
    have := hasPrefix_of_take s.data.toList t.data.toList
    rw [← size_eq, ← size_eq] at this
    exact this.symm
  rw [hp]
  go_enter Tryz.func73, Tryz.ntmps73
  go_wp2
  · rename_i h
    go_ret
    refine ⟨?_, rfl⟩
    show Ending.returned (Value.bool ((s.extract 0 t.size).toList == t.toList)) = _
    rw [Lib.extract_toList, Lib.toList_data]
    simp [h]
  · rename_i h
    go_ret
    refine ⟨?_, rfl⟩
    show Ending.returned (Value.bool false) = _
    simp [h]
end Go.Proofs.YtchhlocibijekaaGreatDoor

/-
  scrubref.remapped: its walk.
-/
namespace Go.Proofs.YtchhlocibijekaaGreatDoor
open Go.RowKit Go.Lib Go.Great

def fromV : List Value := remapT.map fun p => .int .i64 p.1
def toV : List Value := remapT.map fun p => .int .i64 p.2
theorem laid_row (w : World) (t : TypeId) (old cs : Array Value) :
    Below w.heap.size w ((w.alloc (.cells old t)).setRow w.heap.size cs) ∧ ((w.alloc (.cells old t)).setRow w.heap.size cs).heap[w.heap.size]? = some (.cells cs t (0, 0)) ∧ ((w.alloc (.cells old t)).setRow w.heap.size cs).heap.size = w.heap.size + 1 := by
  have hz : ((w.alloc (.cells old t)).setRow w.heap.size cs).heap.size = w.heap.size + 1 := by simp [World.setRow]
  refine ⟨⟨rfl, rfl, rfl, by omega, fun k hk => ?_⟩, setRow_heap _ _ old cs t (0, 0) (heap_alloc_new w _), hz⟩
  rw [setRow_other _ _ _ _ (by omega), alloc_old w _ _ hk]
theorem row_range {W : World} {g : Nat} {cs : List Value} {t : TypeId} {fr : Nat × Nat} (h : W.heap[g]? = some (.cells cs.toArray t fr)) : W.rangeAt g 0 cs := by
  intro j v hv
  rw [Nat.zero_add, cell_of_row W g j cs.toArray t fr h]
  simpa using hv
set_option maxHeartbeats 1000000 in
set_option maxRecDepth 100000 in
theorem remapped_any (v : Int) (w : World) :
    Calls Tryz.prog 119 #[.int .i64 v] w fun e w' => e = .returned (.int .i64 (remapL remapT v)) ∧ Below w.heap.size w w' := by
  obtain ⟨r, hr⟩ : ∃ r, remapL remapT v = r := ⟨_, rfl⟩
  rw [hr]
  have HR := hid hr
  clear hr
  go_enter Tryz.func119, Tryz.ntmps119
  go_upto_region 1 with fail
  apply wp_region_lit
  refine wpList_buildTo rfl 139 _ rfl (some 6) rfl fromV.toArray (by kernel_rfl) ?_
  refine wpList_allocTo rfl (some 3) rfl (.pointer (some ⟨w.heap.size, 0, none⟩)) (.cells (Array.replicate 27 (.int .i64 0)) 139 (0, 0)) (by kernel_rfl) ?_
  refine wpList_store_row rfl 139 (.tmp 3) (.tmp 6) rfl w.heap.size fromV.toArray rfl rfl 139 (Array.replicate 27 (.int .i64 0)) (heap_alloc_new w _) (by kernel_rfl) rfl (by kernel_rfl) ?_
  apply wpList_nil
  rename_i Q1 K1 hK1
  refine hK1 _ _ ?_
  clear hK1 K1
  obtain ⟨b1, h1, z1⟩ := laid_row w 139 (Array.replicate 27 (.int .i64 0)) fromV.toArray
  generalize (w.alloc (.cells (Array.replicate 27 (.int .i64 0)) 139)).setRow w.heap.size fromV.toArray = W1 at b1 h1 z1 ⊢
  go_upto_region 2 with fail
  apply wp_region_lit
  refine wpList_buildTo rfl 139 _ rfl (some 7) rfl toV.toArray (by kernel_rfl) ?_
  refine wpList_allocTo rfl (some 4) rfl (.pointer (some ⟨W1.heap.size, 0, none⟩)) (.cells (Array.replicate 27 (.int .i64 0)) 139 (0, 0)) (by kernel_rfl) ?_
  refine wpList_store_row rfl 139 (.tmp 4) (.tmp 7) rfl W1.heap.size toV.toArray rfl rfl 139 (Array.replicate 27 (.int .i64 0)) (heap_alloc_new W1 _) (by kernel_rfl) rfl (by kernel_rfl) ?_
  apply wpList_nil
  rename_i K1 hK1
  refine hK1 _ _ ?_
  clear hK1 K1
  obtain ⟨b2, h2, z2⟩ := laid_row W1 139 (Array.replicate 27 (.int .i64 0)) toV.toArray
  generalize (W1.alloc (.cells (Array.replicate 27 (.int .i64 0)) 139)).setRow W1.heap.size toV.toArray = W2 at b2 h2 z2 ⊢
  have h3 := (b2.block w.heap.size (by omega)).trans h1
  rw [z1] at h2
  have HF := hid (row_range h3)
  have HT := hid (row_range h2)
  have hbw := b1.trans (b2.mono (by omega))
  rw [z1]
  clear h1 h2 h3 b1 b2 z2
  go_wp2
  go_loopw [5] (fun iv wr => ∃ k : Nat, iv = .int .i64 k ∧ k ≤ 27 ∧ wr = W2 ∧ Hid (remapL (remapT.drop k) v = r)) (fun iv _ => 27 - (RowKit.intOf iv).toNat)
  case atStart =>
    exact ⟨0, rfl, by omega, rfl, HR.out⟩
  case round =>
    obtain ⟨k, rfl, hk, rfl, HA⟩ := hrel
    by_cases hp : k < 27
    · have hl : k < remapT.length := hp
      obtain ⟨a, b, hab⟩ : ∃ a b, remapT[k] = (a, b) := ⟨_, _, rfl⟩
      have cf := HF.out k (.int .i64 a) (by unfold fromV; rw [List.getElem?_map, List.getElem?_eq_getElem hl, hab]; rfl)
      have ct := HT.out k (.int .i64 b) (by unfold toV; rw [List.getElem?_map, List.getElem?_eq_getElem hl, hab]; rfl)
      have hd := List.drop_eq_getElem_cons hl
      rw [hab] at hd
      have HB := HA.out
      rw [hd, remapL] at HB
      rw [Nat.zero_add] at cf ct
      clear HA hab hd
      by_cases hav : a = v
      · subst hav
        rw [if_pos rfl] at HB
        replace HB := hid HB
        go_wp2
        go_ret
        exact ⟨ret_i64 HB.out, hbw⟩
      · rw [if_neg hav] at HB
        replace HB := hid HB
        have q : (a == v) = false := beq_eq_false_iff_ne.2 hav
        go_wp2
        go_roundw
        case rel => exact ⟨k + 1, rfl, by omega, by first | rfl | trivial, HB⟩
        case measure => simp [RowKit.intOf]; omega
    · have HB : Hid (v = r) := by
        have := HA.out
        rw [List.drop_of_length_le (show remapT.length ≤ k by have : remapT.length = 27 := rfl; omega)] at this
        exact this
      clear HA
      go_wp2
      go_ret
      exact ⟨ret_i64 HB.out, hbw⟩
end Go.Proofs.YtchhlocibijekaaGreatDoor
