/-
  Character references: the tables and the whole answer, as plain functions on lists of bytes.
-/
import Derived.Test.YtkcgmimldjeaiaaDoorNames
import Derived.Test.YtkcgmimldjeaiaaDoorPlain
namespace Go.Proofs.YtkcgmimldjeaiaaDoor
open Go.Lib

def eitherT : List (List UInt8 × Int) := [([65, 77, 80], 38), ([97, 109, 112], 38), ([99, 111, 112, 121], 169), ([100, 101, 103], 176), ([71, 84], 62), ([103, 116], 62),
  ([76, 84], 60), ([108, 116], 60), ([110, 98, 115, 112], 160), ([110, 111, 116], 172), ([112, 97, 114, 97], 182), ([81, 85, 79, 84], 34),
  ([113, 117, 111, 116], 34), ([114, 101, 103], 174), ([116, 105, 109, 101, 115], 215)]
def closedT : List (List UInt8 × Int) := [([97, 112, 111, 115, 59], 39), ([98, 117, 108, 108, 59], 8226), ([99, 111, 108, 111, 110, 59], 58), ([99, 111, 112, 121, 115, 114, 59], 8471), ([101, 117, 114, 111, 59], 8364), ([103, 116, 100, 111, 116, 59], 8919),
  ([104, 101, 108, 108, 105, 112, 59], 8230), ([108, 100, 113, 117, 111, 59], 8220), ([108, 112, 97, 114, 59], 40), ([108, 115, 113, 117, 111, 59], 8216), ([108, 116, 105, 109, 101, 115, 59], 8905), ([109, 100, 97, 115, 104, 59], 8212),
  ([110, 100, 97, 115, 104, 59], 8211), ([78, 101, 119, 76, 105, 110, 101, 59], 10), ([110, 111, 116, 105, 110, 59], 8713), ([110, 117, 109, 59], 35), ([112, 97, 114, 97, 108, 108, 101, 108, 59], 8741), ([114, 100, 113, 117, 111, 59], 8221),
  ([114, 112, 97, 114, 59], 41), ([114, 115, 113, 117, 111, 59], 8217), ([115, 111, 108, 59], 47), ([84, 97, 98, 59], 9), ([116, 105, 109, 101, 115, 98, 59], 8864), ([116, 114, 97, 100, 101, 59], 8482)]
def replT : List Int := [8364, 65533, 8218, 402, 8222, 8230, 8224, 8225, 710, 8240, 352, 8249, 338, 65533, 381, 65533, 65533, 8216, 8217, 8220, 8221, 8226, 8211, 8212, 732, 8482, 353, 8250, 339, 65533, 382, 376]
def remapT : List (Int × Int) := [(128, 8364), (130, 8218), (131, 402), (132, 8222), (133, 8230), (134, 8224), (135, 8225), (136, 710), (137, 8240), (138, 352), (139, 8249), (140, 338), (142, 381), (145, 8216), (146, 8217), (147, 8220), (148, 8221), (149, 8226), (150, 8211), (151, 8212), (152, 732), (153, 8482), (154, 353), (155, 8250), (156, 339), (158, 382), (159, 376)]

theorem eitherT_ok : ∀ t ∈ eitherT, t.1 ≠ [] ∧ t.1.getLast? ≠ some 59 := by decide +kernel
theorem closedT_ok : ∀ t ∈ closedT, t.1 ≠ [] ∧ t.1.getLast? = some 59 ∧ ∀ n ∈ eitherT.map (·.1), t.1 ≠ n ++ [59] := by decide +kernel

def remapL : List (Int × Int) → Int → Int
  | [], v => v
  | p :: l, v => if p.1 = v then p.2 else remapL l v
theorem remapL_big : ∀ (l : List (Int × Int)) (v : Int), (∀ p ∈ l, p.1 ≤ 159) → 159 < v → remapL l v = v
  | [], _, _, _ => rfl
  | p :: l, v, h, hv => by
    have := h p (.head _)
    rw [remapL, if_neg (by omega)]
    exact remapL_big l v (fun q hq => h q (.tail _ hq)) hv
/-- what a number stands for -/
def numb (v : Int) : Int := if 128 ≤ v ∧ v ≤ 159 then replT.getD (v - 128).toNat 0 else if goodB v then v else 65533
def numbR (v : Int) : Int := if goodB (remapL remapT v) then remapL remapT v else 65533
theorem numb_small : ∀ v : Fin 160, numbR (v.val : Int) = numb (v.val : Int) := by decide +kernel
theorem numb_over (z : Int) (h : 159 < z) : numb z = if goodB z then z else 65533 := by
  unfold numb
  rw [if_neg (by omega)]
theorem numb_eq (v : Nat) : numbR (v : Int) = numb ((min v 1114112 : Nat) : Int) := by
  rcases Nat.lt_or_ge v 160 with h | h
  · rw [Nat.min_eq_left (by omega)]; exact numb_small ⟨v, h⟩
  · unfold numbR
    rw [remapL_big remapT _ (by decide +kernel) (by omega), numb_over _ (by omega)]
    rcases Nat.lt_or_ge v 1114112 with h2 | h2
    · rw [Nat.min_eq_left (by omega)]
    · rw [Nat.min_eq_right (by omega)]
      have h3 : goodB (v : Int) = false := by simp [goodB]; omega
      have h4 : goodB ((1114112 : Nat) : Int) = false := by decide +kernel
      rw [h3, h4]; rfl
theorem numb_good (v : Int) (_h : 0 ≤ v) : 0 ≤ numb v ∧ numb v ≤ 1114111 ∧ ¬ (55296 ≤ numb v ∧ numb v ≤ 57343) := by
  have ht : ∀ z ∈ replT, 0 ≤ z ∧ z ≤ 1114111 ∧ ¬ (55296 ≤ z ∧ z ≤ 57343) := by decide +kernel
  unfold numb
  split
  · have hl : (v - 128).toNat < replT.length := by have : replT.length = 32 := rfl; omega
    rw [List.getD_eq_getElem?_getD, List.getElem?_eq_getElem hl]
    exact ht _ (List.getElem_mem hl)
  · split
    · rename_i _ h
      simp [goodB] at h
      omega
    · omega

def hexN (N : List UInt8) : Bool := N[1]? == some 120 || N[1]? == some 88
def fromN (N : List UInt8) : Nat := if hexN N then 2 else 1
def baseN (N : List UInt8) : Nat := if hexN N then 16 else 10
def digN (N : List UInt8) : UInt8 → Bool := if hexN N then digX else digD
def digsN (N : List UInt8) : List UInt8 := (N.drop (fromN N)).takeWhile (digN N)
/-- the numeric reference that the bytes begin with: its length and its character -/
def numL (N : List UInt8) : Nat × Int :=
  if digsN N = [] then (0, 0) else
    (fromN N + (digsN N).length + (if N[fromN N + (digsN N).length]? = some 59 then 1 else 0), numb ((min (valS (baseN N) 0 (digsN N)) 1114112 : Nat) : Int))
def goesB (c : UInt8) : Bool := decide (c.toNat = 61 ∨ 48 ≤ c.toNat ∧ c.toNat ≤ 57 ∨ 65 ≤ c.toNat ∧ c.toNat ≤ 90 ∨ 97 ≤ c.toNat ∧ c.toNat ≤ 122)
def goesL (L : List UInt8) : Bool := match L with | [] => false | c :: _ => goesB c
def nameL (L : List UInt8) : Nat × Int := shut1 L (name1 L (eitherT ++ closedT))
/-- the reference that the bytes behind an ampersand begin with: its length, 0 where there is none, and its character -/
def refL (attr : Bool) (L : List UInt8) : Nat × Int :=
  if L[0]? = some 35 then numL (L.take 31)
  else if attr = true ∧ 0 < (nameL L).1 ∧ L[(nameL L).1 - 1]? ≠ some 59 ∧ goesL (L.drop (nameL L).1) = true then (0, 0) else nameL L
def oneL (attr : Bool) (L : List UInt8) : List UInt8 := if (refL attr L).1 = 0 then [38] else encodeRune (refL attr L).2

def unrL (attr : Bool) : Nat → List UInt8 → List UInt8
  | 0, _ => []
  | _ + 1, [] => []
  | n + 1, c :: r => if c = 38 then oneL attr r ++ unrL attr n (r.drop (refL attr r).1) else c :: unrL attr n r
def unr (attr : Bool) (L : List UInt8) : List UInt8 := unrL attr L.length L
theorem unrL_fuel (attr : Bool) : ∀ (f g : Nat) (L : List UInt8), L.length ≤ f → L.length ≤ g → unrL attr f L = unrL attr g L
  | 0, 0, _, _, _ => rfl
  | 0, g + 1, L, h, _ => by obtain rfl := List.length_eq_zero_iff.1 (Nat.le_zero.1 h); rfl
  | f + 1, 0, L, _, h => by obtain rfl := List.length_eq_zero_iff.1 (Nat.le_zero.1 h); rfl
  | f + 1, g + 1, [], _, _ => rfl
  | f + 1, g + 1, c :: r, h1, h2 => by
    simp only [List.length_cons] at h1 h2
    simp only [unrL]
    rw [unrL_fuel attr f g r (by omega) (by omega), unrL_fuel attr f g (r.drop _) (by rw [List.length_drop]; omega) (by rw [List.length_drop]; omega)]
theorem unr_nil (attr : Bool) : unr attr [] = [] := rfl
theorem unr_amp (attr : Bool) (r : List UInt8) : unr attr (38 :: r) = oneL attr r ++ unr attr (r.drop (refL attr r).1) := by
  unfold unr
  rw [List.length_cons, unrL, if_pos rfl, unrL_fuel attr r.length (r.drop (refL attr r).1).length _ (by rw [List.length_drop]; omega) (Nat.le_refl _)]
theorem unr_other (attr : Bool) (c : UInt8) (r : List UInt8) (h : c ≠ 38) : unr attr (c :: r) = c :: unr attr r := by
  unfold unr
  rw [List.length_cons, unrL, if_neg h]
theorem unr_ahead (attr : Bool) : ∀ (a r : List UInt8), (∀ c ∈ a, c ≠ 38) → unr attr (a ++ r) = a ++ unr attr r
  | [], _, _ => rfl
  | c :: a, r, h => by
    rw [List.cons_append, unr_other attr c _ (h c (.head _)), unr_ahead attr a r (fun d hd => h d (.tail _ hd))]; rfl
theorem oneL_len (attr : Bool) (L : List UInt8) : (oneL attr L).length ≤ 4 := by
  unfold oneL
  split
  · simp
  · rw [← runeCells_length]; unfold runeCells; rw [List.length_map]; exact (encodeRuneZ_length _).2
theorem unr_len (attr : Bool) : ∀ (n : Nat) (L : List UInt8), L.length ≤ n → (unr attr L).length ≤ 4 * L.length
  | _, [], _ => by rw [unr_nil]; simp
  | 0, c :: r, h => by simp at h
  | n + 1, c :: r, h => by
    simp only [List.length_cons] at h
    by_cases hc : c = 38
    · subst hc
      have h1 := oneL_len attr r
      have h2 := unr_len attr n (r.drop (refL attr r).1) (by rw [List.length_drop]; omega)
      rw [List.length_drop] at h2
      rw [unr_amp, List.length_append, List.length_cons]
      omega
    · have h2 := unr_len attr n r (by omega)
      rw [unr_other attr c r hc, List.length_cons, List.length_cons]
      omega

/-! ## what the loops go by -/

theorem while_step {p : UInt8 → Bool} {N : List UInt8} {e : Nat} {c : UInt8} (h : N[e]? = some c) (hp : p c = true) : (N.drop e).takeWhile p = c :: (N.drop (e + 1)).takeWhile p := by
  obtain ⟨h1, h2⟩ := List.getElem?_eq_some_iff.1 h
  rw [List.drop_eq_getElem_cons h1, h2, List.takeWhile_cons, if_pos hp]
theorem while_stop {p : UInt8 → Bool} {N : List UInt8} {e : Nat} (h : ∀ c, N[e]? = some c → p c = false) : (N.drop e).takeWhile p = [] := by
  rcases Nat.lt_or_ge e N.length with h1 | h1
  · rw [List.drop_eq_getElem_cons h1, List.takeWhile_cons, if_neg (by rw [h _ (List.getElem?_eq_getElem h1)]; simp)]
  · rw [List.drop_of_length_le h1]; rfl
/-- what a byte counts as a digit; 16: it is none -/
def digK (c : UInt8) : Nat := if 48 ≤ c.toNat ∧ c.toNat ≤ 57 then c.toNat - 48 else if 65 ≤ c.toNat ∧ c.toNat ≤ 70 then c.toNat - 55 else if 97 ≤ c.toNat ∧ c.toNat ≤ 102 then c.toNat - 87 else 16
theorem digK_D (c : UInt8) : decide (digK c < 10) = digD c := by
  unfold digK digD
  apply decide_eq_decide.2
  repeat' split
  all_goals omega
theorem digK_X (c : UInt8) : decide (digK c < 16) = digX c := by
  unfold digK digX
  apply decide_eq_decide.2
  repeat' split
  all_goals omega
theorem digK_V (c : UInt8) (h : digX c = true) : digK c = digV c := by
  unfold digX at h
  rw [decide_eq_true_eq] at h
  unfold digK digV
  repeat' split
  all_goals omega
theorem digV_lt (c : UInt8) (h : digX c = true) : digV c < 16 := by
  unfold digX at h
  rw [decide_eq_true_eq] at h
  unfold digV
  repeat' split
  all_goals omega
theorem digD_X (c : UInt8) (h : digD c = true) : digX c = true := by
  unfold digD at h
  unfold digX
  rw [decide_eq_true_eq] at h ⊢
  omega
theorem digN_K (N : List UInt8) (c : UInt8) : decide (digK c < baseN N) = digN N c := by
  unfold baseN digN
  split
  · exact digK_X c
  · exact digK_D c
theorem digN_X (N : List UInt8) (c : UInt8) (h : digN N c = true) : digX c = true := by
  unfold digN at h
  split at h
  · exact h
  · exact digD_X c h
end Go.Proofs.YtkcgmimldjeaiaaDoor
