/-
  Parts of the walk, joined: Byte, Text, Hidden, FoldL, EscText.
-/
import Derived.Lib.RuneBytes
import Derived.Test.YtcncbhbdpcpkeaaGreatDoorShelf
import Derived.Lib.IndexBytes
import Derived.Deep.QuietTactic
import Derived.BigQuiet
import Derived.BigCall
import Derived.Lib.Replace
import Derived.Lib.ReplaceLaws
import Derived.WalkKit
import Derived.Test.YtcncbhbdpcpkeaaGreatDoorPJAA
/-
  Single bytes: scrub/ascii's functions, scrubref's, and what a digit counts: their walks.
-/
namespace Go.Proofs.YtcncbhbdpcpkeaaGreatDoor
open Go.RowKit Go.Lib

def isDigZ (z : Int) : Bool := decide (48 ≤ z ∧ z ≤ 57)
theorem dig_any (z : Int) (_h0 : 0 ≤ z) (_h1 : z ≤ 255) (w : World) :
    Calls Tryz.prog 189 #[.int .u8 z] w fun e w' => e = .returned (.bool (isDigZ z)) ∧ w' = w := by
  go_enter Tryz.func189, Tryz.ntmps189
  go_wp2
  all_goals go_ret
  all_goals refine ⟨ret_bool ?_, rfl⟩
  all_goals (rw [Bool.eq_iff_iff]; simp [isDigZ]; omega)
end Go.Proofs.YtcncbhbdpcpkeaaGreatDoor

/-
  The decoder as a plain function on bytes, that it may be cut anywhere, and what its texts are. No program is named here.
-/
namespace Go.Proofs.YtcncbhbdpcpkeaaGreatDoor
open Go.Lib

theorem byte_lt (l : List UInt8) (j : Nat) : (l.getD j 0).toNat < 256 := (l.getD j 0).toNat_lt
theorem width_le (l : List UInt8) (h : l ≠ []) : 1 ≤ (decodeL l).2 ∧ (decodeL l).2 ≤ l.length := by
  rw [decodeL_N]
  have : 1 ≤ l.length := by cases l with | nil => exact absurd rfl h | cons a r => simp
  unfold decodeN
  repeat' split
  all_goals simp only
  all_goals omega
theorem rune_le (l : List UInt8) : (decodeL l).1 ≤ 1114111 := by
  rw [decodeL_N]
  have h0 := byte_lt l 0
  unfold decodeN
  repeat' split
  all_goals simp only
  all_goals omega

/-- what one character gives -/
def unitL (cr : Bool) (c : Nat) : List UInt8 :=
  if c = 13 then [10] else if c = 10 ∧ cr = true then [] else if goodB c = true then encodeRune c else encodeRune 65533
/-- the rest is an unfinished character, and more may come -/
def stopL (more : Bool) (l : List UInt8) : Bool := more && ((decodeL l).1 == 65533 && !fullL l)
/-- the text, what is left over, and whether the last character was a CR -/
def readL (more : Bool) : Nat → Bool → List UInt8 → List UInt8 × List UInt8 × Bool
  | 0, cr, _ => ([], [], cr)
  | f + 1, cr, l =>
    if l = [] then ([], [], cr)
    else if stopL more l = true then ([], l, cr)
    else (unitL cr (decodeL l).1 ++ (readL more f ((decodeL l).1 == 13) (l.drop (decodeL l).2)).1, (readL more f ((decodeL l).1 == 13) (l.drop (decodeL l).2)).2)
def rd (more : Bool) (cr : Bool) (l : List UInt8) : List UInt8 × List UInt8 × Bool := readL more l.length cr l

theorem readL_fuel (more : Bool) : ∀ (f g : Nat) (cr : Bool) (l : List UInt8), l.length ≤ f → l.length ≤ g → readL more f cr l = readL more g cr l
  | 0, 0, _, _, _, _ => rfl
  | 0, g + 1, cr, l, hf, _ => by
    have : l = [] := List.eq_nil_of_length_eq_zero (by omega)
    simp [readL, this]
  | f + 1, 0, cr, l, _, hg => by
    have : l = [] := List.eq_nil_of_length_eq_zero (by omega)
    simp [readL, this]
  | f + 1, g + 1, cr, l, hf, hg => by
    by_cases h0 : l = []
    · simp [readL, h0]
    · have hw := width_le l h0
      have ih := readL_fuel more f g ((decodeL l).1 == 13) (l.drop (decodeL l).2) (by simp; omega) (by simp; omega)
      simp only [readL, h0, if_false, ih]
theorem rd_nil (more cr : Bool) : rd more cr [] = ([], [], cr) := rfl
theorem rd_stop (more cr : Bool) (l : List UInt8) (h0 : l ≠ []) (h : stopL more l = true) : rd more cr l = ([], l, cr) := by
  unfold rd
  cases l with
  | nil => exact absurd rfl h0
  | cons a r => simp [readL, h]
theorem rd_step (more cr : Bool) (l : List UInt8) (h0 : l ≠ []) (h : stopL more l = false) :
    rd more cr l = (unitL cr (decodeL l).1 ++ (rd more ((decodeL l).1 == 13) (l.drop (decodeL l).2)).1, (rd more ((decodeL l).1 == 13) (l.drop (decodeL l).2)).2) := by
  have hw := width_le l h0
  have e : ∀ c, readL more (l.length - 1) c (l.drop (decodeL l).2) = rd more c (l.drop (decodeL l).2) :=
    fun c => readL_fuel more _ _ c _ (by simp; omega) (Nat.le_refl _)
  have e1 : l.length = (l.length - 1) + 1 := by omega
  conv => lhs; unfold rd; rw [e1]
  simp only [readL, h0, if_false, h, e, Bool.false_eq_true]

end Go.Proofs.YtcncbhbdpcpkeaaGreatDoor

/-
  strings.Clone: its walk; facts that are kept out of sight.
-/
namespace Go.Proofs.YtcncbhbdpcpkeaaGreatDoor
open Go.RowKit Go.Lib

theorem builder_below {T e : TypeId} {B b : Nat} {bs : List Value} {W W' : World} (h : IsBuilderF T e B b bs W) (hb : Below W.heap.size W W') : IsBuilderF T e B b bs W' := by
  have one : ∀ p, BuilderAtF T e B b p bs W → BuilderAtF T e B b p bs W' := fun p x => by
    have hlt := x.lt
    obtain ⟨h1, v, h2, h3, h4⟩ := x
    refine ⟨h1, v, (hb.block b hlt).trans h2, ?_, h4⟩
    exact h3.kept (row := none) ⟨hb.os, hb.tape, hb.output, hb.size, fun k hk _ => hb.block k hk⟩ (by cases v.ownBlock <;> simp)
  rcases h with h | h
  · exact Or.inl (one _ h)
  · exact Or.inr (one _ h)
end Go.Proofs.YtcncbhbdpcpkeaaGreatDoor

/-
  Fold as a plain function on events: a node for each event, and texts of one depth that meet made one.
-/
namespace Go.Proofs.YtcncbhbdpcpkeaaGreatDoor
open Go.RowKit Go.Lib

def voidL (n : List UInt8) : Bool := n == [98, 114] || (n == [104, 114] || n == [105, 109, 103])
/-- a node for each event that adds or goes on with one -/
def piecesL : Nat → List EvP → List EvP
  | _, [] => []
  | d, e :: r =>
    if e.k = 1 then (if e.n = [] then piecesL (d + 1) r else ⟨d, e.n, e.a, []⟩ :: piecesL (if voidL e.n = true then d else d + 1) r)
    else if e.k = 2 then piecesL (d - 1) r else if e.k = 3 ∧ e.t ≠ [] then ⟨d, [], [], e.t⟩ :: piecesL d r else piecesL d r
/-- may m go on with n? -/
def meetsN (n m : EvP) : Prop := n.n = [] ∧ m.n = [] ∧ m.k = n.k
instance (n m : EvP) : Decidable (meetsN n m) := by unfold meetsN; infer_instance
def jn (n : EvP) : List EvP → List EvP
  | [] => [n]
  | m :: r => if meetsN n m then ⟨n.k, n.n, n.a, n.t ++ m.t⟩ :: r else n :: m :: r
def joinN (l : List EvP) : List EvP := l.foldr jn []
theorem joinN_cons (n : EvP) (l : List EvP) : joinN (n :: l) = jn n (joinN l) := rfl
theorem jn_nil (n : EvP) : jn n [] = [n] := rfl
theorem jn_cons (n m : EvP) (r : List EvP) : jn n (m :: r) = if meetsN n m then ⟨n.k, n.n, n.a, n.t ++ m.t⟩ :: r else n :: m :: r := rfl
theorem jn_head (n : EvP) (l : List EvP) : ∃ t r, jn n l = ⟨n.k, n.n, n.a, t⟩ :: r := by
  cases l with
  | nil => exact ⟨n.t, [], rfl⟩
  | cons m r =>
    rw [jn_cons]
    by_cases h : meetsN n m
    · rw [if_pos h]; exact ⟨_, _, rfl⟩
    · rw [if_neg h]; exact ⟨n.t, _, rfl⟩
theorem jn_apart {n m : EvP} (h : ¬ meetsN n m) (l : List EvP) : jn n (jn m l) = n :: jn m l := by
  obtain ⟨t, r, e⟩ := jn_head m l
  rw [e, jn_cons]
  exact if_neg h
theorem jn_meet {n m : EvP} (h : meetsN n m) (l : List EvP) : jn n (jn m l) = jn ⟨n.k, n.n, n.a, n.t ++ m.t⟩ l := by
  cases l with
  | nil => rw [jn_nil, jn_nil, jn_cons, if_pos h]
  | cons x r =>
    by_cases hx : meetsN m x
    · have h2 : meetsN ⟨n.k, n.n, n.a, n.t ++ m.t⟩ x := ⟨h.1, hx.2.1, hx.2.2.trans h.2.2⟩
      have h3 : meetsN n ⟨m.k, m.n, m.a, m.t ++ x.t⟩ := h
      rw [jn_cons, if_pos hx, jn_cons, if_pos h3, jn_cons, if_pos h2]
      simp only [List.append_assoc]
    · have h2 : ¬ meetsN ⟨n.k, n.n, n.a, n.t ++ m.t⟩ x := fun q => hx ⟨h.2.1, q.2.1, q.2.2.trans h.2.2.symm⟩
      rw [jn_cons, if_neg hx, jn_cons, if_pos h, jn_cons, if_neg h2]
theorem jn_elem {n : EvP} (h : n.n ≠ []) (l : List EvP) : jn n l = n :: l := by
  cases l with
  | nil => rfl
  | cons m r => rw [jn_cons, if_neg (fun q : meetsN n m => h q.1)]
/-- Fold's answer -/
def foldP (es : List EvP) : List EvP := joinN (piecesL 0 es)
/-- the text that is under way -/
def pendN (td : Nat) (p : List UInt8) : List EvP := if p = [] then [] else [⟨td, [], [], p⟩]
/-- what is still to come, from nodes that are done, a depth, a text under way and its depth -/
def restN (d td : Nat) (p : List UInt8) (es : List EvP) : List EvP := joinN (pendN td p ++ piecesL d es)
theorem restN_end (d td : Nat) (p : List UInt8) : restN d td p [] = pendN td p := by
  unfold restN pendN piecesL
  split <;> rfl
theorem pieces_step (d : Nat) (e : EvP) (r : List EvP) : piecesL d (e :: r) = if e.k = 1 then (if e.n = [] then piecesL (d + 1) r else ⟨d, e.n, e.a, []⟩ :: piecesL (if voidL e.n = true then d else d + 1) r)
    else if e.k = 2 then piecesL (d - 1) r else if e.k = 3 ∧ e.t ≠ [] then ⟨d, [], [], e.t⟩ :: piecesL d r else piecesL d r := rfl
theorem restN_start (d td : Nat) (p : List UInt8) (e : EvP) (r : List EvP) (h1 : e.k = 1) (h2 : e.n ≠ []) :
    restN d td p (e :: r) = pendN td p ++ ⟨d, e.n, e.a, []⟩ :: restN (if voidL e.n = true then d else d + 1) td [] r := by
  have h4 : jn ⟨d, e.n, e.a, []⟩ (joinN (piecesL (if voidL e.n = true then d else d + 1) r)) = ⟨d, e.n, e.a, []⟩ :: joinN (piecesL (if voidL e.n = true then d else d + 1) r) := jn_elem (n := ⟨d, e.n, e.a, []⟩) h2 _
  unfold restN pendN
  rw [pieces_step, if_pos h1, if_neg h2, if_pos rfl, List.nil_append]
  split
  · rw [List.nil_append, joinN_cons, h4, List.nil_append]
  · rw [List.singleton_append, joinN_cons, joinN_cons, jn_apart (n := ⟨td, [], [], p⟩) (m := ⟨d, e.n, e.a, []⟩) (fun q => h2 q.2.1), h4]
    rfl
theorem restN_anon (d td : Nat) (p : List UInt8) (e : EvP) (r : List EvP) (h1 : e.k = 1) (h2 : e.n = []) : restN d td p (e :: r) = restN (d + 1) td p r := by
  unfold restN
  rw [pieces_step, if_pos h1, if_pos h2]
theorem restN_stop (d td : Nat) (p : List UInt8) (e : EvP) (r : List EvP) (h1 : e.k = 2) : restN d td p (e :: r) = restN (d - 1) td p r := by
  unfold restN
  rw [pieces_step, if_neg (by omega), if_pos h1]
theorem restN_pass (d td : Nat) (p : List UInt8) (e : EvP) (r : List EvP) (h1 : e.k ≠ 1) (h2 : e.k ≠ 2) (h3 : ¬ (e.k = 3 ∧ e.t ≠ [])) : restN d td p (e :: r) = restN d td p r := by
  unfold restN
  rw [pieces_step, if_neg h1, if_neg h2, if_neg h3]
theorem pieces_text (d : Nat) (e : EvP) (r : List EvP) (h1 : e.k = 3) (h2 : e.t ≠ []) : piecesL d (e :: r) = ⟨d, [], [], e.t⟩ :: piecesL d r := by
  rw [pieces_step, if_neg (by omega), if_neg (by omega), if_pos ⟨h1, h2⟩]
theorem restN_join (d td : Nat) (p : List UInt8) (e : EvP) (r : List EvP) (h1 : e.k = 3) (h2 : e.t ≠ []) (h3 : td = d) : restN d td p (e :: r) = restN d d (p ++ e.t) r := by
  subst h3
  unfold restN pendN
  rw [pieces_text td e r h1 h2, if_neg (show p ++ e.t ≠ [] by simp [h2])]
  by_cases hp : p = []
  · subst hp
    rfl
  · rw [if_neg hp, List.singleton_append, joinN_cons, joinN_cons, jn_meet (n := ⟨td, [], [], p⟩) (m := ⟨td, [], [], e.t⟩) ⟨rfl, rfl, rfl⟩]
    rfl
theorem restN_part (d td : Nat) (p : List UInt8) (e : EvP) (r : List EvP) (h1 : e.k = 3) (h2 : e.t ≠ []) (h3 : td ≠ d) : restN d td p (e :: r) = pendN td p ++ restN d d e.t r := by
  unfold restN pendN
  rw [pieces_text d e r h1 h2, if_neg h2]
  by_cases hp : p = []
  · rw [if_pos hp]
    rfl
  · rw [if_neg hp, List.singleton_append, joinN_cons, List.singleton_append, joinN_cons, jn_apart (n := ⟨td, [], [], p⟩) (m := ⟨d, [], [], e.t⟩) (fun q => h3 (by have := q.2.2; simp only at this; omega))]
    rfl
theorem foldP_eq (es : List EvP) : foldP es = restN 0 0 [] es := rfl

/-! ## how long things are -/

theorem pieces_bulk : ∀ (es : List EvP) (d : Nat), bulkE (piecesL d es) ≤ bulkE es ∧ (piecesL d es).length ≤ es.length
  | [], _ => ⟨Nat.le_refl _, Nat.le_refl _⟩
  | e :: r, d => by
    have h1 := fun d => pieces_bulk r d
    rw [pieces_step, bulkE_cons, List.length_cons]
    split
    · split
      · have := h1 (d + 1); omega
      · have := h1 (if voidL e.n = true then d else d + 1)
        rw [bulkE_cons, List.length_cons]
        simp only [List.length_nil]
        omega
    · split
      · have := h1 (d - 1); omega
      · split
        · have := h1 d
          rw [bulkE_cons, List.length_cons]
          simp only [List.length_nil, show bulkA [] = 0 from rfl]
          omega
        · have := h1 d; omega
theorem jn_bulk (n : EvP) (l : List EvP) : bulkE (jn n l) ≤ bulkE (n :: l) ∧ (jn n l).length ≤ l.length + 1 := by
  cases l with
  | nil => exact ⟨Nat.le_refl _, Nat.le_refl _⟩
  | cons m r =>
    rw [jn_cons]
    by_cases h : meetsN n m
    · rw [if_pos h, bulkE_cons, bulkE_cons, bulkE_cons]
      simp only [List.length_append, List.length_cons]
      omega
    · rw [if_neg h]; exact ⟨Nat.le_refl _, Nat.le_refl _⟩
theorem joinN_bulk : ∀ l : List EvP, bulkE (joinN l) ≤ bulkE l ∧ (joinN l).length ≤ l.length
  | [] => ⟨Nat.le_refl _, Nat.le_refl _⟩
  | n :: l => by
    have h1 := joinN_bulk l
    have h2 := jn_bulk n (joinN l)
    rw [joinN_cons, bulkE_cons]
    rw [bulkE_cons] at h2
    simp only [List.length_cons]
    omega
theorem fold_bulk (es : List EvP) : bulkE (foldP es) ≤ bulkE es ∧ (foldP es).length ≤ es.length := by
  have h1 := joinN_bulk (piecesL 0 es)
  have h2 := pieces_bulk es 0
  unfold foldP
  omega
end Go.Proofs.YtcncbhbdpcpkeaaGreatDoor

/-
  What the writer escapes, as a plain function, and that the decoder gives it back.
-/
namespace Go.Proofs.YtcncbhbdpcpkeaaGreatDoor
open Go.Lib

theorem index_skip (c : UInt8) (r sub : List UInt8) (h : sub.isPrefixOf (c :: r) = false) : index (c :: r) sub = if index r sub = -1 then -1 else index r sub + 1 := by
  conv => lhs; unfold index
  rw [h]
  by_cases hh : index r sub = -1 <;> simp [hh]
theorem num_all (s old : List UInt8) : replaceNum s old (-1) = count s old := if_pos (.inl (by decide))
theorem rep_nil {old new : List UInt8} (h0 : old ≠ []) : replaceAll [] old new = [] := by
  have hi : index [] old = -1 := by
    cases old with
    | nil => exact absurd rfl h0
    | cons a t => rfl
  unfold replaceAll replace
  rw [num_all, count_miss hi]
  split <;> rfl
theorem rep_hit {old new : List UInt8} (h0 : old ≠ []) (hn : (old == new) = false) (r : List UInt8) : replaceAll (old ++ r) old new = new ++ replaceAll r old new := by
  have hi : index (old ++ r) old = (0 : Nat) := by
    cases old with
    | nil => exact absurd rfl h0
    | cons a t =>
      show index (a :: (t ++ r)) (a :: t) = 0
      unfold index
      rw [if_pos]
      exact List.isPrefixOf_iff_prefix.2 ⟨r, rfl⟩
  have hd : (old ++ r).drop (0 + old.length) = r := by rw [Nat.zero_add, List.drop_left]
  unfold replaceAll replace
  rw [hn, num_all, num_all, count_hit h0 hi, hd, Nat.add_comm 1]
  simp only [Bool.false_eq_true, if_false]
  rw [replaceK_hit old new _ _ 0 hi, hd]
  rfl
theorem rep_skip {old new : List UInt8} (h0 : old ≠ []) (hn : (old == new) = false) (c : UInt8) (r : List UInt8) (hp : old.isPrefixOf (c :: r) = false) : replaceAll (c :: r) old new = c :: replaceAll r old new := by
  have hx := index_skip c r old hp
  unfold replaceAll replace
  rw [hn, num_all, num_all]
  simp only [Bool.false_eq_true, if_false]
  by_cases hm : index r old = -1
  · rw [if_pos hm] at hx
    rw [count_miss hx, count_miss hm]
    rfl
  · rw [if_neg hm] at hx
    obtain ⟨i, hi⟩ : ∃ i : Nat, index r old = i := ⟨(index r old).toNat, by have := index_ge r old; omega⟩
    have hi1 : index (c :: r) old = (i + 1 : Nat) := by rw [hx, hi]; rfl
    have hd : (c :: r).drop (i + 1 + old.length) = r.drop (i + old.length) := by rw [show i + 1 + old.length = (i + old.length) + 1 by omega, List.drop_succ_cons]
    rw [count_hit h0 hi1, count_hit h0 hi, hd, Nat.add_comm 1, replaceK_hit old new _ _ (i + 1) hi1, replaceK_hit old new _ _ i hi, hd]
    rfl

/-! ## one byte replaced -/

theorem rep_one {x : UInt8} {new : List UInt8} (hn : ([x] == new) = false) : ∀ s : List UInt8, replaceAll s [x] new = s.flatMap fun c => if c = x then new else [c]
  | [] => rep_nil (by simp)
  | c :: r => by
    rw [List.flatMap_cons]
    by_cases hc : c = x
    · subst hc
      rw [if_pos rfl, ← rep_one hn r]
      exact rep_hit (by simp) hn r
    · rw [if_neg hc, ← rep_one hn r]
      exact rep_skip (by simp) hn c r (by simp [List.isPrefixOf]; exact fun h => hc h.symm)

def ampE : List UInt8 := [38, 97, 109, 112, 59]
def ltE : List UInt8 := [38, 108, 116, 59]
def gtE : List UInt8 := [38, 103, 116, 59]
def quotE : List UInt8 := [38, 113, 117, 111, 116, 59]
def nbspE : List UInt8 := [38, 110, 98, 115, 112, 59]
def esc1 (q : Bool) (c : UInt8) : List UInt8 := if c = 38 then ampE else if c = 60 then ltE else if c = 62 then gtE else if q = true ∧ c = 34 then quotE else [c]
def escL (q : Bool) : List UInt8 → List UInt8
  | [] => []
  | c :: r => if c = 194 ∧ r.head? = some 160 then nbspE ++ escL q (r.drop 1) else esc1 q c ++ escL q r
termination_by s => s.length
decreasing_by all_goals (simp; try omega)
/-- what package written does -/
def textE (s : List UInt8) : List UInt8 := replaceAll (replaceAll (replaceAll (replaceAll s [38] ampE) [60] ltE) [62] gtE) [194, 160] nbspE
def valueE (s : List UInt8) : List UInt8 := replaceAll (textE s) [34] quotE
theorem three (s : List UInt8) : replaceAll (replaceAll (replaceAll s [38] ampE) [60] ltE) [62] gtE = s.flatMap (esc1 false) := by
  rw [rep_one (by decide), rep_one (by decide), rep_one (by decide), List.flatMap_assoc, List.flatMap_assoc]
  congr 1
  funext c
  unfold esc1
  by_cases h1 : c = 38
  · subst h1; rfl
  · by_cases h2 : c = 60
    · subst h2; rfl
    · by_cases h3 : c = 62
      · subst h3; rfl
      · simp [h1, h2, h3]
theorem rep2_ahead : ∀ (a b : List UInt8), (∀ c ∈ a, c ≠ 194) → replaceAll (a ++ b) [194, 160] nbspE = a ++ replaceAll b [194, 160] nbspE
  | [], _, _ => rfl
  | c :: a, b, h => by
    have hc : ¬ 194 = c := fun e => h c (.head _) e.symm
    rw [List.cons_append, rep_skip (by simp) (by decide) c _ (by simp [List.isPrefixOf, hc]), rep2_ahead a b (fun d hd => h d (.tail _ hd))]
    rfl
theorem esc1_head (q : Bool) (c : UInt8) (h : c ≠ 160) (r : List UInt8) : (esc1 q c ++ r).head? ≠ some 160 := by
  unfold esc1
  repeat' split
  all_goals simp [ampE, ltE, gtE, quotE]
  exact h
theorem textE_eq : ∀ (n : Nat) (s : List UInt8), s.length ≤ n → textE s = escL false s
  | _, [], _ => by
    unfold textE
    rw [three, escL]
    exact rep_nil (by simp)
  | 0, c :: r, h => by simp at h
  | n + 1, c :: r, h => by
    simp only [List.length_cons] at h
    unfold textE
    rw [three, escL, List.flatMap_cons]
    by_cases h1 : c = 194 ∧ r.head? = some 160
    · obtain ⟨rfl, h2⟩ := h1
      rw [if_pos ⟨rfl, h2⟩]
      cases r with
      | nil => cases h2
      | cons d t =>
        simp only [List.head?_cons, Option.some.injEq] at h2
        subst h2
        have ih := textE_eq n t (by simp at h; omega)
        unfold textE at ih
        rw [three] at ih
        rw [List.drop_succ_cons, List.drop_zero, ← ih, List.flatMap_cons]
        exact rep_hit (by simp) (by decide) _
    · rw [if_neg h1]
      have ih := textE_eq n r (by omega)
      unfold textE at ih
      rw [three] at ih
      rw [← ih]
      by_cases hc : c = 194
      · subst hc
        have h2 : (r.flatMap (esc1 false)).head? ≠ some 160 := by
          cases r with
          | nil => simp
          | cons d t =>
            rw [List.flatMap_cons]
            exact esc1_head false d (fun e => h1 ⟨rfl, by rw [e]; rfl⟩) _
        show replaceAll (194 :: _) _ _ = 194 :: _
        refine rep_skip (by simp) (by decide) 194 _ ?_
        cases hf : r.flatMap (esc1 false) with
        | nil => rfl
        | cons d t =>
          rw [hf] at h2
          have h3 : ¬ 160 = d := fun e => h2 (by rw [e]; rfl)
          simp [List.isPrefixOf, h3]
      · refine rep2_ahead _ _ (fun d hd => ?_)
        unfold esc1 at hd
        rintro rfl
        revert hd
        repeat' split
        all_goals simp [ampE, ltE, gtE, quotE]
        exact fun e => hc e.symm
theorem valueE_eq (s : List UInt8) : valueE s = escL true s := by
  unfold valueE
  rw [textE_eq _ s (Nat.le_refl _), rep_one (by decide)]
  have main : ∀ (n : Nat) (s : List UInt8), s.length ≤ n → (escL false s).flatMap (fun c => if c = 34 then quotE else [c]) = escL true s := by
    intro n
    induction n with
    | zero =>
      intro s h
      cases s with
      | nil => rw [escL, escL]; rfl
      | cons c r => simp at h
    | succ n ih =>
      intro s h
      cases s with
      | nil => rw [escL, escL]; rfl
      | cons c r =>
        simp only [List.length_cons] at h
        rw [escL, escL]
        split
        · rw [List.flatMap_append, ih _ (by simp; omega)]
          rfl
        · rw [List.flatMap_append, ih r (by omega)]
          congr 1
          unfold esc1
          by_cases h1 : c = 38
          · subst h1; rfl
          · by_cases h2 : c = 60
            · subst h2; rfl
            · by_cases h3 : c = 62
              · subst h3; rfl
              · by_cases h4 : c = 34
                · subst h4; rfl
                · simp [h1, h2, h3, h4]
  exact main _ s (Nat.le_refl _)

/-! ## the decoder gives it back -/

theorem esc_signs (q : Bool) : ∀ (n : Nat) (s : List UInt8), s.length ≤ n → ∀ c ∈ escL q s, c ≠ 60 ∧ c ≠ 62 ∧ (q = true → c ≠ 34)
  | _, [], _ => by rw [escL]; intro c hc; cases hc
  | 0, c :: r, h => by simp at h
  | n + 1, c :: r, h => by
    simp only [List.length_cons] at h
    rw [escL]
    intro d hd
    split at hd
    · rcases List.mem_append.1 hd with h1 | h1
      · revert h1
        simp only [nbspE, List.mem_cons, List.not_mem_nil, or_false]
        rintro (rfl | rfl | rfl | rfl | rfl | rfl) <;> simp
      · exact esc_signs q n _ (by simp; omega) d h1
    · rcases List.mem_append.1 hd with h1 | h1
      · revert h1
        unfold esc1
        split
        · simp only [ampE, List.mem_cons, List.not_mem_nil, or_false]
          rintro (rfl | rfl | rfl | rfl | rfl) <;> simp
        · split
          · simp only [ltE, List.mem_cons, List.not_mem_nil, or_false]
            rintro (rfl | rfl | rfl | rfl) <;> simp
          · split
            · simp only [gtE, List.mem_cons, List.not_mem_nil, or_false]
              rintro (rfl | rfl | rfl | rfl) <;> simp
            · split
              · simp only [quotE, List.mem_cons, List.not_mem_nil, or_false]
                rintro (rfl | rfl | rfl | rfl | rfl | rfl) <;> simp
              · rename_i h2 h3 h4 h5
                rw [List.mem_singleton]
                rintro rfl
                exact ⟨h3, h4, fun hq e => h5 ⟨hq, e⟩⟩
      · exact esc_signs q n _ (by omega) d h1
end Go.Proofs.YtcncbhbdpcpkeaaGreatDoor
