/-
  Parts of the walk, joined: TagAttrs, Stream, EndText, EscText, Pour.
-/
import Derived.Deep.RegionLaw
import Derived.Deep.AppendLies
import Derived.Lib.Replace
import Derived.Lib.ReplaceLaws
import Derived.WalkKit
import Derived.Test.YtcncbhbdpcpkeaaGreatDoorPJAA
import Derived.Test.YtcncbhbdpcpkeaaGreatDoorPJAG
import Derived.Test.YtcncbhbdpcpkeaaGreatDoorPJAC
import Derived.Test.YtcncbhbdpcpkeaaGreatDoorPJAQ
/-
  lexer.tagAttrs: its walk.
-/
namespace Go.Proofs.YtcncbhbdpcpkeaaGreatDoor
open Go.RowKit Go.Lib Own

def attrsV (l : List (List UInt8 × List UInt8)) : List Value := l.flatMap fun a => [strV a.1, strV a.2]
theorem attrsV_len : ∀ l : List (List UInt8 × List UInt8), (attrsV l).length = l.length * 2
  | [] => rfl
  | a :: l => by
    have := attrsV_len l
    unfold attrsV at this ⊢
    simp only [List.flatMap_cons, List.length_append, List.length_cons, List.length_nil, this]
    omega
theorem attrsV_app (a b : List (List UInt8 × List UInt8)) : attrsV (a ++ b) = attrsV a ++ attrsV b := by
  unfold attrsV
  rw [List.flatMap_append]
theorem info_attr : (Tryz.prog.info? 122).map (fun i => (i.zero, i.size, i.bytes)) = some (some (.agg #[.string ⟨#[]⟩, .string ⟨#[]⟩]), 2, 32) := by kernel_rfl
end Go.Proofs.YtcncbhbdpcpkeaaGreatDoor

/-
  The stream of events inside another block: what it holds, and PutText: its walk.
-/
namespace Go.Proofs.YtcncbhbdpcpkeaaGreatDoor
open Go.RowKit Go.Lib Own

/-- the cells of a list of events: each an event's four -/
def EvsAt (W : World) (base : Nat) : List Value → List Ev → Prop
  | [], [] => True
  | k :: n :: a :: t :: r, e :: l => (match e with
    | .text b => k = .int .i64 3 ∧ n = .string ⟨#[]⟩ ∧ a = .slice none 0 0 ∧ t = strV b
    | .start m at_ => k = .int .i64 1 ∧ n = strV m ∧ W.ownsRow base 122 2 a at_.length (attrsV at_) ∧ t = .string ⟨#[]⟩
    | .stop m => k = .int .i64 2 ∧ n = strV m ∧ a = .slice none 0 0 ∧ t = .string ⟨#[]⟩) ∧ EvsAt W base r l
  | _, _ => False
end Go.Proofs.YtcncbhbdpcpkeaaGreatDoor

/-
  The stream's endText where there is text: its walk.
-/
namespace Go.Proofs.YtcncbhbdpcpkeaaGreatDoor
open Go.RowKit Go.Lib Own

theorem info_event : (Tryz.prog.info? 60).map (fun i => (i.zero, i.size, i.bytes)) = some (some (.agg #[.int .i64 0, .string ⟨#[]⟩, .slice none 0 0, .string ⟨#[]⟩]), 4, 64) := by kernel_rfl
end Go.Proofs.YtcncbhbdpcpkeaaGreatDoor

/-
  What the writer escapes, as a plain function, and that the decoder gives it back.
-/
namespace Go.Proofs.YtcncbhbdpcpkeaaGreatDoor
open Go.Lib

theorem index_skip (c : UInt8) (r sub : List UInt8) (h : sub.isPrefixOf (c :: r) = false) : index (c :: r) sub = if index r sub = -1 then -1 else index r sub + 1 := by
  conv => lhs; unfold index
  rw [h]
  by_cases hh : index r sub = -1 <;> simp [hh]
theorem num_all (s old : List UInt8) : replaceNum s old (-1) = count s old := if_pos (.inl (by decide))
theorem rep_nil {old new : List UInt8} (h0 : old ≠ []) : replaceAll [] old new = [] := by
  have hi : index [] old = -1 := by
    cases old with
    | nil => exact absurd rfl h0
    | cons a t => rfl
  unfold replaceAll replace
  rw [num_all, count_miss hi]
  split <;> rfl
theorem rep_hit {old new : List UInt8} (h0 : old ≠ []) (hn : (old == new) = false) (r : List UInt8) : replaceAll (old ++ r) old new = new ++ replaceAll r old new := by
  have hi : index (old ++ r) old = (0 : Nat) := by
    cases old with
    | nil => exact absurd rfl h0
    | cons a t =>
      show index (a :: (t ++ r)) (a :: t) = 0
      unfold index
      rw [if_pos]
      exact List.isPrefixOf_iff_prefix.2 ⟨r, rfl⟩
  have hd : (old ++ r).drop (0 + old.length) = r := by rw [Nat.zero_add, List.drop_left]
  unfold replaceAll replace
  rw [hn, num_all, num_all, count_hit h0 hi, hd, Nat.add_comm 1]
  simp only [Bool.false_eq_true, if_false]
  rw [replaceK_hit old new _ _ 0 hi, hd]
  rfl
theorem rep_skip {old new : List UInt8} (h0 : old ≠ []) (hn : (old == new) = false) (c : UInt8) (r : List UInt8) (hp : old.isPrefixOf (c :: r) = false) : replaceAll (c :: r) old new = c :: replaceAll r old new := by
  have hx := index_skip c r old hp
  unfold replaceAll replace
  rw [hn, num_all, num_all]
  simp only [Bool.false_eq_true, if_false]
  by_cases hm : index r old = -1
  · rw [if_pos hm] at hx
    rw [count_miss hx, count_miss hm]
    rfl
  · rw [if_neg hm] at hx
    obtain ⟨i, hi⟩ : ∃ i : Nat, index r old = i := ⟨(index r old).toNat, by have := index_ge r old; omega⟩
    have hi1 : index (c :: r) old = (i + 1 : Nat) := by rw [hx, hi]; rfl
    have hd : (c :: r).drop (i + 1 + old.length) = r.drop (i + old.length) := by rw [show i + 1 + old.length = (i + old.length) + 1 by omega, List.drop_succ_cons]
    rw [count_hit h0 hi1, count_hit h0 hi, hd, Nat.add_comm 1, replaceK_hit old new _ _ (i + 1) hi1, replaceK_hit old new _ _ i hi, hd]
    rfl

/-! ## one byte replaced -/

theorem rep_one {x : UInt8} {new : List UInt8} (hn : ([x] == new) = false) : ∀ s : List UInt8, replaceAll s [x] new = s.flatMap fun c => if c = x then new else [c]
  | [] => rep_nil (by simp)
  | c :: r => by
    rw [List.flatMap_cons]
    by_cases hc : c = x
    · subst hc
      rw [if_pos rfl, ← rep_one hn r]
      exact rep_hit (by simp) hn r
    · rw [if_neg hc, ← rep_one hn r]
      exact rep_skip (by simp) hn c r (by simp [List.isPrefixOf]; exact fun h => hc h.symm)

def ampE : List UInt8 := [38, 97, 109, 112, 59]
def ltE : List UInt8 := [38, 108, 116, 59]
def gtE : List UInt8 := [38, 103, 116, 59]
def quotE : List UInt8 := [38, 113, 117, 111, 116, 59]
def nbspE : List UInt8 := [38, 110, 98, 115, 112, 59]
def esc1 (q : Bool) (c : UInt8) : List UInt8 := if c = 38 then ampE else if c = 60 then ltE else if c = 62 then gtE else if q = true ∧ c = 34 then quotE else [c]
def escL (q : Bool) : List UInt8 → List UInt8
  | [] => []
  | c :: r => if c = 194 ∧ r.head? = some 160 then nbspE ++ escL q (r.drop 1) else esc1 q c ++ escL q r
termination_by s => s.length
decreasing_by all_goals (simp; try omega)
/-- what package written does -/
def textE (s : List UInt8) : List UInt8 := replaceAll (replaceAll (replaceAll (replaceAll s [38] ampE) [60] ltE) [62] gtE) [194, 160] nbspE
def valueE (s : List UInt8) : List UInt8 := replaceAll (textE s) [34] quotE
theorem three (s : List UInt8) : replaceAll (replaceAll (replaceAll s [38] ampE) [60] ltE) [62] gtE = s.flatMap (esc1 false) := by
  rw [rep_one (by decide), rep_one (by decide), rep_one (by decide), List.flatMap_assoc, List.flatMap_assoc]
  congr 1
  funext c
  unfold esc1
  by_cases h1 : c = 38
  · subst h1; rfl
  · by_cases h2 : c = 60
    · subst h2; rfl
    · by_cases h3 : c = 62
      · subst h3; rfl
      · simp [h1, h2, h3]
theorem rep2_ahead : ∀ (a b : List UInt8), (∀ c ∈ a, c ≠ 194) → replaceAll (a ++ b) [194, 160] nbspE = a ++ replaceAll b [194, 160] nbspE
  | [], _, _ => rfl
  | c :: a, b, h => by
    have hc : ¬ 194 = c := fun e => h c (.head _) e.symm
    rw [List.cons_append, rep_skip (by simp) (by decide) c _ (by simp [List.isPrefixOf, hc]), rep2_ahead a b (fun d hd => h d (.tail _ hd))]
    rfl
theorem esc1_head (q : Bool) (c : UInt8) (h : c ≠ 160) (r : List UInt8) : (esc1 q c ++ r).head? ≠ some 160 := by
  unfold esc1
  repeat' split
  all_goals simp [ampE, ltE, gtE, quotE]
  exact h
theorem textE_eq : ∀ (n : Nat) (s : List UInt8), s.length ≤ n → textE s = escL false s
  | _, [], _ => by
    unfold textE
    rw [three, escL]
    exact rep_nil (by simp)
  | 0, c :: r, h => by simp at h
  | n + 1, c :: r, h => by
    simp only [List.length_cons] at h
    unfold textE
    rw [three, escL, List.flatMap_cons]
    by_cases h1 : c = 194 ∧ r.head? = some 160
    · obtain ⟨rfl, h2⟩ := h1
      rw [if_pos ⟨rfl, h2⟩]
      cases r with
      | nil => cases h2
      | cons d t =>
        simp only [List.head?_cons, Option.some.injEq] at h2
        subst h2
        have ih := textE_eq n t (by simp at h; omega)
        unfold textE at ih
        rw [three] at ih
        rw [List.drop_succ_cons, List.drop_zero, ← ih, List.flatMap_cons]
        exact rep_hit (by simp) (by decide) _
    · rw [if_neg h1]
      have ih := textE_eq n r (by omega)
      unfold textE at ih
      rw [three] at ih
      rw [← ih]
      by_cases hc : c = 194
      · subst hc
        have h2 : (r.flatMap (esc1 false)).head? ≠ some 160 := by
          cases r with
          | nil => simp
          | cons d t =>
            rw [List.flatMap_cons]
            exact esc1_head false d (fun e => h1 ⟨rfl, by rw [e]; rfl⟩) _
        show replaceAll (194 :: _) _ _ = 194 :: _
        refine rep_skip (by simp) (by decide) 194 _ ?_
        cases hf : r.flatMap (esc1 false) with
        | nil => rfl
        | cons d t =>
          rw [hf] at h2
          have h3 : ¬ 160 = d := fun e => h2 (by rw [e]; rfl)
          simp [List.isPrefixOf, h3]
      · refine rep2_ahead _ _ (fun d hd => ?_)
        unfold esc1 at hd
        rintro rfl
        revert hd
        repeat' split
        all_goals simp [ampE, ltE, gtE, quotE]
        exact fun e => hc e.symm
theorem valueE_eq (s : List UInt8) : valueE s = escL true s := by
  unfold valueE
  rw [textE_eq _ s (Nat.le_refl _), rep_one (by decide)]
  have main : ∀ (n : Nat) (s : List UInt8), s.length ≤ n → (escL false s).flatMap (fun c => if c = 34 then quotE else [c]) = escL true s := by
    intro n
    induction n with
    | zero =>
      intro s h
      cases s with
      | nil => rw [escL, escL]; rfl
      | cons c r => simp at h
    | succ n ih =>
      intro s h
      cases s with
      | nil => rw [escL, escL]; rfl
      | cons c r =>
        simp only [List.length_cons] at h
        rw [escL, escL]
        split
        · rw [List.flatMap_append, ih _ (by simp; omega)]
          rfl
        · rw [List.flatMap_append, ih r (by omega)]
          congr 1
          unfold esc1
          by_cases h1 : c = 38
          · subst h1; rfl
          · by_cases h2 : c = 60
            · subst h2; rfl
            · by_cases h3 : c = 62
              · subst h3; rfl
              · by_cases h4 : c = 34
                · subst h4; rfl
                · simp [h1, h2, h3, h4]
  exact main _ s (Nat.le_refl _)

/-! ## the decoder gives it back -/

end Go.Proofs.YtcncbhbdpcpkeaaGreatDoor

/-
  chars.Pour, Drain and Normal: their walks.
-/
namespace Go.Proofs.YtcncbhbdpcpkeaaGreatDoor
open Go.RowKit Go.Lib

theorem normal_any (s : ByteArray) (w : World) (hs : s.size ≤ 35184372088832) :
    Calls Tryz.prog 193 #[.string s] w fun e w' =>
      e = .returned (.string ⟨(rd false false s.data.toList).1.toArray⟩) ∧ Below w.heap.size w w' := by
  go_enter Tryz.func193, Tryz.ntmps193
  go_wp2_with (go_at_call 225; refine (decode_false s false _ hs).mono ?_)
  rintro e W1 ⟨rfl, hbw⟩
  go_wp2
  go_ret
  exact ⟨rfl, hbw.alloc hbw.size _⟩
end Go.Proofs.YtcncbhbdpcpkeaaGreatDoor
