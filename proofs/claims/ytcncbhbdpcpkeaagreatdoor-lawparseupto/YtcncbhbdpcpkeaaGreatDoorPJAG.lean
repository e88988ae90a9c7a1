/-
  Parts of the walk, joined: TagAttrs, PutEv, EvGet, EscText, Pour, Code, Clean, WrText, WrTag, InStr, RefAttr.
-/
import Derived.Laws.Tables
import Derived.Deep.RegionLaw
import Derived.Deep.AppendLies
import Derived.Lib.Replace
import Derived.Lib.ReplaceLaws
import Derived.WalkKit
import Derived.LoopN
import Derived.Lib.UnsafeStr
import Derived.Test.YtcncbhbdpcpkeaaGreatDoorPJAA
import Derived.Test.YtcncbhbdpcpkeaaGreatDoorPJAF
import Derived.Test.YtcncbhbdpcpkeaaGreatDoorPJAB
import Derived.Test.YtcncbhbdpcpkeaaGreatDoorPJAC
import Derived.Test.YtcncbhbdpcpkeaaGreatDoorPJAD
/-
  lexer.tagAttrs: its walk.
-/
namespace Go.Proofs.YtcncbhbdpcpkeaaGreatDoor
open Go.RowKit Go.Lib Own

def attrsV (l : List (List UInt8 × List UInt8)) : List Value := l.flatMap fun a => [strV a.1, strV a.2]
theorem attrsV_len : ∀ l : List (List UInt8 × List UInt8), (attrsV l).length = l.length * 2
  | [] => rfl
  | a :: l => by
    have := attrsV_len l
    unfold attrsV at this ⊢
    simp only [List.flatMap_cons, List.length_append, List.length_cons, List.length_nil, this]
    omega
theorem attrsV_app (a b : List (List UInt8 × List UInt8)) : attrsV (a ++ b) = attrsV a ++ attrsV b := by
  unfold attrsV
  rw [List.flatMap_append]
theorem info_attr : (Tryz.prog.info? 122).map (fun i => (i.zero, i.size, i.bytes)) = some (some (.agg #[.string ⟨#[]⟩, .string ⟨#[]⟩]), 2, 32) := by kernel_rfl
end Go.Proofs.YtcncbhbdpcpkeaaGreatDoor

/-
  The stream's Put: its walk.
-/
namespace Go.Proofs.YtcncbhbdpcpkeaaGreatDoor
open Go.RowKit Go.Lib Own

theorem rowF_ne {W : World} {base : Nat} {e2 : TypeId} {z2 n1 n2 : Nat} {v1 v2 : Value} {xs1 xs2 : List Value} (h1 : W.ownsRowF base 5 1 v1 n1 xs1) (h2 : W.ownsRow base e2 z2 v2 n2 xs2) (hne : e2 ≠ 5) : v1.ownBlock = none ∨ v1.ownBlock ≠ v2.ownBlock := by
  rcases h1.2 with ⟨rfl, _⟩ | ⟨g, cap, cur, fz, rfl, _, hg, _⟩
  · exact .inl rfl
  · refine .inr (fun h3 => ?_)
    rcases h2.2 with ⟨rfl, _⟩ | ⟨g2, cap2, cur2, rfl, _, hg2, _⟩
    · cases h3
    · simp only [Value.ownBlock, Option.some.injEq] at h3
      subst h3
      rw [hg] at hg2
      simp only [Option.some.injEq, Obj.cells.injEq] at hg2
      exact hne hg2.2.1.symm
end Go.Proofs.YtcncbhbdpcpkeaaGreatDoor

/-
  The cells of one event among a list's.
-/
namespace Go.Proofs.YtcncbhbdpcpkeaaGreatDoor
open Go.RowKit Go.Lib Own

def evK : Ev → Nat
  | .text _ => 3
  | .start _ _ => 1
  | .stop _ => 2
def evN : Ev → List UInt8
  | .text _ => []
  | .start n _ => n
  | .stop n => n
def evA : Ev → List (List UInt8 × List UInt8)
  | .start _ a => a
  | _ => []
def evT : Ev → List UInt8
  | .text b => b
  | _ => []
end Go.Proofs.YtcncbhbdpcpkeaaGreatDoor

/-
  What the writer escapes, as a plain function, and that the decoder gives it back.
-/
namespace Go.Proofs.YtcncbhbdpcpkeaaGreatDoor
open Go.Lib

theorem index_skip (c : UInt8) (r sub : List UInt8) (h : sub.isPrefixOf (c :: r) = false) : index (c :: r) sub = if index r sub = -1 then -1 else index r sub + 1 := by
  conv => lhs; unfold index
  rw [h]
  by_cases hh : index r sub = -1 <;> simp [hh]
theorem num_all (s old : List UInt8) : replaceNum s old (-1) = count s old := if_pos (.inl (by decide))
theorem rep_nil {old new : List UInt8} (h0 : old ≠ []) : replaceAll [] old new = [] := by
  have hi : index [] old = -1 := by
    cases old with
    | nil => exact absurd rfl h0
    | cons a t => rfl
  unfold replaceAll replace
  rw [num_all, count_miss hi]
  split <;> rfl
theorem rep_hit {old new : List UInt8} (h0 : old ≠ []) (hn : (old == new) = false) (r : List UInt8) : replaceAll (old ++ r) old new = new ++ replaceAll r old new := by
  have hi : index (old ++ r) old = (0 : Nat) := by
    cases old with
    | nil => exact absurd rfl h0
    | cons a t =>
      show index (a :: (t ++ r)) (a :: t) = 0
      unfold index
      rw [if_pos]
      exact List.isPrefixOf_iff_prefix.2 ⟨r, rfl⟩
  have hd : (old ++ r).drop (0 + old.length) = r := by rw [Nat.zero_add, List.drop_left]
  unfold replaceAll replace
  rw [hn, num_all, num_all, count_hit h0 hi, hd, Nat.add_comm 1]
  simp only [Bool.false_eq_true, if_false]
  rw [replaceK_hit old new _ _ 0 hi, hd]
  rfl
theorem rep_skip {old new : List UInt8} (h0 : old ≠ []) (hn : (old == new) = false) (c : UInt8) (r : List UInt8) (hp : old.isPrefixOf (c :: r) = false) : replaceAll (c :: r) old new = c :: replaceAll r old new := by
  have hx := index_skip c r old hp
  unfold replaceAll replace
  rw [hn, num_all, num_all]
  simp only [Bool.false_eq_true, if_false]
  by_cases hm : index r old = -1
  · rw [if_pos hm] at hx
    rw [count_miss hx, count_miss hm]
    rfl
  · rw [if_neg hm] at hx
    obtain ⟨i, hi⟩ : ∃ i : Nat, index r old = i := ⟨(index r old).toNat, by have := index_ge r old; omega⟩
    have hi1 : index (c :: r) old = (i + 1 : Nat) := by rw [hx, hi]; rfl
    have hd : (c :: r).drop (i + 1 + old.length) = r.drop (i + old.length) := by rw [show i + 1 + old.length = (i + old.length) + 1 by omega, List.drop_succ_cons]
    rw [count_hit h0 hi1, count_hit h0 hi, hd, Nat.add_comm 1, replaceK_hit old new _ _ (i + 1) hi1, replaceK_hit old new _ _ i hi, hd]
    rfl

/-! ## one byte replaced -/

theorem rep_one {x : UInt8} {new : List UInt8} (hn : ([x] == new) = false) : ∀ s : List UInt8, replaceAll s [x] new = s.flatMap fun c => if c = x then new else [c]
  | [] => rep_nil (by simp)
  | c :: r => by
    rw [List.flatMap_cons]
    by_cases hc : c = x
    · subst hc
      rw [if_pos rfl, ← rep_one hn r]
      exact rep_hit (by simp) hn r
    · rw [if_neg hc, ← rep_one hn r]
      exact rep_skip (by simp) hn c r (by simp [List.isPrefixOf]; exact fun h => hc h.symm)

def ampE : List UInt8 := [38, 97, 109, 112, 59]
def ltE : List UInt8 := [38, 108, 116, 59]
def gtE : List UInt8 := [38, 103, 116, 59]
def quotE : List UInt8 := [38, 113, 117, 111, 116, 59]
def nbspE : List UInt8 := [38, 110, 98, 115, 112, 59]
def esc1 (q : Bool) (c : UInt8) : List UInt8 := if c = 38 then ampE else if c = 60 then ltE else if c = 62 then gtE else if q = true ∧ c = 34 then quotE else [c]
def escL (q : Bool) : List UInt8 → List UInt8
  | [] => []
  | c :: r => if c = 194 ∧ r.head? = some 160 then nbspE ++ escL q (r.drop 1) else esc1 q c ++ escL q r
termination_by s => s.length
decreasing_by all_goals (simp; try omega)
/-- what package written does -/
def textE (s : List UInt8) : List UInt8 := replaceAll (replaceAll (replaceAll (replaceAll s [38] ampE) [60] ltE) [62] gtE) [194, 160] nbspE
def valueE (s : List UInt8) : List UInt8 := replaceAll (textE s) [34] quotE
theorem three (s : List UInt8) : replaceAll (replaceAll (replaceAll s [38] ampE) [60] ltE) [62] gtE = s.flatMap (esc1 false) := by
  rw [rep_one (by decide), rep_one (by decide), rep_one (by decide), List.flatMap_assoc, List.flatMap_assoc]
  congr 1
  funext c
  unfold esc1
  by_cases h1 : c = 38
  · subst h1; rfl
  · by_cases h2 : c = 60
    · subst h2; rfl
    · by_cases h3 : c = 62
      · subst h3; rfl
      · simp [h1, h2, h3]
theorem rep2_ahead : ∀ (a b : List UInt8), (∀ c ∈ a, c ≠ 194) → replaceAll (a ++ b) [194, 160] nbspE = a ++ replaceAll b [194, 160] nbspE
  | [], _, _ => rfl
  | c :: a, b, h => by
    have hc : ¬ 194 = c := fun e => h c (.head _) e.symm
    rw [List.cons_append, rep_skip (by simp) (by decide) c _ (by simp [List.isPrefixOf, hc]), rep2_ahead a b (fun d hd => h d (.tail _ hd))]
    rfl
theorem esc1_head (q : Bool) (c : UInt8) (h : c ≠ 160) (r : List UInt8) : (esc1 q c ++ r).head? ≠ some 160 := by
  unfold esc1
  repeat' split
  all_goals simp [ampE, ltE, gtE, quotE]
  exact h
theorem textE_eq : ∀ (n : Nat) (s : List UInt8), s.length ≤ n → textE s = escL false s
  | _, [], _ => by
    unfold textE
    rw [three, escL]
    exact rep_nil (by simp)
  | 0, c :: r, h => by simp at h
  | n + 1, c :: r, h => by
    simp only [List.length_cons] at h
    unfold textE
    rw [three, escL, List.flatMap_cons]
    by_cases h1 : c = 194 ∧ r.head? = some 160
    · obtain ⟨rfl, h2⟩ := h1
      rw [if_pos ⟨rfl, h2⟩]
      cases r with
      | nil => cases h2
      | cons d t =>
        simp only [List.head?_cons, Option.some.injEq] at h2
        subst h2
        have ih := textE_eq n t (by simp at h; omega)
        unfold textE at ih
        rw [three] at ih
        rw [List.drop_succ_cons, List.drop_zero, ← ih, List.flatMap_cons]
        exact rep_hit (by simp) (by decide) _
    · rw [if_neg h1]
      have ih := textE_eq n r (by omega)
      unfold textE at ih
      rw [three] at ih
      rw [← ih]
      by_cases hc : c = 194
      · subst hc
        have h2 : (r.flatMap (esc1 false)).head? ≠ some 160 := by
          cases r with
          | nil => simp
          | cons d t =>
            rw [List.flatMap_cons]
            exact esc1_head false d (fun e => h1 ⟨rfl, by rw [e]; rfl⟩) _
        show replaceAll (194 :: _) _ _ = 194 :: _
        refine rep_skip (by simp) (by decide) 194 _ ?_
        cases hf : r.flatMap (esc1 false) with
        | nil => rfl
        | cons d t =>
          rw [hf] at h2
          have h3 : ¬ 160 = d := fun e => h2 (by rw [e]; rfl)
          simp [List.isPrefixOf, h3]
      · refine rep2_ahead _ _ (fun d hd => ?_)
        unfold esc1 at hd
        rintro rfl
        revert hd
        repeat' split
        all_goals simp [ampE, ltE, gtE, quotE]
        exact fun e => hc e.symm
theorem valueE_eq (s : List UInt8) : valueE s = escL true s := by
  unfold valueE
  rw [textE_eq _ s (Nat.le_refl _), rep_one (by decide)]
  have main : ∀ (n : Nat) (s : List UInt8), s.length ≤ n → (escL false s).flatMap (fun c => if c = 34 then quotE else [c]) = escL true s := by
    intro n
    induction n with
    | zero =>
      intro s h
      cases s with
      | nil => rw [escL, escL]; rfl
      | cons c r => simp at h
    | succ n ih =>
      intro s h
      cases s with
      | nil => rw [escL, escL]; rfl
      | cons c r =>
        simp only [List.length_cons] at h
        rw [escL, escL]
        split
        · rw [List.flatMap_append, ih _ (by simp; omega)]
          rfl
        · rw [List.flatMap_append, ih r (by omega)]
          congr 1
          unfold esc1
          by_cases h1 : c = 38
          · subst h1; rfl
          · by_cases h2 : c = 60
            · subst h2; rfl
            · by_cases h3 : c = 62
              · subst h3; rfl
              · by_cases h4 : c = 34
                · subst h4; rfl
                · simp [h1, h2, h3, h4]
  exact main _ s (Nat.le_refl _)

/-! ## the decoder gives it back -/

theorem esc_signs (q : Bool) : ∀ (n : Nat) (s : List UInt8), s.length ≤ n → ∀ c ∈ escL q s, c ≠ 60 ∧ c ≠ 62 ∧ (q = true → c ≠ 34)
  | _, [], _ => by rw [escL]; intro c hc; cases hc
  | 0, c :: r, h => by simp at h
  | n + 1, c :: r, h => by
    simp only [List.length_cons] at h
    rw [escL]
    intro d hd
    split at hd
    · rcases List.mem_append.1 hd with h1 | h1
      · revert h1
        simp only [nbspE, List.mem_cons, List.not_mem_nil, or_false]
        rintro (rfl | rfl | rfl | rfl | rfl | rfl) <;> simp
      · exact esc_signs q n _ (by simp; omega) d h1
    · rcases List.mem_append.1 hd with h1 | h1
      · revert h1
        unfold esc1
        split
        · simp only [ampE, List.mem_cons, List.not_mem_nil, or_false]
          rintro (rfl | rfl | rfl | rfl | rfl) <;> simp
        · split
          · simp only [ltE, List.mem_cons, List.not_mem_nil, or_false]
            rintro (rfl | rfl | rfl | rfl) <;> simp
          · split
            · simp only [gtE, List.mem_cons, List.not_mem_nil, or_false]
              rintro (rfl | rfl | rfl | rfl) <;> simp
            · split
              · simp only [quotE, List.mem_cons, List.not_mem_nil, or_false]
                rintro (rfl | rfl | rfl | rfl | rfl | rfl) <;> simp
              · rename_i h2 h3 h4 h5
                rw [List.mem_singleton]
                rintro rfl
                exact ⟨h3, h4, fun hq e => h5 ⟨hq, e⟩⟩
      · exact esc_signs q n _ (by omega) d h1
end Go.Proofs.YtcncbhbdpcpkeaaGreatDoor

/-
  chars.Pour, Drain and Normal: their walks.
-/
namespace Go.Proofs.YtcncbhbdpcpkeaaGreatDoor
open Go.RowKit Go.Lib

theorem normal_any (s : ByteArray) (w : World) (hs : s.size ≤ 35184372088832) :
    Calls Tryz.prog 193 #[.string s] w fun e w' =>
      e = .returned (.string ⟨(rd false false s.data.toList).1.toArray⟩) ∧ Below w.heap.size w w' := by
  go_enter Tryz.func193, Tryz.ntmps193
  go_wp2_with (go_at_call 225; refine (decode_false s false _ hs).mono ?_)
  rintro e W1 ⟨rfl, hbw⟩
  go_wp2
  go_ret
  exact ⟨rfl, hbw.alloc hbw.size _⟩
end Go.Proofs.YtcncbhbdpcpkeaaGreatDoor

/-
  scrublaw.begun and codeAt: their walks.
-/
namespace Go.Proofs.YtcncbhbdpcpkeaaGreatDoor
open Go.RowKit Go.Lib

/-- the character at the front of n bytes that begin so, and its length; none: length 0 -/
def codeN (n b0 b1 b2 b3 : Nat) : Nat × Nat :=
  if b0 < 128 then (b0, 1)
  else if b0 < 192 then (0, 0)
  else if b0 < 224 then
    (if 2 ≤ n ∧ (128 ≤ b1 ∧ b1 ≤ 191) ∧ 128 ≤ (b0 - 192) * 64 + (b1 - 128) then ((b0 - 192) * 64 + (b1 - 128), 2) else (0, 0))
  else if b0 < 240 then
    (if 3 ≤ n ∧ (128 ≤ b1 ∧ b1 ≤ 191) ∧ (128 ≤ b2 ∧ b2 ≤ 191) ∧ 2048 ≤ ((b0 - 224) * 64 + (b1 - 128)) * 64 + (b2 - 128)
     then (((b0 - 224) * 64 + (b1 - 128)) * 64 + (b2 - 128), 3) else (0, 0))
  else
    (if 4 ≤ n ∧ (128 ≤ b1 ∧ b1 ≤ 191) ∧ (128 ≤ b2 ∧ b2 ≤ 191) ∧ (128 ≤ b3 ∧ b3 ≤ 191) ∧ 65536 ≤ (((b0 - 240) * 64 + (b1 - 128)) * 64 + (b2 - 128)) * 64 + (b3 - 128) ∧
        (((b0 - 240) * 64 + (b1 - 128)) * 64 + (b2 - 128)) * 64 + (b3 - 128) ≤ 1114111
     then ((((b0 - 240) * 64 + (b1 - 128)) * 64 + (b2 - 128)) * 64 + (b3 - 128), 4) else (0, 0))
def codeL (l : List UInt8) : Nat × Nat := codeN l.length (l.getD 0 0).toNat (l.getD 1 0).toNat (l.getD 2 0).toNat (l.getD 3 0).toNat

end Go.Proofs.YtcncbhbdpcpkeaaGreatDoor

/-
  scrublaw.codeAt at every place, and goodText: their walks.
-/
namespace Go.Proofs.YtcncbhbdpcpkeaaGreatDoor
open Go.RowKit Go.Lib

theorem codeL_le (l : List UInt8) (h : l ≠ []) : (codeL l).1 ≤ 1114111 ∧ (codeL l).2 ≤ l.length ∧ (codeL l).2 ≤ 4 := by
  have hl : 1 ≤ l.length := by cases l with | nil => exact absurd rfl h | cons a r => simp
  unfold codeL codeN
  have h0 := byte_lt l 0
  repeat' split
  all_goals (simp only; omega)

/-- is it all good characters -/
def goodTextL : Nat → List UInt8 → Bool
  | 0, _ => true
  | f + 1, l => if l = [] then true else if (codeL l).2 = 0 ∨ goodB (codeL l).1 = false then false else goodTextL f (l.drop (codeL l).2)
def gt (l : List UInt8) : Bool := goodTextL l.length l
theorem goodTextL_fuel : ∀ (f g : Nat) (l : List UInt8), l.length ≤ f → l.length ≤ g → goodTextL f l = goodTextL g l
  | 0, 0, _, _, _ => rfl
  | 0, g + 1, l, hf, _ => by
    have : l = [] := List.eq_nil_of_length_eq_zero (by omega)
    simp [goodTextL, this]
  | f + 1, 0, l, _, hg => by
    have : l = [] := List.eq_nil_of_length_eq_zero (by omega)
    simp [goodTextL, this]
  | f + 1, g + 1, l, hf, hg => by
    by_cases h0 : l = []
    · simp [goodTextL, h0]
    · by_cases h1 : (codeL l).2 = 0 ∨ goodB (codeL l).1 = false
      · simp only [goodTextL, h0, if_false, h1, if_true]
      · have hw := codeL_le l h0
        have ih := goodTextL_fuel f g (l.drop (codeL l).2) (by simp; omega) (by simp; omega)
        simp only [goodTextL, h0, if_false, h1, ih]
theorem gt_bad (l : List UInt8) (h0 : l ≠ []) (h : (codeL l).2 = 0 ∨ goodB (codeL l).1 = false) : gt l = false := by
  unfold gt
  cases l with
  | nil => exact absurd rfl h0
  | cons a r => simp only [List.length_cons, goodTextL, h, if_true]; simp
theorem gt_step (l : List UInt8) (h0 : l ≠ []) (h1 : (codeL l).2 ≠ 0) (h2 : goodB (codeL l).1 = true) : gt l = gt (l.drop (codeL l).2) := by
  have hw := codeL_le l h0
  have e : goodTextL (l.length - 1) (l.drop (codeL l).2) = gt (l.drop (codeL l).2) := goodTextL_fuel _ _ _ (by simp; omega) (Nat.le_refl _)
  have e1 : l.length = (l.length - 1) + 1 := by omega
  have h3 : ¬ ((codeL l).2 = 0 ∨ goodB (codeL l).1 = false) := by rw [h2]; simp [h1]
  conv => lhs; unfold gt; rw [e1]
  simp only [goodTextL, h0, if_false, h3, e]

end Go.Proofs.YtcncbhbdpcpkeaaGreatDoor

/-
  Package written: Text, EndTag, and a value as a start tag has it: their walks.
-/
namespace Go.Proofs.YtcncbhbdpcpkeaaGreatDoor
open Go.RowKit Go.Lib Own

theorem rep_len {x : UInt8} {new : List UInt8} (hn : ([x] == new) = false) (h1 : 1 ≤ new.length) (s : List UInt8) : s.length ≤ (replaceAll s [x] new).length := by
  rw [rep_one hn]
  induction s with
  | nil => simp
  | cons c r ih =>
    rw [List.flatMap_cons, List.length_append, List.length_cons]
    split
    · omega
    · rw [List.length_singleton]; omega
theorem three_len (s : List UInt8) : (replaceAll (replaceAll (replaceAll s [38] ampE) [60] ltE) [62] gtE).length ≤ 5 * s.length := by
  rw [three]
  induction s with
  | nil => simp
  | cons c r ih =>
    rw [List.flatMap_cons, List.length_append, List.length_cons]
    have : (esc1 false c).length ≤ 5 := by
      unfold esc1
      repeat' split
      all_goals try simp [ampE, ltE, gtE]
      rename_i h
      exact absurd h.1 (by decide)
    omega
theorem esc_len (q : Bool) : ∀ (n : Nat) (s : List UInt8), s.length ≤ n → (escL q s).length ≤ 6 * s.length
  | _, [], _ => by rw [escL]; simp
  | 0, c :: r, h => by simp at h
  | n + 1, c :: r, h => by
    simp only [List.length_cons] at h
    rw [escL]
    split
    · have := esc_len q n (r.drop 1) (by simp; omega)
      rw [List.length_append, List.length_cons]
      simp [nbspE] at this ⊢
      omega
    · have := esc_len q n r (by omega)
      have h2 : (esc1 q c).length ≤ 6 := by
        unfold esc1
        repeat' split
        all_goals simp [ampE, ltE, gtE, quotE]
      rw [List.length_append, List.length_cons]
      omega
theorem count_le (s old : ByteArray) (h1 : 1 ≤ old.size) : countB s old ≤ s.size := Nat.le_trans (Nat.le_mul_of_pos_right _ h1) (countB_mul_le old h1 s.size s (Nat.le_refl _))
/-- one replacing of a text that is not too long -/
theorem repl_any (s : ByteArray) (old new : List UInt8) (m : Int) (w : World) (hs : s.size ≤ 1000000000) (hm : w.cell? ⟨4, 0, none⟩ = some (.int .i64 m)) (h1 : 1 ≤ old.length) (h2 : new.length ≤ 6) :
    Calls Tryz.prog 186 #[.string s, .string (bs old), .string (bs new)] w fun e w' => e = .returned (.string (bs (replaceAll s.data.toList old new))) ∧ Below w.heap.size w w' := by
  have hc := count_le s (bs old) (by rw [bs_size]; exact h1)
  have h3 : countB s (bs old) * (bs new).size ≤ s.size * 6 := Nat.mul_le_mul hc (by rw [bs_size]; exact h2)
  exact Tryz.strings_ReplaceAll s (bs old) (bs new) m w (by omega) hm (by rw [bs_size]; exact h1) (by omega)

set_option maxHeartbeats 1000000 in
theorem wrText_any (s : ByteArray) (m : Int) (w : World) (hs : s.size ≤ 100000000) (hm : w.cell? ⟨4, 0, none⟩ = some (.int .i64 m)) :
    Calls Tryz.prog 187 #[.string s] w fun e w' => e = .returned (.string (bs (escL false s.data.toList))) ∧ Below w.heap.size w w' := by
  have hz := size_eq s
  have l1 := rep_len (x := 60) (new := ltE) (by decide) (by decide) (replaceAll s.data.toList [38] ampE)
  have l2 := rep_len (x := 62) (new := gtE) (by decide) (by decide) (replaceAll (replaceAll s.data.toList [38] ampE) [60] ltE)
  have l3 := three_len s.data.toList
  have ht := textE_eq _ s.data.toList (Nat.le_refl _)
  unfold textE at ht
  obtain ⟨r1, hr1⟩ : ∃ r1, replaceAll s.data.toList [38] ampE = r1 := ⟨_, rfl⟩
  have c1 := repl_any s [38] ampE m w (by omega) hm (by decide) (by decide)
  rw [hr1] at l1 l2 l3 ht c1
  obtain ⟨r2, hr2⟩ : ∃ r2, replaceAll r1 [60] ltE = r2 := ⟨_, rfl⟩
  have c2 := fun W hW => repl_any (bs r1) [60] ltE m W (by rw [bs_size]; omega) hW (by decide) (by decide)
  rw [bs_data] at c2
  rw [hr2] at l1 l2 l3 ht c2
  obtain ⟨r3, hr3⟩ : ∃ r3, replaceAll r2 [62] gtE = r3 := ⟨_, rfl⟩
  have c3 := fun W hW => repl_any (bs r2) [62] gtE m W (by rw [bs_size]; omega) hW (by decide) (by decide)
  rw [bs_data] at c3
  rw [hr3] at l2 l3 ht c3
  have c4 := fun W hW => repl_any (bs r3) [194, 160] nbspE m W (by rw [bs_size]; omega) hW (by decide) (by decide)
  rw [bs_data, ht] at c4
  have C1 := hid c1
  have C2 := hid c2
  have C3 := hid c3
  have C4 := hid c4
  have HM := hid hm
  clear c1 c2 c3 c4 l1 l2 l3 ht hr1 hr2 hr3 hz hm
  obtain ⟨R, hR⟩ : ∃ R, bs (escL false s.data.toList) = R := ⟨_, rfl⟩
  obtain ⟨R1, hR1⟩ : ∃ R, bs r1 = R := ⟨_, rfl⟩
  obtain ⟨R2, hR2⟩ : ∃ R, bs r2 = R := ⟨_, rfl⟩
  obtain ⟨R3, hR3⟩ : ∃ R, bs r3 = R := ⟨_, rfl⟩
  rw [hR] at C4 ⊢
  rw [hR1] at C1 C2
  rw [hR2] at C2 C3
  rw [hR3] at C3 C4
  clear hR hR1 hR2 hR3
  unfold bs ampE ltE gtE nbspE at *
  go_enter Tryz.func187, Tryz.ntmps187
  go_wp2_with fail
  refine C1.out.mono ?_
  rintro e w1 ⟨rfl, b1⟩
  have m1 := cell_low HM.out b1 (cell_block HM.out)
  go_wp2_with fail
  refine (C2.out w1 m1).mono ?_
  rintro e w2 ⟨rfl, b2⟩
  have m2 := cell_low m1 b2 (cell_block m1)
  go_wp2_with fail
  refine (C3.out w2 m2).mono ?_
  rintro e w3 ⟨rfl, b3⟩
  have m3 := cell_low m2 b3 (cell_block m2)
  go_wp2_with fail
  refine (C4.out w3 m3).mono ?_
  rintro e w4 ⟨rfl, b4⟩
  have hb := ((b1.trans (b2.mono b1.size)).trans (b3.mono (b1.trans (b2.mono b1.size)).size)).trans (b4.mono ((b1.trans (b2.mono b1.size)).trans (b3.mono (b1.trans (b2.mono b1.size)).size)).size)
  clear b1 b2 b3 b4 m1 m2 m3
  go_wp2
  go_ret
  exact ⟨rfl, hb⟩

/-- an end tag -/
def etagL (n : List UInt8) : List UInt8 := [60, 47] ++ n ++ [62]
theorem wrEnd_any (n : ByteArray) (w : World) (hs : n.size ≤ 100000000) :
    Calls Tryz.prog 134 #[.string n] w fun e w' => e = .returned (.string (bs (etagL n.data.toList))) ∧ w' = w := by
  have hr : (⟨#[60, 47]⟩ : ByteArray) ++ n ++ ⟨#[62]⟩ = bs (etagL n.data.toList) := by
    rw [show (⟨#[60, 47]⟩ : ByteArray) = bs [60, 47] from rfl, show (⟨#[62]⟩ : ByteArray) = bs [62] from rfl, cat_bs, bs_cat]
    rfl
  rw [← hr]
  go_enter Tryz.func134, Tryz.ntmps134
  go_wp2
  go_ret
  exact ⟨rfl, rfl⟩
end Go.Proofs.YtcncbhbdpcpkeaaGreatDoor

/-
  Package written: a start tag: its walk.
-/
namespace Go.Proofs.YtcncbhbdpcpkeaaGreatDoor
open Go.RowKit Go.Lib Own

def attrL (a : AttrP) : List UInt8 := [32] ++ a.1 ++ [61, 34] ++ escL true a.2 ++ [34]
def openL (n : List UInt8) (al : List AttrP) : List UInt8 := [60] ++ n ++ al.flatMap attrL ++ [62]
theorem attrs_len : ∀ al : List AttrP, (al.flatMap attrL).length ≤ 6 * bulkA al
  | [] => by simp
  | a :: r => by
    have := attrs_len r
    have h2 := esc_len true _ a.2 (Nat.le_refl _)
    rw [List.flatMap_cons, List.length_append, bulkA_cons]
    have h3 : (attrL a).length = 4 + a.1.length + (escL true a.2).length := by
      unfold attrL
      simp only [List.length_append, List.length_cons, List.length_nil]
      omega
    omega
theorem attr_str (a : AttrP) (b : ByteArray) : (⟨#[32]⟩ : ByteArray) ++ b ++ ⟨#[61, 34]⟩ ++ bs (escL true a.2) ++ ⟨#[34]⟩ = bs ([32] ++ b.data.toList ++ [61, 34] ++ escL true a.2 ++ [34]) := by
  rw [show (⟨#[32]⟩ : ByteArray) = bs [32] from rfl, show (⟨#[61, 34]⟩ : ByteArray) = bs [61, 34] from rfl, show (⟨#[34]⟩ : ByteArray) = bs [34] from rfl, cat_bs, bs_cat, bs_cat, bs_cat]
theorem value_eq (s : List UInt8) : replaceAll (escL false s) [34] quotE = escL true s := by
  rw [← valueE_eq]
  unfold valueE
  rw [textE_eq _ s (Nat.le_refl _)]

set_option maxHeartbeats 4000000 in
set_option maxRecDepth 100000 in
theorem startTag_any (n : ByteArray) (u : Value) (al : List AttrP) (m : Int) (w : World) (hn : n.size ≤ 100000000) (h : AttrsR w u al) (hb : bulkA al ≤ 100000000) (hm : w.cell? ⟨4, 0, none⟩ = some (.int .i64 m)) :
    Calls Tryz.prog 133 #[.string n, u] w fun e w' => e = .returned (.string (bs (openL n.data.toList al))) ∧ Below w.heap.size w w' := by
  obtain ⟨p, c, rfl, hl, hcm, hcell, _⟩ := h
  have hnz := size_eq n
  have hlen := attrs_len al
  have hal := bulkA_len al
  obtain ⟨R, hR⟩ : ∃ R, [60] ++ n.data.toList ++ al.flatMap attrL = R := ⟨_, rfl⟩
  have hRl : R.length ≤ 700000001 := by rw [← hR]; simp only [List.length_append, List.length_cons, List.length_nil]; omega
  have ho : openL n.data.toList al = R ++ [62] := by unfold openL; rw [hR]
  rw [ho]
  have HR := hid (fun (_ : True) => hR)
  have HC := hid hcell
  have HM := hid hm
  have HB := hid hb
  have hstr : (⟨#[60]⟩ : ByteArray) ++ n = bs ([60] ++ n.data.toList) := cat_bs [60] n
  have HS := hid (fun (_ : True) => hstr)
  have HRL := hid hRl
  clear hcell hR ho hm hb hlen hstr hnz hal hRl
  go_enter Tryz.func133, Tryz.ntmps133
  go_wp2_with fail
  rw [HS.out trivial]
  refine (Tryz.Builder_WriteString_k w.heap.size w.heap.size (Lib.byteCells []) (bs ([60] ++ n.data.toList)) _ (builder_new w _ _) (by rw [bs_size]; simp only [List.length_append, List.length_cons, List.length_nil, Lib.byteCells_length]; rw [← size_eq]; omega) (by simp)).mono ?_
  rintro e W1 ⟨rfl, g1, g2, g3⟩
  have H1 : Hid (Lib.IsBuilderF 67 5 w.heap.size w.heap.size (Lib.byteCells ([60] ++ n.data.toList)) W1 ∧ Below w.heap.size w W1 ∧ w.heap.size < W1.heap.size) :=
    ⟨by rw [← List.nil_append ([60] ++ n.data.toList), Lib.byteCells_append, ← bs_data ([60] ++ n.data.toList), ← strCells_byte]; exact Or.inr g1, Below.trans (b := w.alloc (.cells #[.pointer none, .slice none 0 0] 67)) ((Below.refl _ w).alloc (Nat.le_refl _) _) g2, by have := g2.size; simp at this; omega⟩
  clear g1 g2 g3 HS
  go_wp2_with fail
  go_loopw [14] (fun iv wr => ∃ (k : Nat) (acc : List UInt8), iv = .int .i64 k ∧ k ≤ al.length ∧ Hid (Lib.IsBuilderF 67 5 w.heap.size w.heap.size (Lib.byteCells acc) wr ∧ Below w.heap.size w wr ∧ w.heap.size < wr.heap.size) ∧ Hid (True → acc ++ (al.drop k).flatMap attrL = R)) (fun iv _ => al.length - (RowKit.intOf iv).toNat)
  case atStart => exact ⟨0, [60] ++ n.data.toList, rfl, Nat.zero_le _, H1, HR⟩
  case round =>
    obtain ⟨k, acc, rfl, hk, HX, HK⟩ := hrel
    by_cases hkl : k < al.length
    · obtain ⟨a, ha⟩ : ∃ a, al[k]? = some a := ⟨_, List.getElem?_eq_getElem hkl⟩
      obtain ⟨b, o, rfl, hc1, hc2⟩ := HC.out k a ha
      replace hc1 := cell_low hc1 HX.out.2.1 (cell_block hc1)
      replace hc2 := cell_low hc2 HX.out.2.1 (cell_block hc2)
      have hab := bulkA_get ha
      have hd := HK.out trivial
      rw [drop_at ha, List.flatMap_cons] at hd
      have hdl := congrArg List.length hd
      have hRl := HRL.out
      have hBl := HB.out
      simp only [List.length_append] at hdl
      have hp : (attrL a).length = 4 + a.1.length + (escL true a.2).length := by
        unfold attrL
        simp only [List.length_append, List.length_cons, List.length_nil]
        omega
      have hal : acc.length + (attrL a).length ≤ 700000001 := by omega
      have ct := fun W hW => wrText_any (bs a.2) m W (by rw [bs_size]; omega) hW
      have cq := fun W hW => repl_any (bs (escL false a.2)) [34] quotE m W (by rw [bs_size]; have := esc_len false _ a.2 (Nat.le_refl _); omega) hW (by decide) (by decide)
      rw [bs_data] at ct cq
      rw [value_eq] at cq
      obtain ⟨E1, hE1⟩ : ∃ E1, bs (escL false a.2) = E1 := ⟨_, rfl⟩
      obtain ⟨E2, hE2⟩ : ∃ E2, bs (escL true a.2) = E2 := ⟨_, rfl⟩
      obtain ⟨S1, hS1⟩ : ∃ S, bs a.1 = S := ⟨_, rfl⟩
      obtain ⟨S2, hS2⟩ : ∃ S, bs a.2 = S := ⟨_, rfl⟩
      have hst := attr_str a S1
      rw [hE1] at ct cq
      rw [hE2] at cq hst
      rw [hS2] at ct hc2
      rw [hS1] at hc1
      have hs1 : S1.data.toList = a.1 := by rw [← hS1]; rfl
      rw [hs1] at hst
      have hz1 : S1.size ≤ 100000000 := by rw [size_eq, hs1]; omega
      have hz2 : E2.size ≤ 1000000000 := by rw [← hE2, bs_size]; omega
      have HST := hid (fun (_ : True) => hst)
      have CT := hid ct
      have CQ := hid cq
      unfold bs quotE at CQ
      have HAL := hid hal
      have HD := hid (fun (_ : True) => hd)
      have HM1 := hid (cell_low HM.out HX.out.2.1 (cell_block HM.out))
      clear ct cq hst hE1 hE2 hS1 hS2 hs1 hd hdl hRl hBl hp hal hab ha HK HC
      have hB1 := (Below.refl wr.heap.size wr).alloc (Nat.le_refl _) (.cells #[.string S1, .string S2] 122)
      have HB1 := hid (And.intro hB1 (heap_alloc_new wr (.cells #[.string S1, .string S2] 122)))
      clear hB1
      go_wp2_with fail
      refine (CT.out _ (cell_low HM1.out HB1.out.1 (cell_block HM1.out))).mono ?_
      rintro e W2 ⟨rfl, b2⟩
      have hat2 := (b2.block _ (block_lt HB1.out.2)).trans HB1.out.2
      have m2 := cell_low (cell_low HM1.out HB1.out.1 (cell_block HM1.out)) b2 (by have := cell_block HM1.out; simp; omega)
      have hbw2 := HB1.out.1.trans (b2.mono HB1.out.1.size)
      clear b2
      go_wp2_with fail
      refine (CQ.out _ m2).mono ?_
      rintro e W3 ⟨rfl, b3⟩
      have hat3 := (b3.block _ (block_lt hat2)).trans hat2
      have c3 := cell_at hat3 (j := 0) rfl
      have hbw3 := hbw2.trans (b3.mono hbw2.size)
      have I3 := hid (And.intro (builder_below HX.out.1 hbw3) (And.intro (HX.out.2.1.trans (hbw3.mono HX.out.2.1.size)) (Nat.lt_of_lt_of_le HX.out.2.2 hbw3.size)))
      clear b3 hat2 m2 hbw2 hat3 hbw3 HX HB1
      go_wp2_with fail
      rw [HST.out trivial]
      refine (Tryz.Builder_WriteString_k w.heap.size w.heap.size (Lib.byteCells acc) (bs (attrL a)) _ I3.out.1 (by rw [Lib.byteCells_length, bs_size]; have := HAL.out; omega) (by have := I3.out.2.2; omega)).mono ?_
      rintro e W4 ⟨rfl, g1, g2, g3⟩
      have HZ : Hid (Lib.IsBuilderF 67 5 w.heap.size w.heap.size (Lib.byteCells (acc ++ attrL a)) W4 ∧ Below w.heap.size w W4 ∧ w.heap.size < W4.heap.size) :=
        ⟨by rw [Lib.byteCells_append, ← bs_data (attrL a), ← strCells_byte]; exact Or.inr g1, I3.out.2.1.trans g2, by have := g2.size; have := I3.out.2.2; omega⟩
      have HE := hid (fun (_ : True) => (by have := HD.out trivial; rwa [← List.append_assoc] at this : (acc ++ attrL a) ++ (al.drop (k + 1)).flatMap attrL = R))
      clear g1 g2 g3 I3 HST HD HAL c3 CT CQ
      go_wp2_with fail
      go_roundw
      case rel => first | exact ⟨k + 1, _, rfl, by omega, HZ, HE⟩ | ((repeat apply Exists.intro); exact ⟨⟨k + 1, _, rfl, by omega, HZ, HE⟩, rfl⟩)
      case measure => simp [RowKit.intOf]; omega
    · obtain rfl : acc = R := by
        have := HK.out trivial
        rwa [List.drop_of_length_le (by omega), List.flatMap_nil, List.append_nil] at this
      have HRL2 := HRL
      clear HK HC H1
      go_wp2_with fail
      refine (Tryz.Builder_WriteString_k w.heap.size w.heap.size (Lib.byteCells acc) (bs [62]) _ HX.out.1 (by rw [Lib.byteCells_length, bs_size]; have := HRL.out; simp; omega) (by have := HX.out.2.2; omega)).mono ?_
      rintro e W4 ⟨rfl, g1, g2, g3⟩
      have HZ : Hid (Lib.IsBuilderF 67 5 w.heap.size w.heap.size (Lib.byteCells (acc ++ [62])) W4 ∧ Below w.heap.size w W4 ∧ w.heap.size < W4.heap.size) :=
        ⟨by rw [Lib.byteCells_append, ← bs_data [62], ← strCells_byte]; exact Or.inr g1, HX.out.2.1.trans g2, by have := g2.size; have := HX.out.2.2; omega⟩
      clear g1 g2 g3 HX
      go_wp2_with fail
      refine (Tryz.Builder_String_any_k w.heap.size w.heap.size (acc ++ [62]) _ HZ.out.1 (by have := HZ.out.2.2; omega)).mono ?_
      rintro e W5 ⟨rfl, _, g2, _⟩
      have HY := hid (HZ.out.2.1.trans g2)
      clear g2 HZ
      go_wp2_with fail
      go_ret
      exact ⟨rfl, HY.out⟩
end Go.Proofs.YtcncbhbdpcpkeaaGreatDoor

/-
  String of a strings.Builder that lies inside another block, an empty one too: its walk.
-/
namespace Go.Proofs.YtcncbhbdpcpkeaaGreatDoor
open Go.RowKit Go.Lib Own

theorem us_none (p : Option Addr) (W : World) : (Builtin.unsafeString_ #[129, 3] 9 #[.pointer p, .int .i64 0]).run Tryz.prog W = .ok (.string ⟨#[]⟩) W := Lib.run_unsafeString_none W _ _ _ p
set_option maxHeartbeats 2000000 in
set_option maxRecDepth 100000 in
theorem string_nil_in (b o : Nat) (cs : Array Value) (T : TypeId) (n : Nat) (hn : n = 0) (w : World) (hat : w.heap[b]? = some (.cells cs T (0, 0))) (hcv : cs[o + 1]? = some (.slice none n 0)) :
    Calls Tryz.prog 33 #[.pointer (some ⟨b, o, none⟩)] w fun e w' => e = .returned (.string ⟨#[]⟩) ∧ w' = w.drew := by
  subst hn
  have hUS := us_none
  have c1 : w.drew.cell? ⟨b, o + 1, none⟩ = some (.slice none 0 0) := cell_at hat hcv
  have hSD : (Builtin.unsafeSliceData_ #[65] 129 #[.slice none 0 0]).run Tryz.prog w.drew = .ok (.pointer none) w.drew := rfl
  go_enter Tryz.func33, Tryz.ntmps33
  go_wp2
  go_region
  all_goals (go_wp2; go_ret; exact ⟨rfl, rfl⟩)
set_option maxHeartbeats 2000000 in
set_option maxRecDepth 100000 in
theorem string_room_in (b o : Nat) (cs : Array Value) (T : TypeId) (g cap : Nat) (hc0 : cap ≠ 0) (w : World) (hat : w.heap[b]? = some (.cells cs T (0, 0))) (hcv : cs[o + 1]? = some (.slice (some ⟨g, 0, none⟩) 0 cap)) :
    Calls Tryz.prog 33 #[.pointer (some ⟨b, o, none⟩)] w fun e w' => e = .returned (.string ⟨#[]⟩) ∧ w' = w.drew := by
  have hUS := us_none
  have c1 : w.drew.cell? ⟨b, o + 1, none⟩ = some (.slice (some ⟨g, 0, none⟩) 0 cap) := cell_at hat hcv
  have hSD : (Builtin.unsafeSliceData_ #[65] 129 #[.slice (some ⟨g, 0, none⟩) 0 cap]).run Tryz.prog w.drew = .ok (.pointer (some ⟨g, 0, none⟩)) w.drew := Lib.run_unsafeSliceData_row _ _ _ _ _ _ hc0
  clear hc0
  go_enter Tryz.func33, Tryz.ntmps33
  go_wp2
  go_region
  all_goals (go_wp2; go_ret; exact ⟨rfl, rfl⟩)
set_option maxHeartbeats 2000000 in
set_option maxRecDepth 100000 in
theorem string_noroom_in (b o : Nat) (cs : Array Value) (T : TypeId) (g : Nat) (cur : Array Value) (fz : Nat × Nat) (w : World) (hat : w.heap[b]? = some (.cells cs T (0, 0))) (hcv : cs[o + 1]? = some (.slice (some ⟨g, 0, none⟩) 0 0)) (hg : w.heap[g]? = some (.cells cur 5 fz)) :
    Calls Tryz.prog 33 #[.pointer (some ⟨b, o, none⟩)] w fun e w' => e = .returned (.string ⟨#[]⟩) ∧ Below w.heap.size w w' := by
  have hUS := us_none
  have hlt := block_lt hat
  have c1 : w.drew.cell? ⟨b, o + 1, none⟩ = some (.slice (some ⟨g, 0, none⟩) 0 0) := cell_at hat hcv
  have hSD : (Builtin.unsafeSliceData_ #[65] 129 #[.slice (some ⟨g, 0, none⟩) 0 0]).run Tryz.prog w.drew = .ok (.pointer (some ⟨w.drew.heap.size, 0, none⟩)) (w.drew.alloc (.view ⟨g, 0, none⟩ 5)) :=
    Lib.run_unsafeSliceData_zero w.drew _ _ 5 Tryz.underlying129 ⟨g, 0, none⟩ 0 (5, cur.size) (by have hg' : w.drew.heap[g]? = some (.cells cur 5 fz) := hg; simp [World.shape?, hg'])
  have c2 : (w.drew.alloc (.view ⟨g, 0, none⟩ 5)).cell? ⟨b, o + 1, none⟩ = some (.slice (some ⟨g, 0, none⟩) 0 0) := by
    have : (w.drew.alloc (.view ⟨g, 0, none⟩ 5)).heap[b]? = _ := (Lib.alloc_old w.drew _ b hlt).trans hat
    exact cell_at this hcv
  have c3 : (w.alloc (.view ⟨g, 0, none⟩ 5)).drew.cell? ⟨b, o + 1, none⟩ = some (.slice (some ⟨g, 0, none⟩) 0 0) := c2
  have c0 : w.cell? ⟨b, o + 1, none⟩ = some (.slice (some ⟨g, 0, none⟩) 0 0) := c1
  go_enter Tryz.func33, Tryz.ntmps33
  go_wp2
  go_region
  all_goals (go_wp2; go_ret; exact ⟨rfl, (Below.drew (Below.refl _ w)).alloc (Nat.le_refl _) _⟩)
theorem string_any_in (base b o : Nat) (cs : Array Value) (T : TypeId) (p v : Value) (l : List UInt8) (w : World) (h : InB w base b o cs T p v l) :
    Calls Tryz.prog 33 #[.pointer (some ⟨b, o, none⟩)] w fun e w' => e = .returned (.string (bs l)) ∧ w'.heap[b]? = some (.cells cs T (0, 0)) ∧ Below base w w' ∧
      ∀ k, k < w.heap.size → k ≠ b → v.ownBlock ≠ some k → w'.heap[k]? = w.heap[k]? := by
  have hlt := block_lt h.at_
  have hbase : base ≤ w.heap.size := by have := h.lo; omega
  cases l with
  | cons x r => exact (string_in base b o cs T p v (x :: r) w h (by simp)).mono (fun e w' ⟨h1, h2, h3, h4⟩ => ⟨h1, h2, h3, fun k _ h5 h6 => h4 k h5 h6⟩)
  | nil =>
    have fin : ∀ e w', (e = Ending.returned (.string ⟨#[]⟩) ∧ Below w.heap.size w w') → (e = .returned (.string (bs [])) ∧ w'.heap[b]? = some (.cells cs T (0, 0)) ∧ Below base w w' ∧ ∀ k, k < w.heap.size → k ≠ b → v.ownBlock ≠ some k → w'.heap[k]? = w.heap[k]?) := by
      rintro e w' ⟨rfl, hb⟩
      exact ⟨rfl, (hb.block b hlt).trans h.at_, hb.mono hbase, fun k hk _ _ => hb.block k hk⟩
    have hcv := h.cv
    rcases h.own.2 with ⟨hv, h0⟩ | ⟨g, cap, cur, fz, hv, _, hg, _⟩
    · rw [hv] at hcv
      exact (string_nil_in b o cs T 0 rfl w h.at_ hcv).mono (fun e w' ⟨h1, h2⟩ => fin e w' ⟨h1, by rw [h2]; exact (Below.refl _ w).drew⟩)
    · rw [hv] at hcv
      by_cases hc0 : cap = 0
      · subst hc0
        exact (string_noroom_in b o cs T g cur fz w h.at_ hcv hg).mono (fun e w' h1 => fin e w' h1)
      · exact (string_room_in b o cs T g cap hc0 w h.at_ hcv).mono (fun e w' ⟨h1, h2⟩ => fin e w' ⟨h1, by rw [h2]; exact (Below.refl _ w).drew⟩)
end Go.Proofs.YtcncbhbdpcpkeaaGreatDoor

/-
  scrubref's attributeAt: its walk.
-/
namespace Go.Proofs.YtcncbhbdpcpkeaaGreatDoor
open Go.RowKit Go.Lib Own

/-- until, from a place that is known -/
theorem until_at (s : ByteArray) (i : Nat) (set : List UInt8) (hi : i ≤ s.size) (hs : s.size ≤ 4000000) (ht : set.length ≤ 100) (z : Int) (hz : z = (i : Int)) (L : List UInt8) (hd : s.data.toList.drop i = L) (j : Nat) (hj : i + (L.takeWhile fun c => !set.contains c).length = j) (w : World) :
    Calls Tryz.prog 111 #[.string s, .int .i64 z, .string ⟨set.toArray⟩] w fun e w' => e = .returned (.int .i64 (j : Int)) ∧ w' = w := by
  subst hz
  have h := until_any s i ⟨set.toArray⟩ w hi (by omega) (by show set.toArray.size ≤ _; simp; omega)
  rw [show (ByteArray.mk set.toArray).data.toList = set from rfl, hd, hj] at h
  exact h
theorem past_at (s : ByteArray) (i : Nat) (set : List UInt8) (hi : i ≤ s.size) (hs : s.size ≤ 4000000) (ht : set.length ≤ 100) (z : Int) (hz : z = (i : Int)) (L : List UInt8) (hd : s.data.toList.drop i = L) (j : Nat) (hj : i + (L.takeWhile set.contains).length = j) (w : World) :
    Calls Tryz.prog 175 #[.string s, .int .i64 z, .string ⟨set.toArray⟩] w fun e w' => e = .returned (.int .i64 (j : Int)) ∧ w' = w := by
  subst hz
  have h := past_any s i ⟨set.toArray⟩ w hi (by omega) (by show set.toArray.size ≤ _; simp; omega)
  rw [show (ByteArray.mk set.toArray).data.toList = set from rfl, hd, hj] at h
  exact h
end Go.Proofs.YtcncbhbdpcpkeaaGreatDoor
