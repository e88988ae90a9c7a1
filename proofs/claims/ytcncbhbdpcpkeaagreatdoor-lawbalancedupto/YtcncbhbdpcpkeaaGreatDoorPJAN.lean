/-
  Parts of the walk, joined: SlW.
-/
import Derived.Test.YtcncbhbdpcpkeaaGreatDoorShelf
import Derived.Shelf.Abstract
import Derived.Test.YtcncbhbdpcpkeaaGreatDoorPJAA
/-
  slices.Index, Contains, IndexFunc, ContainsFunc, of words and of rules: their walks.
-/
namespace Go.Proofs.YtcncbhbdpcpkeaaGreatDoor
open Go.RowKit Go.Lib

/-- where the first entry lies of which p holds; -1: nowhere -/
def idxP {α : Type} (p : α → Bool) : List α → Int
  | [] => -1
  | x :: r => if p x = true then 0 else if idxP p r < 0 then -1 else idxP p r + 1
theorem idxP_cons {α : Type} (p : α → Bool) (x : α) (r : List α) : idxP p (x :: r) = if p x = true then 0 else if idxP p r < 0 then -1 else idxP p r + 1 := rfl
theorem idxP_ge {α : Type} (p : α → Bool) : ∀ l : List α, -1 ≤ idxP p l
  | [] => by unfold idxP; omega
  | x :: r => by have := idxP_ge p r; rw [idxP_cons]; split; omega; split <;> omega
theorem idxP_nonneg {α : Type} (p : α → Bool) : ∀ l : List α, decide (0 ≤ idxP p l) = l.any p
  | [] => rfl
  | x :: r => by
    have ih := idxP_nonneg p r
    rw [List.any_cons, ← ih, idxP_cons]
    cases h : p x with
    | true => simp
    | false =>
      simp only [Bool.false_eq_true, if_false, Bool.false_or]
      split
      · rw [decide_eq_false (by omega), decide_eq_false (by omega)]
      · have := idxP_ge p r
        rw [decide_eq_true (by omega), decide_eq_true (by omega)]
theorem idxP_hit {α : Type} (p : α → Bool) : ∀ (l : List α) (k : Nat) (x : α), l[k]? = some x → p x = true → (∀ (j : Nat) (y : α), j < k → l[j]? = some y → p y = false) → idxP p l = (k : Int)
  | [], k, x, h, _, _ => by simp at h
  | y :: r, 0, x, h, hp, _ => by
    simp only [List.getElem?_cons_zero, Option.some.injEq] at h
    subst h
    rw [idxP_cons, if_pos hp]
    rfl
  | y :: r, k + 1, x, h, hp, ha => by
    rw [List.getElem?_cons_succ] at h
    have ih := idxP_hit p r k x h hp (fun j z hj hz => ha (j + 1) z (by omega) (by rw [List.getElem?_cons_succ]; exact hz))
    have hy := ha 0 y (by omega) rfl
    rw [idxP_cons, hy, ih]
    simp only [Bool.false_eq_true, if_false]
    rw [if_neg (by omega)]
    omega
theorem idxP_miss {α : Type} (p : α → Bool) : ∀ l : List α, (∀ (j : Nat) (y : α), l[j]? = some y → p y = false) → idxP p l = -1
  | [], _ => rfl
  | y :: r, ha => by
    have ih := idxP_miss p r (fun j z hz => ha (j + 1) z (by rw [List.getElem?_cons_succ]; exact hz))
    have hy := ha 0 y rfl
    rw [idxP_cons, hy, ih]
    simp
theorem ret_intS {a b : Int} (h : a = b) : Ending.returned (.int .i64 a) = .returned (.int .i64 b) := by rw [h]

set_option maxHeartbeats 1000000 in
theorem slIndex_any (v : Value) (ss : List (List UInt8)) (x : ByteArray) (w : World) (h : Words w v ss) :
    Calls Tryz.prog 214 #[v, .string x] w fun e w' => e = .returned (.int .i64 (idxP (fun s => s == x.toList) ss)) ∧ w' = w := by
  obtain ⟨p, c, rfl, hc, hm, hcell, _⟩ := h
  obtain ⟨R, hR⟩ : ∃ R, idxP (fun s => s == x.toList) ss = R := ⟨_, rfl⟩
  have HR := hid (fun (_ : True) => hR)
  have H := hid hcell
  rw [hR]
  have hml : ss.length ≤ 9223372036854775807 := by omega
  clear hcell hR
  go_enter Tryz.func214, Tryz.ntmps214
  go_wp2
  go_loopw [5, 8] (fun _ iv wr => ∃ k : Nat, iv = .int .i64 k ∧ k ≤ ss.length ∧ wr = w ∧ Hid (∀ j y, j < k → ss[j]? = some y → (y == x.toList) = false)) (fun _ iv _ => ss.length - (RowKit.intOf iv).toNat)
  case atStart => exact ⟨0, rfl, Nat.zero_le _, rfl, hid (fun j y h => absurd h (Nat.not_lt_zero _))⟩
  case round =>
    obtain ⟨k, rfl, hk, rfl, HK⟩ := hrel
    by_cases hkl : k < ss.length
    · obtain ⟨s, hs⟩ : ∃ s, ss[k]? = some s := ⟨_, List.getElem?_eq_getElem hkl⟩
      obtain ⟨b, o, rfl, hc1⟩ := H.out k s hs
      have hbt := bs_toList s
      have HS := hid hs
      obtain ⟨S, hS⟩ : ∃ S, bs s = S := ⟨_, rfl⟩
      rw [hS] at hbt hc1
      cases q : (s == x.toList)
      · have q2 : (x.toList == S.toList) = false := by rw [hbt]; rw [← q, Bool.eq_iff_iff, beq_iff_eq, beq_iff_eq]; exact eq_comm
        have HQ := hid (fun (_ : True) => q)
        clear hs hbt q H HR
        go_wp2
        go_roundw
        case rel =>
          refine ⟨k + 1, by first | rfl | omega, by omega, by first | rfl | trivial, hid (fun j y hj hy => ?_)⟩
          by_cases e : j = k
          · subst e
            obtain rfl := Option.some.inj (HS.out.symm.trans hy)
            exact HQ.out trivial
          · exact HK.out j y (by omega) hy
        case measure => simp [RowKit.intOf]; omega
      · have q2 : (x.toList == S.toList) = true := by rw [hbt]; rw [beq_iff_eq] at q ⊢; exact q.symm
        have hr := idxP_hit (fun s => s == x.toList) ss k s hs q (fun j y hj hy => HK.out j y hj hy)
        rw [HR.out trivial] at hr
        clear hs hbt q H HR HK
        go_wp2
        go_ret
        exact ⟨ret_intS hr.symm, rfl⟩
    · have hr := idxP_miss (fun s => s == x.toList) ss (fun j y hy => HK.out j y (by have := (List.getElem?_eq_some_iff.1 hy).1; omega) hy)
      rw [HR.out trivial] at hr
      clear HR HK
      go_wp2
      go_ret
      exact ⟨ret_intS hr.symm, rfl⟩
theorem contains_any (ss : List (List UInt8)) (x : List UInt8) : ss.any (fun s => s == x) = ss.contains x := by
  rw [Bool.eq_iff_iff, List.any_eq_true, List.contains_iff_mem]
  constructor
  · rintro ⟨s, h1, h2⟩; rw [beq_iff_eq] at h2; rw [← h2]; exact h1
  · intro h; exact ⟨x, h, by simp⟩
theorem slContains_any (v : Value) (ss : List (List UInt8)) (x : ByteArray) (w : World) (h : Words w v ss) :
    Calls Tryz.prog 162 #[v, .string x] w fun e w' => e = .returned (.bool (ss.contains x.toList)) ∧ w' = w := by
  have hi := fun W (hW : Words W v ss) => slIndex_any v ss x W hW
  have hr := idxP_nonneg (fun s => s == x.toList) ss
  rw [contains_any] at hr
  generalize idxP (fun s => s == x.toList) ss = z at hi hr
  rw [← hr]
  obtain ⟨p, c, rfl, _⟩ := h.len
  have HI := hid (hi w h)
  clear hi hr h
  go_enter Tryz.func162, Tryz.ntmps162
  go_wp2_with (go_at_call 214; refine HI.out.mono ?_; rintro e w' ⟨rfl, rfl⟩)
  go_ret
  exact ⟨rfl, rfl⟩

/-! ## of rules -/

end Go.Proofs.YtcncbhbdpcpkeaaGreatDoor
