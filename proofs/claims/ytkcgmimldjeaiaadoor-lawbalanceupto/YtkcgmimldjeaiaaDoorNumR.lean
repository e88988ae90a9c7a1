/-
  scrubref.number: its walk.
-/
import Derived.Test.YtkcgmimldjeaiaaDoorRemap
namespace Go.Proofs.YtkcgmimldjeaiaaDoor
open Go.RowKit Go.Lib

theorem u8_all {p : UInt8 → Bool} (h : ∀ n : Fin 256, p (UInt8.ofNat n.val) = true) (c : UInt8) : p c = true := by
  have := h ⟨c.toNat, c.toNat_lt⟩
  simpa using this
theorem set_D : (⟨#[48, 49, 50, 51, 52, 53, 54, 55, 56, 57]⟩ : ByteArray).data.toList.contains = digD := by
  funext c
  have := u8_all (p := fun c => (⟨#[48, 49, 50, 51, 52, 53, 54, 55, 56, 57]⟩ : ByteArray).data.toList.contains c == digD c) (by decide +kernel) c
  exact beq_iff_eq.1 this
theorem set_X : (⟨#[48, 49, 50, 51, 52, 53, 54, 55, 56, 57, 97, 98, 99, 100, 101, 102, 65, 66, 67, 68, 69, 70]⟩ : ByteArray).data.toList.contains = digX := by
  funext c
  have := u8_all (p := fun c => (⟨#[48, 49, 50, 51, 52, 53, 54, 55, 56, 57, 97, 98, 99, 100, 101, 102, 65, 66, 67, 68, 69, 70]⟩ : ByteArray).data.toList.contains c == digX c) (by decide +kernel) c
  exact beq_iff_eq.1 this
structure DigEndS (N : List UInt8) (F B : Nat) (dig : UInt8 → Bool) (r : Nat × Int) : Prop where
  none : (N.drop F).takeWhile dig = [] → r = (0, 0)
  shut : ∀ E V : Nat, (N.drop F).takeWhile dig ≠ [] → F + ((N.drop F).takeWhile dig).length = E → valS B 0 ((N.drop F).takeWhile dig) = V → N[E]? = some 59 → r = (E + 1, numbR V)
  still : ∀ E V : Nat, (N.drop F).takeWhile dig ≠ [] → F + ((N.drop F).takeWhile dig).length = E → valS B 0 ((N.drop F).takeWhile dig) = V → N[E]? ≠ some 59 → r = (E, numbR V)
theorem digEndS (N : List UInt8) : DigEndS N (fromN N) (baseN N) (digN N) (numL N) := by
  have h : numL N = if digsN N = [] then (0, 0) else (fromN N + (digsN N).length + (if N[fromN N + (digsN N).length]? = some 59 then 1 else 0), numbR ((valS (baseN N) 0 (digsN N) : Nat) : Int)) := by
    rw [numb_eq]; rfl
  unfold digsN at h
  refine ⟨fun h0 => by rw [h, if_pos h0], fun E V h0 h1 h2 h3 => ?_, fun E V h0 h1 h2 h3 => ?_⟩
  · rw [h, if_neg h0, h1, h2, if_pos h3]
  · rw [h, if_neg h0, h1, h2, if_neg h3]; rfl
theorem while_head {p : UInt8 → Bool} {N : List UInt8} {e : Nat} (h : (N.drop e).takeWhile p ≠ []) : ∃ c, N[e]? = some c ∧ p c = true := by
  cases hc : N[e]? with
  | none => exact absurd (while_stop (fun c hc2 => by rw [hc] at hc2; cases hc2)) h
  | some c =>
    refine ⟨c, rfl, ?_⟩
    cases hp : p c with
    | true => rfl
    | false => exact absurd (while_stop (fun d hd => by rw [hc] at hd; cases hd; exact hp)) h
theorem digN_cases (N : List UInt8) : (fromN N = 2 ∧ baseN N = 16 ∧ digN N = digX ∧ hexN N = true) ∨ (fromN N = 1 ∧ baseN N = 10 ∧ digN N = digD ∧ hexN N = false) := by
  unfold fromN baseN digN
  cases hexN N <;> simp
theorem remap_nonneg (v : Nat) : 0 ≤ remapL remapT (v : Int) := by
  have h : ∀ (l : List (Int × Int)), (∀ p ∈ l, 0 ≤ p.2) → 0 ≤ remapL l (v : Int) := by
    intro l
    induction l with
    | nil => intro _; simp [remapL]
    | cons p l ih =>
      intro h
      unfold remapL
      split
      · exact h p (.head _)
      · exact ih (fun q hq => h q (.tail _ hq))
  exact h remapT (by decide +kernel)

end Go.Proofs.YtkcgmimldjeaiaaDoor
