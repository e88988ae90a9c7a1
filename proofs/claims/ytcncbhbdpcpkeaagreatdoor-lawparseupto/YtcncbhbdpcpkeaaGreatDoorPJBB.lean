/-
  Parts of the walk, joined: BalA.
-/
import Derived.BigQuiet
import Derived.Test.YtcncbhbdpcpkeaaGreatDoorPJAN
import Derived.Test.YtcncbhbdpcpkeaaGreatDoorPJAX
import Derived.Test.YtcncbhbdpcpkeaaGreatDoorPJAF
/-
  The balancer's small functions: the nesting table, models, implied elements, walls, whitespace taken off: their walks.
-/
namespace Go.Proofs.YtcncbhbdpcpkeaaGreatDoor
open Go.RowKit Go.Lib Own

/-- the cells of open elements -/
def elems (op : List (List UInt8)) : List Value := op.flatMap fun x => [.string (bs x), .int .i64 (clsX x : Nat), .int .i64 (modX x : Nat)]
theorem elems_app (a b : List (List UInt8)) : elems (a ++ b) = elems a ++ elems b := List.flatMap_append
theorem elems_at : ∀ (a : List (List UInt8)) (k : Nat) (x : List UInt8), a[k]? = some x → (elems a)[k * 3]? = some (.string (bs x)) ∧ (elems a)[k * 3 + 1]? = some (.int .i64 (clsX x : Nat)) ∧ (elems a)[k * 3 + 2]? = some (.int .i64 (modX x : Nat))
  | [], k, x, h => by simp at h
  | y :: r, 0, x, h => by
    simp only [List.getElem?_cons_zero, Option.some.injEq] at h
    subst h
    exact ⟨rfl, rfl, rfl⟩
  | y :: r, k + 1, x, h => by
    rw [List.getElem?_cons_succ] at h
    obtain ⟨h1, h2, h3⟩ := elems_at r k x h
    exact ⟨by rw [show (k + 1) * 3 = k * 3 + 1 + 1 + 1 by omega]; exact h1, by rw [show (k + 1) * 3 + 1 = k * 3 + 1 + 1 + 1 + 1 by omega]; exact h2, by rw [show (k + 1) * 3 + 2 = k * 3 + 2 + 1 + 1 + 1 by omega]; exact h3⟩
theorem elems_take : ∀ (a : List (List UInt8)) (k : Nat), (elems a).take (k * 3) = elems (a.take k)
  | [], k => by simp [elems]
  | x :: r, 0 => by simp [elems]
  | x :: r, k + 1 => by
    have := elems_take r k
    show ((_ :: _ :: _ :: elems r : List Value)).take _ = (_ :: _ :: _ :: elems (r.take k) : List Value)
    rw [show (k + 1) * 3 = k * 3 + 1 + 1 + 1 by omega, List.take_succ_cons, List.take_succ_cons, List.take_succ_cons, this]
/-- open elements in a row -/
def OpenR (W : World) (base : Nat) (v : Value) (op : List (List UInt8)) : Prop := W.ownsRow base 172 3 v op.length (elems op)
theorem row_shorter {W : World} {base : Nat} {e : TypeId} {size n k c : Nat} {p : Option Addr} {xs : List Value} (h : W.ownsRow base e size (.slice p n c) n xs) (hk : k ≤ n) : W.ownsRow base e size (.slice p k c) k (xs.take (k * size)) := by
  refine ⟨by rw [List.length_take, h.1]; exact Nat.min_eq_left (Nat.mul_le_mul_right _ hk), ?_⟩
  rcases h.2 with ⟨e1, e2⟩ | ⟨g, cap, cur, e1, e2, e3, e4, e5, e6, e7⟩
  · cases e1
    obtain rfl : k = 0 := by omega
    exact .inl ⟨rfl, rfl⟩
  · cases e1
    refine .inr ⟨g, c, cur, rfl, e2, e3, by omega, e5, e6, ?_⟩
    rw [← e7, List.take_take, Nat.min_eq_left (Nat.mul_le_mul_right _ hk)]
theorem OpenR.front {W : World} {base n k c : Nat} {p : Option Addr} {op : List (List UInt8)} (h : OpenR W base (.slice p n c) op) (hk : k ≤ op.length) (hn : n = op.length) : OpenR W base (.slice p k c) (op.take k) := by
  subst hn
  have h1 := row_shorter h hk
  rw [elems_take] at h1
  unfold OpenR
  rw [List.length_take, Nat.min_eq_left hk]
  exact h1
theorem OpenR.shape {W : World} {base : Nat} {v : Value} {op : List (List UInt8)} (h : OpenR W base v op) : ∃ p c, v = .slice p op.length c := row_shape h
set_option maxHeartbeats 1000000 in
theorem isTab_any (a cv : Value) (m : Nat) (hm : m < 10) (w : World) :
    Calls Tryz.prog 183 #[.agg #[a, cv, .int .i64 m]] w fun e w' => e = .returned (.bool (decide (5 ≤ m ∧ m ≤ 8))) ∧ Below w.heap.size w w' := by
  have hb := (Below.refl w.heap.size w).alloc (Nat.le_refl _) (.cells #[a, cv, .int .i64 m] 172)
  rcases (show m = 0 ∨ m = 1 ∨ m = 2 ∨ m = 3 ∨ m = 4 ∨ m = 5 ∨ m = 6 ∨ m = 7 ∨ m = 8 ∨ m = 9 by omega) with rfl | rfl | rfl | rfl | rfl | rfl | rfl | rfl | rfl | rfl
  all_goals
    have HB := hid hb
    clear hb
    go_enter Tryz.func183, Tryz.ntmps183
    go_wp2
    go_ret
    exact ⟨rfl, HB.out⟩
def strN : Value → Nat
  | .string b => b.size
  | _ => 0
end Go.Proofs.YtcncbhbdpcpkeaaGreatDoor
