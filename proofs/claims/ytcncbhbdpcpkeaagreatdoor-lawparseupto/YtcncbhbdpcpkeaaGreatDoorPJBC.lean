/-
  Parts of the walk, joined: BalB, BalC.
-/
import Derived.Test.YtcncbhbdpcpkeaaGreatDoorPJBB
import Derived.Test.YtcncbhbdpcpkeaaGreatDoorPJAX
import Derived.Test.YtcncbhbdpcpkeaaGreatDoorPJAJ
import Derived.Test.YtcncbhbdpcpkeaaGreatDoorPJAQ
import Derived.Test.YtcncbhbdpcpkeaaGreatDoorPJAK
/-
  The balancer's state; its put and openElement: their walks.
-/
namespace Go.Proofs.YtcncbhbdpcpkeaaGreatDoor
open Go.RowKit Go.Lib Own

theorem rows_ne3 {W : World} {B1 B2 : Nat} {e1 e2 : TypeId} {z1 z2 n1 n2 : Nat} {v1 v2 : Value} {xs1 xs2 : List Value} (h1 : W.ownsRow B1 e1 z1 v1 n1 xs1) (h2 : W.ownsRow B2 e2 z2 v2 n2 xs2) (hne : e1 ≠ e2) : v1.ownBlock = none ∨ v1.ownBlock ≠ v2.ownBlock := by
  rcases ho : v1.ownBlock with _ | g
  · exact .inl rfl
  · exact .inr (fun e => rows_ne2 h1 h2 hne g ho e.symm)
theorem Just.grown {W W' : World} {b : Nat} {cs : Array Value} {T : TypeId} (j : Just W W' b cs T) : W.grownBy W' (some b) :=
  ⟨j.os, j.tape, j.output, by rw [j.size]; exact Nat.le_refl _, fun k _ hk => j.other k (fun e => hk (by rw [e]))⟩
theorem info_elem : (Tryz.prog.info? 172).map (fun i => (i.zero, i.size, i.bytes)) = some (some (.agg #[.string ⟨#[]⟩, .int .i64 0, .int .i64 0]), 3, 32) := by kernel_rfl

end Go.Proofs.YtcncbhbdpcpkeaaGreatDoor

/-
  The balancer's openImplied and closeTo: their walks.
-/
namespace Go.Proofs.YtcncbhbdpcpkeaaGreatDoor
open Go.RowKit Go.Lib Own

section
variable {w0 W W' : World} {ob b : Nat} {d : Int} {op op' : List (List UInt8)} {ov outv ov' outv' : Value} {J J' : List Ev} {xs xs' : List Value}
end
theorem elem_some {x : List UInt8} (h : elemL x ≠ none) : elemL x = some (clsX x, modX x) := by
  unfold clsX modX
  cases hx : elemL x with
  | none => exact absurd hx h
  | some p => rfl
theorem known_lt (x : List UInt8) (h : elemL x ≠ none) : modX x < 10 ∧ clsX x < 10 := by
  have := known_bd x h
  omega
end Go.Proofs.YtcncbhbdpcpkeaaGreatDoor
