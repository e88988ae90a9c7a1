/-
  Parts of the walk, joined: RefBM.
-/
import Derived.Test.YtcncbhbdpcpkeaaGreatDoorPJAS
/-
  The reference's modelOf, isTable, modelAt, impliedCount: their walks.
-/
namespace Go.Proofs.YtcncbhbdpcpkeaaGreatDoor
open Go.RowKit Go.Lib Own

theorem known_all (p : List UInt8 → Prop) (h : ∀ x ∈ classT.map Prod.fst, p x) (x : List UInt8) (hx : elemL x ≠ none) : p x := by
  revert hx
  exact elem_all (fun x => elemL x ≠ none → p x) (fun x hx _ => h x hx) (fun x h1 _ h2 => absurd h1 h2) x
set_option maxHeartbeats 16000000 in
set_option maxRecDepth 100000 in
theorem modelOf_any (x : List UInt8) (w : World) (hx : elemL x ≠ none) :
    Calls Tryz.prog 86 #[.string (bs x)] w fun e w' => e = .returned (.string (bs (modW (modX x)))) ∧ w' = w := by
  revert w
  refine known_all (fun x => ∀ w, Calls Tryz.prog 86 #[.string (bs x)] w fun e w' => e = .returned (.string (bs (modW (modX x)))) ∧ w' = w) ?_ x hx
  intro x hx w
  have hcl := fun W => classOf_any (bs x) W
  rw [bs_toList, class_word] at hcl
  simp only [classT, List.map_cons, List.map_nil, List.mem_cons, List.not_mem_nil, or_false] at hx
  have e0 : bs ([] : List UInt8) = ⟨#[]⟩ := rfl
  rcases hx with rfl | rfl | rfl | rfl | rfl | rfl | rfl | rfl | rfl | rfl | rfl | rfl | rfl | rfl | rfl | rfl | rfl | rfl | rfl | rfl | rfl | rfl | rfl | rfl | rfl | rfl | rfl | rfl | rfl | rfl | rfl | rfl | rfl | rfl | rfl | rfl | rfl
  all_goals have HC := hid hcl
  all_goals clear hcl e0
  all_goals unfold bs at *
  all_goals go_enter Tryz.func86, Tryz.ntmps86
  all_goals go_wp2_with fail
  all_goals first
    | (go_ret; exact ⟨rfl, rfl⟩)
    | (refine (HC.out _).mono ?_; rintro e W1 ⟨rfl, rfl⟩; go_wp2_with fail; go_ret; exact ⟨rfl, rfl⟩)
end Go.Proofs.YtcncbhbdpcpkeaaGreatDoor
