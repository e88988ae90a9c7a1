/-
  The reference's Check: rules' names, one rule, one scheme, one drop: their walks.
-/
import Derived.Test.YtkcgmimldjeaiaaDoorPolRefB
namespace Go.Proofs.YtkcgmimldjeaiaaDoor
open Go.RowKit Go.Lib Own

theorem info_str : (Tryd.prog.info? 9).map (fun i => (i.zero, i.size, i.bytes)) = some (some (.string ⟨#[]⟩), 1, 16) := by kernel_rfl
/-- a policy's five cells -/
def polC (vr vs vd : Value) (P : PolP) : Array Value := #[vr, vs, vd, .int .i64 P.depth, .int .i64 P.window]
theorem polC_at {W : World} {b : Nat} {vr vs vd : Value} {P : PolP} (h : W.heap[b]? = some (.cells (polC vr vs vd P) 35 (0, 0))) :
    W.cell? ⟨b, 0, none⟩ = some vr ∧ W.cell? ⟨b, 1, none⟩ = some vs ∧ W.cell? ⟨b, 2, none⟩ = some vd ∧ W.cell? ⟨b, 3, none⟩ = some (.int .i64 P.depth) ∧ W.cell? ⟨b, 4, none⟩ = some (.int .i64 P.window) :=
  ⟨cell_at h rfl, cell_at h rfl, cell_at h rfl, cell_at h rfl, cell_at h rfl⟩

def wrongRuleP (n : Nat) (r : RuleP) : Bool := if n = 3 then classL r.1 == 0 else if n = 6 then twiceL r.2 else decide (n = 5) && r.2.any fun a => !attrT.contains a
theorem find_le : ∀ (T : List (List UInt8 × Nat)) (x : List UInt8), (∀ e ∈ T, e.2 ≤ 6) → findT T x ≤ 6
  | [], _, _ => Nat.zero_le _
  | e :: r, x, h => by
    unfold findT
    split
    · exact h e (List.mem_cons_self ..)
    · exact find_le r x (fun e he => h e (List.mem_cons_of_mem _ he))
theorem class_le (x : List UInt8) : classL x ≤ 6 := find_le _ _ (by decide)
theorem classW_nil (x : List UInt8) : ((classW (classL x)) == []) = (classL x == 0) := by
  have h := class_le x
  generalize classL x = k at h
  match k, h with
  | 0, _ => rfl
  | 1, _ => rfl
  | 2, _ => rfl
  | 3, _ => rfl
  | 4, _ => rfl
  | 5, _ => rfl
  | 6, _ => rfl
  | k + 7, h => omega

end Go.Proofs.YtkcgmimldjeaiaaDoor
