/-
  From what a row says of the six tables to what lies in memory.
-/
import Derived.Test.YtehlcnnoaonjkaaDoorRows
import Derived.Test.YtehlcnnoaonjkaaDoorRefTabs
import Derived.Test.YtehlcnnoaonjkaaDoorFindName
import Derived.Lib.LaidU8T
import Derived.Lib.LaidTab
import Derived.ChangeSame
import Derived.ChangeArms
namespace Go.Proofs.YtehlcnnoaonjkaaDoor
open Go.RowKit Go.Lib Go.ChangeShapes

theorem range_of {P : Program} {w : World} {n : String} {g : Nat} {cs : Array Value} {L : List Value} (hg : P.globalNamed n = some g) (hvar : w.var? P n = some cs) (h : ∀ (j : Nat) (v : Value), L[j]? = some v → cs.toList[j]? = some v) : w.rangeAt g 0 L := by
  intro j v hv
  rw [Nat.zero_add, World.var?_cell hg hvar j, ← Array.getElem?_toList]
  exact h j v hv
theorem ints_of {P : Program} {w : World} {n : String} {g t e m : Nat} {k : IntKind} {zs : List Int} (hg : P.globalNamed n = some g) (ht : (P.globals[g]?).map (·.type) = some t)
    (hu : P.underlying t = some (.array m e)) (he : P.underlying e = some (.int k)) (hce : P.cellsOf e = 1) (hct : P.cellsOf t = m) (h : VarReads P w n (tabData k zs)) : w.rangeAt g 0 (zs.map fun z => .int k z) := by
  obtain ⟨g', t', cs, fuel, p, hg', hty, hvar, hd⟩ := h
  obtain rfl := Option.some.inj (hg.symm.trans hg')
  obtain rfl := Option.some.inj (ht.symm.trans hty)
  have hcs := cells_of_tab hu he hce hct hd
  exact range_of hg hvar (fun j v hv => by rw [hcs]; exact hv)
theorem one_at {α : Type} {l : List α} {j : Nat} {x : α} (h : (l.drop j).take 1 = [x]) : l[j]? = some x := by
  have := congrArg (·[0]?) h
  simpa using this
theorem strs_of {P : Program} {w : World} {n : String} {g t e m : Nat} {T : List (List UInt8)} (hg : P.globalNamed n = some g) (ht : (P.globals[g]?).map (·.type) = some t)
    (hu : P.underlying t = some (.array m e)) (he : P.underlying e = some .string) (hce : P.cellsOf e = 1) (hm : T.length = m) (h : VarReads P w n (.agg (T.map fun x => .lit (.string x)))) : w.rangeAt g 0 (T.map strV) := by
  obtain ⟨g', t', cs, fuel, p, hg', hty, hvar, hd⟩ := h
  obtain rfl := Option.some.inj (hg.symm.trans hg')
  obtain rfl := Option.some.inj (ht.symm.trans hty)
  refine range_of hg hvar (fun j v hv => ?_)
  rw [List.getElem?_map] at hv
  obtain ⟨x, hx, rfl⟩ := Option.map_eq_some_iff.1 hv
  obtain ⟨fuel', d, q, hdi, hel⟩ := array_elem hu hd j (by rw [← hm]; exact (List.getElem?_eq_some_iff.1 hx).1)
  rw [List.getElem?_map, hx] at hdi
  simp only [Option.map_some, Option.some.injEq] at hdi
  subst hdi
  rw [hce, Nat.mul_one] at hel
  obtain ⟨s, hs, hx2, _⟩ := DataW.trod_string he hel
  simp only [Prod.mk.injEq, DataW.lit.injEq, Lit.string.injEq] at hx2
  rw [one_at hs]
  unfold strV
  rw [hx2.1]
theorem flat_even {f g : List UInt8 × Int → Value} : ∀ (T : List (List UInt8 × Int)) (k : Nat), (T.flatMap fun t => [f t, g t])[k * 2]? = T[k]?.map f ∧ (T.flatMap fun t => [f t, g t])[k * 2 + 1]? = T[k]?.map g
  | [], k => by simp
  | t :: T, 0 => by simp
  | t :: T, k + 1 => by
    have := flat_even (f := f) (g := g) T k
    rw [show (k + 1) * 2 = k * 2 + 2 from by omega, show k * 2 + 2 + 1 = k * 2 + 1 + 2 from by omega, List.flatMap_cons]
    simpa using this
theorem pairs_of {P : Program} {w : World} {n : String} {g t e m ts ti : Nat} {f0 f1 : Field} {T : List (List UInt8 × Int)} (hg : P.globalNamed n = some g) (ht : (P.globals[g]?).map (·.type) = some t)
    (hu : P.underlying t = some (.array m e)) (he : P.underlying e = some (.struct #[f0, f1])) (hce : P.cellsOf e = 2) (hm : T.length = m)
    (h0 : f0.type = ts ∧ f0.offset = 0) (h1 : f1.type = ti ∧ f1.offset = 1) (hs : P.underlying ts = some .string) (hcs : P.cellsOf ts = 1) (hi : P.underlying ti = some (.int .i32)) (hci : P.cellsOf ti = 1)
    (h : VarReads P w n (.agg (T.map fun x => .agg [.lit (.string x.1), .lit (.int .i32 x.2)]))) : w.rangeAt g 0 (T.flatMap fun t => [strV t.1, .int .i32 t.2]) := by
  obtain ⟨g', t', cs, fuel, p, hg', hty, hvar, hd⟩ := h
  obtain rfl := Option.some.inj (hg.symm.trans hg')
  obtain rfl := Option.some.inj (ht.symm.trans hty)
  have key : ∀ k x, T[k]? = some x → cs.toList[k * 2]? = some (strV x.1) ∧ cs.toList[k * 2 + 1]? = some (.int .i32 x.2) := by
    intro k x hx
    obtain ⟨fuel', d, q, hdi, hel⟩ := array_elem hu hd k (by rw [← hm]; exact (List.getElem?_eq_some_iff.1 hx).1)
    rw [List.getElem?_map, hx] at hdi
    simp only [Option.map_some, Option.some.injEq] at hdi
    subst hdi
    obtain ⟨y0, y1, n', hy, _, e0, e1⟩ := trod_struct2 he hel
    rw [h0.1, h0.2, hcs, hce] at e0
    rw [h1.1, h1.2, hci, hce] at e1
    obtain ⟨s, hs1, hs2, _⟩ := DataW.trod_string hs e0
    obtain ⟨z, hz1, hz2, _⟩ := DataW.trod_int hi e1
    rw [hs2, hz2] at hy
    simp only [Prod.mk.injEq, DataW.agg.injEq, List.cons.injEq, DataW.lit.injEq, Lit.string.injEq, Lit.int.injEq, true_and, and_true] at hy
    have a0 := one_at hs1
    have a1 := one_at hz1
    rw [List.getElem?_take_of_lt (by omega), List.getElem?_drop] at a0 a1
    refine ⟨?_, ?_⟩
    · rw [show k * 2 = k * 2 + 0 from rfl, a0]
      unfold strV
      rw [hy.1.1]
    · rw [a1, hy.1.2]
  refine range_of hg hvar (fun j v hv => ?_)
  obtain ⟨f1', f2'⟩ := flat_even (f := fun t => strV t.1) (g := fun t => .int .i32 t.2) T (j / 2)
  rcases Nat.mod_two_eq_zero_or_one j with h2 | h2
  · have e : j = j / 2 * 2 := by omega
    rw [e] at hv ⊢
    rw [f1'] at hv
    obtain ⟨x, hx, rfl⟩ := Option.map_eq_some_iff.1 hv
    exact (key _ x hx).1
  · have e : j = j / 2 * 2 + 1 := by omega
    rw [e] at hv ⊢
    rw [f2'] at hv
    obtain ⟨x, hx, rfl⟩ := Option.map_eq_some_iff.1 hv
    exact (key _ x hx).2
end Go.Proofs.YtehlcnnoaonjkaaDoor
