/-
  Lists of words and policies that can be read, whoever made them.
-/
import Derived.Test.YtkcgmimldjeaiaaDoorRefSet
import Derived.Test.YtkcgmimldjeaiaaDoorMemW
import Derived.Deep.RegionLaw
namespace Go.Proofs.YtkcgmimldjeaiaaDoor
open Go.RowKit Go.Lib Own

/-- does a word stand twice? -/
def twiceL (ss : List (List UInt8)) : Bool := decide (¬ ss.Nodup)
theorem twice_yes {ss : List (List UInt8)} {k : Nat} {s : List UInt8} (hs : ss[k]? = some s) (h : (ss.take k).contains s = true) : twiceL ss = true := by
  have hm : s ∈ ss.take k := by simpa using h
  refine decide_eq_true (fun hn => ?_)
  have hd := drop_at hs
  have hsp := List.take_append_drop k ss
  rw [← hsp, hd, List.nodup_append] at hn
  exact hn.2.2 s hm s (List.mem_cons_self ..) rfl
theorem twice_no {ss : List (List UInt8)} (h : ∀ k s, ss[k]? = some s → (ss.take k).contains s = false) : twiceL ss = false := by
  refine decide_eq_false (fun hn => hn ?_)
  rw [List.nodup_iff_pairwise_ne, List.pairwise_iff_getElem]
  intro i j hi hj hij e
  have := h j ss[j] (List.getElem?_eq_getElem hj)
  rw [List.contains_eq_mem, decide_eq_false_iff_not] at this
  apply this
  rw [← e]
  rw [List.mem_take_iff_getElem]
  exact ⟨i, by omega, rfl⟩

end Go.Proofs.YtkcgmimldjeaiaaDoor
