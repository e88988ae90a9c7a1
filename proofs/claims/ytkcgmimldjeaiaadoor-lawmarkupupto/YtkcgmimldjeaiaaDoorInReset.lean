/-
  Reset of a strings.Builder that lies inside another block: its walk.
-/
import Derived.Test.YtkcgmimldjeaiaaDoorInBuilder
namespace Go.Proofs.YtkcgmimldjeaiaaDoor
open Go.RowKit Go.Lib Own

theorem reset_in (base b o : Nat) (cs : Array Value) (T : TypeId) (p v : Value) (w : World) (hat : w.heap[b]? = some (.cells cs T (0, 0))) (hlo : base ≤ b) (hcp : cs[o]? = some p) (hcv : cs[o + 1]? = some v) :
    Calls Tryd.prog 81 #[.pointer (some ⟨b, o, none⟩)] w fun e w' => e = .returned (.tuple #[]) ∧
      InB w' base b o ((cs.setIfInBounds o (.pointer none)).setIfInBounds (o + 1) (.slice none 0 0)) T (.pointer none) (.slice none 0 0) [] ∧ Below base w w' ∧ ∀ k, k ≠ b → w'.heap[k]? = w.heap[k]? := by
  have c0 := cell_at hat hcp
  have f0 := free_at hat o
  have j1 := just_set (j := o) hat (.pointer none)
  have hv1 : (cs.setIfInBounds o (.pointer none))[o + 1]? = some v := by
    rw [Array.getElem?_setIfInBounds, if_neg (by omega)]; exact hcv
  have hp1 : (cs.setIfInBounds o (.pointer none))[o]? = some (.pointer none) := by
    rw [Array.getElem?_setIfInBounds, if_pos rfl, if_pos (Array.getElem?_eq_some_iff.1 hcp).1]
  have c1 := cell_at j1.at_ hv1
  have f1 := free_at j1.at_ (o + 1)
  have j2 := just_set (j := o + 1) j1.at_ (.slice none 0 0)
  have hb1 := j1.below hlo
  have hb2 := j2.below hlo
  have hfin : InB ((w.setCell ⟨b, o, none⟩ (.pointer none)).setCell ⟨b, o + 1, none⟩ (.slice none 0 0)) base b o ((cs.setIfInBounds o (.pointer none)).setIfInBounds (o + 1) (.slice none 0 0)) T (.pointer none) (.slice none 0 0) [] := by
    refine ⟨j2.at_, hlo, ?_, ?_, .inl rfl, ⟨rfl, .inl ⟨rfl, rfl⟩⟩, by simp [Value.ownBlock]⟩
    · rw [Array.getElem?_setIfInBounds, if_neg (by omega)]; exact hp1
    · rw [Array.getElem?_setIfInBounds, if_pos rfl, if_pos (Array.getElem?_eq_some_iff.1 hv1).1]
  have hkp : ∀ k, k ≠ b → ((w.setCell ⟨b, o, none⟩ (.pointer none)).setCell ⟨b, o + 1, none⟩ (.slice none 0 0)).heap[k]? = w.heap[k]? := fun k hk => (j2.other k hk).trans (j1.other k hk)
  have HF := hid hfin
  have HK := hid hkp
  clear hfin hkp j1 j2
  go_enter Tryd.func81, Tryd.ntmps81
  go_wp2
  go_end0
  exact ⟨rfl, HF.out, hb1.trans hb2, HK.out⟩
end Go.Proofs.YtkcgmimldjeaiaaDoor
