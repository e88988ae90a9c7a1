/-
  strings.Clone: its walk; facts that are kept out of sight.
-/
import Derived.Test.YtndglhflbenloaaGreatDoorGen
import Derived.Test.YtndglhflbenloaaGreatDoorGood
import Derived.Test.YtndglhflbenloaaGreatDoorShelf
import Derived.Test.YtndglhflbenloaaGreatDoorText
import Derived.Lib.IndexBytes
import Derived.Deep.QuietTactic
import Derived.BigQuiet
import Derived.BigCall
namespace Go.Proofs.YtndglhflbenloaaGreatDoor
open Go.RowKit Go.Lib

theorem clone_any (s : ByteArray) (w : World) (hlim : s.size ≤ 281474976710656) :
    Calls Tryz.prog 24 #[.string s] w fun e w' => e = .returned (.string s) ∧ Below w.heap.size w w' := by
  go_enter Tryz.func24, Tryz.ntmps24
  go_wp2_with (go_at_call 46; refine (Tryz.stringslite_Clone s _ hlim).mono ?_)
  rintro e w1 ⟨rfl, hb⟩
  go_wp2
  go_ret
  exact ⟨rfl, hb⟩

theorem builder_below {T e : TypeId} {B b : Nat} {bs : List Value} {W W' : World} (h : IsBuilderF T e B b bs W) (hb : Below W.heap.size W W') : IsBuilderF T e B b bs W' := by
  have one : ∀ p, BuilderAtF T e B b p bs W → BuilderAtF T e B b p bs W' := fun p x => by
    have hlt := x.lt
    obtain ⟨h1, v, h2, h3, h4⟩ := x
    refine ⟨h1, v, (hb.block b hlt).trans h2, ?_, h4⟩
    exact h3.kept (row := none) ⟨hb.os, hb.tape, hb.output, hb.size, fun k hk _ => hb.block k hk⟩ (by cases v.ownBlock <;> simp)
  rcases h with h | h
  · exact Or.inl (one _ h)
  · exact Or.inr (one _ h)
end Go.Proofs.YtndglhflbenloaaGreatDoor
