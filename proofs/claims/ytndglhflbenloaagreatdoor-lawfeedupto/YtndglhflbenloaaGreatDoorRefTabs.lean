/-
  The tables of the character references, as they lie in memory, and what a number stands for: the walks.
-/
import Derived.Test.YtndglhflbenloaaGreatDoorGen
import Derived.Test.YtndglhflbenloaaGreatDoorByte
import Derived.Test.YtndglhflbenloaaGreatDoorEnc
import Derived.Deep.MidRow
namespace Go.Proofs.YtndglhflbenloaaGreatDoor
open Go.RowKit Go.Lib

def namesV : List Value := (eitherT ++ closedT).flatMap fun t => [strV t.1, .int .i32 t.2]
def replV : List Value := replT.map (Value.int .i32)
def eitherNV : List Value := eitherT.map fun t => strV t.1
def eitherCV : List Value := eitherT.map fun t => .int .i64 t.2
def closedNV : List Value := closedT.map fun t => strV t.1
def closedCV : List Value := closedT.map fun t => .int .i64 t.2

/-- the two tables of package chars hold what their initialisers lay -/
structure ChTabs (w : World) : Prop where
  names : w.rangeAt 0 0 namesV
  repl : w.rangeAt 8 0 replV
/-- the six tables hold what their initialisers lay -/
structure RefTabs (w : World) : Prop where
  ch : ChTabs w
  eitherN : w.rangeAt 1 0 eitherNV
  eitherC : w.rangeAt 2 0 eitherCV
  closedN : w.rangeAt 3 0 closedNV
  closedC : w.rangeAt 4 0 closedCV
theorem ChTabs.below {w w' : World} (h : ChTabs w) (hb : Below w.heap.size w w') : ChTabs w' := ⟨rangeAt_below h.names hb, rangeAt_below h.repl hb⟩
theorem RefTabs.below {w w' : World} (h : RefTabs w) (hb : Below w.heap.size w w') : RefTabs w' :=
  ⟨h.ch.below hb, rangeAt_below h.eitherN hb, rangeAt_below h.eitherC hb, rangeAt_below h.closedN hb, rangeAt_below h.closedC hb⟩
theorem ChTabs.replAt {w : World} (h : ChTabs w) (k : Nat) (hk : k < 32) : w.cell? ⟨8, k, none⟩ = some (.int .i32 (replT.getD k 0)) := by
  have := h.repl k (.int .i32 (replT.getD k 0)) (by
    have hl : k < replT.length := hk
    unfold replV
    rw [List.getElem?_map, List.getElem?_eq_getElem hl, List.getD_eq_getElem?_getD, List.getElem?_eq_getElem hl]
    rfl)
  rwa [Nat.zero_add] at this

theorem ret_i32 {a b : Int} (h : a = b) : Ending.returned (.int .i32 a) = .returned (.int .i32 b) := by rw [h]
set_option maxRecDepth 100000 in
theorem numb_any (z : Int) (h0 : 0 ≤ z) (h1 : z ≤ 1114112) (w : World) (hT : ChTabs w) :
    Calls Tryz.prog 116 #[.int .i32 z] w fun e w' => e = .returned (.int .i32 (numb z)) ∧ w' = w := by
  have hg := fun W => good_any z h0 h1 W
  by_cases hz : 128 ≤ z ∧ z ≤ 159
  · obtain ⟨z0, z1⟩ := hz
    have hn : numb z = replT.getD (z - 128).toNat 0 := if_pos ⟨z0, z1⟩
    have hc := hT.replAt (z - 128).toNat (by omega)
    rw [← hn] at hc
    generalize numb z = n at hc
    clear hn
    go_enter Tryz.func116, Tryz.ntmps116
    go_wp2
    all_goals go_ret
    all_goals exact ⟨rfl, rfl⟩
  · have hn : numb z = if goodB z then z else 65533 := if_neg hz
    generalize numb z = n at hn
    generalize goodB z = b at hn hg
    go_enter Tryz.func116, Tryz.ntmps116
    go_wp2_with (go_at_call 132; refine (hg _).mono ?_; rintro e w' ⟨rfl, rfl⟩)
    all_goals go_ret
    all_goals refine ⟨ret_i32 ?_, rfl⟩
    all_goals simp_all
end Go.Proofs.YtndglhflbenloaaGreatDoor
