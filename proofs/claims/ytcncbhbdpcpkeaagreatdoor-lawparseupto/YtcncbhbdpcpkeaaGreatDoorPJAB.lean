/-
  Parts of the walk, joined: Byte, Hidden, Row, Own, Lex.
-/
import Derived.Test.YtcncbhbdpcpkeaaGreatDoorShelf
import Derived.Lib.IndexBytes
import Derived.Deep.QuietTactic
import Derived.BigQuiet
import Derived.BigCall
import Derived.Lib.AppendStr
import Derived.Lib.FrozenHead
import Derived.Lib.ConvBytes
import Derived.Lib.SlBytesConst
import Derived.Laws.IdiomStrings
import Derived.Lib.BufferWrite
import Derived.Test.YtcncbhbdpcpkeaaGreatDoorPJAA
/-
  Single bytes: scrub/ascii's functions, scrubref's, and what a digit counts: their walks.
-/
namespace Go.Proofs.YtcncbhbdpcpkeaaGreatDoor
open Go.RowKit Go.Lib

def isDigZ (z : Int) : Bool := decide (48 ≤ z ∧ z ≤ 57)
theorem dig_any (z : Int) (_h0 : 0 ≤ z) (_h1 : z ≤ 255) (w : World) :
    Calls Tryz.prog 189 #[.int .u8 z] w fun e w' => e = .returned (.bool (isDigZ z)) ∧ w' = w := by
  go_enter Tryz.func189, Tryz.ntmps189
  go_wp2
  all_goals go_ret
  all_goals refine ⟨ret_bool ?_, rfl⟩
  all_goals (rw [Bool.eq_iff_iff]; simp [isDigZ]; omega)
end Go.Proofs.YtcncbhbdpcpkeaaGreatDoor

/-
  strings.Clone: its walk; facts that are kept out of sight.
-/
namespace Go.Proofs.YtcncbhbdpcpkeaaGreatDoor
open Go.RowKit Go.Lib

theorem builder_below {T e : TypeId} {B b : Nat} {bs : List Value} {W W' : World} (h : IsBuilderF T e B b bs W) (hb : Below W.heap.size W W') : IsBuilderF T e B b bs W' := by
  have one : ∀ p, BuilderAtF T e B b p bs W → BuilderAtF T e B b p bs W' := fun p x => by
    have hlt := x.lt
    obtain ⟨h1, v, h2, h3, h4⟩ := x
    refine ⟨h1, v, (hb.block b hlt).trans h2, ?_, h4⟩
    exact h3.kept (row := none) ⟨hb.os, hb.tape, hb.output, hb.size, fun k hk _ => hb.block k hk⟩ (by cases v.ownBlock <;> simp)
  rcases h with h | h
  · exact Or.inl (one _ h)
  · exact Or.inr (one _ h)
end Go.Proofs.YtcncbhbdpcpkeaaGreatDoor

/-
  A row of bytes that the call owns and that a conversion has marked behind its end: appending a text to it.
-/
namespace Go.Proofs.YtcncbhbdpcpkeaaGreatDoor
open Go.Lib Go.RowKit
variable {P : Program}

/-- block g holds the cells xs, of cap places, none of them frozen -/
def ownsN (w : World) (e : TypeId) (g n cap : Nat) (xs : List Value) : Prop :=
  ∃ cur fz, w.heap[g]? = some (.cells cur e fz) ∧ (cap ≤ fz.1 ∨ fz = (0, 0)) ∧ n ≤ cap ∧ cap ≤ maxLen ∧ cur.size = cap ∧ xs.length = n ∧ cur.toList.take n = xs

theorem ownsN.lt {w : World} {e : TypeId} {g n cap : Nat} {xs : List Value} (h : ownsN w e g n cap xs) : g < w.heap.size := by
  obtain ⟨cur, fz, hg, _⟩ := h
  exact (Array.getElem?_eq_some_iff.1 hg).1
theorem ownsN.kept {w w' : World} {e : TypeId} {g n cap : Nat} {xs : List Value} (h : ownsN w e g n cap xs) (hk : w'.heap[g]? = w.heap[g]?) : ownsN w' e g n cap xs := by
  obtain ⟨cur, fz, hg, r⟩ := h
  exact ⟨cur, fz, hk.trans hg, r⟩
theorem ownsN.cell {w : World} {e : TypeId} {g n cap : Nat} {xs : List Value} (h : ownsN w e g n cap xs) (j : Nat) (hj : j < n) : w.cell? ⟨g, j, none⟩ = xs[j]? := by
  obtain ⟨cur, fz, hg, _, _, _, hc, hl, ht⟩ := h
  rw [← ht, List.getElem?_take, if_pos hj]
  simp [World.cell?, hg]

end Go.Proofs.YtcncbhbdpcpkeaaGreatDoor

/-
  Rows of bytes that a call owns: what appending and converting them takes.
-/
namespace Go.Proofs.YtcncbhbdpcpkeaaGreatDoor.Own
open Go.RowKit Go.Lib

theorem info_u8 : (Tryz.prog.info? 5).map (fun i => (i.zero, i.size, i.bytes)) = some (some (.int .u8 0), 1, 1) := by kernel_rfl
theorem nil_text (W : World) : (convert 65 9 (.slice none 0 0)).run Tryz.prog W = .ok (.string ⟨#[]⟩) W := by
  rw [run_convert_bytes_string W 65 9 5 none 0 0 Tryz.underlying65 Tryz.underlying5 Tryz.underlying9]
  rfl
end Go.Proofs.YtcncbhbdpcpkeaaGreatDoor.Own

/-
  The lexer as a plain function on lists of bytes: a step, a run, and that a text may be cut anywhere. No program is named here.
-/
namespace Go.Proofs.YtcncbhbdpcpkeaaGreatDoor

def eatsL (name : List UInt8) : Bool := name == [112, 114, 101] || name == [116, 101, 120, 116, 97, 114, 101, 97]

end Go.Proofs.YtcncbhbdpcpkeaaGreatDoor
