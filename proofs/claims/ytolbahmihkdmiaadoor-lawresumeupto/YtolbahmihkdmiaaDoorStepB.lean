/-
  A step of the reader, in the plain lexer's words; skipBogus, skipComment: their walks.
-/
import Derived.Test.YtolbahmihkdmiaaDoorGen
import Derived.Test.YtolbahmihkdmiaaDoorSkipTag
import Derived.Test.YtolbahmihkdmiaaDoorLexFind
namespace Go.Proofs.YtolbahmihkdmiaaDoor
open Go.RowKit Go.Lib Own

theorem StreamAt.below {W W' : World} {base b o : Nat} {cs : Array Value} {T : TypeId} {evs : List Ev} {pend : List UInt8} (h : StreamAt W base b o cs T evs pend) (hb : Below W.heap.size W W') : StreamAt W' base b o cs T evs pend := by
  obtain ⟨ev, p, v, xs, hev, hin, hrow, hevs, hap⟩ := h.it
  have hg : W.grownBy W' none := ⟨hb.os, hb.tape, hb.output, hb.size, fun k hk _ => hb.block k hk⟩
  exact ⟨ev, p, v, xs, hev, ⟨(hb.block b (Array.getElem?_eq_some_iff.1 hin.at_).1).trans hin.at_, hin.lo, hin.cp, hin.cv, hin.hp, hin.own.kept hg (by cases hv : v.ownBlock <;> simp), hin.ne⟩, hrow.kept hg (Classical.em _), evs_mono (fun a n ys hr => hr.kept hg (Classical.em _)) xs evs hevs, hap⟩
theorem Rdr.below {W W' : World} {base b : Nat} {win : Int} {data : ByteArray} {pos mode scan : Int} {eat : Bool} {evs : List Ev} {pend : List UInt8} (h : Rdr W base b win data pos mode scan eat evs pend) (hb : Below W.heap.size W W') : Rdr W' base b win data pos mode scan eat evs pend := by
  obtain ⟨ev, p, v, hS⟩ := h.it
  exact ⟨ev, p, v, hS.below hb⟩
theorem Rdr.size {W : World} {base b : Nat} {win : Int} {data : ByteArray} {pos mode scan : Int} {eat : Bool} {evs : List Ev} {pend : List UInt8} (h : Rdr W base b win data pos mode scan eat evs pend) : base ≤ W.heap.size := by
  obtain ⟨ev, p, v, hS⟩ := h.it
  obtain ⟨hat, hlo⟩ := hS.heap
  have := (Array.getElem?_eq_some_iff.1 hat).1
  omega
theorem below_low {A B : Nat} {w w' : World} (h : Below B w w') (hAB : A ≤ B) : Below A w w' := Below.mono h hAB

/-- the tables that the lexer reads, all ahead of block 'base' -/
structure LexTabs (base : Nat) (w : World) (m : Int) : Prop where
  tag : TagTabs w
  ch : ChTabs w
  max : w.cell? ⟨1, 0, none⟩ = some (.int .i64 m)
  l1 : 2 < base
  l2 : 0 < base
  l3 : 3 < base
  l4 : 1 < base
theorem LexTabs.below {base : Nat} {w w' : World} {m : Int} (h : LexTabs base w m) (hb : Below base w w') : LexTabs base w' m :=
  ⟨rangeAt_base h.tag hb h.l1, ⟨rangeAt_base h.ch.names hb h.l2, rangeAt_base h.ch.repl hb h.l3⟩, cell_low h.max hb h.l4, h.l1, h.l2, h.l3, h.l4⟩

/-- what a step leaves -/
def StepAt (w w' : World) (base b : Nat) (win : Int) (data : ByteArray) (pos : Nat) (evs : List Ev) (pend : List UInt8) (e : Ending) : Res → Prop
  | .more n st => e = .returned (.bool false) ∧ Rdr w' base b win data ((pos + n : Nat) : Int) (st.mode : Int) (st.scan : Int) st.eat evs pend ∧ Below base w w'
  | .done n st it => e = .returned (.bool true) ∧ Rdr w' base b win data ((pos + n : Nat) : Int) (st.mode : Int) (st.scan : Int) st.eat (putAll (evs, pend) it).1 (putAll (evs, pend) it).2 ∧ Below base w w'

set_option maxHeartbeats 2000000 in
set_option maxRecDepth 10000 in
theorem skipBogus_any (base b : Nat) (win : Int) (data : ByteArray) (pos mode : Nat) (eat : Bool) (evs : List Ev) (pend : List UInt8) (w : World) (h : Rdr w base b win data pos mode 2 eat evs pend) (hd : data.size ≤ 10000000) (hp : pos ≤ data.size) :
    Calls Tryd.prog 26 #[.pointer (some ⟨b, 0, none⟩)] w fun e w' => StepAt w w' base b win data pos evs pend e (bogusRes ⟨mode, 2, eat⟩ (data.data.toList.drop pos)) := by
  have hll : (data.data.toList.drop pos).length = data.size - pos := by rw [List.length_drop, ← size_eq]
  have hsum : (pos + (data.data.toList.drop pos).length : Nat) = data.size := by omega
  obtain ⟨⟨c0, c1, c2, c3, c4, c5⟩, hf, _⟩ := h.cells
  have f2 := hf 2
  have f4 := hf 4
  obtain ⟨t, ht⟩ : ∃ t : ByteArray, data.extract pos data.size = t := ⟨_, rfl⟩
  have htl : t.data.toList = data.data.toList.drop pos := by rw [← ht]; exact extract_to_end data pos
  have hcall := fun W => Tryd.strings_IndexByte t 62 W
  rw [htl, show (62 : Int).toNat.toUInt8 = 62 from rfl, indexByte_idx] at hcall
  have hlt := byte_append 62 (data.data.toList.drop pos) []
  have HR := hid h
  unfold bogusRes
  cases hi : byteIdx 62 (data.data.toList.drop pos) with
  | none =>
    rw [hi] at hcall
    have HC := hid hcall
    unfold StepAt
    simp only
    rw [hsum]
    clear hcall hlt hi h hf htl hsum hll
    go_enter Tryd.func26, Tryd.ntmps26
    go_wp2_with fail
    go_quiet (first | (go_at_call 46; refine Calls.quiet_of_same (HC.out _)))
    go_wp2
    go_ret
    exact ⟨rfl, ((HR.out.drewN _).setPos _).1, (below_drewN (Below.refl base w) _).trans ((HR.out.drewN _).setPos _).2⟩
  | some i =>
    rw [hi] at hcall hlt
    have hil : i < data.size - pos := by
      rcases hlt with ⟨j, h1, h2, -⟩ | ⟨h1, -⟩
      · cases h1; omega
      · cases h1
    have w1 : IntKind.i64.wrap ((i : Int) + 1) = (i : Int) + 1 := by rw [IntKind.wrap_i64]; omega
    have w2 : IntKind.i64.wrap ((pos : Int) + ((i : Int) + 1)) = ((pos + (i + 1) : Nat) : Int) := by rw [IntKind.wrap_i64]; omega
    have hng : ¬ (i : Int) < 0 := by omega
    have HC := hid hcall
    unfold StepAt
    simp only
    generalize ((pos + (i + 1) : Nat) : Int) = q at *
    clear hcall hlt hi h hf htl hll hsum
    go_enter Tryd.func26, Tryd.ntmps26
    go_wp2_with fail
    go_quiet (first | (go_at_call 46; refine Calls.quiet_of_same (HC.out _)))
    go_wp2
    go_ret
    exact ⟨rfl, (((HR.out.drewN _).setPos _).1.setScan _).1, ((below_drewN (Below.refl base w) _).trans ((HR.out.drewN _).setPos _).2).trans (((HR.out.drewN _).setPos _).1.setScan _).2⟩
end Go.Proofs.YtolbahmihkdmiaaDoor
