/-
  The reader's state; unit, beginSkip: their walks.
-/
import Derived.Test.YtolbahmihkdmiaaDoorPutEv
import Derived.Test.YtolbahmihkdmiaaDoorOwnEnd
namespace Go.Proofs.YtolbahmihkdmiaaDoor
open Go.RowKit Go.Lib Own

/-- the reader's nine cells -/
def rdC (win : Int) (data : ByteArray) (pos mode scan : Int) (eat : Bool) (ev p v : Value) : Array Value :=
  #[.int .i64 win, .string data, .int .i64 pos, .int .i64 mode, .int .i64 scan, .bool eat, ev, p, v]
structure Rdr (W : World) (base b : Nat) (win : Int) (data : ByteArray) (pos mode scan : Int) (eat : Bool) (evs : List Ev) (pend : List UInt8) : Prop where
  it : ∃ ev p v, StreamAt W base b 6 (rdC win data pos mode scan eat ev p v) 49 evs pend
theorem rd_T (win : Int) (data : ByteArray) (pos mode scan : Int) (eat : Bool) (ev p v : Value) : StreamT 49 (rdC win data pos mode scan eat ev p v) 6 :=
  ⟨by show liesAt Tryd.prog Tryd.prog.depth 49 (9 / Tryd.prog.cellsOf 49) 7 45 1 = true; kernel_rfl, by decide, by decide, by decide⟩
theorem StreamAt.heap {W : World} {base b o : Nat} {cs : Array Value} {T : TypeId} {evs : List Ev} {pend : List UInt8} (h : StreamAt W base b o cs T evs pend) : W.heap[b]? = some (.cells cs T (0, 0)) ∧ base ≤ b := by
  obtain ⟨ev, p, v, xs, hev, hin, hrow, hevs, hap⟩ := h.it
  exact ⟨hin.at_, hin.lo⟩
/-- a cell that is none of the stream's three is stored -/
theorem StreamAt.stored {W : World} {base b o : Nat} {cs : Array Value} {T : TypeId} {evs : List Ev} {pend : List UInt8} (h : StreamAt W base b o cs T evs pend) (hT : StreamT T cs o) (j : Nat) (hj : j < o) (u : Value) : StreamAt (W.setCell ⟨b, j, none⟩ u) base b o (cs.setIfInBounds j u) T evs pend := by
  obtain ⟨ev, p, v, xs, hev, hin, hrow, hevs, hap⟩ := h.it
  have j1 := just_set (j := j) hin.at_ u
  refine ⟨ev, p, v, xs, ?_, ⟨j1.at_, hin.lo, ?_, ?_, hin.hp, ?_, hin.ne⟩, row_just hrow hin.at_ hT.n2 j1.other, evs_mono (fun a n ys hr => row_just hr hin.at_ hT.n1 j1.other) xs evs hevs, hap⟩
  · rw [Array.getElem?_setIfInBounds, if_neg (by omega)]; exact hev
  · rw [Array.getElem?_setIfInBounds, if_neg (by omega)]; exact hin.cp
  · rw [Array.getElem?_setIfInBounds, if_neg (by omega)]; exact hin.cv
  · exact hin.own.kept (row := some b) ⟨j1.os, j1.tape, j1.output, by rw [j1.size]; exact Nat.le_refl _, fun k _ hk => j1.other k (fun e => hk (by rw [e]))⟩ (.inr hin.ne)

set_option maxHeartbeats 1000000 in
theorem unit_any (base b : Nat) (win : Int) (data : ByteArray) (pos mode scan : Int) (eat : Bool) (evs : List Ev) (pend : List UInt8) (s : ByteArray) (w : World) (h : Rdr w base b win data pos mode scan eat evs pend) (hlen : pend.length + s.size ≤ 140737488355328) :
    Calls Tryd.prog 21 #[.pointer (some ⟨b, 0, none⟩), .string s] w fun e w' => e = .returned (.tuple #[]) ∧
      Rdr w' base b win data pos mode scan false evs (if eat = true ∧ s.data.toList = [10] then pend else pend ++ s.data.toList) ∧ Below base w w' := by
  obtain ⟨ev, p, v, hS⟩ := h.it
  obtain ⟨hat, hlo⟩ := hS.heap
  have c5 : w.cell? ⟨b, 5, none⟩ = some (.bool eat) := cell_at hat rfl
  have f5 := free_at hat 5
  have hput := putText_any base b 6 _ _ evs pend s w hS (rd_T _ _ _ _ _ _ _ _ _) hlen
  have hskip := hS.stored (rd_T _ _ _ _ _ _ _ _ _) 5 (by omega) (.bool false)
  have jb := (just_set (j := 5) hat (.bool false)).below hlo
  have HP := hid hput
  have HK := hid hskip
  have HB := hid jb
  clear hput hskip jb hS hat h
  by_cases hs : eat = true ∧ s.toList = [10]
  · obtain ⟨rfl, h10⟩ := hs
    have q : (s.toList != [10]) = false := by rw [h10]; rfl
    have h10' : s.data.toList = [10] := by rw [← Lib.toList_data]; exact h10
    rw [if_pos ⟨rfl, h10'⟩]
    clear h10'
    go_enter Tryd.func21, Tryd.ntmps21
    go_wp2
    go_end0
    exact ⟨rfl, ⟨ev, p, v, HK.out⟩, HB.out⟩
  · have hs' : ¬ (eat = true ∧ s.data.toList = [10]) := by rw [← Lib.toList_data]; exact hs
    rw [if_neg hs']
    have go : eat = false ∨ (eat = true ∧ (s.toList == [10]) = false) := by
      cases eat
      · exact .inl rfl
      · exact .inr ⟨rfl, beq_eq_false_iff_ne.2 (fun h => hs ⟨rfl, h⟩)⟩
    clear hs hs' HK HB
    rcases go with rfl | ⟨rfl, q⟩
    all_goals
      try have q2 : (s.toList != [10]) = true := by rw [bne, q]; rfl
      go_enter Tryd.func21, Tryd.ntmps21
      go_wp2_with fail
      refine HP.out.mono ?_
      rintro e w1 ⟨rfl, p', v', hS1, b1⟩
      obtain ⟨hat1, hlo1⟩ := hS1.heap
      have hskip := hS1.stored (rd_T _ _ _ _ _ _ ev p' v') 5 (by omega) (.bool false)
      have jb := (just_set (j := 5) hat1 (.bool false)).below hlo1
      have f51 := free_at hat1 5
      have HK := hid hskip
      have HB := hid (b1.trans jb)
      clear hskip jb hS1 b1
      first
        | (have c51 : w1.cell? ⟨b, 5, none⟩ = some (.bool false) := cell_at hat1 rfl; clear hat1; go_wp2; go_end0; exact ⟨rfl, ⟨ev, p', v', HK.out⟩, HB.out⟩)
        | (have c51 : w1.cell? ⟨b, 5, none⟩ = some (.bool true) := cell_at hat1 rfl; clear hat1; go_wp2; go_end0; exact ⟨rfl, ⟨ev, p', v', HK.out⟩, HB.out⟩)
end Go.Proofs.YtolbahmihkdmiaaDoor
