/-
  scrubref.Pour, Drain and Normal: their walks.
-/
import Derived.Test.YtgcfaannhkmilaaDoorRead
import Derived.Test.YtgcfaannhkmilaaDoorPour
namespace Go.Proofs.YtgcfaannhkmilaaDoor
open Go.RowKit Go.Lib

theorem refPour_any (tail data : ByteArray) (cr : Bool) (w : World) (hs : tail.size + data.size ≤ 10000000) :
    Calls Tryd.prog 5 #[.agg #[.string tail, .bool cr], .string data] w fun e w' =>
      e = .returned (.tuple #[.agg #[.string ⟨(rd true cr (tail.data.toList ++ data.data.toList)).2.1.toArray⟩, .bool (rd true cr (tail.data.toList ++ data.data.toList)).2.2], .string ⟨(rd true cr (tail.data.toList ++ data.data.toList)).1.toArray⟩]) ∧ Below w.heap.size w w' := by
  have hadd : (tail ++ data).data.toList = tail.data.toList ++ data.data.toList := by simp
  have hsz : (tail ++ data).size ≤ 10000000 := by rw [ByteArray.size_append]; exact hs
  have hd := fun W => read_false (tail ++ data) cr W hsz
  rw [hadd] at hd
  have HD := hid hd
  clear hd hadd hsz
  generalize rd true cr (tail.data.toList ++ data.data.toList) = R at *
  go_enter Tryd.func5, Tryd.ntmps5
  go_wp2_with fail
  refine (HD.out _).mono ?_
  rintro e W1 ⟨rfl, b1⟩
  have hres := (b1.block (w.heap.size + 1) (by simp)).trans (second_block w _ _)
  obtain ⟨c0, c1, f0, f1, hsh⟩ := two_cells hres
  have hbw : Below w.heap.size w W1 := (((Below.refl _ w).alloc (Nat.le_refl _) _).alloc (by simp) _).trans (b1.mono (by simp; omega))
  clear b1 hres
  go_wp2
  refine bodyPost_ret (v := .tuple #[.agg #[.string ⟨R.2.1.toArray⟩, .bool R.2.2], .string ⟨R.1.toArray⟩]) ?_ rfl ⟨rfl, ?_⟩
  · simp [results, Tryd.results5, go_sem, c0, c1]
  · exact ((hbw.setCell (by simp) _).setCell (by simp) _)

theorem refDrain_any (tail : ByteArray) (cr : Bool) (w : World) (hs : tail.size ≤ 10000000) :
    Calls Tryd.prog 7 #[.agg #[.string tail, .bool cr]] w fun e w' =>
      e = .returned (.string ⟨(rd false cr tail.data.toList).1.toArray⟩) ∧ Below w.heap.size w w' := by
  go_enter Tryd.func7, Tryd.ntmps7
  go_wp2_with fail
  refine (read_true tail cr _ hs).mono ?_
  rintro e W1 ⟨rfl, b1⟩
  have hbw : Below w.heap.size w W1 := ((Below.refl _ w).alloc (Nat.le_refl _) _).trans (b1.mono (by simp))
  clear b1
  go_wp2
  go_ret
  exact ⟨rfl, hbw⟩

theorem refNormal_any (s : ByteArray) (w : World) (hs : s.size ≤ 10000000) :
    Calls Tryd.prog 9 #[.string s] w fun e w' =>
      e = .returned (.string ⟨(rd false false s.data.toList).1.toArray⟩) ∧ Below w.heap.size w w' := by
  go_enter Tryd.func9, Tryd.ntmps9
  go_wp2_with fail
  refine (read_true s false _ hs).mono ?_
  rintro e W1 ⟨rfl, hbw⟩
  go_wp2
  go_ret
  exact ⟨rfl, hbw⟩
end Go.Proofs.YtgcfaannhkmilaaDoor
