/-
  chars.Pour, Drain and Normal: their walks.
-/
import Derived.Test.YtgcfaannhkmilaaDoorDecode
namespace Go.Proofs.YtgcfaannhkmilaaDoor
open Go.RowKit Go.Lib

theorem tabs_two {g h : Nat} {w : World} (hT : Utf8Tabs g h w) (a b : Obj) : Utf8Tabs g h ((w.alloc a).alloc b) :=
  tabs_below hT (((Below.refl _ w).alloc (Nat.le_refl _) a).alloc (by simp) b)
theorem second_block (w : World) (a b : Obj) : ((w.alloc a).alloc b).heap[w.heap.size + 1]? = some b := by
  have := heap_alloc_new (w.alloc a) b
  simpa using this
/-- a block of two cells that nobody has frozen -/
theorem two_cells {W : World} {b : Nat} {x y : Value} {T : TypeId} (h : W.heap[b]? = some (.cells #[x, y] T (0, 0))) :
    W.cell? ⟨b, 0, none⟩ = some x ∧ W.cell? ⟨b, 1, none⟩ = some y ∧ W.frozen? ⟨b, 0, none⟩ = false ∧ W.frozen? ⟨b, 1, none⟩ = false ∧ W.shape? b = some (T, 2) :=
  ⟨by rw [Lib.cell_of_heap h]; rfl, by rw [Lib.cell_of_heap h]; rfl, Lib.frozen_of_heap h 0, Lib.frozen_of_heap h 1, by simp [World.shape?, h]⟩

theorem pour_any (tail data : ByteArray) (cr : Bool) (w : World) (hs : tail.size + data.size ≤ 35184372088832) (hT : Utf8Tabs 0 1 w) :
    Calls Tryd.prog 4 #[.agg #[.string tail, .bool cr], .string data] w fun e w' =>
      e = .returned (.tuple #[.agg #[.string ⟨(rd true cr (tail.data.toList ++ data.data.toList)).2.1.toArray⟩, .bool (rd true cr (tail.data.toList ++ data.data.toList)).2.2], .string ⟨(rd true cr (tail.data.toList ++ data.data.toList)).1.toArray⟩]) ∧ Below w.heap.size w w' := by
  have hadd : (tail ++ data).data.toList = tail.data.toList ++ data.data.toList := by simp
  have hsz : (tail ++ data).size ≤ 35184372088832 := by rw [ByteArray.size_append]; exact hs
  have hd := fun W hTW => decode_true (tail ++ data) cr W hsz hTW
  rw [hadd] at hd
  have HD := hid hd
  clear hd hadd hsz
  generalize rd true cr (tail.data.toList ++ data.data.toList) = R at *
  go_enter Tryd.func4, Tryd.ntmps4
  go_wp2_with (go_at_call 10; refine (HD.out _ (tabs_two hT _ _)).mono ?_)
  rintro e W1 ⟨rfl, b1⟩
  have hres := (b1.block (w.heap.size + 1) (by simp)).trans (second_block w _ _)
  obtain ⟨c0, c1, f0, f1, hsh⟩ := two_cells hres
  have hbw : Below w.heap.size w W1 := (((Below.refl _ w).alloc (Nat.le_refl _) _).alloc (by simp) _).trans (b1.mono (by simp; omega))
  clear b1 hres
  go_wp2
  refine bodyPost_ret (v := .tuple #[.agg #[.string ⟨R.2.1.toArray⟩, .bool R.2.2], .string ⟨R.1.toArray⟩]) ?_ rfl ⟨rfl, ?_⟩
  · simp [results, Tryd.results4, go_sem, c0, c1]
  · exact ((hbw.setCell (by simp) _).setCell (by simp) _)

theorem drain_any (tail : ByteArray) (cr : Bool) (w : World) (hs : tail.size ≤ 35184372088832) :
    Calls Tryd.prog 6 #[.agg #[.string tail, .bool cr]] w fun e w' =>
      e = .returned (.string ⟨(rd false cr tail.data.toList).1.toArray⟩) ∧ Below w.heap.size w w' := by
  go_enter Tryd.func6, Tryd.ntmps6
  go_wp2_with (go_at_call 10; refine (decode_false tail cr _ hs).mono ?_)
  rintro e W1 ⟨rfl, b1⟩
  have hbw : Below w.heap.size w W1 := ((Below.refl _ w).alloc (Nat.le_refl _) _).trans (b1.mono (by simp))
  clear b1
  go_wp2
  go_ret
  exact ⟨rfl, hbw.alloc hbw.size _⟩

theorem normal_any (s : ByteArray) (w : World) (hs : s.size ≤ 35184372088832) :
    Calls Tryd.prog 8 #[.string s] w fun e w' =>
      e = .returned (.string ⟨(rd false false s.data.toList).1.toArray⟩) ∧ Below w.heap.size w w' := by
  go_enter Tryd.func8, Tryd.ntmps8
  go_wp2_with (go_at_call 10; refine (decode_false s false _ hs).mono ?_)
  rintro e W1 ⟨rfl, hbw⟩
  go_wp2
  go_ret
  exact ⟨rfl, hbw.alloc hbw.size _⟩
end Go.Proofs.YtgcfaannhkmilaaDoor
