/-
  scrublaw.LawChars: its walk (unfinished).
-/
import Derived.Test.YtgcfaannhkmilaaDoorRefPour
import Derived.BigRegion
import Derived.Lib.SlBytesConst
import Derived.Deep.RegionWith
namespace Go.Proofs.YtgcfaannhkmilaaDoor
open Go.RowKit Go.Lib

/-- the three blocks that hold the states -/
def six (W : World) (p q r : Nat) (x0 x1 y0 y1 : Value) : Prop := W.heap[p]? = some (.cells #[x0, x1] 23 (0, 0)) ∧ W.heap[q]? = some (.cells #[y0, y1] 23 (0, 0)) ∧ W.heap[r]? = some (.cells #[y0, y1] 23 (0, 0))
theorem six.below {W W' : World} {p q r : Nat} {x0 x1 y0 y1 : Value} (h : six W p q r x0 x1 y0 y1) (b : Below W.heap.size W W') : six W' p q r x0 x1 y0 y1 :=
  ⟨(b.block p (Array.getElem?_eq_some_iff.1 h.1).1).trans h.1, (b.block q (Array.getElem?_eq_some_iff.1 h.2.1).1).trans h.2.1, (b.block r (Array.getElem?_eq_some_iff.1 h.2.2).1).trans h.2.2⟩
theorem six.cells {W : World} {p q r : Nat} {x0 x1 y0 y1 : Value} (h : six W p q r x0 x1 y0 y1) : W.cell? ⟨p, 0, none⟩ = some x0 ∧ W.cell? ⟨p, 1, none⟩ = some x1 ∧ W.cell? ⟨q, 0, none⟩ = some y0 ∧ W.cell? ⟨q, 1, none⟩ = some y1 ∧ W.cell? ⟨r, 0, none⟩ = some y0 ∧ W.cell? ⟨r, 1, none⟩ = some y1 :=
  ⟨(two_cells h.1).1, (two_cells h.1).2.1, (two_cells h.2.1).1, (two_cells h.2.1).2.1, (two_cells h.2.2).1, (two_cells h.2.2).2.1⟩
/-- what holds of a world whose memory has grown since: field by field, so that it holds behind a draw, too -/
def near (n : Nat) (W0 W : World) : Prop := W.os = W0.os ∧ W.tape = W0.tape ∧ W.output = W0.output ∧ W0.heap.size ≤ W.heap.size ∧ n ≤ W.heap.size ∧ ∀ k, k < n → W.heap[k]? = W0.heap[k]?
theorem near.below {n : Nat} {W0 W W' : World} (h : near n W0 W) (b : Below W.heap.size W W') : near n W0 W' :=
  ⟨b.os.trans h.1, b.tape.trans h.2.1, b.output.trans h.2.2.1, Nat.le_trans h.2.2.2.1 b.size, Nat.le_trans h.2.2.2.2.1 b.size, fun k hk => (b.block k (Nat.lt_of_lt_of_le hk h.2.2.2.2.1)).trans (h.2.2.2.2.2 k hk)⟩
theorem near.of {n : Nat} {W0 W : World} (b : Below n W0 W) (h : n ≤ W.heap.size) : near n W0 W := ⟨b.os, b.tape, b.output, b.size, h, b.block⟩
theorem near.out {n : Nat} {W0 W : World} (h : near n W0 W) : Below n W0 W := ⟨h.1, h.2.1, h.2.2.1, h.2.2.2.1, h.2.2.2.2.2⟩

set_option maxHeartbeats 4000000 in
set_option maxRecDepth 100000 in
theorem chars_walk (tail data : ByteArray) (cr : Bool) (w : World) (hs : tail.size + data.size ≤ 2000000) (hT : Utf8Tabs 0 1 w) :
    Calls Tryd.prog 3 #[.agg #[.string tail, .bool cr], .string data] w fun e w' => e = .returned (.bool true) ∧ Below w.heap.size w w' := by
  have hp := fun W (hTW : Utf8Tabs 0 1 W) => pour_any tail data cr W (by omega) hTW
  have hq := fun W => refPour_any tail data cr W (by omega)
  generalize hR : rd true cr (tail.data.toList ++ data.data.toList) = R at *
  obtain ⟨R1, R2, R3⟩ := R
  have HP := hid hp
  have HQ := hid hq
  have HR := hid hR
  clear hp hq hR
  have hT1 := tabs_below hT ((Below.refl _ w).alloc (Nat.le_refl _) (.cells #[.string tail, .bool cr] 23))
  go_enter Tryd.func3, Tryd.ntmps3
  go_wp2_with fail
  refine (HP.out _ hT1).mono ?_
  rintro e W1 ⟨rfl, b1⟩
  have hbox := (b1.block w.heap.size (by simp)).trans (heap_alloc_new w _)
  obtain ⟨c0, c1, f0, f1, hsh⟩ := two_cells hbox
  have d0 : (W1.alloc (.cells #[.string ⟨R2.toArray⟩, .bool R3] 23)).cell? ⟨w.heap.size, 0, none⟩ = some (.string tail) := cell?_alloc_marked _ c0
  have d1 : (W1.alloc (.cells #[.string ⟨R2.toArray⟩, .bool R3] 23)).cell? ⟨w.heap.size, 1, none⟩ = some (.bool cr) := cell?_alloc_marked _ c1
  go_wp2_with fail
  refine (HQ.out _).mono ?_
  rintro e W2 ⟨rfl, b2⟩
  have hb0 : W2.heap[w.heap.size]? = some (.cells #[.string tail, .bool cr] 23 (0, 0)) := by
    rw [b2.block w.heap.size (by have := (Array.getElem?_eq_some_iff.1 hbox).1; simp; omega), alloc_old W1 _ _ (Array.getElem?_eq_some_iff.1 hbox).1]
    exact hbox
  have hb1 : W2.heap[W1.heap.size]? = some (.cells #[.string ⟨R2.toArray⟩, .bool R3] 23 (0, 0)) := by
    rw [b2.block W1.heap.size (by simp)]
    exact heap_alloc_new W1 _
  have e0 : ∀ X, (W2.alloc X).cell? ⟨w.heap.size, 0, none⟩ = some (.string tail) := fun X => cell?_alloc_marked X (two_cells hb0).1
  have e1 : ∀ X, (W2.alloc X).cell? ⟨w.heap.size, 1, none⟩ = some (.bool cr) := fun X => cell?_alloc_marked X (two_cells hb0).2.1
  have e2 : ∀ X, (W2.alloc X).cell? ⟨W1.heap.size, 0, none⟩ = some (.string ⟨R2.toArray⟩) := fun X => cell?_alloc_marked X (two_cells hb1).1
  have e3 : ∀ X, (W2.alloc X).cell? ⟨W1.heap.size, 1, none⟩ = some (.bool R3) := fun X => cell?_alloc_marked X (two_cells hb1).2.1
  have hbw : Below w.heap.size w W2 := (((Below.refl _ w).alloc (Nat.le_refl _) _).trans (b1.mono (by simp))).trans ((((Below.refl _ W1).alloc (Nat.le_refl _) _).mono (by have := b1.size; simp at this; omega)).trans (b2.mono (by have := b1.size; simp at this ⊢; omega)))
  clear b1 b2 c0 c1 f0 f1 hsh d0 d1 hbox
  obtain ⟨D1, hD1⟩ : ∃ D1, (rd false cr tail.data.toList).1 = D1 := ⟨_, rfl⟩
  obtain ⟨D2, hD2⟩ : ∃ D2, (rd false R3 R2).1 = D2 := ⟨_, rfl⟩
  obtain ⟨D3, hD3⟩ : ∃ D3, (rd false false data.data.toList).1 = D3 := ⟨_, rfl⟩
  have hL := (rd_len true (tail.data.toList ++ data.data.toList).length cr (tail.data.toList ++ data.data.toList) (Nat.le_refl _)).2
  rw [HR.out, List.length_append, ← size_eq, ← size_eq] at hL
  simp only at hL
  have h2z : (⟨R2.toArray⟩ : ByteArray).size = R2.length := by simp [ByteArray.size]
  have et : (⟨R2.toArray⟩ : ByteArray).data.toList = R2 := rfl
  have a1 := fun W => drain_any tail cr W (by omega)
  have a2 := fun W => refDrain_any tail cr W (by omega)
  have a3 := fun W => drain_any ⟨R2.toArray⟩ R3 W (by omega)
  have a4 := fun W => refDrain_any ⟨R2.toArray⟩ R3 W (by omega)
  have a5 := fun W => normal_any data W (by omega)
  have a6 := fun W => refNormal_any data W (by omega)
  rw [hD1] at a1 a2
  rw [et, hD2] at a3 a4
  rw [hD3] at a5 a6
  have A1 := hid a1
  have A2 := hid a2
  have A3 := hid a3
  have A4 := hid a4
  have A5 := hid a5
  have A6 := hid a6
  have hF : six (W2.alloc (.cells #[.string ⟨R2.toArray⟩, .bool R3] 23)) w.heap.size W1.heap.size W2.heap.size (.string tail) (.bool cr) (.string ⟨R2.toArray⟩) (.bool R3) :=
    ⟨by rw [alloc_old W2 _ _ (Array.getElem?_eq_some_iff.1 hb0).1]; exact hb0, by rw [alloc_old W2 _ _ (Array.getElem?_eq_some_iff.1 hb1).1]; exact hb1, heap_alloc_new W2 _⟩
  have hN : near w.heap.size w (W2.alloc (.cells #[.string ⟨R2.toArray⟩, .bool R3] 23)) :=
    near.of (hbw.alloc (by have := hbw.size; omega) _) (by have := hbw.size; simp; omega)
  clear a1 a2 a3 a4 a5 a6 hD1 hD2 hD3 hL h2z et hb0 hb1 hbw
  go_wp2_with fail
  go_region_with (first
    | (go_at_call 8; refine (A5.out _).mono ?_; rintro e W9 ⟨rfl, b9⟩; replace hF := six.below (by exact hF) b9; replace hN := near.below (by exact hN) b9; clear b9; obtain ⟨k0, k1, k2, k3, k4, k5⟩ := hF.cells)
    | (go_at_call 9; refine (A6.out _).mono ?_; rintro e W9 ⟨rfl, b9⟩; replace hF := six.below (by exact hF) b9; replace hN := near.below (by exact hN) b9; clear b9; obtain ⟨k0, k1, k2, k3, k4, k5⟩ := hF.cells)
    | (go_at_call_of 6 (Value.agg #[Value.string tail, Value.bool cr]); refine (A1.out _).mono ?_; rintro e W9 ⟨rfl, b9⟩; replace hF := six.below (by exact hF) b9; replace hN := near.below (by exact hN) b9; clear b9; obtain ⟨k0, k1, k2, k3, k4, k5⟩ := hF.cells)
    | (go_at_call_of 7 (Value.agg #[Value.string tail, Value.bool cr]); refine (A2.out _).mono ?_; rintro e W9 ⟨rfl, b9⟩; replace hF := six.below (by exact hF) b9; replace hN := near.below (by exact hN) b9; clear b9; obtain ⟨k0, k1, k2, k3, k4, k5⟩ := hF.cells)
    | (go_at_call_of 6 (Value.agg #[Value.string ⟨R2.toArray⟩, Value.bool R3]); refine (A3.out _).mono ?_; rintro e W9 ⟨rfl, b9⟩; replace hF := six.below (by exact hF) b9; replace hN := near.below (by exact hN) b9; clear b9; obtain ⟨k0, k1, k2, k3, k4, k5⟩ := hF.cells)
    | (go_at_call_of 7 (Value.agg #[Value.string ⟨R2.toArray⟩, Value.bool R3]); refine (A4.out _).mono ?_; rintro e W9 ⟨rfl, b9⟩; replace hF := six.below (by exact hF) b9; replace hN := near.below (by exact hN) b9; clear b9; obtain ⟨k0, k1, k2, k3, k4, k5⟩ := hF.cells))
  all_goals go_wp2
  all_goals go_ret
  all_goals exact ⟨rfl, near.out (by exact hN)⟩
end Go.Proofs.YtgcfaannhkmilaaDoor
