/-
  scrubref.remapped: its walk.
-/
import Derived.Test.YtndglhflbenloaaGreatDoorSet
import Derived.Deep.Cut
import Derived.Great.Walk
import Derived.Great.BuildSlice
namespace Go.Proofs.YtndglhflbenloaaGreatDoor
open Go.RowKit Go.Lib Go.Great

def fromV : List Value := remapT.map fun p => .int .i64 p.1
def toV : List Value := remapT.map fun p => .int .i64 p.2
theorem laid_row (w : World) (t : TypeId) (old cs : Array Value) :
    Below w.heap.size w ((w.alloc (.cells old t)).setRow w.heap.size cs) ∧ ((w.alloc (.cells old t)).setRow w.heap.size cs).heap[w.heap.size]? = some (.cells cs t (0, 0)) ∧ ((w.alloc (.cells old t)).setRow w.heap.size cs).heap.size = w.heap.size + 1 := by
  have hz : ((w.alloc (.cells old t)).setRow w.heap.size cs).heap.size = w.heap.size + 1 := by simp [World.setRow]
  refine ⟨⟨rfl, rfl, rfl, by omega, fun k hk => ?_⟩, setRow_heap _ _ old cs t (0, 0) (heap_alloc_new w _), hz⟩
  rw [setRow_other _ _ _ _ (by omega), alloc_old w _ _ hk]
theorem row_range {W : World} {g : Nat} {cs : List Value} {t : TypeId} {fr : Nat × Nat} (h : W.heap[g]? = some (.cells cs.toArray t fr)) : W.rangeAt g 0 cs := by
  intro j v hv
  rw [Nat.zero_add, cell_of_row W g j cs.toArray t fr h]
  simpa using hv
set_option maxHeartbeats 1000000 in
set_option maxRecDepth 100000 in
theorem remapped_any (v : Int) (w : World) :
    Calls Tryz.prog 119 #[.int .i64 v] w fun e w' => e = .returned (.int .i64 (remapL remapT v)) ∧ Below w.heap.size w w' := by
  obtain ⟨r, hr⟩ : ∃ r, remapL remapT v = r := ⟨_, rfl⟩
  rw [hr]
  have HR := hid hr
  clear hr
  go_enter Tryz.func119, Tryz.ntmps119
  go_upto_region 1 with fail
  apply wp_region_lit
  refine wpList_buildTo rfl 140 _ rfl (some 6) rfl fromV.toArray (by kernel_rfl) ?_
  refine wpList_allocTo rfl (some 3) rfl (.pointer (some ⟨w.heap.size, 0, none⟩)) (.cells (Array.replicate 27 (.int .i64 0)) 140 (0, 0)) (by kernel_rfl) ?_
  refine wpList_store_row rfl 140 (.tmp 3) (.tmp 6) rfl w.heap.size fromV.toArray rfl rfl 140 (Array.replicate 27 (.int .i64 0)) (heap_alloc_new w _) (by kernel_rfl) rfl (by kernel_rfl) ?_
  apply wpList_nil
  rename_i Q1 K1 hK1
  refine hK1 _ _ ?_
  clear hK1 K1
  obtain ⟨b1, h1, z1⟩ := laid_row w 140 (Array.replicate 27 (.int .i64 0)) fromV.toArray
  generalize (w.alloc (.cells (Array.replicate 27 (.int .i64 0)) 140)).setRow w.heap.size fromV.toArray = W1 at b1 h1 z1 ⊢
  go_upto_region 2 with fail
  apply wp_region_lit
  refine wpList_buildTo rfl 140 _ rfl (some 7) rfl toV.toArray (by kernel_rfl) ?_
  refine wpList_allocTo rfl (some 4) rfl (.pointer (some ⟨W1.heap.size, 0, none⟩)) (.cells (Array.replicate 27 (.int .i64 0)) 140 (0, 0)) (by kernel_rfl) ?_
  refine wpList_store_row rfl 140 (.tmp 4) (.tmp 7) rfl W1.heap.size toV.toArray rfl rfl 140 (Array.replicate 27 (.int .i64 0)) (heap_alloc_new W1 _) (by kernel_rfl) rfl (by kernel_rfl) ?_
  apply wpList_nil
  rename_i K1 hK1
  refine hK1 _ _ ?_
  clear hK1 K1
  obtain ⟨b2, h2, z2⟩ := laid_row W1 140 (Array.replicate 27 (.int .i64 0)) toV.toArray
  generalize (W1.alloc (.cells (Array.replicate 27 (.int .i64 0)) 140)).setRow W1.heap.size toV.toArray = W2 at b2 h2 z2 ⊢
  have h3 := (b2.block w.heap.size (by omega)).trans h1
  rw [z1] at h2
  have HF := hid (row_range h3)
  have HT := hid (row_range h2)
  have hbw := b1.trans (b2.mono (by omega))
  rw [z1]
  clear h1 h2 h3 b1 b2 z2
  go_wp2
  go_loopw [5] (fun iv wr => ∃ k : Nat, iv = .int .i64 k ∧ k ≤ 27 ∧ wr = W2 ∧ Hid (remapL (remapT.drop k) v = r)) (fun iv _ => 27 - (RowKit.intOf iv).toNat)
  case atStart =>
    exact ⟨0, rfl, by omega, rfl, HR.out⟩
  case round =>
    obtain ⟨k, rfl, hk, rfl, HA⟩ := hrel
    by_cases hp : k < 27
    · have hl : k < remapT.length := hp
      obtain ⟨a, b, hab⟩ : ∃ a b, remapT[k] = (a, b) := ⟨_, _, rfl⟩
      have cf := HF.out k (.int .i64 a) (by unfold fromV; rw [List.getElem?_map, List.getElem?_eq_getElem hl, hab]; rfl)
      have ct := HT.out k (.int .i64 b) (by unfold toV; rw [List.getElem?_map, List.getElem?_eq_getElem hl, hab]; rfl)
      have hd := List.drop_eq_getElem_cons hl
      rw [hab] at hd
      have HB := HA.out
      rw [hd, remapL] at HB
      rw [Nat.zero_add] at cf ct
      clear HA hab hd
      by_cases hav : a = v
      · subst hav
        rw [if_pos rfl] at HB
        replace HB := hid HB
        go_wp2
        go_ret
        exact ⟨ret_i64 HB.out, hbw⟩
      · rw [if_neg hav] at HB
        replace HB := hid HB
        have q : (a == v) = false := beq_eq_false_iff_ne.2 hav
        go_wp2
        go_roundw
        case rel => exact ⟨k + 1, rfl, by omega, by first | rfl | trivial, HB⟩
        case measure => simp [RowKit.intOf]; omega
    · have HB : Hid (v = r) := by
        have := HA.out
        rw [List.drop_of_length_le (show remapT.length ≤ k by have : remapT.length = 27 := rfl; omega)] at this
        exact this
      clear HA
      go_wp2
      go_ret
      exact ⟨ret_i64 HB.out, hbw⟩
end Go.Proofs.YtndglhflbenloaaGreatDoor
