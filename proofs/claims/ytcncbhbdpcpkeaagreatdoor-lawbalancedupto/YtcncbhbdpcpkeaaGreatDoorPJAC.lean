/-
  Parts of the walk, joined: Decode.
-/
import Derived.Test.YtcncbhbdpcpkeaaGreatDoorPJAB
/-
  chars.decode: its walk: the text, what is left over, and the CR.
-/
namespace Go.Proofs.YtcncbhbdpcpkeaaGreatDoor
open Go.RowKit Go.Lib

theorem step_rel {more cr : Bool} {R : List UInt8 × List UInt8 × Bool} {s : ByteArray} {pos c n : Nat} {acc : List UInt8} (hd : Utf8.decode s pos = (c, n)) (hp : pos < s.size)
    (hns : stopL more (s.data.toList.drop pos) = false) (h : (acc ++ (rd more cr (s.data.toList.drop pos)).1, (rd more cr (s.data.toList.drop pos)).2) = R) :
    ((acc ++ unitL cr c) ++ (rd more (c == 13) (s.data.toList.drop (pos + n))).1, (rd more (c == 13) (s.data.toList.drop (pos + n))).2) = R := by
  have hne : s.data.toList.drop pos ≠ [] := by
    intro h0
    have := congrArg List.length h0
    rw [List.length_drop, ← size_eq] at this
    simp at this; omega
  have e : decodeL (s.data.toList.drop pos) = (c, n) := (decodeL_drop s pos).trans hd
  rw [rd_step more cr _ hne hns, e] at h
  rw [← h, List.drop_drop]
  simp
theorem step_width {s : ByteArray} {pos c n : Nat} (hd : Utf8.decode s pos = (c, n)) (hp : pos < s.size) : 1 ≤ n ∧ pos + n ≤ s.size ∧ c ≤ 1114111 := by
  have hne : s.data.toList.drop pos ≠ [] := by
    intro h0
    have := congrArg List.length h0
    rw [List.length_drop, ← size_eq] at this
    simp at this; omega
  have e : decodeL (s.data.toList.drop pos) = (c, n) := (decodeL_drop s pos).trans hd
  have h1 := width_le _ hne
  have h2 := rune_le (s.data.toList.drop pos)
  rw [e] at h1 h2
  rw [List.length_drop, ← size_eq] at h1
  simp only at h1 h2
  omega
theorem step_end {more cr : Bool} {R : List UInt8 × List UInt8 × Bool} {s : ByteArray} {pos : Nat} {acc : List UInt8} (hp : ¬ pos < s.size)
    (h : (acc ++ (rd more cr (s.data.toList.drop pos)).1, (rd more cr (s.data.toList.drop pos)).2) = R) : (acc, [], cr) = R := by
  have h0 : s.data.toList.drop pos = [] := List.drop_eq_nil_of_le (by rw [← size_eq]; omega)
  rw [h0, rd_nil] at h
  simpa using h
theorem unit_cr {cr : Bool} : unitL cr 13 = [10] := by simp [unitL]
theorem unit_eat : unitL true 10 = [] := by simp [unitL]
theorem unit_good {cr : Bool} {c : Nat} (h : goodB c = true) (h1 : ¬ (c = 10 ∧ cr = true)) : unitL cr c = encodeRune c := by
  unfold unitL
  rw [if_neg (by rintro rfl; revert h; decide), if_neg h1, if_pos h]
theorem unit_bad {cr : Bool} {c : Nat} (h : goodB c = false) (h0 : c ≠ 13) (h1 : ¬ (c = 10 ∧ cr = true)) : unitL cr c = encodeRune 65533 := by
  unfold unitL
  rw [if_neg h0, if_neg h1, if_neg (by simp [h])]

theorem first_block (w : World) (a b c : Obj) : (((w.alloc a).alloc b).alloc c).heap[w.heap.size]? = some a := by
  have h1 : ((w.alloc a).alloc b).heap[w.heap.size]? = some a := by
    rw [alloc_old (w.alloc a) b w.heap.size (by simp)]
    show (w.heap.push a)[w.heap.size]? = some a
    simp
  rw [alloc_old _ c w.heap.size (by simp; omega)]
  exact h1
theorem builder_start (w : World) (a c : Obj) (T e : TypeId) (_h : 0 ≤ w.heap.size) : Lib.IsBuilderF T e w.heap.size (w.heap.size + 1) (Lib.byteCells []) (((w.alloc a).alloc (.cells #[.pointer none, .slice none 0 0] T)).alloc c) := by
  have h1 : ((w.alloc a).alloc (.cells #[.pointer none, .slice none 0 0] T)).heap[w.heap.size + 1]? = some (.cells #[.pointer none, .slice none 0 0] T (0, 0)) := by
    have := heap_alloc_new (w.alloc a) (.cells #[.pointer none, .slice none 0 0] T)
    simpa using this
  refine Lib.IsBuilderF.of (Or.inl ⟨Nat.le_succ _, .slice none 0 0, ?_, World.ownsRow_nil _ _ _ _, by simp [Value.ownBlock]⟩)
  rw [Lib.alloc_old _ c _ (by simp)]
  exact h1
set_option maxHeartbeats 8000000 in
set_option maxRecDepth 100000 in
theorem decode_false (s : ByteArray) (cr : Bool) (w : World) (hs : s.size ≤ 35184372088832) :
    Calls Tryz.prog 225 #[.string s, .bool cr, .bool false] w fun e w' =>
      e = .returned (.tuple #[.agg #[.string ⟨(rd false cr s.data.toList).2.1.toArray⟩, .bool (rd false cr s.data.toList).2.2], .string ⟨(rd false cr s.data.toList).1.toArray⟩]) ∧ Below w.heap.size w w' := by
  obtain ⟨R, hR⟩ : ∃ R, rd false cr s.data.toList = R := ⟨_, rfl⟩
  rw [hR]
  have HR : Hid (rd false cr s.data.toList = R) := hR
  clear hR
  obtain ⟨R1, R2, R3⟩ := R
  go_enter Tryz.func225, Tryz.ntmps225
  go_wp2
  go_loopw [1] (fun crv wr => ∃ (pos : Nat) (acc : List UInt8) (cr1 : Bool), crv = .bool cr1 ∧ Lib.IsBuilderF 67 5 w.heap.size (w.heap.size + 1) (Lib.byteCells acc) wr ∧ wr.heap[w.heap.size + 2]? = some (.stringIter s pos) ∧ wr.heap[w.heap.size]? = some (.cells #[.string .empty, .bool false] 245 (0, 0)) ∧ Below w.heap.size w wr ∧ Hid ((acc ++ (rd false cr1 (s.data.toList.drop pos)).1, (rd false cr1 (s.data.toList.drop pos)).2) = (R1, R2, R3)) ∧ acc.length ≤ 4 * pos ∧ pos ≤ s.size) (fun _ wr => s.size - wr.iterPos (w.heap.size + 2))
  case atStart =>
    refine ⟨0, [], cr, rfl, ?_, ?_, ?_, ?_, HR.out, by simp, Nat.zero_le _⟩
    · exact builder_start w _ _ _ _ (by omega)
    · have := World.iter_heap ((w.alloc (.cells #[.string ⟨#[]⟩, .bool false] 245)).alloc (.cells #[.pointer none, .slice none 0 0] 67)) s 0
      simpa using this
    · exact first_block w _ _ _
    · exact (((Below.refl _ w).alloc (Nat.le_refl _) _).alloc (by simp) _).alloc (by simp; omega) _
  case round =>
    obtain ⟨pos, acc, cr1, rfl, hI, hit, hres, hbw, HA, hal, hps⟩ := hrel
    have hsz : w.heap.size + 2 < wr.heap.size := (Array.getElem?_eq_some_iff.1 hit).1
    by_cases hp : pos < s.size
    · obtain ⟨c, n, hd⟩ : ∃ c n, Utf8.decode s pos = (c, n) := ⟨_, _, rfl⟩
      obtain ⟨hw1, hw2, hw3⟩ := step_width hd hp
      have hnx : ∀ ty, (Instr.next (.pointer (some ⟨w.heap.size + 2, 0, none⟩)) true ty).run Tryz.prog wr = .ok (.tuple #[.bool true, .int .i64 pos, .int .i32 c]) (wr.iterAt (w.heap.size + 2) s (pos + n)) := fun ty => by
        have := Lib.run_next_any_at (P := Tryz.prog) wr (w.heap.size + 2) s pos ty hit hp
        rwa [hd] at this
      have hI2 := hI.iterAt hit (pos + n)
      have hit2 := Lib.iterAt_heap wr (w.heap.size + 2) s pos (pos + n) hit
      have hres2 := (Lib.iterAt_other wr (w.heap.size + 2) w.heap.size s (pos + n) (by omega)).trans hres
      have hbw2 := Lib.below_iterAt hbw (k := w.heap.size + 2) (by omega) s (pos + n)
      have hsz2 : w.heap.size ≤ (wr.iterAt (w.heap.size + 2) s (pos + n)).heap.size := by rw [Lib.iterAt_size]; omega
      have HA2 : Hid _ := step_rel hd hp rfl HA.out
      clear hd HA
      by_cases h13 : c = 13
      · subst h13
        go_wp2_with (go_at_call 260; refine (Tryz.Builder_WriteByte_k w.heap.size (w.heap.size + 1) _ 10 _ hI2 (by rw [Lib.byteCells_length]; omega) hsz2).mono ?_)
        rintro e W1 ⟨rfl, h1, b1, k1⟩
        go_wp2
        go_roundw
        case rel =>
          refine ⟨pos + n, acc ++ [10], true, rfl, ?_, k1.iter hit2 (by omega), ?_, hbw2.trans b1, ?_, by simp; omega, hw2⟩
          · rw [Lib.byteCells_append]; exact Or.inr h1
          · exact k1 _ _ hres2 (by simp) (by simp)
          · have := HA2.out; rw [unit_cr] at this; exact this
        case measure =>
          simp only [World.iterPos, k1.iter hit2 (by omega), hit]
          omega
      · have q13 : ((c : Int) == 13) = false := beq_eq_false_iff_ne.2 (by omega)
        have e13 : (c == 13) = false := beq_eq_false_iff_ne.2 h13
        rw [e13] at HA2
        clear e13
        by_cases h10 : c = 10
        · subst h10
          cases cr1
          · have hg : goodB 10 = true := by decide
            go_wp2_with (first | (go_at_call 261; refine (good_any _ (by omega) (by omega) _).mono ?_; rintro e w' ⟨rfl, rfl⟩) | (go_at_call 195; refine (Tryz.Builder_WriteRune_k w.heap.size (w.heap.size + 1) _ 10 (by omega) (by omega) _ hI2 (by rw [Lib.byteCells_length]; omega) hsz2).mono ?_))
            rintro e W1 ⟨rfl, h1, b1, k1⟩
            go_wp2
            go_roundw
            case rel =>
              have hl4 := Lib.runeCells_le 10
              rw [Lib.runeCells_length] at hl4
              refine ⟨pos + n, acc ++ encodeRune 10, false, rfl, ?_, k1.iter hit2 (by omega), ?_, hbw2.trans b1, ?_, by simp; omega, hw2⟩
              · rw [Lib.byteCells_append, Lib.byteCells_encodeRune]; exact Or.inr h1
              · exact k1 _ _ hres2 (by simp) (by simp)
              · have := HA2.out; rw [unit_good (by decide) (by simp)] at this; exact this
            case measure =>
              simp only [World.iterPos, k1.iter hit2 (by omega), hit]
              omega
          · go_wp2
            go_roundw
            case rel =>
              refine ⟨pos + n, acc, false, rfl, hI2, hit2, hres2, hbw2, ?_, by omega, hw2⟩
              have := HA2.out; rw [unit_eat, List.append_nil] at this; exact this
            case measure =>
              simp only [World.iterPos, hit2, hit]
              omega
        · have q10 : ((c : Int) == 10) = false := beq_eq_false_iff_ne.2 (by omega)
          by_cases hg : goodB c = true
          · skip
            go_wp2_with (first | (go_at_call 261; refine (good_any _ (by omega) (by omega) _).mono ?_; rintro e w' ⟨rfl, rfl⟩) | (go_at_call 195; refine (Tryz.Builder_WriteRune_k w.heap.size (w.heap.size + 1) _ (c : Int) (by omega) (by omega) _ hI2 (by rw [Lib.byteCells_length]; omega) hsz2).mono ?_))
            rintro e W1 ⟨rfl, h1, b1, k1⟩
            go_wp2
            go_roundw
            case rel =>
              have hl4 := Lib.runeCells_le (c : Int)
              rw [Lib.runeCells_length] at hl4
              refine ⟨pos + n, acc ++ encodeRune (c : Int), false, rfl, ?_, k1.iter hit2 (by omega), ?_, hbw2.trans b1, ?_, by simp; omega, hw2⟩
              · rw [Lib.byteCells_append, Lib.byteCells_encodeRune]; exact Or.inr h1
              · exact k1 _ _ hres2 (by simp) (by simp)
              · have := HA2.out; rw [unit_good hg (fun h => h10 h.1)] at this; exact this
            case measure =>
              simp only [World.iterPos, k1.iter hit2 (by omega), hit]
              omega
          · have hg2 : goodB c = false := by simpa using hg
            clear hg
            go_wp2_with (first | (go_at_call 261; refine (good_any _ (by omega) (by omega) _).mono ?_; rintro e w' ⟨rfl, rfl⟩) | (go_at_call 195; refine (Tryz.Builder_WriteRune_k w.heap.size (w.heap.size + 1) _ 65533 (by omega) (by omega) _ hI2 (by rw [Lib.byteCells_length]; omega) hsz2).mono ?_))
            rintro e W1 ⟨rfl, h1, b1, k1⟩
            go_wp2
            go_roundw
            case rel =>
              have hl4 := Lib.runeCells_le 65533
              rw [Lib.runeCells_length] at hl4
              refine ⟨pos + n, acc ++ encodeRune 65533, false, rfl, ?_, k1.iter hit2 (by omega), ?_, hbw2.trans b1, ?_, by simp; omega, hw2⟩
              · rw [Lib.byteCells_append, Lib.byteCells_encodeRune]; exact Or.inr h1
              · exact k1 _ _ hres2 (by simp) (by simp)
              · have := HA2.out; rw [unit_bad hg2 h13 (fun h => h10 h.1)] at this; exact this
            case measure =>
              simp only [World.iterPos, k1.iter hit2 (by omega), hit]
              omega
    · have hnx : ∀ ty, (Instr.next (.pointer (some ⟨w.heap.size + 2, 0, none⟩)) true ty).run Tryz.prog wr = _ := fun ty => Lib.run_next_end_at wr (w.heap.size + 2) s pos ty hit hp
      have HE : Hid _ := step_end hp HA.out
      clear HA
      go_wp2_with (go_at_call 33; refine (Tryz.Builder_String_any_k w.heap.size (w.heap.size + 1) acc _ hI (by omega)).mono ?_)
      rintro e W1 ⟨rfl, _, b1, k1⟩
      have hres3 := k1 _ _ hres (by simp) (by simp)
      have c0 : W1.cell? ⟨w.heap.size, 0, none⟩ = some (.string .empty) := by rw [Lib.cell_of_heap hres3]; rfl
      have c1 : W1.cell? ⟨w.heap.size, 1, none⟩ = some (.bool false) := by rw [Lib.cell_of_heap hres3]; rfl
      have f0 : W1.frozen? ⟨w.heap.size, 0, none⟩ = false := Lib.frozen_of_heap hres3 0
      have f1 : W1.frozen? ⟨w.heap.size, 1, none⟩ = false := Lib.frozen_of_heap hres3 1
      have hsh : W1.shape? w.heap.size = some (245, 2) := by simp [World.shape?, hres3]
      go_wp2
      obtain ⟨rfl, rfl, rfl⟩ : R1 = acc ∧ R2 = [] ∧ R3 = cr1 := by
        have := HE.out
        simp only [Prod.mk.injEq] at this
        exact ⟨this.1.symm, this.2.1.symm, this.2.2.symm⟩
      refine bodyPost_ret (v := .tuple #[.agg #[.string ⟨#[]⟩, .bool R3], .string ⟨R1.toArray⟩]) ?_ rfl ⟨rfl, ?_⟩
      · simp [results, Tryz.results225, go_sem, c0, c1]
      · exact ((hbw.trans b1).setCell (by simp) _).setCell (by simp) _
end Go.Proofs.YtcncbhbdpcpkeaaGreatDoor
