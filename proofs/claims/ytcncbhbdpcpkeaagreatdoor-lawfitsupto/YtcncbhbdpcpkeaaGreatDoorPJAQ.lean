/-
  Parts of the walk, joined: InBuilder, Decode.
-/
import Derived.Test.YtcncbhbdpcpkeaaGreatDoorShelf
import Derived.Laws.Tables
import Derived.Lib.Builder
import Derived.Lib.FrozenHead2
import Derived.Lib.OthersKept
import Derived.Test.YtcncbhbdpcpkeaaGreatDoorPJAA
import Derived.Test.YtcncbhbdpcpkeaaGreatDoorPJAG
import Derived.Test.YtcncbhbdpcpkeaaGreatDoorPJAB
/-
  A strings.Builder that lies inside another block, at some offset: its methods' walks.
-/
namespace Go.Proofs.YtcncbhbdpcpkeaaGreatDoor
open Go.RowKit Go.Lib Own

theorem just_same {W : World} {b : Nat} {cs : Array Value} {T : TypeId} (h : W.heap[b]? = some (.cells cs T (0, 0))) : Just W W b cs T := ⟨rfl, rfl, rfl, rfl, h, fun _ _ => rfl⟩
theorem shape_at {W : World} {b : Nat} {cs : Array Value} {T : TypeId} (h : W.heap[b]? = some (.cells cs T (0, 0))) : W.shape? b = some (T, cs.size) := by
  simp [World.shape?, h]
theorem set_same {cs : Array Value} {j : Nat} {v : Value} (h : cs[j]? = some v) : cs.setIfInBounds j v = cs := by
  obtain ⟨h1, h2⟩ := Array.getElem?_eq_some_iff.1 h
  subst h2
  simp [Array.setIfInBounds, h1]
theorem builder_info : ∃ j, Tryz.prog.info? 67 = some j ∧ j.size = 2 := by
  have h : (Tryz.prog.info? 67).map (·.size) = some 2 := by kernel_rfl
  obtain ⟨j, h1, h2⟩ := Option.map_eq_some_iff.1 h
  exact ⟨j, h1, h2⟩

set_option maxHeartbeats 1000000 in
set_option maxRecDepth 100000 in
theorem copy_in (b o : Nat) (cs : Array Value) (T : TypeId) (p : Value) (w : World) (hb : w.heap[b]? = some (.cells cs T (0, 0))) (hp : cs[o]? = some p) (hpp : p = .pointer none ∨ p = .pointer (some ⟨b, o, none⟩))
    (hl : liesAt Tryz.prog Tryz.prog.depth T (cs.size / Tryz.prog.cellsOf T) o 67 1 = true) :
    Calls Tryz.prog 132 #[.pointer (some ⟨b, o, none⟩)] w fun e w' => e = .returned (.tuple #[]) ∧ Just w w' b (cs.setIfInBounds o (.pointer (some ⟨b, o, none⟩))) T := by
  obtain ⟨j, hj, hjs⟩ := builder_info
  have h0 := cell_at hb hp
  have hfz := free_at hb o
  have hsh := shape_at hb
  have hoff := (Array.getElem?_eq_some_iff.1 hp).1
  rcases hpp with rfl | rfl
  · go_enter Tryz.func132, Tryz.ntmps132
    go_wp2
    rw [Lib.run_to_unsafe w ⟨b, o, none⟩ Tryz.underlying64 Tryz.underlying219 hj (by rw [hjs]; decide) hsh hoff]
    simp only [Result.andThen]
    rw [Oper.upon_value]
    go_wp2
    rw [run_callFunc_extern Tryz.func185 (by kernel_rfl) (by kernel_rfl) (by kernel_rfl) (e := Extern.AbiNoEscape.same) (by kernel_rfl)]
    rw [Lib.run_noEscape]
    simp only [Result.andThen]
    rw [Oper.upon_value]
    go_wp2
    rw [Lib.run_from_unsafe w ⟨b, o, none⟩ Tryz.underlying219 Tryz.underlying64 hj hsh hl]
    simp only [Result.andThen]
    rw [Oper.upon_value]
    go_wp2
    go_end0
    exact ⟨rfl, just_set hb _⟩
  · go_enter Tryz.func132, Tryz.ntmps132
    go_wp2
    rw [Lib.run_neq_ptr_same w _ Tryz.underlying64 hj]
    go_wp2
    go_end0
    exact ⟨rfl, by rw [set_same hp]; exact just_same hb⟩
/-- a builder at cell o of block b, whose bytes lie in a row of the call's own -/
structure InB (W : World) (base b o : Nat) (cs : Array Value) (T : TypeId) (p v : Value) (bs : List UInt8) : Prop where
  at_ : W.heap[b]? = some (.cells cs T (0, 0))
  lo : base ≤ b
  cp : cs[o]? = some p
  cv : cs[o + 1]? = some v
  hp : p = .pointer none ∨ p = .pointer (some ⟨b, o, none⟩)
  own : W.ownsRowF base 5 1 v bs.length (byteCells bs)
  ne : v.ownBlock ≠ some b
theorem Just.below {W W' : World} {b : Nat} {cs : Array Value} {T : TypeId} (h : Just W W' b cs T) {base : Nat} (hb : base ≤ b) : Below base W W' :=
  ⟨h.os, h.tape, h.output, by rw [h.size]; exact Nat.le_refl _, fun k hk => h.other k (by omega)⟩

set_option maxHeartbeats 2000000 in
set_option maxRecDepth 100000 in
theorem write_in (base b o : Nat) (cs : Array Value) (T : TypeId) (p v : Value) (bs : List UInt8) (s : ByteArray) (w : World) (h : InB w base b o cs T p v bs)
    (hl : liesAt Tryz.prog Tryz.prog.depth T (cs.size / Tryz.prog.cellsOf T) o 67 1 = true) (hT : T ≠ 5) (hlen : bs.length + s.size ≤ 140737488355328) :
    Calls Tryz.prog 69 #[.pointer (some ⟨b, o, none⟩), .string s] w fun e w' => e = .returned (.tuple #[.int .i64 s.size, .nilIface]) ∧
      ∃ v', InB w' base b o ((cs.setIfInBounds o (.pointer (some ⟨b, o, none⟩))).setIfInBounds (o + 1) v') T (.pointer (some ⟨b, o, none⟩)) v' (bs ++ s.data.toList) ∧ Below base w w' ∧
        ∀ k, k < w.heap.size → k ≠ b → v.ownBlock ≠ some k → w'.heap[k]? = w.heap[k]? := by
  obtain ⟨i0, hi, hz0, hz1, hz2⟩ := info_parts info_u8
  obtain ⟨hat, hlo, hcp, hcv, hpp, hown, hne⟩ := h
  have hcopy := copy_in b o cs T p w hat hcp hpp hl
  have hbs : b < w.heap.size := (Array.getElem?_eq_some_iff.1 hat).1
  have hsz := (Array.getElem?_eq_some_iff.1 hcv).1
  have HC := hid hcopy
  clear hcopy
  go_enter Tryz.func69, Tryz.ntmps69
  go_wp2_with fail
  refine HC.out.mono ?_
  rintro e w1 ⟨rfl, j1⟩
  obtain ⟨cs1, hcs1⟩ : ∃ cs1, cs.setIfInBounds o (.pointer (some ⟨b, o, none⟩)) = cs1 := ⟨_, rfl⟩
  have hv1 : cs1[o + 1]? = some v := by
    rw [← hcs1, Array.getElem?_setIfInBounds, if_neg (by omega)]
    exact hcv
  have hp1 : cs1[o]? = some (.pointer (some ⟨b, o, none⟩)) := by
    rw [← hcs1, Array.getElem?_setIfInBounds, if_pos rfl, if_pos (by omega)]
  rw [hcs1] at j1
  have c1 := cell_at j1.at_ hv1
  have hg1 : w.grownBy w1 (some b) := ⟨j1.os, j1.tape, j1.output, by rw [j1.size]; exact Nat.le_refl _, fun k _ hk => j1.other k (fun e => hk (by rw [e]))⟩
  have hown1 := hown.kept hg1 (.inr hne)
  have hbel1 := j1.below hlo
  have hb1 := j1.at_
  have hoth1 := j1.other
  have hbs1 : b < w1.heap.size := by rw [j1.size]; exact hbs
  have hle1 : w.heap.size ≤ w1.heap.size := by rw [j1.size]; exact Nat.le_refl _
  clear HC hown hg1 j1 hat
  go_wp2_with (at_builtin; refine Lib.wpList_append_own_stringF _ rfl _ _ 65 9 rfl base 5 i0 Tryz.underlying65 Tryz.underlying9 hi hz0 hz1 hz2 _ _ _ rfl hown1 s rfl ?c3 ?c4 ?c5 ?_)
  case c3 => unfold maxLen; omega
  case c4 => omega
  case c5 => omega
  intro v' w2 hown' hgrow _
  have hb2 : w2.heap[b]? = some (.cells cs1 T (0, 0)) := by
    rw [hgrow.block b hbs1 (fun e => hne e.symm)]
    exact hb1
  have hne' : v'.ownBlock ≠ some b := by
    intro he
    rcases hown'.2 with ⟨rfl, _⟩ | ⟨g, cap, cur, fz, rfl, _, hg, _⟩
    · cases he
    · simp only [Value.ownBlock, Option.some.injEq] at he
      subst he
      rw [hg] at hb2
      simp only [Option.some.injEq, Obj.cells.injEq] at hb2
      exact hT hb2.2.1.symm
  have d1 := cell_at hb2 hv1
  have f1 := free_at hb2 (o + 1)
  have hbw2 : Below base w w2 := hbel1.grown hgrow (by omega) (fun k hk => (hown1.lt k hk).1)
  have hsz2 : w1.heap.size ≤ w2.heap.size := hgrow.size
  have hkeep : ∀ k, k < w.heap.size → k ≠ b → v.ownBlock ≠ some k → w2.heap[k]? = w.heap[k]? := fun k hk h1 h2 => (hgrow.block k (by omega) (fun e => h2 e.symm)).trans (hoth1 k h1)
  obtain ⟨ao, n', cap, rfl⟩ : ∃ ao n' cap, v' = .slice ao n' cap := by
    rcases hown'.2 with ⟨hv, _⟩ | ⟨g, cap, cur, fz, hv, _⟩
    · exact ⟨_, _, _, hv⟩
    · exact ⟨_, _, _, hv⟩
  have hj2 := just_set (j := o + 1) hb2 (.slice ao n' cap)
  have hown2 := hown'.kept (w' := w2.setCell ⟨b, o + 1, none⟩ (.slice ao n' cap)) (row := some b) ⟨hj2.os, hj2.tape, hj2.output, by rw [hj2.size]; exact Nat.le_refl _, fun k _ hk => hj2.other k (fun e => hk (by rw [e]))⟩ (.inr hne')
  go_wp2
  go_ret2
  subst hcs1
  refine ⟨rfl, .slice ao n' cap, ⟨hj2.at_, hlo, ?_, ?_, .inr rfl, ?_, hne'⟩, hbw2.trans (hj2.below hlo), fun k hk h1 h2 => (hj2.other k h1).trans (hkeep k hk h1 h2)⟩
  · rw [Array.getElem?_setIfInBounds, if_neg (by omega)]; exact hp1
  · rw [Array.getElem?_setIfInBounds, if_pos rfl, if_pos (Array.getElem?_eq_some_iff.1 hv1).1]
  · rw [byteCells_append, List.length_append, ← size_eq]
    exact hown2

theorem freeze_other (w : World) (g n k : Nat) (hk : k ≠ g) : (w.freeze ⟨g, 0, none⟩ n).heap[k]? = w.heap[k]? := by
  unfold World.freeze
  split
  · rfl
  · simp only [Array.getElem?_modify]
    rw [if_neg (fun e => hk e.symm)]
set_option maxHeartbeats 2000000 in
set_option maxRecDepth 100000 in
theorem string_in (base b o : Nat) (cs : Array Value) (T : TypeId) (p v : Value) (bs : List UInt8) (w : World) (h : InB w base b o cs T p v bs) (h0 : bs ≠ []) :
    Calls Tryz.prog 33 #[.pointer (some ⟨b, o, none⟩)] w fun e w' => e = .returned (.string ⟨bs.toArray⟩) ∧ w'.heap[b]? = some (.cells cs T (0, 0)) ∧ Below base w w' ∧
      ∀ k, k ≠ b → v.ownBlock ≠ some k → w'.heap[k]? = w.heap[k]? := by
  obtain ⟨hat, hlo, hcp, hcv, hpp, hown, hne⟩ := h
  have hl0 : bs.length ≠ 0 := by simpa using h0
  obtain ⟨g, cap, cur, fz, rfl, hbg, hg, hfz, hnc, hcm, hcs, htake⟩ : ∃ g cap cur fz, v = .slice (some ⟨g, 0, none⟩) bs.length cap ∧ base ≤ g ∧ w.heap[g]? = some (.cells cur 5 fz) ∧ fz.2 ≤ bs.length * 1 ∧ bs.length ≤ cap ∧ cap ≤ maxLen ∧ cur.size = cap * 1 ∧ cur.toList.take (bs.length * 1) = byteCells bs := by
    rcases hown.2 with ⟨_, hz⟩ | ⟨g, cap, cur, fz, hv, r⟩
    · exact absurd hz hl0
    · exact ⟨g, cap, cur, fz, hv, r⟩
  have hgb : g ≠ b := fun e => hne (by simp [Value.ownBlock, e])
  have c1 : w.drew.cell? ⟨b, o + 1, none⟩ = some (.slice (some ⟨g, 0, none⟩) bs.length cap) := cell_at hat hcv
  have hSD : (Builtin.unsafeSliceData_ #[65] 129 #[.slice (some ⟨g, 0, none⟩) bs.length cap]).run Tryz.prog w.drew = .ok (.pointer (some ⟨g, 0, none⟩)) w.drew :=
    Lib.run_unsafeSliceData_row _ _ _ _ _ _ (by omega)
  have hUS : (Builtin.unsafeString_ #[129, 3] 9 #[.pointer (some ⟨g, 0, none⟩), .int .i64 bs.length]).run Tryz.prog w.drew = .ok (.string ⟨bs.toArray⟩) (w.drew.freeze ⟨g, 0, none⟩ bs.length) := by
    refine Lib.run_unsafeString_row w.drew 129 3 9 5 Tryz.underlying129 (by kernel_rfl) g cur.size (by have hg' : w.drew.heap[g]? = some (.cells cur 5 fz) := hg; simp [World.shape?, hg']) bs h0 (by omega) (by unfold maxLen at hcm; omega) ?_
    intro j x hx
    have := hown.cells (g := g) rfl j (.int .u8 x.toNat) (by simp [Lib.byteCells, hx])
    exact this
  have hb2 : (w.drew.freeze ⟨g, 0, none⟩ bs.length).heap[b]? = some (.cells cs T (0, 0)) := (freeze_other w.drew g bs.length b (fun e => hgb e.symm)).trans hat
  have hk2 : ∀ k, k ≠ b → (Value.slice (some ⟨g, 0, none⟩) bs.length cap).ownBlock ≠ some k → (w.drew.freeze ⟨g, 0, none⟩ bs.length).heap[k]? = w.heap[k]? := fun k _ hk => freeze_other w.drew g bs.length k (fun e => hk (by simp [Value.ownBlock, e]))
  have hbel : Below base w (w.drew.freeze ⟨g, 0, none⟩ bs.length) := Lib.below_freeze (Below.drew (Below.refl base w)) (p := ⟨g, 0, none⟩) hbg _
  have HB := hid hb2
  have HK := hid hk2
  clear hb2 hk2 hown htake
  go_enter Tryz.func33, Tryz.ntmps33
  go_wp2
  go_region
  all_goals (go_wp2; go_ret; exact ⟨rfl, HB.out, hbel, HK.out⟩)
end Go.Proofs.YtcncbhbdpcpkeaaGreatDoor

/-
  chars.decode: its walk: the text, what is left over, and the CR.
-/
namespace Go.Proofs.YtcncbhbdpcpkeaaGreatDoor
open Go.RowKit Go.Lib

theorem step_rel {more cr : Bool} {R : List UInt8 × List UInt8 × Bool} {s : ByteArray} {pos c n : Nat} {acc : List UInt8} (hd : Utf8.decode s pos = (c, n)) (hp : pos < s.size)
    (hns : stopL more (s.data.toList.drop pos) = false) (h : (acc ++ (rd more cr (s.data.toList.drop pos)).1, (rd more cr (s.data.toList.drop pos)).2) = R) :
    ((acc ++ unitL cr c) ++ (rd more (c == 13) (s.data.toList.drop (pos + n))).1, (rd more (c == 13) (s.data.toList.drop (pos + n))).2) = R := by
  have hne : s.data.toList.drop pos ≠ [] := by
    intro h0
    have := congrArg List.length h0
    rw [List.length_drop, ← size_eq] at this
    simp at this; omega
  have e : decodeL (s.data.toList.drop pos) = (c, n) := (decodeL_drop s pos).trans hd
  rw [rd_step more cr _ hne hns, e] at h
  rw [← h, List.drop_drop]
  simp
theorem step_width {s : ByteArray} {pos c n : Nat} (hd : Utf8.decode s pos = (c, n)) (hp : pos < s.size) : 1 ≤ n ∧ pos + n ≤ s.size ∧ c ≤ 1114111 := by
  have hne : s.data.toList.drop pos ≠ [] := by
    intro h0
    have := congrArg List.length h0
    rw [List.length_drop, ← size_eq] at this
    simp at this; omega
  have e : decodeL (s.data.toList.drop pos) = (c, n) := (decodeL_drop s pos).trans hd
  have h1 := width_le _ hne
  have h2 := rune_le (s.data.toList.drop pos)
  rw [e] at h1 h2
  rw [List.length_drop, ← size_eq] at h1
  simp only at h1 h2
  omega
theorem step_end {more cr : Bool} {R : List UInt8 × List UInt8 × Bool} {s : ByteArray} {pos : Nat} {acc : List UInt8} (hp : ¬ pos < s.size)
    (h : (acc ++ (rd more cr (s.data.toList.drop pos)).1, (rd more cr (s.data.toList.drop pos)).2) = R) : (acc, [], cr) = R := by
  have h0 : s.data.toList.drop pos = [] := List.drop_eq_nil_of_le (by rw [← size_eq]; omega)
  rw [h0, rd_nil] at h
  simpa using h
theorem unit_cr {cr : Bool} : unitL cr 13 = [10] := by simp [unitL]
theorem unit_eat : unitL true 10 = [] := by simp [unitL]
theorem unit_good {cr : Bool} {c : Nat} (h : goodB c = true) (h1 : ¬ (c = 10 ∧ cr = true)) : unitL cr c = encodeRune c := by
  unfold unitL
  rw [if_neg (by rintro rfl; revert h; decide), if_neg h1, if_pos h]
theorem unit_bad {cr : Bool} {c : Nat} (h : goodB c = false) (h0 : c ≠ 13) (h1 : ¬ (c = 10 ∧ cr = true)) : unitL cr c = encodeRune 65533 := by
  unfold unitL
  rw [if_neg h0, if_neg h1, if_neg (by simp [h])]

theorem first_block (w : World) (a b c : Obj) : (((w.alloc a).alloc b).alloc c).heap[w.heap.size]? = some a := by
  have h1 : ((w.alloc a).alloc b).heap[w.heap.size]? = some a := by
    rw [alloc_old (w.alloc a) b w.heap.size (by simp)]
    show (w.heap.push a)[w.heap.size]? = some a
    simp
  rw [alloc_old _ c w.heap.size (by simp; omega)]
  exact h1
theorem builder_start (w : World) (a c : Obj) (T e : TypeId) (_h : 0 ≤ w.heap.size) : Lib.IsBuilderF T e w.heap.size (w.heap.size + 1) (Lib.byteCells []) (((w.alloc a).alloc (.cells #[.pointer none, .slice none 0 0] T)).alloc c) := by
  have h1 : ((w.alloc a).alloc (.cells #[.pointer none, .slice none 0 0] T)).heap[w.heap.size + 1]? = some (.cells #[.pointer none, .slice none 0 0] T (0, 0)) := by
    have := heap_alloc_new (w.alloc a) (.cells #[.pointer none, .slice none 0 0] T)
    simpa using this
  refine Lib.IsBuilderF.of (Or.inl ⟨Nat.le_succ _, .slice none 0 0, ?_, World.ownsRow_nil _ _ _ _, by simp [Value.ownBlock]⟩)
  rw [Lib.alloc_old _ c _ (by simp)]
  exact h1
set_option maxHeartbeats 8000000 in
set_option maxRecDepth 100000 in
theorem decode_false (s : ByteArray) (cr : Bool) (w : World) (hs : s.size ≤ 35184372088832) :
    Calls Tryz.prog 225 #[.string s, .bool cr, .bool false] w fun e w' =>
      e = .returned (.tuple #[.agg #[.string ⟨(rd false cr s.data.toList).2.1.toArray⟩, .bool (rd false cr s.data.toList).2.2], .string ⟨(rd false cr s.data.toList).1.toArray⟩]) ∧ Below w.heap.size w w' := by
  obtain ⟨R, hR⟩ : ∃ R, rd false cr s.data.toList = R := ⟨_, rfl⟩
  rw [hR]
  have HR : Hid (rd false cr s.data.toList = R) := hR
  clear hR
  obtain ⟨R1, R2, R3⟩ := R
  go_enter Tryz.func225, Tryz.ntmps225
  go_wp2
  go_loopw [1] (fun crv wr => ∃ (pos : Nat) (acc : List UInt8) (cr1 : Bool), crv = .bool cr1 ∧ Lib.IsBuilderF 67 5 w.heap.size (w.heap.size + 1) (Lib.byteCells acc) wr ∧ wr.heap[w.heap.size + 2]? = some (.stringIter s pos) ∧ wr.heap[w.heap.size]? = some (.cells #[.string .empty, .bool false] 245 (0, 0)) ∧ Below w.heap.size w wr ∧ Hid ((acc ++ (rd false cr1 (s.data.toList.drop pos)).1, (rd false cr1 (s.data.toList.drop pos)).2) = (R1, R2, R3)) ∧ acc.length ≤ 4 * pos ∧ pos ≤ s.size) (fun _ wr => s.size - wr.iterPos (w.heap.size + 2))
  case atStart =>
    refine ⟨0, [], cr, rfl, ?_, ?_, ?_, ?_, HR.out, by simp, Nat.zero_le _⟩
    · exact builder_start w _ _ _ _ (by omega)
    · have := World.iter_heap ((w.alloc (.cells #[.string ⟨#[]⟩, .bool false] 245)).alloc (.cells #[.pointer none, .slice none 0 0] 67)) s 0
      simpa using this
    · exact first_block w _ _ _
    · exact (((Below.refl _ w).alloc (Nat.le_refl _) _).alloc (by simp) _).alloc (by simp; omega) _
  case round =>
    obtain ⟨pos, acc, cr1, rfl, hI, hit, hres, hbw, HA, hal, hps⟩ := hrel
    have hsz : w.heap.size + 2 < wr.heap.size := (Array.getElem?_eq_some_iff.1 hit).1
    by_cases hp : pos < s.size
    · obtain ⟨c, n, hd⟩ : ∃ c n, Utf8.decode s pos = (c, n) := ⟨_, _, rfl⟩
      obtain ⟨hw1, hw2, hw3⟩ := step_width hd hp
      have hnx : ∀ ty, (Instr.next (.pointer (some ⟨w.heap.size + 2, 0, none⟩)) true ty).run Tryz.prog wr = .ok (.tuple #[.bool true, .int .i64 pos, .int .i32 c]) (wr.iterAt (w.heap.size + 2) s (pos + n)) := fun ty => by
        have := Lib.run_next_any_at (P := Tryz.prog) wr (w.heap.size + 2) s pos ty hit hp
        rwa [hd] at this
      have hI2 := hI.iterAt hit (pos + n)
      have hit2 := Lib.iterAt_heap wr (w.heap.size + 2) s pos (pos + n) hit
      have hres2 := (Lib.iterAt_other wr (w.heap.size + 2) w.heap.size s (pos + n) (by omega)).trans hres
      have hbw2 := Lib.below_iterAt hbw (k := w.heap.size + 2) (by omega) s (pos + n)
      have hsz2 : w.heap.size ≤ (wr.iterAt (w.heap.size + 2) s (pos + n)).heap.size := by rw [Lib.iterAt_size]; omega
      have HA2 : Hid _ := step_rel hd hp rfl HA.out
      clear hd HA
      by_cases h13 : c = 13
      · subst h13
        go_wp2_with (go_at_call 260; refine (Tryz.Builder_WriteByte_k w.heap.size (w.heap.size + 1) _ 10 _ hI2 (by rw [Lib.byteCells_length]; omega) hsz2).mono ?_)
        rintro e W1 ⟨rfl, h1, b1, k1⟩
        go_wp2
        go_roundw
        case rel =>
          refine ⟨pos + n, acc ++ [10], true, rfl, ?_, k1.iter hit2 (by omega), ?_, hbw2.trans b1, ?_, by simp; omega, hw2⟩
          · rw [Lib.byteCells_append]; exact Or.inr h1
          · exact k1 _ _ hres2 (by simp) (by simp)
          · have := HA2.out; rw [unit_cr] at this; exact this
        case measure =>
          simp only [World.iterPos, k1.iter hit2 (by omega), hit]
          omega
      · have q13 : ((c : Int) == 13) = false := beq_eq_false_iff_ne.2 (by omega)
        have e13 : (c == 13) = false := beq_eq_false_iff_ne.2 h13
        rw [e13] at HA2
        clear e13
        by_cases h10 : c = 10
        · subst h10
          cases cr1
          · have hg : goodB 10 = true := by decide
            go_wp2_with (first | (go_at_call 261; refine (good_any _ (by omega) (by omega) _).mono ?_; rintro e w' ⟨rfl, rfl⟩) | (go_at_call 195; refine (Tryz.Builder_WriteRune_k w.heap.size (w.heap.size + 1) _ 10 (by omega) (by omega) _ hI2 (by rw [Lib.byteCells_length]; omega) hsz2).mono ?_))
            rintro e W1 ⟨rfl, h1, b1, k1⟩
            go_wp2
            go_roundw
            case rel =>
              have hl4 := Lib.runeCells_le 10
              rw [Lib.runeCells_length] at hl4
              refine ⟨pos + n, acc ++ encodeRune 10, false, rfl, ?_, k1.iter hit2 (by omega), ?_, hbw2.trans b1, ?_, by simp; omega, hw2⟩
              · rw [Lib.byteCells_append, Lib.byteCells_encodeRune]; exact Or.inr h1
              · exact k1 _ _ hres2 (by simp) (by simp)
              · have := HA2.out; rw [unit_good (by decide) (by simp)] at this; exact this
            case measure =>
              simp only [World.iterPos, k1.iter hit2 (by omega), hit]
              omega
          · go_wp2
            go_roundw
            case rel =>
              refine ⟨pos + n, acc, false, rfl, hI2, hit2, hres2, hbw2, ?_, by omega, hw2⟩
              have := HA2.out; rw [unit_eat, List.append_nil] at this; exact this
            case measure =>
              simp only [World.iterPos, hit2, hit]
              omega
        · have q10 : ((c : Int) == 10) = false := beq_eq_false_iff_ne.2 (by omega)
          by_cases hg : goodB c = true
          · skip
            go_wp2_with (first | (go_at_call 261; refine (good_any _ (by omega) (by omega) _).mono ?_; rintro e w' ⟨rfl, rfl⟩) | (go_at_call 195; refine (Tryz.Builder_WriteRune_k w.heap.size (w.heap.size + 1) _ (c : Int) (by omega) (by omega) _ hI2 (by rw [Lib.byteCells_length]; omega) hsz2).mono ?_))
            rintro e W1 ⟨rfl, h1, b1, k1⟩
            go_wp2
            go_roundw
            case rel =>
              have hl4 := Lib.runeCells_le (c : Int)
              rw [Lib.runeCells_length] at hl4
              refine ⟨pos + n, acc ++ encodeRune (c : Int), false, rfl, ?_, k1.iter hit2 (by omega), ?_, hbw2.trans b1, ?_, by simp; omega, hw2⟩
              · rw [Lib.byteCells_append, Lib.byteCells_encodeRune]; exact Or.inr h1
              · exact k1 _ _ hres2 (by simp) (by simp)
              · have := HA2.out; rw [unit_good hg (fun h => h10 h.1)] at this; exact this
            case measure =>
              simp only [World.iterPos, k1.iter hit2 (by omega), hit]
              omega
          · have hg2 : goodB c = false := by simpa using hg
            clear hg
            go_wp2_with (first | (go_at_call 261; refine (good_any _ (by omega) (by omega) _).mono ?_; rintro e w' ⟨rfl, rfl⟩) | (go_at_call 195; refine (Tryz.Builder_WriteRune_k w.heap.size (w.heap.size + 1) _ 65533 (by omega) (by omega) _ hI2 (by rw [Lib.byteCells_length]; omega) hsz2).mono ?_))
            rintro e W1 ⟨rfl, h1, b1, k1⟩
            go_wp2
            go_roundw
            case rel =>
              have hl4 := Lib.runeCells_le 65533
              rw [Lib.runeCells_length] at hl4
              refine ⟨pos + n, acc ++ encodeRune 65533, false, rfl, ?_, k1.iter hit2 (by omega), ?_, hbw2.trans b1, ?_, by simp; omega, hw2⟩
              · rw [Lib.byteCells_append, Lib.byteCells_encodeRune]; exact Or.inr h1
              · exact k1 _ _ hres2 (by simp) (by simp)
              · have := HA2.out; rw [unit_bad hg2 h13 (fun h => h10 h.1)] at this; exact this
            case measure =>
              simp only [World.iterPos, k1.iter hit2 (by omega), hit]
              omega
    · have hnx : ∀ ty, (Instr.next (.pointer (some ⟨w.heap.size + 2, 0, none⟩)) true ty).run Tryz.prog wr = _ := fun ty => Lib.run_next_end_at wr (w.heap.size + 2) s pos ty hit hp
      have HE : Hid _ := step_end hp HA.out
      clear HA
      go_wp2_with (go_at_call 33; refine (Tryz.Builder_String_any_k w.heap.size (w.heap.size + 1) acc _ hI (by omega)).mono ?_)
      rintro e W1 ⟨rfl, _, b1, k1⟩
      have hres3 := k1 _ _ hres (by simp) (by simp)
      have c0 : W1.cell? ⟨w.heap.size, 0, none⟩ = some (.string .empty) := by rw [Lib.cell_of_heap hres3]; rfl
      have c1 : W1.cell? ⟨w.heap.size, 1, none⟩ = some (.bool false) := by rw [Lib.cell_of_heap hres3]; rfl
      have f0 : W1.frozen? ⟨w.heap.size, 0, none⟩ = false := Lib.frozen_of_heap hres3 0
      have f1 : W1.frozen? ⟨w.heap.size, 1, none⟩ = false := Lib.frozen_of_heap hres3 1
      have hsh : W1.shape? w.heap.size = some (245, 2) := by simp [World.shape?, hres3]
      go_wp2
      obtain ⟨rfl, rfl, rfl⟩ : R1 = acc ∧ R2 = [] ∧ R3 = cr1 := by
        have := HE.out
        simp only [Prod.mk.injEq] at this
        exact ⟨this.1.symm, this.2.1.symm, this.2.2.symm⟩
      refine bodyPost_ret (v := .tuple #[.agg #[.string ⟨#[]⟩, .bool R3], .string ⟨R1.toArray⟩]) ?_ rfl ⟨rfl, ?_⟩
      · simp [results, Tryz.results225, go_sem, c0, c1]
      · exact ((hbw.trans b1).setCell (by simp) _).setCell (by simp) _
end Go.Proofs.YtcncbhbdpcpkeaaGreatDoor
