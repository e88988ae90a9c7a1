/-
  Parts of the walk, joined: Own, Lex, LexEv, InBuilder.
-/
import Derived.Lib.AppendStr
import Derived.Lib.FrozenHead
import Derived.Lib.ConvBytes
import Derived.Lib.SlBytesConst
import Derived.Laws.IdiomStrings
import Derived.Lib.BufferWrite
import Derived.Lib.RuneBytes
import Derived.Test.YtcncbhbdpcpkeaaGreatDoorShelf
import Derived.Laws.Tables
import Derived.Lib.Builder
import Derived.Lib.FrozenHead2
import Derived.Lib.OthersKept
import Derived.Test.YtcncbhbdpcpkeaaGreatDoorPJAA
/-
  Rows of bytes that a call owns: what appending and converting them takes.
-/
namespace Go.Proofs.YtcncbhbdpcpkeaaGreatDoor.Own
open Go.RowKit Go.Lib

theorem info_u8 : (Tryz.prog.info? 5).map (fun i => (i.zero, i.size, i.bytes)) = some (some (.int .u8 0), 1, 1) := by kernel_rfl
theorem nil_text (W : World) : (convert 65 9 (.slice none 0 0)).run Tryz.prog W = .ok (.string ⟨#[]⟩) W := by
  rw [run_convert_bytes_string W 65 9 5 none 0 0 Tryz.underlying65 Tryz.underlying5 Tryz.underlying9]
  rfl
end Go.Proofs.YtcncbhbdpcpkeaaGreatDoor.Own

/-
  The lexer as a plain function on lists of bytes: a step, a run, and that a text may be cut anywhere. No program is named here.
-/
namespace Go.Proofs.YtcncbhbdpcpkeaaGreatDoor

def spaceC (c : UInt8) : Bool := c == 9 || c == 10 || c == 12 || c == 13 || c == 32
def eatsL (name : List UInt8) : Bool := name == [112, 114, 101] || name == [116, 101, 120, 116, 97, 114, 101, 97]

end Go.Proofs.YtcncbhbdpcpkeaaGreatDoor

/-
  The lexer's events as a plain list: texts that meet, joined; and what is told at the end of a text.
-/
namespace Go.Proofs.YtcncbhbdpcpkeaaGreatDoor

inductive Ev where
  | text (b : List UInt8)
  | start (name : List UInt8) (attrs : List (List UInt8 × List UInt8))
  | stop (name : List UInt8)
/-! ## the stream: events, and the text that was put behind the last of them -/

def flushE (s : List Ev × List UInt8) : List Ev := if s.2 = [] then s.1 else s.1 ++ [.text s.2]
/-! ## what a run puts out is full -/

/-! ## the end of a text -/

end Go.Proofs.YtcncbhbdpcpkeaaGreatDoor

/-
  A strings.Builder that lies inside another block, at some offset: its methods' walks.
-/
namespace Go.Proofs.YtcncbhbdpcpkeaaGreatDoor
open Go.RowKit Go.Lib Own

theorem just_same {W : World} {b : Nat} {cs : Array Value} {T : TypeId} (h : W.heap[b]? = some (.cells cs T (0, 0))) : Just W W b cs T := ⟨rfl, rfl, rfl, rfl, h, fun _ _ => rfl⟩
theorem shape_at {W : World} {b : Nat} {cs : Array Value} {T : TypeId} (h : W.heap[b]? = some (.cells cs T (0, 0))) : W.shape? b = some (T, cs.size) := by
  simp [World.shape?, h]
theorem set_same {cs : Array Value} {j : Nat} {v : Value} (h : cs[j]? = some v) : cs.setIfInBounds j v = cs := by
  obtain ⟨h1, h2⟩ := Array.getElem?_eq_some_iff.1 h
  subst h2
  simp [Array.setIfInBounds, h1]
theorem builder_info : ∃ j, Tryz.prog.info? 67 = some j ∧ j.size = 2 := by
  have h : (Tryz.prog.info? 67).map (·.size) = some 2 := by kernel_rfl
  obtain ⟨j, h1, h2⟩ := Option.map_eq_some_iff.1 h
  exact ⟨j, h1, h2⟩

set_option maxHeartbeats 1000000 in
set_option maxRecDepth 100000 in
theorem copy_in (b o : Nat) (cs : Array Value) (T : TypeId) (p : Value) (w : World) (hb : w.heap[b]? = some (.cells cs T (0, 0))) (hp : cs[o]? = some p) (hpp : p = .pointer none ∨ p = .pointer (some ⟨b, o, none⟩))
    (hl : liesAt Tryz.prog Tryz.prog.depth T (cs.size / Tryz.prog.cellsOf T) o 67 1 = true) :
    Calls Tryz.prog 132 #[.pointer (some ⟨b, o, none⟩)] w fun e w' => e = .returned (.tuple #[]) ∧ Just w w' b (cs.setIfInBounds o (.pointer (some ⟨b, o, none⟩))) T := by
  obtain ⟨j, hj, hjs⟩ := builder_info
  have h0 := cell_at hb hp
  have hfz := free_at hb o
  have hsh := shape_at hb
  have hoff := (Array.getElem?_eq_some_iff.1 hp).1
  rcases hpp with rfl | rfl
  · go_enter Tryz.func132, Tryz.ntmps132
    go_wp2
    rw [Lib.run_to_unsafe w ⟨b, o, none⟩ Tryz.underlying64 Tryz.underlying219 hj (by rw [hjs]; decide) hsh hoff]
    simp only [Result.andThen]
    rw [Oper.upon_value]
    go_wp2
    rw [run_callFunc_extern Tryz.func185 (by kernel_rfl) (by kernel_rfl) (by kernel_rfl) (e := Extern.AbiNoEscape.same) (by kernel_rfl)]
    rw [Lib.run_noEscape]
    simp only [Result.andThen]
    rw [Oper.upon_value]
    go_wp2
    rw [Lib.run_from_unsafe w ⟨b, o, none⟩ Tryz.underlying219 Tryz.underlying64 hj hsh hl]
    simp only [Result.andThen]
    rw [Oper.upon_value]
    go_wp2
    go_end0
    exact ⟨rfl, just_set hb _⟩
  · go_enter Tryz.func132, Tryz.ntmps132
    go_wp2
    rw [Lib.run_neq_ptr_same w _ Tryz.underlying64 hj]
    go_wp2
    go_end0
    exact ⟨rfl, by rw [set_same hp]; exact just_same hb⟩
/-- a builder at cell o of block b, whose bytes lie in a row of the call's own -/
structure InB (W : World) (base b o : Nat) (cs : Array Value) (T : TypeId) (p v : Value) (bs : List UInt8) : Prop where
  at_ : W.heap[b]? = some (.cells cs T (0, 0))
  lo : base ≤ b
  cp : cs[o]? = some p
  cv : cs[o + 1]? = some v
  hp : p = .pointer none ∨ p = .pointer (some ⟨b, o, none⟩)
  own : W.ownsRowF base 5 1 v bs.length (byteCells bs)
  ne : v.ownBlock ≠ some b
theorem Just.below {W W' : World} {b : Nat} {cs : Array Value} {T : TypeId} (h : Just W W' b cs T) {base : Nat} (hb : base ≤ b) : Below base W W' :=
  ⟨h.os, h.tape, h.output, by rw [h.size]; exact Nat.le_refl _, fun k hk => h.other k (by omega)⟩

set_option maxHeartbeats 2000000 in
set_option maxRecDepth 100000 in
theorem write_in (base b o : Nat) (cs : Array Value) (T : TypeId) (p v : Value) (bs : List UInt8) (s : ByteArray) (w : World) (h : InB w base b o cs T p v bs)
    (hl : liesAt Tryz.prog Tryz.prog.depth T (cs.size / Tryz.prog.cellsOf T) o 67 1 = true) (hT : T ≠ 5) (hlen : bs.length + s.size ≤ 140737488355328) :
    Calls Tryz.prog 69 #[.pointer (some ⟨b, o, none⟩), .string s] w fun e w' => e = .returned (.tuple #[.int .i64 s.size, .nilIface]) ∧
      ∃ v', InB w' base b o ((cs.setIfInBounds o (.pointer (some ⟨b, o, none⟩))).setIfInBounds (o + 1) v') T (.pointer (some ⟨b, o, none⟩)) v' (bs ++ s.data.toList) ∧ Below base w w' ∧
        ∀ k, k < w.heap.size → k ≠ b → v.ownBlock ≠ some k → w'.heap[k]? = w.heap[k]? := by
  obtain ⟨i0, hi, hz0, hz1, hz2⟩ := info_parts info_u8
  obtain ⟨hat, hlo, hcp, hcv, hpp, hown, hne⟩ := h
  have hcopy := copy_in b o cs T p w hat hcp hpp hl
  have hbs : b < w.heap.size := (Array.getElem?_eq_some_iff.1 hat).1
  have hsz := (Array.getElem?_eq_some_iff.1 hcv).1
  have HC := hid hcopy
  clear hcopy
  go_enter Tryz.func69, Tryz.ntmps69
  go_wp2_with fail
  refine HC.out.mono ?_
  rintro e w1 ⟨rfl, j1⟩
  obtain ⟨cs1, hcs1⟩ : ∃ cs1, cs.setIfInBounds o (.pointer (some ⟨b, o, none⟩)) = cs1 := ⟨_, rfl⟩
  have hv1 : cs1[o + 1]? = some v := by
    rw [← hcs1, Array.getElem?_setIfInBounds, if_neg (by omega)]
    exact hcv
  have hp1 : cs1[o]? = some (.pointer (some ⟨b, o, none⟩)) := by
    rw [← hcs1, Array.getElem?_setIfInBounds, if_pos rfl, if_pos (by omega)]
  rw [hcs1] at j1
  have c1 := cell_at j1.at_ hv1
  have hg1 : w.grownBy w1 (some b) := ⟨j1.os, j1.tape, j1.output, by rw [j1.size]; exact Nat.le_refl _, fun k _ hk => j1.other k (fun e => hk (by rw [e]))⟩
  have hown1 := hown.kept hg1 (.inr hne)
  have hbel1 := j1.below hlo
  have hb1 := j1.at_
  have hoth1 := j1.other
  have hbs1 : b < w1.heap.size := by rw [j1.size]; exact hbs
  have hle1 : w.heap.size ≤ w1.heap.size := by rw [j1.size]; exact Nat.le_refl _
  clear HC hown hg1 j1 hat
  go_wp2_with (at_builtin; refine Lib.wpList_append_own_stringF _ rfl _ _ 65 9 rfl base 5 i0 Tryz.underlying65 Tryz.underlying9 hi hz0 hz1 hz2 _ _ _ rfl hown1 s rfl ?c3 ?c4 ?c5 ?_)
  case c3 => unfold maxLen; omega
  case c4 => omega
  case c5 => omega
  intro v' w2 hown' hgrow _
  have hb2 : w2.heap[b]? = some (.cells cs1 T (0, 0)) := by
    rw [hgrow.block b hbs1 (fun e => hne e.symm)]
    exact hb1
  have hne' : v'.ownBlock ≠ some b := by
    intro he
    rcases hown'.2 with ⟨rfl, _⟩ | ⟨g, cap, cur, fz, rfl, _, hg, _⟩
    · cases he
    · simp only [Value.ownBlock, Option.some.injEq] at he
      subst he
      rw [hg] at hb2
      simp only [Option.some.injEq, Obj.cells.injEq] at hb2
      exact hT hb2.2.1.symm
  have d1 := cell_at hb2 hv1
  have f1 := free_at hb2 (o + 1)
  have hbw2 : Below base w w2 := hbel1.grown hgrow (by omega) (fun k hk => (hown1.lt k hk).1)
  have hsz2 : w1.heap.size ≤ w2.heap.size := hgrow.size
  have hkeep : ∀ k, k < w.heap.size → k ≠ b → v.ownBlock ≠ some k → w2.heap[k]? = w.heap[k]? := fun k hk h1 h2 => (hgrow.block k (by omega) (fun e => h2 e.symm)).trans (hoth1 k h1)
  obtain ⟨ao, n', cap, rfl⟩ : ∃ ao n' cap, v' = .slice ao n' cap := by
    rcases hown'.2 with ⟨hv, _⟩ | ⟨g, cap, cur, fz, hv, _⟩
    · exact ⟨_, _, _, hv⟩
    · exact ⟨_, _, _, hv⟩
  have hj2 := just_set (j := o + 1) hb2 (.slice ao n' cap)
  have hown2 := hown'.kept (w' := w2.setCell ⟨b, o + 1, none⟩ (.slice ao n' cap)) (row := some b) ⟨hj2.os, hj2.tape, hj2.output, by rw [hj2.size]; exact Nat.le_refl _, fun k _ hk => hj2.other k (fun e => hk (by rw [e]))⟩ (.inr hne')
  go_wp2
  go_ret2
  subst hcs1
  refine ⟨rfl, .slice ao n' cap, ⟨hj2.at_, hlo, ?_, ?_, .inr rfl, ?_, hne'⟩, hbw2.trans (hj2.below hlo), fun k hk h1 h2 => (hj2.other k h1).trans (hkeep k hk h1 h2)⟩
  · rw [Array.getElem?_setIfInBounds, if_neg (by omega)]; exact hp1
  · rw [Array.getElem?_setIfInBounds, if_pos rfl, if_pos (Array.getElem?_eq_some_iff.1 hv1).1]
  · rw [byteCells_append, List.length_append, ← size_eq]
    exact hown2

/-- a cell of a struct that a pointer leads to: Len, Reset, PutText -/
theorem len_in (base b o : Nat) (cs : Array Value) (T : TypeId) (p v : Value) (bs : List UInt8) (w : World) (h : InB w base b o cs T p v bs) :
    Calls Tryz.prog 83 #[.pointer (some ⟨b, o, none⟩)] w fun e w' => e = .returned (.int .i64 bs.length) ∧ w' = w := by
  have c1 := cell_at h.at_ h.cv
  obtain ⟨ao, cap, rfl⟩ : ∃ ao cap, v = .slice ao bs.length cap := by
    rcases h.own.2 with ⟨hv, h0⟩ | ⟨g, cap, cur, fz, hv, _⟩
    · exact ⟨none, 0, by rw [hv, h0]⟩
    · exact ⟨_, _, hv⟩
  go_enter Tryz.func83, Tryz.ntmps83
  go_wp2
  go_ret
  exact ⟨rfl, rfl⟩
theorem freeze_other (w : World) (g n k : Nat) (hk : k ≠ g) : (w.freeze ⟨g, 0, none⟩ n).heap[k]? = w.heap[k]? := by
  unfold World.freeze
  split
  · rfl
  · simp only [Array.getElem?_modify]
    rw [if_neg (fun e => hk e.symm)]
set_option maxHeartbeats 2000000 in
set_option maxRecDepth 100000 in
theorem string_in (base b o : Nat) (cs : Array Value) (T : TypeId) (p v : Value) (bs : List UInt8) (w : World) (h : InB w base b o cs T p v bs) (h0 : bs ≠ []) :
    Calls Tryz.prog 33 #[.pointer (some ⟨b, o, none⟩)] w fun e w' => e = .returned (.string ⟨bs.toArray⟩) ∧ w'.heap[b]? = some (.cells cs T (0, 0)) ∧ Below base w w' ∧
      ∀ k, k ≠ b → v.ownBlock ≠ some k → w'.heap[k]? = w.heap[k]? := by
  obtain ⟨hat, hlo, hcp, hcv, hpp, hown, hne⟩ := h
  have hl0 : bs.length ≠ 0 := by simpa using h0
  obtain ⟨g, cap, cur, fz, rfl, hbg, hg, hfz, hnc, hcm, hcs, htake⟩ : ∃ g cap cur fz, v = .slice (some ⟨g, 0, none⟩) bs.length cap ∧ base ≤ g ∧ w.heap[g]? = some (.cells cur 5 fz) ∧ fz.2 ≤ bs.length * 1 ∧ bs.length ≤ cap ∧ cap ≤ maxLen ∧ cur.size = cap * 1 ∧ cur.toList.take (bs.length * 1) = byteCells bs := by
    rcases hown.2 with ⟨_, hz⟩ | ⟨g, cap, cur, fz, hv, r⟩
    · exact absurd hz hl0
    · exact ⟨g, cap, cur, fz, hv, r⟩
  have hgb : g ≠ b := fun e => hne (by simp [Value.ownBlock, e])
  have c1 : w.drew.cell? ⟨b, o + 1, none⟩ = some (.slice (some ⟨g, 0, none⟩) bs.length cap) := cell_at hat hcv
  have hSD : (Builtin.unsafeSliceData_ #[65] 129 #[.slice (some ⟨g, 0, none⟩) bs.length cap]).run Tryz.prog w.drew = .ok (.pointer (some ⟨g, 0, none⟩)) w.drew :=
    Lib.run_unsafeSliceData_row _ _ _ _ _ _ (by omega)
  have hUS : (Builtin.unsafeString_ #[129, 3] 9 #[.pointer (some ⟨g, 0, none⟩), .int .i64 bs.length]).run Tryz.prog w.drew = .ok (.string ⟨bs.toArray⟩) (w.drew.freeze ⟨g, 0, none⟩ bs.length) := by
    refine Lib.run_unsafeString_row w.drew 129 3 9 5 Tryz.underlying129 (by kernel_rfl) g cur.size (by have hg' : w.drew.heap[g]? = some (.cells cur 5 fz) := hg; simp [World.shape?, hg']) bs h0 (by omega) (by unfold maxLen at hcm; omega) ?_
    intro j x hx
    have := hown.cells (g := g) rfl j (.int .u8 x.toNat) (by simp [Lib.byteCells, hx])
    exact this
  have hb2 : (w.drew.freeze ⟨g, 0, none⟩ bs.length).heap[b]? = some (.cells cs T (0, 0)) := (freeze_other w.drew g bs.length b (fun e => hgb e.symm)).trans hat
  have hk2 : ∀ k, k ≠ b → (Value.slice (some ⟨g, 0, none⟩) bs.length cap).ownBlock ≠ some k → (w.drew.freeze ⟨g, 0, none⟩ bs.length).heap[k]? = w.heap[k]? := fun k _ hk => freeze_other w.drew g bs.length k (fun e => hk (by simp [Value.ownBlock, e]))
  have hbel : Below base w (w.drew.freeze ⟨g, 0, none⟩ bs.length) := Lib.below_freeze (Below.drew (Below.refl base w)) (p := ⟨g, 0, none⟩) hbg _
  have HB := hid hb2
  have HK := hid hk2
  clear hb2 hk2 hown htake
  go_enter Tryz.func33, Tryz.ntmps33
  go_wp2
  go_region
  all_goals (go_wp2; go_ret; exact ⟨rfl, HB.out, hbel, HK.out⟩)
end Go.Proofs.YtcncbhbdpcpkeaaGreatDoor
