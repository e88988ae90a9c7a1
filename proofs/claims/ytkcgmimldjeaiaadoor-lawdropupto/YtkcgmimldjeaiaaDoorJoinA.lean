/-
  Parts of the walk, joined: InBuilder, TagName, TagAttrs, Stream, InReset, EndText, PutEv, OwnEnd, Reader, ReadByte, EscText, WrText, PolLink, OrdL, PolCodeC.
-/
import Derived.Test.YtkcgmimldjeaiaaDoorGen
import Derived.Test.YtkcgmimldjeaiaaDoorOwn
import Derived.Test.YtkcgmimldjeaiaaDoorShelf
import Derived.Laws.Tables
import Derived.Lib.Builder
import Derived.Lib.FrozenHead2
import Derived.Lib.OthersKept
import Derived.Test.YtkcgmimldjeaiaaDoorLower
import Derived.Test.YtkcgmimldjeaiaaDoorUnref
import Derived.Deep.RegionLaw
import Derived.Deep.AppendLies
import Derived.BigQuiet
import Derived.Lib.Replace
import Derived.Lib.ReplaceLaws
import Derived.WalkKit
import Derived.Test.YtkcgmimldjeaiaaDoorRefText
import Derived.Test.YtkcgmimldjeaiaaDoorMemW
import Derived.Test.YtkcgmimldjeaiaaDoorPolMem
import Derived.Test.YtkcgmimldjeaiaaDoorPolRefE
import Derived.Test.YtkcgmimldjeaiaaDoorPolCodeB
/-
  A strings.Builder that lies inside another block, at some offset: its methods' walks.
-/
namespace Go.Proofs.YtkcgmimldjeaiaaDoor
open Go.RowKit Go.Lib Own

theorem just_same {W : World} {b : Nat} {cs : Array Value} {T : TypeId} (h : W.heap[b]? = some (.cells cs T (0, 0))) : Just W W b cs T := ⟨rfl, rfl, rfl, rfl, h, fun _ _ => rfl⟩
theorem shape_at {W : World} {b : Nat} {cs : Array Value} {T : TypeId} (h : W.heap[b]? = some (.cells cs T (0, 0))) : W.shape? b = some (T, cs.size) := by
  simp [World.shape?, h]
theorem set_same {cs : Array Value} {j : Nat} {v : Value} (h : cs[j]? = some v) : cs.setIfInBounds j v = cs := by
  obtain ⟨h1, h2⟩ := Array.getElem?_eq_some_iff.1 h
  subst h2
  simp [Array.setIfInBounds, h1]
theorem builder_info : ∃ j, Tryd.prog.info? 59 = some j ∧ j.size = 2 := by
  have h : (Tryd.prog.info? 59).map (·.size) = some 2 := by kernel_rfl
  obtain ⟨j, h1, h2⟩ := Option.map_eq_some_iff.1 h
  exact ⟨j, h1, h2⟩

set_option maxHeartbeats 1000000 in
set_option maxRecDepth 100000 in
theorem copy_in (b o : Nat) (cs : Array Value) (T : TypeId) (p : Value) (w : World) (hb : w.heap[b]? = some (.cells cs T (0, 0))) (hp : cs[o]? = some p) (hpp : p = .pointer none ∨ p = .pointer (some ⟨b, o, none⟩))
    (hl : liesAt Tryd.prog Tryd.prog.depth T (cs.size / Tryd.prog.cellsOf T) o 59 1 = true) :
    Calls Tryd.prog 112 #[.pointer (some ⟨b, o, none⟩)] w fun e w' => e = .returned (.tuple #[]) ∧ Just w w' b (cs.setIfInBounds o (.pointer (some ⟨b, o, none⟩))) T := by
  obtain ⟨j, hj, hjs⟩ := builder_info
  have h0 := cell_at hb hp
  have hfz := free_at hb o
  have hsh := shape_at hb
  have hoff := (Array.getElem?_eq_some_iff.1 hp).1
  rcases hpp with rfl | rfl
  · go_enter Tryd.func112, Tryd.ntmps112
    go_wp2
    rw [Lib.run_to_unsafe w ⟨b, o, none⟩ Tryd.underlying57 Tryd.underlying173 hj (by rw [hjs]; decide) hsh hoff]
    simp only [Result.andThen]
    rw [Oper.upon_value]
    go_wp2
    rw [run_callFunc_extern Tryd.func132 (by kernel_rfl) (by kernel_rfl) (by kernel_rfl) (e := Extern.AbiNoEscape.same) (by kernel_rfl)]
    rw [Lib.run_noEscape]
    simp only [Result.andThen]
    rw [Oper.upon_value]
    go_wp2
    rw [Lib.run_from_unsafe w ⟨b, o, none⟩ Tryd.underlying173 Tryd.underlying57 hj hsh hl]
    simp only [Result.andThen]
    rw [Oper.upon_value]
    go_wp2
    go_end0
    exact ⟨rfl, just_set hb _⟩
  · go_enter Tryd.func112, Tryd.ntmps112
    go_wp2
    rw [Lib.run_neq_ptr_same w _ Tryd.underlying57 hj]
    go_wp2
    go_end0
    exact ⟨rfl, by rw [set_same hp]; exact just_same hb⟩
/-- a builder at cell o of block b, whose bytes lie in a row of the call's own -/
structure InB (W : World) (base b o : Nat) (cs : Array Value) (T : TypeId) (p v : Value) (bs : List UInt8) : Prop where
  at_ : W.heap[b]? = some (.cells cs T (0, 0))
  lo : base ≤ b
  cp : cs[o]? = some p
  cv : cs[o + 1]? = some v
  hp : p = .pointer none ∨ p = .pointer (some ⟨b, o, none⟩)
  own : W.ownsRowF base 5 1 v bs.length (byteCells bs)
  ne : v.ownBlock ≠ some b
theorem Just.below {W W' : World} {b : Nat} {cs : Array Value} {T : TypeId} (h : Just W W' b cs T) {base : Nat} (hb : base ≤ b) : Below base W W' :=
  ⟨h.os, h.tape, h.output, by rw [h.size]; exact Nat.le_refl _, fun k hk => h.other k (by omega)⟩

set_option maxHeartbeats 2000000 in
set_option maxRecDepth 100000 in
theorem write_in (base b o : Nat) (cs : Array Value) (T : TypeId) (p v : Value) (bs : List UInt8) (s : ByteArray) (w : World) (h : InB w base b o cs T p v bs)
    (hl : liesAt Tryd.prog Tryd.prog.depth T (cs.size / Tryd.prog.cellsOf T) o 59 1 = true) (hT : T ≠ 5) (hlen : bs.length + s.size ≤ 140737488355328) :
    Calls Tryd.prog 76 #[.pointer (some ⟨b, o, none⟩), .string s] w fun e w' => e = .returned (.tuple #[.int .i64 s.size, .nilIface]) ∧
      ∃ v', InB w' base b o ((cs.setIfInBounds o (.pointer (some ⟨b, o, none⟩))).setIfInBounds (o + 1) v') T (.pointer (some ⟨b, o, none⟩)) v' (bs ++ s.data.toList) ∧ Below base w w' ∧
        ∀ k, k < w.heap.size → k ≠ b → v.ownBlock ≠ some k → w'.heap[k]? = w.heap[k]? := by
  obtain ⟨i0, hi, hz0, hz1, hz2⟩ := info_parts info_u8
  obtain ⟨hat, hlo, hcp, hcv, hpp, hown, hne⟩ := h
  have hcopy := copy_in b o cs T p w hat hcp hpp hl
  have hbs : b < w.heap.size := (Array.getElem?_eq_some_iff.1 hat).1
  have hsz := (Array.getElem?_eq_some_iff.1 hcv).1
  have HC := hid hcopy
  clear hcopy
  go_enter Tryd.func76, Tryd.ntmps76
  go_wp2_with fail
  refine HC.out.mono ?_
  rintro e w1 ⟨rfl, j1⟩
  obtain ⟨cs1, hcs1⟩ : ∃ cs1, cs.setIfInBounds o (.pointer (some ⟨b, o, none⟩)) = cs1 := ⟨_, rfl⟩
  have hv1 : cs1[o + 1]? = some v := by
    rw [← hcs1, Array.getElem?_setIfInBounds, if_neg (by omega)]
    exact hcv
  have hp1 : cs1[o]? = some (.pointer (some ⟨b, o, none⟩)) := by
    rw [← hcs1, Array.getElem?_setIfInBounds, if_pos rfl, if_pos (by omega)]
  rw [hcs1] at j1
  have c1 := cell_at j1.at_ hv1
  have hg1 : w.grownBy w1 (some b) := ⟨j1.os, j1.tape, j1.output, by rw [j1.size]; exact Nat.le_refl _, fun k _ hk => j1.other k (fun e => hk (by rw [e]))⟩
  have hown1 := hown.kept hg1 (.inr hne)
  have hbel1 := j1.below hlo
  have hb1 := j1.at_
  have hoth1 := j1.other
  have hbs1 : b < w1.heap.size := by rw [j1.size]; exact hbs
  have hle1 : w.heap.size ≤ w1.heap.size := by rw [j1.size]; exact Nat.le_refl _
  clear HC hown hg1 j1 hat
  go_wp2_with (at_builtin; refine Lib.wpList_append_own_stringF _ rfl _ _ 50 9 rfl base 5 i0 Tryd.underlying50 Tryd.underlying9 hi hz0 hz1 hz2 _ _ _ rfl hown1 s rfl ?c3 ?c4 ?c5 ?_)
  case c3 => unfold maxLen; omega
  case c4 => omega
  case c5 => omega
  intro v' w2 hown' hgrow _
  have hb2 : w2.heap[b]? = some (.cells cs1 T (0, 0)) := by
    rw [hgrow.block b hbs1 (fun e => hne e.symm)]
    exact hb1
  have hne' : v'.ownBlock ≠ some b := by
    intro he
    rcases hown'.2 with ⟨rfl, _⟩ | ⟨g, cap, cur, fz, rfl, _, hg, _⟩
    · cases he
    · simp only [Value.ownBlock, Option.some.injEq] at he
      subst he
      rw [hg] at hb2
      simp only [Option.some.injEq, Obj.cells.injEq] at hb2
      exact hT hb2.2.1.symm
  have d1 := cell_at hb2 hv1
  have f1 := free_at hb2 (o + 1)
  have hbw2 : Below base w w2 := hbel1.grown hgrow (by omega) (fun k hk => (hown1.lt k hk).1)
  have hsz2 : w1.heap.size ≤ w2.heap.size := hgrow.size
  have hkeep : ∀ k, k < w.heap.size → k ≠ b → v.ownBlock ≠ some k → w2.heap[k]? = w.heap[k]? := fun k hk h1 h2 => (hgrow.block k (by omega) (fun e => h2 e.symm)).trans (hoth1 k h1)
  obtain ⟨ao, n', cap, rfl⟩ : ∃ ao n' cap, v' = .slice ao n' cap := by
    rcases hown'.2 with ⟨hv, _⟩ | ⟨g, cap, cur, fz, hv, _⟩
    · exact ⟨_, _, _, hv⟩
    · exact ⟨_, _, _, hv⟩
  have hj2 := just_set (j := o + 1) hb2 (.slice ao n' cap)
  have hown2 := hown'.kept (w' := w2.setCell ⟨b, o + 1, none⟩ (.slice ao n' cap)) (row := some b) ⟨hj2.os, hj2.tape, hj2.output, by rw [hj2.size]; exact Nat.le_refl _, fun k _ hk => hj2.other k (fun e => hk (by rw [e]))⟩ (.inr hne')
  go_wp2
  go_ret2
  subst hcs1
  refine ⟨rfl, .slice ao n' cap, ⟨hj2.at_, hlo, ?_, ?_, .inr rfl, ?_, hne'⟩, hbw2.trans (hj2.below hlo), fun k hk h1 h2 => (hj2.other k h1).trans (hkeep k hk h1 h2)⟩
  · rw [Array.getElem?_setIfInBounds, if_neg (by omega)]; exact hp1
  · rw [Array.getElem?_setIfInBounds, if_pos rfl, if_pos (Array.getElem?_eq_some_iff.1 hv1).1]
  · rw [byteCells_append, List.length_append, ← size_eq]
    exact hown2

/-- a cell of a struct that a pointer leads to: Len, Reset, PutText -/
theorem len_in (base b o : Nat) (cs : Array Value) (T : TypeId) (p v : Value) (bs : List UInt8) (w : World) (h : InB w base b o cs T p v bs) :
    Calls Tryd.prog 80 #[.pointer (some ⟨b, o, none⟩)] w fun e w' => e = .returned (.int .i64 bs.length) ∧ w' = w := by
  have c1 := cell_at h.at_ h.cv
  obtain ⟨ao, cap, rfl⟩ : ∃ ao cap, v = .slice ao bs.length cap := by
    rcases h.own.2 with ⟨hv, h0⟩ | ⟨g, cap, cur, fz, hv, _⟩
    · exact ⟨none, 0, by rw [hv, h0]⟩
    · exact ⟨_, _, hv⟩
  go_enter Tryd.func80, Tryd.ntmps80
  go_wp2
  go_ret
  exact ⟨rfl, rfl⟩
theorem freeze_other (w : World) (g n k : Nat) (hk : k ≠ g) : (w.freeze ⟨g, 0, none⟩ n).heap[k]? = w.heap[k]? := by
  unfold World.freeze
  split
  · rfl
  · simp only [Array.getElem?_modify]
    rw [if_neg (fun e => hk e.symm)]
set_option maxHeartbeats 2000000 in
set_option maxRecDepth 100000 in
theorem string_in (base b o : Nat) (cs : Array Value) (T : TypeId) (p v : Value) (bs : List UInt8) (w : World) (h : InB w base b o cs T p v bs) (h0 : bs ≠ []) :
    Calls Tryd.prog 45 #[.pointer (some ⟨b, o, none⟩)] w fun e w' => e = .returned (.string ⟨bs.toArray⟩) ∧ w'.heap[b]? = some (.cells cs T (0, 0)) ∧ Below base w w' ∧
      ∀ k, k ≠ b → v.ownBlock ≠ some k → w'.heap[k]? = w.heap[k]? := by
  obtain ⟨hat, hlo, hcp, hcv, hpp, hown, hne⟩ := h
  have hl0 : bs.length ≠ 0 := by simpa using h0
  obtain ⟨g, cap, cur, fz, rfl, hbg, hg, hfz, hnc, hcm, hcs, htake⟩ : ∃ g cap cur fz, v = .slice (some ⟨g, 0, none⟩) bs.length cap ∧ base ≤ g ∧ w.heap[g]? = some (.cells cur 5 fz) ∧ fz.2 ≤ bs.length * 1 ∧ bs.length ≤ cap ∧ cap ≤ maxLen ∧ cur.size = cap * 1 ∧ cur.toList.take (bs.length * 1) = byteCells bs := by
    rcases hown.2 with ⟨_, hz⟩ | ⟨g, cap, cur, fz, hv, r⟩
    · exact absurd hz hl0
    · exact ⟨g, cap, cur, fz, hv, r⟩
  have hgb : g ≠ b := fun e => hne (by simp [Value.ownBlock, e])
  have c1 : w.drew.cell? ⟨b, o + 1, none⟩ = some (.slice (some ⟨g, 0, none⟩) bs.length cap) := cell_at hat hcv
  have hSD : (Builtin.unsafeSliceData_ #[50] 129 #[.slice (some ⟨g, 0, none⟩) bs.length cap]).run Tryd.prog w.drew = .ok (.pointer (some ⟨g, 0, none⟩)) w.drew :=
    Lib.run_unsafeSliceData_row _ _ _ _ _ _ (by omega)
  have hUS : (Builtin.unsafeString_ #[129, 3] 9 #[.pointer (some ⟨g, 0, none⟩), .int .i64 bs.length]).run Tryd.prog w.drew = .ok (.string ⟨bs.toArray⟩) (w.drew.freeze ⟨g, 0, none⟩ bs.length) := by
    refine Lib.run_unsafeString_row w.drew 129 3 9 5 Tryd.underlying129 (by kernel_rfl) g cur.size (by have hg' : w.drew.heap[g]? = some (.cells cur 5 fz) := hg; simp [World.shape?, hg']) bs h0 (by omega) (by unfold maxLen at hcm; omega) ?_
    intro j x hx
    have := hown.cells (g := g) rfl j (.int .u8 x.toNat) (by simp [Lib.byteCells, hx])
    exact this
  have hb2 : (w.drew.freeze ⟨g, 0, none⟩ bs.length).heap[b]? = some (.cells cs T (0, 0)) := (freeze_other w.drew g bs.length b (fun e => hgb e.symm)).trans hat
  have hk2 : ∀ k, k ≠ b → (Value.slice (some ⟨g, 0, none⟩) bs.length cap).ownBlock ≠ some k → (w.drew.freeze ⟨g, 0, none⟩ bs.length).heap[k]? = w.heap[k]? := fun k _ hk => freeze_other w.drew g bs.length k (fun e => hk (by simp [Value.ownBlock, e]))
  have hbel : Below base w (w.drew.freeze ⟨g, 0, none⟩ bs.length) := Lib.below_freeze (Below.drew (Below.refl base w)) (p := ⟨g, 0, none⟩) hbg _
  have HB := hid hb2
  have HK := hid hk2
  clear hb2 hk2 hown htake
  go_enter Tryd.func45, Tryd.ntmps45
  go_wp2
  go_region
  all_goals (go_wp2; go_ret; exact ⟨rfl, HB.out, hbel, HK.out⟩)
end Go.Proofs.YtkcgmimldjeaiaaDoor

/-
  lexer.tagName: its walk.
-/
namespace Go.Proofs.YtkcgmimldjeaiaaDoor
open Go.RowKit Go.Lib Own

def nameC (c : UInt8) : Bool := nextT 3 c == 3
theorem tagName_eq (L : List UInt8) : tagNameL L = (L.takeWhile nameC).map lowC := rfl
end Go.Proofs.YtkcgmimldjeaiaaDoor

/-
  lexer.tagAttrs: its walk.
-/
namespace Go.Proofs.YtkcgmimldjeaiaaDoor
open Go.RowKit Go.Lib Own

def attrsV (l : List (List UInt8 × List UInt8)) : List Value := l.flatMap fun a => [strV a.1, strV a.2]
theorem attrsV_len : ∀ l : List (List UInt8 × List UInt8), (attrsV l).length = l.length * 2
  | [] => rfl
  | a :: l => by
    have := attrsV_len l
    unfold attrsV at this ⊢
    simp only [List.flatMap_cons, List.length_append, List.length_cons, List.length_nil, this]
    omega
theorem attrsV_app (a b : List (List UInt8 × List UInt8)) : attrsV (a ++ b) = attrsV a ++ attrsV b := by
  unfold attrsV
  rw [List.flatMap_append]
theorem attrsV_set (ini : List (List UInt8 × List UInt8)) (a : List UInt8 × List UInt8) (u : List UInt8) : (attrsV (ini ++ [a])).set (ini.length * 2 + 1) (strV u) = attrsV (ini ++ [(a.1, u)]) := by
  rw [attrsV_app, attrsV_app, List.set_append, attrsV_len, if_neg (by omega), Nat.add_sub_cancel_left]
  rfl
theorem info_attr : (Tryd.prog.info? 101).map (fun i => (i.zero, i.size, i.bytes)) = some (some (.agg #[.string ⟨#[]⟩, .string ⟨#[]⟩]), 2, 32) := by kernel_rfl
theorem part_more (L : List UInt8) (f k : Nat) (x : UInt8) (hf : f ≤ k) (h : L[k]? = some x) : (L.take (k + 1)).drop f = (L.take k).drop f ++ [x] := by
  have h1 := (List.getElem?_eq_some_iff.1 h).1
  rw [List.take_add_one, h, List.drop_append_of_le_length (by rw [List.length_take]; omega)]
  rfl
theorem part_slice (s : ByteArray) (f k : Nat) : (s.extract f k).data.toList = (s.data.toList.take k).drop f := by
  simp [List.drop_take]
theorem next_table (s : Nat) (h0 : 3 ≤ s) (h1 : s ≤ 10) (c : UInt8) : ((s = 5 ∨ s = 8 ∨ s = 9 ∨ s = 10) → nextT s c = s ∨ nextT s c ≠ 8 ∧ nextT s c ≠ 9) ∧
    ((nextT s c = 6 ∨ nextT s c = 7 ∨ nextT s c = 8 ∨ nextT s c = 9 ∨ nextT s c = 10) → s = 5 ∨ 6 ≤ s) := by
  have hc := colC_lt c
  have hall : ∀ (i : Fin 8) (k : Fin 7), ((i.val + 3 = 5 ∨ i.val + 3 = 8 ∨ i.val + 3 = 9 ∨ i.val + 3 = 10) → (tagTab.getD i.val []).getD k.val 0 = i.val + 3 ∨ (tagTab.getD i.val []).getD k.val 0 ≠ 8 ∧ (tagTab.getD i.val []).getD k.val 0 ≠ 9) ∧
    (((tagTab.getD i.val []).getD k.val 0 = 6 ∨ (tagTab.getD i.val []).getD k.val 0 = 7 ∨ (tagTab.getD i.val []).getD k.val 0 = 8 ∨ (tagTab.getD i.val []).getD k.val 0 = 9 ∨ (tagTab.getD i.val []).getD k.val 0 = 10) → i.val + 3 = 5 ∨ 6 ≤ i.val + 3) := by decide +kernel
  obtain ⟨i, rfl⟩ : ∃ i, s = i + 3 := ⟨s - 3, by omega⟩
  exact hall ⟨i, by omega⟩ ⟨colC c, hc⟩
/-- the attributes, from byte k on -/
def AttrsAt (L : List UInt8) (k s f : Nat) (acc R : List (List UInt8 × List UInt8)) : Prop := attrsL s ((L.take k).drop f) acc (L.drop k) = R ∧ (passL s (L.drop k)).1 = L.length - k
theorem attrs_same {L : List UInt8} {k s f : Nat} {acc R : List (List UInt8 × List UInt8)} {x : UInt8} (h : AttrsAt L k s f acc R) (hf : f ≤ k) (hx : L[k]? = some x) (hs : s ≠ 0) (hv : nextT s x = s) : AttrsAt L (k + 1) s f acc R := by
  obtain ⟨h1, h2⟩ := h
  obtain ⟨hl, hg⟩ := List.getElem?_eq_some_iff.1 hx
  rw [List.drop_eq_getElem_cons hl, hg] at h1 h2
  rw [attrsL, if_pos hv] at h1
  rw [passL, if_neg hs, hv] at h2
  exact ⟨by rw [part_more L f k x hf hx]; exact h1, by simp only at h2; omega⟩
theorem attrs_next {L : List UInt8} {k s f : Nat} {acc R : List (List UInt8 × List UInt8)} {x : UInt8} (h : AttrsAt L k s f acc R) (hx : L[k]? = some x) (hs : s ≠ 0) (hv : nextT s x ≠ s) :
    AttrsAt L (k + 1) (nextT s x) (if nextT s x = 8 ∨ nextT s x = 9 then k + 1 else k)
      (if s = 5 then acc ++ [(((L.take k).drop f).map lowC, [])] else if s = 8 ∨ s = 9 ∨ s = 10 then acc.dropLast ++ [((acc.getLast?.getD ([], [])).1, unr true ((L.take k).drop f))] else acc) R := by
  obtain ⟨h1, h2⟩ := h
  obtain ⟨hl, hg⟩ := List.getElem?_eq_some_iff.1 hx
  rw [List.drop_eq_getElem_cons hl, hg] at h1 h2
  rw [attrsL, if_neg hv] at h1
  rw [passL, if_neg hs] at h2
  refine ⟨?_, by simp only at h2; omega⟩
  have hpart : (L.take (k + 1)).drop (if nextT s x = 8 ∨ nextT s x = 9 then k + 1 else k) = if nextT s x = 8 ∨ nextT s x = 9 then [] else [x] := by
    split
    · rw [List.drop_of_length_le (by rw [List.length_take]; omega)]
    · rw [part_more L k k x (Nat.le_refl _) hx, List.drop_of_length_le (by rw [List.length_take]; omega)]
      rfl
  rw [hpart]
  exact h1
theorem attrs_live {L : List UInt8} {k s f : Nat} {acc R : List (List UInt8 × List UInt8)} (h : AttrsAt L k s f acc R) (hk : k < L.length) : s ≠ 0 := by
  rintro rfl
  obtain ⟨_, h2⟩ := h
  rw [List.drop_eq_getElem_cons hk] at h2
  simp only [passL, if_true] at h2
  omega
theorem attrs_over {L : List UInt8} {k s f : Nat} {acc R : List (List UInt8 × List UInt8)} (h : AttrsAt L k s f acc R) (hk : L.length ≤ k) : acc = R := by
  obtain ⟨h1, _⟩ := h
  rw [List.drop_of_length_le hk] at h1
  exact h1
end Go.Proofs.YtkcgmimldjeaiaaDoor

/-
  The stream of events inside another block: what it holds, and PutText: its walk.
-/
namespace Go.Proofs.YtkcgmimldjeaiaaDoor
open Go.RowKit Go.Lib Own

/-- the cells of a list of events: each an event's four -/
def EvsAt (W : World) (base : Nat) : List Value → List Ev → Prop
  | [], [] => True
  | k :: n :: a :: t :: r, e :: l => (match e with
    | .text b => k = .int .i64 3 ∧ n = .string ⟨#[]⟩ ∧ a = .slice none 0 0 ∧ t = strV b
    | .start m at_ => k = .int .i64 1 ∧ n = strV m ∧ W.ownsRow base 101 2 a at_.length (attrsV at_) ∧ t = .string ⟨#[]⟩
    | .stop m => k = .int .i64 2 ∧ n = strV m ∧ a = .slice none 0 0 ∧ t = .string ⟨#[]⟩) ∧ EvsAt W base r l
  | _, _ => False
/-- rows of another kind than the one that is written stay what they are -/
theorem row_keep {W W' : World} {base b : Nat} {e T : TypeId} {size n n0 : Nat} {v v0 : Value} {xs xs0 : List Value} {cs : Array Value} (h : W.ownsRow base e size v n xs) (hb : W.heap[b]? = some (.cells cs T (0, 0))) (hT : T ≠ e)
    (h0 : W.ownsRowF base 5 1 v0 n0 xs0) (he : e ≠ 5) (hk : ∀ k, k < W.heap.size → k ≠ b → v0.ownBlock ≠ some k → W'.heap[k]? = W.heap[k]?) : W'.ownsRow base e size v n xs := by
  refine ⟨h.1, ?_⟩
  rcases h.2 with h2 | ⟨g, cap, cur, rfl, hg0, hg, rest⟩
  · exact .inl h2
  · refine .inr ⟨g, cap, cur, rfl, hg0, ?_, rest⟩
    rw [hk g (Array.getElem?_eq_some_iff.1 hg).1 ?_ ?_]
    · exact hg
    · rintro rfl
      rw [hg] at hb
      simp only [Option.some.injEq, Obj.cells.injEq] at hb
      exact hT hb.2.1.symm
    · intro h3
      rcases h0.2 with ⟨rfl, _⟩ | ⟨g', cap', cur', fz, rfl, _, hg', _⟩
      · cases h3
      · simp only [Value.ownBlock, Option.some.injEq] at h3
        subst h3
        rw [hg] at hg'
        simp only [Option.some.injEq, Obj.cells.injEq] at hg'
        exact he hg'.2.1
theorem evs_keep {W W' : World} {base b : Nat} {T : TypeId} {n0 : Nat} {v0 : Value} {xs0 : List Value} {cs : Array Value} (hb : W.heap[b]? = some (.cells cs T (0, 0))) (hT : T ≠ 101)
    (h0 : W.ownsRowF base 5 1 v0 n0 xs0) (hk : ∀ k, k < W.heap.size → k ≠ b → v0.ownBlock ≠ some k → W'.heap[k]? = W.heap[k]?) : ∀ (xs : List Value) (l : List Ev), EvsAt W base xs l → EvsAt W' base xs l
  | [], [], _ => trivial
  | k :: n :: a :: t :: r, e :: l, ⟨h1, h2⟩ => by
    refine ⟨?_, evs_keep hb hT h0 hk r l h2⟩
    cases e with
    | text b => exact h1
    | start m at_ => exact ⟨h1.1, h1.2.1, row_keep h1.2.2.1 hb hT h0 (by decide) hk, h1.2.2.2⟩
    | stop m => exact h1
  | [], _ :: _, h => h.elim
  | [_], _, h => by cases ‹List Ev› <;> exact h.elim
  | [_, _], _, h => by cases ‹List Ev› <;> exact h.elim
  | [_, _, _], _, h => by cases ‹List Ev› <;> exact h.elim
  | _ :: _ :: _ :: _ :: _, [], h => h.elim
/-- no list of attributes of these events lies in block g -/
def NotIn (g : Nat) : List Value → Prop
  | _ :: _ :: a :: _ :: r => a.ownBlock ≠ some g ∧ NotIn g r
  | _ => True
/-- the lists of attributes lie in blocks of their own -/
def Apart : List Value → Prop
  | _ :: _ :: a :: _ :: r => (∀ g, a.ownBlock = some g → NotIn g r) ∧ Apart r
  | _ => True
theorem notIn_snoc {W : World} {base g : Nat} {k n a t : Value} (ha : a.ownBlock ≠ some g) : ∀ (xs : List Value) (l : List Ev), EvsAt W base xs l → NotIn g xs → NotIn g (xs ++ [k, n, a, t])
  | [], [], _, _ => ⟨ha, trivial⟩
  | k' :: n' :: a' :: t' :: r, e' :: l, ⟨_, h2⟩, hn => ⟨hn.1, notIn_snoc ha r l h2 hn.2⟩
  | [], _ :: _, h, _ => h.elim
  | [_], _, h, _ => by cases ‹List Ev› <;> exact h.elim
  | [_, _], _, h, _ => by cases ‹List Ev› <;> exact h.elim
  | [_, _, _], _, h, _ => by cases ‹List Ev› <;> exact h.elim
  | _ :: _ :: _ :: _ :: _, [], h, _ => h.elim
theorem apart_snoc {W : World} {base : Nat} {k n a t : Value} : ∀ (xs : List Value) (l : List Ev), EvsAt W base xs l → Apart xs → (∀ g, a.ownBlock = some g → NotIn g xs) → Apart (xs ++ [k, n, a, t])
  | [], [], _, _, _ => ⟨fun _ _ => trivial, trivial⟩
  | k' :: n' :: a' :: t' :: r, e' :: l, ⟨_, h2⟩, hp, hg => by
    refine ⟨fun g e => notIn_snoc (fun e2 => (hg g e2).1 e) r l h2 (hp.1 g e), apart_snoc r l h2 hp.2 (fun g e => (hg g e).2)⟩
  | [], _ :: _, h, _, _ => h.elim
  | [_], _, h, _, _ => by cases ‹List Ev› <;> exact h.elim
  | [_, _], _, h, _, _ => by cases ‹List Ev› <;> exact h.elim
  | [_, _, _], _, h, _, _ => by cases ‹List Ev› <;> exact h.elim
  | _ :: _ :: _ :: _ :: _, [], h, _, _ => h.elim
theorem notIn_new {W : World} {base g : Nat} (hg : W.heap.size ≤ g) : ∀ (xs : List Value) (l : List Ev), EvsAt W base xs l → NotIn g xs
  | [], [], _ => trivial
  | k' :: n' :: a' :: t' :: r, e' :: l, ⟨h1, h2⟩ => by
    refine ⟨fun e => ?_, notIn_new hg r l h2⟩
    cases e' with
    | text b => rw [h1.2.2.1] at e; cases e
    | start m at_ => have := (h1.2.2.1.lt g e).2; omega
    | stop m => rw [h1.2.2.1] at e; cases e
  | [], _ :: _, h => h.elim
  | [_], _, h => by cases ‹List Ev› <;> exact h.elim
  | [_, _], _, h => by cases ‹List Ev› <;> exact h.elim
  | [_, _, _], _, h => by cases ‹List Ev› <;> exact h.elim
  | _ :: _ :: _ :: _ :: _, [], h => h.elim
/-- a stream at cell o of block b, its events' cells told -/
structure StreamX (W : World) (base b o : Nat) (cs : Array Value) (T : TypeId) (evs : List Ev) (pend : List UInt8) (xs : List Value) : Prop where
  itx : ∃ ev p v, cs[o]? = some ev ∧ InB W base b (o + 1) cs T p v pend ∧ W.ownsRow base 39 4 ev evs.length xs ∧ EvsAt W base xs evs ∧ Apart xs
/-- a stream at cell o of block b -/
structure StreamAt (W : World) (base b o : Nat) (cs : Array Value) (T : TypeId) (evs : List Ev) (pend : List UInt8) : Prop where
  it : ∃ ev p v xs, cs[o]? = some ev ∧ InB W base b (o + 1) cs T p v pend ∧ W.ownsRow base 39 4 ev evs.length xs ∧ EvsAt W base xs evs ∧ Apart xs
theorem StreamAt.x {W : World} {base b o : Nat} {cs : Array Value} {T : TypeId} {evs : List Ev} {pend : List UInt8} (h : StreamAt W base b o cs T evs pend) : ∃ xs, StreamX W base b o cs T evs pend xs := by
  obtain ⟨ev, p, v, xs, h1⟩ := h.it
  exact ⟨xs, ⟨ev, p, v, h1⟩⟩
theorem StreamX.at {W : World} {base b o : Nat} {cs : Array Value} {T : TypeId} {evs : List Ev} {pend : List UInt8} {xs : List Value} (h : StreamX W base b o cs T evs pend xs) : StreamAt W base b o cs T evs pend := by
  obtain ⟨ev, p, v, h1⟩ := h.itx
  exact ⟨ev, p, v, xs, h1⟩
structure StreamT (T : TypeId) (cs : Array Value) (o : Nat) : Prop where
  lies : liesAt Tryd.prog Tryd.prog.depth T (cs.size / Tryd.prog.cellsOf T) (o + 1) 59 1 = true
  n0 : T ≠ 5
  n1 : T ≠ 101
  n2 : T ≠ 39

set_option maxHeartbeats 1000000 in
theorem putText_any (base b o : Nat) (cs : Array Value) (T : TypeId) (evs : List Ev) (pend : List UInt8) (s : ByteArray) (w : World) (h : StreamAt w base b o cs T evs pend) (hT : StreamT T cs o) (hlen : pend.length + s.size ≤ 140737488355328) :
    Calls Tryd.prog 52 #[.pointer (some ⟨b, o, none⟩), .string s] w fun e w' => e = .returned (.tuple #[]) ∧
      ∃ p v, StreamAt w' base b o ((cs.setIfInBounds (o + 1) p).setIfInBounds (o + 2) v) T evs (pend ++ s.data.toList) ∧ Below base w w' := by
  obtain ⟨ev, p, v, xs, hev, hin, hrow, hevs, hap⟩ := h.it
  have hw := write_in base b (o + 1) cs T p v pend s w hin hT.lies hT.n0 hlen
  have HW := hid hw
  clear hw
  go_enter Tryd.func52, Tryd.ntmps52
  go_wp2_with (go_at_call 76; refine HW.out.mono ?_; rintro e w1 ⟨rfl, v', hin', hbel, hk⟩)
  go_end0
  refine ⟨rfl, .pointer (some ⟨b, o + 1, none⟩), v', ⟨ev, _, v', xs, ?_, hin', row_keep hrow hin.at_ hT.n2 hin.own (by decide) hk, evs_keep hin.at_ hT.n1 hin.own hk xs evs hevs, hap⟩, hbel⟩
  rw [Array.getElem?_setIfInBounds, if_neg (by omega), Array.getElem?_setIfInBounds, if_neg (by omega)]
  exact hev
end Go.Proofs.YtkcgmimldjeaiaaDoor

/-
  Reset of a strings.Builder that lies inside another block: its walk.
-/
namespace Go.Proofs.YtkcgmimldjeaiaaDoor
open Go.RowKit Go.Lib Own

theorem reset_in (base b o : Nat) (cs : Array Value) (T : TypeId) (p v : Value) (w : World) (hat : w.heap[b]? = some (.cells cs T (0, 0))) (hlo : base ≤ b) (hcp : cs[o]? = some p) (hcv : cs[o + 1]? = some v) :
    Calls Tryd.prog 81 #[.pointer (some ⟨b, o, none⟩)] w fun e w' => e = .returned (.tuple #[]) ∧
      InB w' base b o ((cs.setIfInBounds o (.pointer none)).setIfInBounds (o + 1) (.slice none 0 0)) T (.pointer none) (.slice none 0 0) [] ∧ Below base w w' ∧ ∀ k, k ≠ b → w'.heap[k]? = w.heap[k]? := by
  have c0 := cell_at hat hcp
  have f0 := free_at hat o
  have j1 := just_set (j := o) hat (.pointer none)
  have hv1 : (cs.setIfInBounds o (.pointer none))[o + 1]? = some v := by
    rw [Array.getElem?_setIfInBounds, if_neg (by omega)]; exact hcv
  have hp1 : (cs.setIfInBounds o (.pointer none))[o]? = some (.pointer none) := by
    rw [Array.getElem?_setIfInBounds, if_pos rfl, if_pos (Array.getElem?_eq_some_iff.1 hcp).1]
  have c1 := cell_at j1.at_ hv1
  have f1 := free_at j1.at_ (o + 1)
  have j2 := just_set (j := o + 1) j1.at_ (.slice none 0 0)
  have hb1 := j1.below hlo
  have hb2 := j2.below hlo
  have hfin : InB ((w.setCell ⟨b, o, none⟩ (.pointer none)).setCell ⟨b, o + 1, none⟩ (.slice none 0 0)) base b o ((cs.setIfInBounds o (.pointer none)).setIfInBounds (o + 1) (.slice none 0 0)) T (.pointer none) (.slice none 0 0) [] := by
    refine ⟨j2.at_, hlo, ?_, ?_, .inl rfl, ⟨rfl, .inl ⟨rfl, rfl⟩⟩, by simp [Value.ownBlock]⟩
    · rw [Array.getElem?_setIfInBounds, if_neg (by omega)]; exact hp1
    · rw [Array.getElem?_setIfInBounds, if_pos rfl, if_pos (Array.getElem?_eq_some_iff.1 hv1).1]
  have hkp : ∀ k, k ≠ b → ((w.setCell ⟨b, o, none⟩ (.pointer none)).setCell ⟨b, o + 1, none⟩ (.slice none 0 0)).heap[k]? = w.heap[k]? := fun k hk => (j2.other k hk).trans (j1.other k hk)
  have HF := hid hfin
  have HK := hid hkp
  clear hfin hkp j1 j2
  go_enter Tryd.func81, Tryd.ntmps81
  go_wp2
  go_end0
  exact ⟨rfl, HF.out, hb1.trans hb2, HK.out⟩
end Go.Proofs.YtkcgmimldjeaiaaDoor

/-
  The stream's endText where there is text: its walk.
-/
namespace Go.Proofs.YtkcgmimldjeaiaaDoor
open Go.RowKit Go.Lib Own

theorem info_event : (Tryd.prog.info? 39).map (fun i => (i.zero, i.size, i.bytes)) = some (some (.agg #[.int .i64 0, .string ⟨#[]⟩, .slice none 0 0, .string ⟨#[]⟩]), 4, 64) := by kernel_rfl
theorem evs_mono {W W' : World} {base : Nat} (hr : ∀ a n xs, W.ownsRow base 101 2 a n xs → W'.ownsRow base 101 2 a n xs) : ∀ (xs : List Value) (l : List Ev), EvsAt W base xs l → EvsAt W' base xs l
  | [], [], _ => trivial
  | k :: n :: a :: t :: r, e :: l, ⟨h1, h2⟩ => by
    refine ⟨?_, evs_mono hr r l h2⟩
    cases e with
    | text b => exact h1
    | start m at_ => exact ⟨h1.1, h1.2.1, hr _ _ _ h1.2.2.1, h1.2.2.2⟩
    | stop m => exact h1
  | [], _ :: _, h => h.elim
  | [_], _, h => by cases ‹List Ev› <;> exact h.elim
  | [_, _], _, h => by cases ‹List Ev› <;> exact h.elim
  | [_, _, _], _, h => by cases ‹List Ev› <;> exact h.elim
  | _ :: _ :: _ :: _ :: _, [], h => h.elim
theorem evs_snoc {W : World} {base : Nat} {b : List UInt8} : ∀ (xs : List Value) (l : List Ev), EvsAt W base xs l → EvsAt W base (xs ++ [.int .i64 3, .string ⟨#[]⟩, .slice none 0 0, strV b]) (l ++ [.text b])
  | [], [], _ => ⟨⟨rfl, rfl, rfl, rfl⟩, trivial⟩
  | k :: n :: a :: t :: r, e :: l, ⟨h1, h2⟩ => ⟨h1, evs_snoc r l h2⟩
  | [], _ :: _, h => h.elim
  | [_], _, h => by cases ‹List Ev› <;> exact h.elim
  | [_, _], _, h => by cases ‹List Ev› <;> exact h.elim
  | [_, _, _], _, h => by cases ‹List Ev› <;> exact h.elim
  | _ :: _ :: _ :: _ :: _, [], h => h.elim
/-- blocks that are not the stream's stay what they are -/
def KeepF (w w' : World) (b o : Nat) (cs : Array Value) : Prop := ∀ ev v, cs[o]? = some ev → cs[o + 2]? = some v → ∀ k, k < w.heap.size → k ≠ b → ev.ownBlock ≠ some k → v.ownBlock ≠ some k → w'.heap[k]? = w.heap[k]?
set_option maxHeartbeats 4000000 in
set_option maxRecDepth 100000 in
theorem endText_full (base b o : Nat) (cs : Array Value) (T : TypeId) (evs : List Ev) (pend : List UInt8) (xs : List Value) (w : World) (h : StreamX w base b o cs T evs pend xs) (hT : StreamT T cs o) (h0 : pend ≠ []) (hlen : evs.length ≤ 10000000) :
    Calls Tryd.prog 53 #[.pointer (some ⟨b, o, none⟩)] w fun e w' => e = .returned (.tuple #[]) ∧
      ∃ ev, StreamX w' base b o (((cs.setIfInBounds o ev).setIfInBounds (o + 1) (.pointer none)).setIfInBounds (o + 2) (.slice none 0 0)) T (evs ++ [.text pend]) [] (xs ++ [.int .i64 3, .string ⟨#[]⟩, .slice none 0 0, strV pend]) ∧ Below base w w' ∧ (∀ a n ys, w.ownsRow base 101 2 a n ys → w'.ownsRow base 101 2 a n ys) ∧ KeepF w w' b o cs := by
  obtain ⟨i0, hi, hz0, hz1, hz2⟩ := info_parts info_event
  obtain ⟨ev, p, v, hev, hin, hrow, hevs, hap⟩ := h.itx
  have hlen0 := fun W hW => len_in base b (o + 1) cs T p v pend W hW
  have hn0 : ((pend.length : Int) == 0) = false := beq_eq_false_iff_ne.2 (by have := List.length_pos_iff.2 h0; omega)
  have hstr := fun W hW => string_in base b (o + 1) cs T p v pend W hW h0
  have ce := cell_at hin.at_ hev
  have fe := free_at hin.at_ o
  have HL := hid hlen0
  have HS := hid hstr
  have HI := hid hin
  clear hlen0 hstr hin
  go_enter Tryd.func53, Tryd.ntmps53
  go_wp2_with (go_at_call 80; refine (HL.out _ HI.out).mono ?_; rintro e w1 ⟨rfl, rfl⟩)
  have hbs : base ≤ w1.heap.size := by have := (Array.getElem?_eq_some_iff.1 HI.out.at_).1; have := HI.out.lo; omega
  have hneb : ev.ownBlock ≠ some b := row_ne hrow HI.out.at_ hT.n2
  go_region_law (first
    | (go_simp; go_at_call 45; refine (HS.out _ (by exact ⟨HI.out.at_, HI.out.lo, HI.out.cp, HI.out.cv, HI.out.hp, HI.out.own, HI.out.ne⟩)).mono ?_; rintro e w9 ⟨rfl, hb9, bel9, k9⟩; have hbs9 := (Array.getElem?_eq_some_iff.1 hb9).1; have hsz9 := bel9.size; have hsz9' : w1.heap.size ≤ w9.heap.size := (by exact hsz9); have ce9 := cell_at hb9 hev; have fe9 := free_at hb9 o; have hrow9 := row_keep hrow HI.out.at_ hT.n2 HI.out.own (by decide) (fun k _ h1 h2 => k9 k h1 h2))
    | (refine step_append_lies _ rfl (.tmp 11) (.tmp 17) 22 rfl base 39 i0 (.agg #[.int .i64 0, .string ⟨#[]⟩, .slice none 0 0, .string ⟨#[]⟩]) 4 64 Tryd.underlying22 hi hz0 hz1 hz2 rfl (by decide) ev evs.length xs (by simp [Act.eval]) (by exact hrow9.alloc _) ⟨_, 0, none⟩ 1 1 [.int .i64 3, .string ⟨#[]⟩, .slice none 0 0, strV pend] (by simp [Act.eval]) rfl (cells_newV _ _ _) (by simp [Value.oneCell', strV]) (by omega) (by unfold maxLen; omega) (by omega) (by simp; omega) _ rfl ?_; rintro g cap w10 hrow10 hgrow10 - -; have hb10 : w10.heap[b]? = some (.cells cs T (0, 0)) := ((hgrow10.block b (by simp; omega) (fun e => hneb e.symm)).trans (alloc_old _ _ b (by exact hbs9))).trans (by exact hb9); have ce10 := cell_at hb10 hev; have fe10 := free_at hb10 o))
  all_goals
    have j1 := just_set (j := o) hb10 (.slice (some ⟨g, 0, none⟩) (evs.length + 1) cap)
    have hlo := HI.out.lo
    have hcp1 : (cs.setIfInBounds o (.slice (some ⟨g, 0, none⟩) (evs.length + 1) cap))[o + 1]? = some p := by
      rw [Array.getElem?_setIfInBounds, if_neg (by omega)]; exact HI.out.cp
    have hcv1 : (cs.setIfInBounds o (.slice (some ⟨g, 0, none⟩) (evs.length + 1) cap))[o + 1 + 1]? = some v := by
      rw [Array.getElem?_setIfInBounds, if_neg (by omega)]; exact HI.out.cv
    have hres := reset_in base b (o + 1) _ T p v _ j1.at_ hlo hcp1 hcv1
    have HR := hid hres
    clear hres
    have hkx := j1.other
    have hbx := j1.below hlo
    clear j1
    go_wp2_with (go_at_call 81; refine HR.out.mono ?_; rintro e w11 ⟨rfl, hin11, bel11, k11⟩)
    go_end0
    have hk : ∀ k, k ≠ b → w11.heap[k]? = w10.heap[k]? := fun k h => (k11 k h).trans (hkx k h)
    have b9 : Below base w1 w9 := ⟨bel9.os, bel9.tape, bel9.output, bel9.size, bel9.block⟩
    have b10 : Below base w1 w10 := (b9.alloc (by omega) _).grown hgrow10 (by simp; omega) (fun k hk => (hrow9.lt k hk).1)
    have e9 : EvsAt w9 base xs evs := evs_keep HI.out.at_ hT.n1 HI.out.own (fun k _ h1 h2 => k9 k h1 h2) xs evs hevs
    have e10 : EvsAt w10 base xs evs := evs_mono (fun a n ys hr => (hr.alloc _).kept hgrow10 (rows_ne hr hrow9 (by decide))) xs evs e9
    have e11 : EvsAt w11 base xs evs := evs_mono (fun a n ys hr => row_just hr hb10 hT.n1 hk) xs evs e10
    refine ⟨rfl, .slice (some ⟨g, 0, none⟩) (evs.length + 1) cap, ⟨.slice (some ⟨g, 0, none⟩) (evs.length + 1) cap, .pointer none, .slice none 0 0, ?_, hin11, ?_, evs_snoc xs evs e11, apart_snoc xs evs e11 hap (fun g e => by cases e)⟩, b10.trans (hbx.trans bel11), fun a n ys hr => row_just (((row_keep hr HI.out.at_ hT.n1 HI.out.own (by decide) (fun k _ h1 h2 => k9 k h1 h2)).alloc _).kept hgrow10 (rows_ne (row_keep hr HI.out.at_ hT.n1 HI.out.own (by decide) (fun k _ h1 h2 => k9 k h1 h2)) hrow9 (by decide))) hb10 hT.n1 hk, ?_⟩
    · rw [Array.getElem?_setIfInBounds, if_neg (by omega), Array.getElem?_setIfInBounds, if_neg (by omega), Array.getElem?_setIfInBounds, if_pos rfl, if_pos (Array.getElem?_eq_some_iff.1 hev).1]
    · have := row_just hrow10 hb10 hT.n2 hk
      rw [List.length_append]
      exact this
    · intro ev' v' hev' hv' k hks hkb hke hkv
      rw [hev] at hev'
      obtain rfl := Option.some.inj hev'
      rw [HI.out.cv] at hv'
      obtain rfl := Option.some.inj hv'
      have hk9 : k < w9.heap.size := by omega
      exact (((hk k hkb).trans (hgrow10.block k (by simp; omega) (fun e => hke e.symm))).trans (alloc_old _ _ k (by exact hk9))).trans (k9 k hkb hkv)

set_option maxHeartbeats 1000000 in
theorem endText_none (base b o : Nat) (cs : Array Value) (T : TypeId) (evs : List Ev) (w : World) (h : StreamAt w base b o cs T evs []) :
    Calls Tryd.prog 53 #[.pointer (some ⟨b, o, none⟩)] w fun e w' => e = .returned (.tuple #[]) ∧ w' = w := by
  obtain ⟨ev, p, v, xs, hev, hin, hrow, hevs, _⟩ := h.it
  have hlen0 : Calls Tryd.prog 80 #[.pointer (some ⟨b, o + 1, none⟩)] w fun e w' => e = .returned (.int .i64 0) ∧ w' = w := len_in base b (o + 1) cs T p v [] w hin
  have HL := hid hlen0
  clear hlen0 hin hrow hevs h
  go_enter Tryd.func53, Tryd.ntmps53
  go_wp2_with (go_at_call 80; refine HL.out.mono ?_; rintro e w1 ⟨rfl, rfl⟩)
  refine bodyPost_ret (v := .tuple #[]) ?_ rfl ⟨rfl, rfl⟩
  simp [results, Tryd.results53]
theorem endText_x (base b o : Nat) (cs : Array Value) (T : TypeId) (evs : List Ev) (pend : List UInt8) (xs : List Value) (w : World) (h : StreamX w base b o cs T evs pend xs) (hT : StreamT T cs o) (hlen : evs.length ≤ 10000000) :
    Calls Tryd.prog 53 #[.pointer (some ⟨b, o, none⟩)] w fun e w' => e = .returned (.tuple #[]) ∧
      ∃ e1 p1 v1 xs1, StreamX w' base b o (((cs.setIfInBounds o e1).setIfInBounds (o + 1) p1).setIfInBounds (o + 2) v1) T (flushE (evs, pend)) [] xs1 ∧ (xs1 = xs ∨ xs1 = xs ++ [.int .i64 3, .string ⟨#[]⟩, .slice none 0 0, strV pend]) ∧ Below base w w' ∧ (∀ a n ys, w.ownsRow base 101 2 a n ys → w'.ownsRow base 101 2 a n ys) ∧ KeepF w w' b o cs := by
  by_cases h0 : pend = []
  · subst h0
    refine (endText_none base b o cs T evs w h.at).mono ?_
    rintro e w' ⟨rfl, rfl⟩
    obtain ⟨ev, p, v, hev, hin, hrow, hevs, hap⟩ := h.itx
    refine ⟨rfl, ev, p, v, xs, ?_, .inl rfl, Below.refl _ _, fun _ _ _ h => h, fun _ _ _ _ _ _ _ _ _ => rfl⟩
    rw [set_same hev, set_same hin.cp, set_same hin.cv]
    exact h
  · refine (endText_full base b o cs T evs pend xs w h hT h0 hlen).mono ?_
    rintro e w' ⟨rfl, ev, h1, h2, h3, h4⟩
    refine ⟨rfl, ev, .pointer none, .slice none 0 0, _, ?_, .inr rfl, h2, h3, h4⟩
    unfold flushE
    rw [if_neg h0]
    exact h1
theorem endText_any (base b o : Nat) (cs : Array Value) (T : TypeId) (evs : List Ev) (pend : List UInt8) (w : World) (h : StreamAt w base b o cs T evs pend) (hT : StreamT T cs o) (hlen : evs.length ≤ 10000000) :
    Calls Tryd.prog 53 #[.pointer (some ⟨b, o, none⟩)] w fun e w' => e = .returned (.tuple #[]) ∧
      ∃ e1 p1 v1, StreamAt w' base b o (((cs.setIfInBounds o e1).setIfInBounds (o + 1) p1).setIfInBounds (o + 2) v1) T (flushE (evs, pend)) [] ∧ Below base w w' ∧ (∀ a n ys, w.ownsRow base 101 2 a n ys → w'.ownsRow base 101 2 a n ys) ∧ KeepF w w' b o cs := by
  obtain ⟨xs, hx⟩ := h.x
  refine (endText_x base b o cs T evs pend xs w hx hT hlen).mono ?_
  rintro e w' ⟨rfl, e1, p1, v1, xs1, h1, _, h2, h3, h4⟩
  exact ⟨rfl, e1, p1, v1, h1.at, h2, h3, h4⟩

set_option maxHeartbeats 1000000 in
theorem events_ap (base b o : Nat) (cs : Array Value) (T : TypeId) (evs : List Ev) (pend : List UInt8) (w : World) (h : StreamAt w base b o cs T evs pend) (hT : StreamT T cs o) (hlen : evs.length ≤ 10000000) :
    Calls Tryd.prog 29 #[.pointer (some ⟨b, o, none⟩)] w fun e w' => ∃ ev xs, e = .returned ev ∧ w'.ownsRow base 39 4 ev (flushE (evs, pend)).length xs ∧ EvsAt w' base xs (flushE (evs, pend)) ∧ Below base w w' ∧ Apart xs := by
  have hend := endText_any base b o cs T evs pend w h hT hlen
  have HE := hid hend
  clear hend
  go_enter Tryd.func29, Tryd.ntmps29
  go_wp2_with fail
  refine HE.out.mono ?_
  rintro e w1 ⟨rfl, e1, p1, v1, hs, hbel, -, -⟩
  obtain ⟨ev, p, v, xs, hev, hin, hrow, hevs, hap⟩ := hs.it
  have c := cell_at hin.at_ hev
  clear HE hin hev
  go_wp2
  go_ret
  exact ⟨_, _, rfl, hrow, hevs, hbel, hap⟩
theorem events_any (base b o : Nat) (cs : Array Value) (T : TypeId) (evs : List Ev) (pend : List UInt8) (w : World) (h : StreamAt w base b o cs T evs pend) (hT : StreamT T cs o) (hlen : evs.length ≤ 10000000) :
    Calls Tryd.prog 29 #[.pointer (some ⟨b, o, none⟩)] w fun e w' => ∃ ev xs, e = .returned ev ∧ w'.ownsRow base 39 4 ev (flushE (evs, pend)).length xs ∧ EvsAt w' base xs (flushE (evs, pend)) ∧ Below base w w' :=
  (events_ap base b o cs T evs pend w h hT hlen).mono fun _ _ ⟨ev, xs, h1, h2, h3, h4, _⟩ => ⟨ev, xs, h1, h2, h3, h4⟩
end Go.Proofs.YtkcgmimldjeaiaaDoor

/-
  The stream's Put: its walk.
-/
namespace Go.Proofs.YtkcgmimldjeaiaaDoor
open Go.RowKit Go.Lib Own

theorem evs_snoc2 {W : World} {base : Nat} {k n a t : Value} {e : Ev} : ∀ (xs : List Value) (l : List Ev), EvsAt W base xs l → EvsAt W base [k, n, a, t] [e] → EvsAt W base (xs ++ [k, n, a, t]) (l ++ [e])
  | [], [], _, h => h
  | k' :: n' :: a' :: t' :: r, e' :: l, ⟨h1, h2⟩, h => ⟨h1, evs_snoc2 r l h2 h⟩
  | [], _ :: _, h, _ => h.elim
  | [_], _, h, _ => by cases ‹List Ev› <;> exact h.elim
  | [_, _], _, h, _ => by cases ‹List Ev› <;> exact h.elim
  | [_, _, _], _, h, _ => by cases ‹List Ev› <;> exact h.elim
  | _ :: _ :: _ :: _ :: _, [], h, _ => h.elim
theorem StreamX.below {W W' : World} {base b o : Nat} {cs : Array Value} {T : TypeId} {evs : List Ev} {pend : List UInt8} {xs : List Value} (h : StreamX W base b o cs T evs pend xs) (hb : Below W.heap.size W W') : StreamX W' base b o cs T evs pend xs := by
  obtain ⟨ev, p, v, hev, hin, hrow, hevs, hap⟩ := h.itx
  have hg : W.grownBy W' none := ⟨hb.os, hb.tape, hb.output, hb.size, fun k hk _ => hb.block k hk⟩
  exact ⟨ev, p, v, hev, ⟨(hb.block b (Array.getElem?_eq_some_iff.1 hin.at_).1).trans hin.at_, hin.lo, hin.cp, hin.cv, hin.hp, hin.own.kept hg (by cases hv : v.ownBlock <;> simp), hin.ne⟩, hrow.kept hg (Classical.em _), evs_mono (fun a n ys hr => hr.kept hg (Classical.em _)) xs evs hevs, hap⟩
theorem StreamX.new {W : World} {base b o g : Nat} {cs : Array Value} {T : TypeId} {evs : List Ev} {pend : List UInt8} {xs : List Value} (h : StreamX W base b o cs T evs pend xs) (hg : W.heap.size ≤ g) : NotIn g xs := by
  obtain ⟨ev, p, v, hev, hin, hrow, hevs, hap⟩ := h.itx
  exact notIn_new hg xs evs hevs
theorem StreamAt.alloc {W : World} {base b o : Nat} {cs : Array Value} {T : TypeId} {evs : List Ev} {pend : List UInt8} (h : StreamAt W base b o cs T evs pend) (X : Obj) : StreamAt (W.alloc X) base b o cs T evs pend := by
  obtain ⟨ev, p, v, xs, hev, hin, hrow, hevs, hap⟩ := h.it
  refine ⟨ev, p, v, xs, hev, ⟨(alloc_old _ _ b (Array.getElem?_eq_some_iff.1 hin.at_).1).trans hin.at_, hin.lo, hin.cp, hin.cv, hin.hp, ?_, hin.ne⟩, hrow.alloc _, evs_mono (fun a n ys hr => hr.alloc _) xs evs hevs, hap⟩
  exact hin.own.kept (World.grownBy_alloc W X none) (by cases hv : v.ownBlock <;> simp)

theorem set_three (cs : Array Value) (o : Nat) (e1 e2 p v : Value) : (((cs.setIfInBounds o e1).setIfInBounds (o + 1) p).setIfInBounds (o + 2) v).setIfInBounds o e2 = ((cs.setIfInBounds o e2).setIfInBounds (o + 1) p).setIfInBounds (o + 2) v := by
  apply Array.ext_getElem?
  intro i
  simp only [Array.getElem?_setIfInBounds, Array.size_setIfInBounds]
  repeat' split
  all_goals first | rfl | omega
theorem rowF_ne {W : World} {base : Nat} {e2 : TypeId} {z2 n1 n2 : Nat} {v1 v2 : Value} {xs1 xs2 : List Value} (h1 : W.ownsRowF base 5 1 v1 n1 xs1) (h2 : W.ownsRow base e2 z2 v2 n2 xs2) (hne : e2 ≠ 5) : v1.ownBlock = none ∨ v1.ownBlock ≠ v2.ownBlock := by
  rcases h1.2 with ⟨rfl, _⟩ | ⟨g, cap, cur, fz, rfl, _, hg, _⟩
  · exact .inl rfl
  · refine .inr (fun h3 => ?_)
    rcases h2.2 with ⟨rfl, _⟩ | ⟨g2, cap2, cur2, rfl, _, hg2, _⟩
    · cases h3
    · simp only [Value.ownBlock, Option.some.injEq] at h3
      subst h3
      rw [hg] at hg2
      simp only [Option.some.injEq, Obj.cells.injEq] at hg2
      exact hne hg2.2.1.symm
set_option maxHeartbeats 4000000 in
set_option maxRecDepth 100000 in
theorem put_any (base b o : Nat) (cs : Array Value) (T : TypeId) (evs : List Ev) (pend : List UInt8) (g0 : Nat) (kk : Int) (nb tb : ByteArray) (ap : Option Addr) (an ac : Nat) (e0 : Ev) (w0 w : World) (hsl : w.heap[g0]? = some (.cells #[.int .i64 kk, .string nb, .slice ap an ac, .string tb] 39 (0, 0))) (hkk : (kk == 3) = false) (h0 : StreamAt w0 base b o cs T evs pend) (hw0 : Below w0.heap.size w0 w) (hfr : ∀ g, (Value.slice ap an ac).ownBlock = some g → w0.heap.size ≤ g) (hT : StreamT T cs o) (hlen : evs.length ≤ 9000000) (h1 : EvsAt w base [.int .i64 kk, .string nb, .slice ap an ac, .string tb] [e0])
    (hone : ∀ u ∈ [Value.int .i64 kk, .string nb, .slice ap an ac, .string tb], u.oneCell' = true) :
    Calls Tryd.prog 26 #[.pointer (some ⟨b, o, none⟩), .slice (some ⟨g0, 0, none⟩) 1 1] w fun e w' => e = .returned (.tuple #[]) ∧
      ∃ e1 p1 v1, StreamAt w' base b o (((cs.setIfInBounds o e1).setIfInBounds (o + 1) p1).setIfInBounds (o + 2) v1) T (flushE (evs, pend) ++ [e0]) [] ∧ Below base w w' := by
  obtain ⟨i0, hi, hz0, hz1, hz2⟩ := info_parts info_event
  obtain ⟨xs0, hx0⟩ := h0.x
  have hnew : ∀ g, (Value.slice ap an ac).ownBlock = some g → NotIn g xs0 := fun g e => hx0.new (hfr g e)
  have hxa : StreamX (w.alloc (.cells #[.int .i64 kk, .string nb, .slice ap an ac, .string tb] 39)) base b o cs T evs pend xs0 := (hx0.below hw0).below ((Below.refl w.heap.size w).alloc (Nat.le_refl _) _)
  have hend := endText_x base b o cs T evs pend xs0 _ hxa hT (by omega)
  obtain ⟨ev0, p0, v0, hev0, hin0, hrow0, hevs0, _⟩ := (hx0.below hw0).itx
  have hbs : b < w.heap.size := (Array.getElem?_eq_some_iff.1 hin0.at_).1
  have hlo := hin0.lo
  have hevlt : ev0.ownBlock ≠ some w.heap.size := fun hh => by have := (hrow0.lt _ hh).2; omega
  have hvlt : v0.ownBlock ≠ some w.heap.size := fun hh => by have := (hin0.own.lt _ hh).2; omega
  have hcv0 := hin0.cv
  have HE := hid hend
  clear hend hin0 hrow0 hx0 h0 hw0 hfr hxa
  go_enter Tryd.func26, Tryd.ntmps26
  have hs0 := cell_at hsl (j := 0) rfl
  have hs1 := cell_at hsl (j := 1) rfl
  have hs2 := cell_at hsl (j := 2) rfl
  have hs3 := cell_at hsl (j := 3) rfl
  clear hsl
  go_wp2_with fail
  go_loopw [8] (fun iv wr => (iv = .int .i64 0 ∧ w = wr) ∨ (iv = .int .i64 1 ∧ Hid (∃ e1 p1 v1, StreamAt wr base b o (((cs.setIfInBounds o e1).setIfInBounds (o + 1) p1).setIfInBounds (o + 2) v1) T (flushE (evs, pend) ++ [e0]) [] ∧ Below base w wr))) (fun iv _ => 1 - (RowKit.intOf iv).toNat)
  case atStart => exact .inl ⟨rfl, rfl⟩
  case round =>
  rcases hrel with ⟨rfl, rfl⟩ | ⟨rfl, HZ⟩
  case inr =>
    go_wp2
    go_end0
    exact ⟨rfl, HZ.out⟩
  go_wp2_with fail
  refine HE.out.mono ?_
  rintro e w1 ⟨rfl, e1, p1, v1, xs, hs, hxs, hbel, hrows, hkeep⟩
  have hpb : w1.heap[w.heap.size]? = some (.cells #[.int .i64 kk, .string nb, .slice ap an ac, .string tb] 39 (0, 0)) := (hkeep ev0 v0 hev0 hcv0 w.heap.size (by simp) (by omega) hevlt hvlt).trans (heap_alloc_new w _)
  have p0 := cell_at hpb (j := 0) rfl
  have p1' := cell_at hpb (j := 1) rfl
  have p2 := cell_at hpb (j := 2) rfl
  have p3 := cell_at hpb (j := 3) rfl
  obtain ⟨cs2, hcs2⟩ : ∃ cs2, ((cs.setIfInBounds o e1).setIfInBounds (o + 1) p1).setIfInBounds (o + 2) v1 = cs2 := ⟨_, rfl⟩
  rw [hcs2] at hs
  obtain ⟨ev, p, v, hev, hin, hrow, hevs, hap⟩ := hs.itx
  have hap2 : Apart (xs ++ [.int .i64 kk, .string nb, .slice ap an ac, .string tb]) := by
    refine apart_snoc xs _ hevs hap (fun g e => ?_)
    rcases hxs with rfl | rfl
    · exact hnew g e
    · exact notIn_snoc (by simp [Value.ownBlock]) _ _ hevs0 (hnew g e)
  clear hap hxs hnew hevs0
  have hb1 := hin.at_
  have ce := cell_at hb1 hev
  have fe := free_at hb1 o
  have hneb : ev.ownBlock ≠ some b := row_ne hrow hb1 hT.n2
  have hbl : base ≤ w1.heap.size := by have := (Array.getElem?_eq_some_iff.1 hb1).1; omega
  have hbs1 := (Array.getElem?_eq_some_iff.1 hb1).1
  have hfl : (flushE (evs, pend)).length ≤ 9000001 := by
    unfold flushE
    split
    · simp only; omega
    · simp only [List.length_append, List.length_singleton]; omega
  have h11 : EvsAt w1 base [.int .i64 kk, .string nb, .slice ap an ac, .string tb] [e0] := evs_mono (fun a n ys hr => hrows a n ys (hr.alloc _)) _ _ h1
  have HV := hid (And.intro hevs (And.intro h11 hin))
  have HK := hid hrows
  clear hevs h11 hin hs HE hkeep hrows
  go_wp2_with fail
  go_region_law (refine step_append_lies _ rfl (.tmp 25) (.tmp 27) 22 rfl base 39 i0 (.agg #[.int .i64 0, .string ⟨#[]⟩, .slice none 0 0, .string ⟨#[]⟩]) 4 64 Tryd.underlying22 hi hz0 hz1 hz2 rfl (by decide) ev (flushE (evs, pend)).length xs (by simp [Act.eval]) (by exact hrow.alloc _) ⟨_, 0, none⟩ 1 1 [.int .i64 kk, .string nb, .slice ap an ac, .string tb] (by simp [Act.eval]) rfl (cells_newV _ _ _) hone (by omega) (by unfold maxLen; omega) (by omega) (by simp; omega) _ rfl ?_; rintro g cap w10 hrow10 hgrow10 - -; have hb10 : w10.heap[b]? = some (.cells cs2 T (0, 0)) := ((hgrow10.block b (by simp; omega) (fun e => hneb e.symm)).trans (alloc_old _ _ b (by exact hbs1))).trans (by exact hb1); have ce10 := cell_at hb10 hev; have fe10 := free_at hb10 o)
  all_goals
    have j1 := just_set (j := o) hb10 (.slice (some ⟨g, 0, none⟩) ((flushE (evs, pend)).length + 1) cap)
    obtain ⟨hevs, h11, hin⟩ := HV.out
    have hg10 : (w1.alloc (.cells #[.int .i64 kk, .string nb, .slice ap an ac, .string tb] 39)).grownBy w10 ev.ownBlock := ⟨hgrow10.os, hgrow10.tape, hgrow10.output, hgrow10.size, hgrow10.block⟩
    have e10 : EvsAt w10 base (xs ++ [.int .i64 kk, .string nb, .slice ap an ac, .string tb]) (flushE (evs, pend) ++ [e0]) := evs_mono (fun a' n' ys hr => (hr.alloc _).kept hg10 (rows_ne hr hrow (by decide))) _ _ (evs_snoc2 xs _ hevs h11)
    have e11 := evs_mono (W' := w10.setCell ⟨b, o, none⟩ (.slice (some ⟨g, 0, none⟩) ((flushE (evs, pend)).length + 1) cap)) (fun a' n' ys hr => row_just hr hb10 hT.n1 j1.other) _ _ e10
    have r11 := row_just hrow10 hb10 hT.n2 j1.other
    have o10 : w10.ownsRowF base 5 1 v 0 (byteCells []) := (hin.own.kept (World.grownBy_alloc w1 _ none) (by cases hv : v.ownBlock <;> simp)).kept hg10 (rowF_ne hin.own hrow (by decide))
    have o11 := o10.kept (w' := w10.setCell ⟨b, o, none⟩ (.slice (some ⟨g, 0, none⟩) ((flushE (evs, pend)).length + 1) cap)) (row := some b) ⟨j1.os, j1.tape, j1.output, by rw [j1.size]; exact Nat.le_refl _, fun k _ hk => j1.other k (fun e => hk (by rw [e]))⟩ (.inr hin.ne)
    have b10 : Below base w1 w10 := ((Below.refl base w1).alloc (by omega) _).grown hg10 (by simp; omega) (fun k hk => (hrow.lt k hk).1)
    have bw : Below base w (w.alloc (.cells #[.int .i64 kk, .string nb, .slice ap an ac, .string tb] 39)) := (Below.refl base w).alloc (by omega) _
    have bfin := (bw.trans hbel).trans (b10.trans (j1.below hlo))
    have hat := j1.at_
    rw [← hcs2, set_three] at hat
    have hcp2 : (((cs.setIfInBounds o (.slice (some ⟨g, 0, none⟩) ((flushE (evs, pend)).length + 1) cap)).setIfInBounds (o + 1) p1).setIfInBounds (o + 2) v1)[o + 1]? = some p := by
      rw [← set_three cs o e1, hcs2, Array.getElem?_setIfInBounds, if_neg (by omega)]; exact hin.cp
    have hcv2 : (((cs.setIfInBounds o (.slice (some ⟨g, 0, none⟩) ((flushE (evs, pend)).length + 1) cap)).setIfInBounds (o + 1) p1).setIfInBounds (o + 2) v1)[o + 1 + 1]? = some v := by
      rw [← set_three cs o e1, hcs2, Array.getElem?_setIfInBounds, if_neg (by omega)]; exact hin.cv
    have hev2 : (((cs.setIfInBounds o (.slice (some ⟨g, 0, none⟩) ((flushE (evs, pend)).length + 1) cap)).setIfInBounds (o + 1) p1).setIfInBounds (o + 2) v1)[o]? = some (.slice (some ⟨g, 0, none⟩) ((flushE (evs, pend)).length + 1) cap) := by
      rw [← set_three cs o e1, hcs2, Array.getElem?_setIfInBounds, if_pos rfl, if_pos (Array.getElem?_eq_some_iff.1 hev).1]
    have hS : StreamAt (w10.setCell ⟨b, o, none⟩ (.slice (some ⟨g, 0, none⟩) ((flushE (evs, pend)).length + 1) cap)) base b o (((cs.setIfInBounds o (.slice (some ⟨g, 0, none⟩) ((flushE (evs, pend)).length + 1) cap)).setIfInBounds (o + 1) p1).setIfInBounds (o + 2) v1) T (flushE (evs, pend) ++ [e0]) [] :=
      ⟨_, p, v, _, hev2, ⟨hat, hlo, hcp2, hcv2, hin.hp, o11, hin.ne⟩, by rw [List.length_append]; exact r11, e11, hap2⟩
    have HS := hid hS
    have HB := hid bfin
    clear hS bfin e10 e11 r11 o10 o11 hat hcp2 hcv2 hev2 j1
    go_wp2
    go_roundw
    case rel => exact .inr ⟨rfl, hid ⟨_, _, _, HS.out, HB.out⟩⟩
    case measure => simp [RowKit.intOf]
end Go.Proofs.YtkcgmimldjeaiaaDoor

/-
  The reader's ownEnd: its walk.
-/
namespace Go.Proofs.YtkcgmimldjeaiaaDoor
open Go.RowKit Go.Lib Own

/-- the reader's own six cells, ahead of its stream's three -/
structure RdAt (W : World) (b : Nat) (win : Int) (data : ByteArray) (pos mode scan : Int) (eat : Bool) : Prop where
  c0 : W.cell? ⟨b, 0, none⟩ = some (.int .i64 win)
  c1 : W.cell? ⟨b, 1, none⟩ = some (.string data)
  c2 : W.cell? ⟨b, 2, none⟩ = some (.int .i64 pos)
  c3 : W.cell? ⟨b, 3, none⟩ = some (.int .i64 mode)
  c4 : W.cell? ⟨b, 4, none⟩ = some (.int .i64 scan)
  c5 : W.cell? ⟨b, 5, none⟩ = some (.bool eat)

theorem own_go {o r : List UInt8} {k R : Nat} {x y : UInt8} (hx : r[k]? = some x) (hy : o[k]? = some y) (he : lowC x = y) (h : ownL (o.drop k) (r.drop k) = R) : ownL (o.drop (k + 1)) (r.drop (k + 1)) = R := by
  obtain ⟨h1, h2⟩ := List.getElem?_eq_some_iff.1 hx
  obtain ⟨h3, h4⟩ := List.getElem?_eq_some_iff.1 hy
  rw [List.drop_eq_getElem_cons h1, h2, List.drop_eq_getElem_cons h3, h4, ownL, if_pos he] at h
  exact h
theorem own_no {o r : List UInt8} {k R : Nat} {x y : UInt8} (hx : r[k]? = some x) (hy : o[k]? = some y) (he : lowC x ≠ y) (h : ownL (o.drop k) (r.drop k) = R) : R = 0 := by
  obtain ⟨h1, h2⟩ := List.getElem?_eq_some_iff.1 hx
  obtain ⟨h3, h4⟩ := List.getElem?_eq_some_iff.1 hy
  rw [List.drop_eq_getElem_cons h1, h2, List.drop_eq_getElem_cons h3, h4, ownL, if_neg he] at h
  exact h.symm
theorem own_short {o r : List UInt8} {k R : Nat} (hk : r.length ≤ k) (h : ownL (o.drop k) (r.drop k) = R) : R = 1 := by
  rw [List.drop_of_length_le hk] at h
  rw [← h]
  unfold ownL
  rfl
theorem own_told {o r : List UInt8} {k R : Nat} {x : UInt8} (hx : r[k]? = some x) (hk : o.length ≤ k) (h : ownL (o.drop k) (r.drop k) = R) : R = if endsC x then 2 else 0 := by
  obtain ⟨h1, h2⟩ := List.getElem?_eq_some_iff.1 hx
  rw [List.drop_of_length_le hk, List.drop_eq_getElem_cons h1, h2] at h
  exact h.symm

end Go.Proofs.YtkcgmimldjeaiaaDoor

/-
  The reader's state; unit, beginSkip: their walks.
-/
namespace Go.Proofs.YtkcgmimldjeaiaaDoor
open Go.RowKit Go.Lib Own

/-- the reader's nine cells -/
def rdC (win : Int) (data : ByteArray) (pos mode scan : Int) (eat : Bool) (ev p v : Value) : Array Value :=
  #[.int .i64 win, .string data, .int .i64 pos, .int .i64 mode, .int .i64 scan, .bool eat, ev, p, v]
theorem StreamAt.heap {W : World} {base b o : Nat} {cs : Array Value} {T : TypeId} {evs : List Ev} {pend : List UInt8} (h : StreamAt W base b o cs T evs pend) : W.heap[b]? = some (.cells cs T (0, 0)) ∧ base ≤ b := by
  obtain ⟨ev, p, v, xs, hev, hin, hrow, hevs, hap⟩ := h.it
  exact ⟨hin.at_, hin.lo⟩
/-- a cell that is none of the stream's three is stored -/
theorem StreamAt.stored {W : World} {base b o : Nat} {cs : Array Value} {T : TypeId} {evs : List Ev} {pend : List UInt8} (h : StreamAt W base b o cs T evs pend) (hT : StreamT T cs o) (j : Nat) (hj : j < o) (u : Value) : StreamAt (W.setCell ⟨b, j, none⟩ u) base b o (cs.setIfInBounds j u) T evs pend := by
  obtain ⟨ev, p, v, xs, hev, hin, hrow, hevs, hap⟩ := h.it
  have j1 := just_set (j := j) hin.at_ u
  refine ⟨ev, p, v, xs, ?_, ⟨j1.at_, hin.lo, ?_, ?_, hin.hp, ?_, hin.ne⟩, row_just hrow hin.at_ hT.n2 j1.other, evs_mono (fun a n ys hr => row_just hr hin.at_ hT.n1 j1.other) xs evs hevs, hap⟩
  · rw [Array.getElem?_setIfInBounds, if_neg (by omega)]; exact hev
  · rw [Array.getElem?_setIfInBounds, if_neg (by omega)]; exact hin.cp
  · rw [Array.getElem?_setIfInBounds, if_neg (by omega)]; exact hin.cv
  · exact hin.own.kept (row := some b) ⟨j1.os, j1.tape, j1.output, by rw [j1.size]; exact Nat.le_refl _, fun k _ hk => j1.other k (fun e => hk (by rw [e]))⟩ (.inr hin.ne)

end Go.Proofs.YtkcgmimldjeaiaaDoor

/-
  The reader's readByte: its walk.
-/
namespace Go.Proofs.YtkcgmimldjeaiaaDoor
open Go.RowKit Go.Lib Own

theorem StreamAt.drew {W : World} {base b o : Nat} {cs : Array Value} {T : TypeId} {evs : List Ev} {pend : List UInt8} (h : StreamAt W base b o cs T evs pend) : StreamAt W.drew base b o cs T evs pend := by
  obtain ⟨ev, p, v, xs, hev, hin, hrow, hevs, hap⟩ := h.it
  exact ⟨ev, p, v, xs, hev, ⟨hin.at_, hin.lo, hin.cp, hin.cv, hin.hp, hin.own, hin.ne⟩, hrow, evs_mono (W := W) (W' := W.drew) (fun _ _ _ h => h) xs evs hevs, hap⟩
end Go.Proofs.YtkcgmimldjeaiaaDoor

/-
  What the writer escapes, as a plain function, and that the decoder gives it back.
-/
namespace Go.Proofs.YtkcgmimldjeaiaaDoor
open Go.Lib

theorem index_skip (c : UInt8) (r sub : List UInt8) (h : sub.isPrefixOf (c :: r) = false) : index (c :: r) sub = if index r sub = -1 then -1 else index r sub + 1 := by
  conv => lhs; unfold index
  rw [h]
  by_cases hh : index r sub = -1 <;> simp [hh]
theorem num_all (s old : List UInt8) : replaceNum s old (-1) = count s old := if_pos (.inl (by decide))
theorem rep_nil {old new : List UInt8} (h0 : old ≠ []) : replaceAll [] old new = [] := by
  have hi : index [] old = -1 := by
    cases old with
    | nil => exact absurd rfl h0
    | cons a t => rfl
  unfold replaceAll replace
  rw [num_all, count_miss hi]
  split <;> rfl
theorem rep_hit {old new : List UInt8} (h0 : old ≠ []) (hn : (old == new) = false) (r : List UInt8) : replaceAll (old ++ r) old new = new ++ replaceAll r old new := by
  have hi : index (old ++ r) old = (0 : Nat) := by
    cases old with
    | nil => exact absurd rfl h0
    | cons a t =>
      show index (a :: (t ++ r)) (a :: t) = 0
      unfold index
      rw [if_pos]
      exact List.isPrefixOf_iff_prefix.2 ⟨r, rfl⟩
  have hd : (old ++ r).drop (0 + old.length) = r := by rw [Nat.zero_add, List.drop_left]
  unfold replaceAll replace
  rw [hn, num_all, num_all, count_hit h0 hi, hd, Nat.add_comm 1]
  simp only [Bool.false_eq_true, if_false]
  rw [replaceK_hit old new _ _ 0 hi, hd]
  rfl
theorem rep_skip {old new : List UInt8} (h0 : old ≠ []) (hn : (old == new) = false) (c : UInt8) (r : List UInt8) (hp : old.isPrefixOf (c :: r) = false) : replaceAll (c :: r) old new = c :: replaceAll r old new := by
  have hx := index_skip c r old hp
  unfold replaceAll replace
  rw [hn, num_all, num_all]
  simp only [Bool.false_eq_true, if_false]
  by_cases hm : index r old = -1
  · rw [if_pos hm] at hx
    rw [count_miss hx, count_miss hm]
    rfl
  · rw [if_neg hm] at hx
    obtain ⟨i, hi⟩ : ∃ i : Nat, index r old = i := ⟨(index r old).toNat, by have := index_ge r old; omega⟩
    have hi1 : index (c :: r) old = (i + 1 : Nat) := by rw [hx, hi]; rfl
    have hd : (c :: r).drop (i + 1 + old.length) = r.drop (i + old.length) := by rw [show i + 1 + old.length = (i + old.length) + 1 by omega, List.drop_succ_cons]
    rw [count_hit h0 hi1, count_hit h0 hi, hd, Nat.add_comm 1, replaceK_hit old new _ _ (i + 1) hi1, replaceK_hit old new _ _ i hi, hd]
    rfl

/-! ## one byte replaced -/

theorem rep_one {x : UInt8} {new : List UInt8} (hn : ([x] == new) = false) : ∀ s : List UInt8, replaceAll s [x] new = s.flatMap fun c => if c = x then new else [c]
  | [] => rep_nil (by simp)
  | c :: r => by
    rw [List.flatMap_cons]
    by_cases hc : c = x
    · subst hc
      rw [if_pos rfl, ← rep_one hn r]
      exact rep_hit (by simp) hn r
    · rw [if_neg hc, ← rep_one hn r]
      exact rep_skip (by simp) hn c r (by simp [List.isPrefixOf]; exact fun h => hc h.symm)

def ampE : List UInt8 := [38, 97, 109, 112, 59]
def ltE : List UInt8 := [38, 108, 116, 59]
def gtE : List UInt8 := [38, 103, 116, 59]
def quotE : List UInt8 := [38, 113, 117, 111, 116, 59]
def nbspE : List UInt8 := [38, 110, 98, 115, 112, 59]
def esc1 (q : Bool) (c : UInt8) : List UInt8 := if c = 38 then ampE else if c = 60 then ltE else if c = 62 then gtE else if q = true ∧ c = 34 then quotE else [c]
def escL (q : Bool) : List UInt8 → List UInt8
  | [] => []
  | c :: r => if c = 194 ∧ r.head? = some 160 then nbspE ++ escL q (r.drop 1) else esc1 q c ++ escL q r
termination_by s => s.length
decreasing_by all_goals (simp; try omega)
/-- what package written does -/
def textE (s : List UInt8) : List UInt8 := replaceAll (replaceAll (replaceAll (replaceAll s [38] ampE) [60] ltE) [62] gtE) [194, 160] nbspE
def valueE (s : List UInt8) : List UInt8 := replaceAll (textE s) [34] quotE
theorem three (s : List UInt8) : replaceAll (replaceAll (replaceAll s [38] ampE) [60] ltE) [62] gtE = s.flatMap (esc1 false) := by
  rw [rep_one (by decide), rep_one (by decide), rep_one (by decide), List.flatMap_assoc, List.flatMap_assoc]
  congr 1
  funext c
  unfold esc1
  by_cases h1 : c = 38
  · subst h1; rfl
  · by_cases h2 : c = 60
    · subst h2; rfl
    · by_cases h3 : c = 62
      · subst h3; rfl
      · simp [h1, h2, h3]
theorem rep2_ahead : ∀ (a b : List UInt8), (∀ c ∈ a, c ≠ 194) → replaceAll (a ++ b) [194, 160] nbspE = a ++ replaceAll b [194, 160] nbspE
  | [], _, _ => rfl
  | c :: a, b, h => by
    have hc : ¬ 194 = c := fun e => h c (.head _) e.symm
    rw [List.cons_append, rep_skip (by simp) (by decide) c _ (by simp [List.isPrefixOf, hc]), rep2_ahead a b (fun d hd => h d (.tail _ hd))]
    rfl
theorem esc1_head (q : Bool) (c : UInt8) (h : c ≠ 160) (r : List UInt8) : (esc1 q c ++ r).head? ≠ some 160 := by
  unfold esc1
  repeat' split
  all_goals simp [ampE, ltE, gtE, quotE]
  exact h
theorem textE_eq : ∀ (n : Nat) (s : List UInt8), s.length ≤ n → textE s = escL false s
  | _, [], _ => by
    unfold textE
    rw [three, escL]
    exact rep_nil (by simp)
  | 0, c :: r, h => by simp at h
  | n + 1, c :: r, h => by
    simp only [List.length_cons] at h
    unfold textE
    rw [three, escL, List.flatMap_cons]
    by_cases h1 : c = 194 ∧ r.head? = some 160
    · obtain ⟨rfl, h2⟩ := h1
      rw [if_pos ⟨rfl, h2⟩]
      cases r with
      | nil => cases h2
      | cons d t =>
        simp only [List.head?_cons, Option.some.injEq] at h2
        subst h2
        have ih := textE_eq n t (by simp at h; omega)
        unfold textE at ih
        rw [three] at ih
        rw [List.drop_succ_cons, List.drop_zero, ← ih, List.flatMap_cons]
        exact rep_hit (by simp) (by decide) _
    · rw [if_neg h1]
      have ih := textE_eq n r (by omega)
      unfold textE at ih
      rw [three] at ih
      rw [← ih]
      by_cases hc : c = 194
      · subst hc
        have h2 : (r.flatMap (esc1 false)).head? ≠ some 160 := by
          cases r with
          | nil => simp
          | cons d t =>
            rw [List.flatMap_cons]
            exact esc1_head false d (fun e => h1 ⟨rfl, by rw [e]; rfl⟩) _
        show replaceAll (194 :: _) _ _ = 194 :: _
        refine rep_skip (by simp) (by decide) 194 _ ?_
        cases hf : r.flatMap (esc1 false) with
        | nil => rfl
        | cons d t =>
          rw [hf] at h2
          have h3 : ¬ 160 = d := fun e => h2 (by rw [e]; rfl)
          simp [List.isPrefixOf, h3]
      · refine rep2_ahead _ _ (fun d hd => ?_)
        unfold esc1 at hd
        rintro rfl
        revert hd
        repeat' split
        all_goals simp [ampE, ltE, gtE, quotE]
        exact fun e => hc e.symm
theorem valueE_eq (s : List UInt8) : valueE s = escL true s := by
  unfold valueE
  rw [textE_eq _ s (Nat.le_refl _), rep_one (by decide)]
  have main : ∀ (n : Nat) (s : List UInt8), s.length ≤ n → (escL false s).flatMap (fun c => if c = 34 then quotE else [c]) = escL true s := by
    intro n
    induction n with
    | zero =>
      intro s h
      cases s with
      | nil => rw [escL, escL]; rfl
      | cons c r => simp at h
    | succ n ih =>
      intro s h
      cases s with
      | nil => rw [escL, escL]; rfl
      | cons c r =>
        simp only [List.length_cons] at h
        rw [escL, escL]
        split
        · rw [List.flatMap_append, ih _ (by simp; omega)]
          rfl
        · rw [List.flatMap_append, ih r (by omega)]
          congr 1
          unfold esc1
          by_cases h1 : c = 38
          · subst h1; rfl
          · by_cases h2 : c = 60
            · subst h2; rfl
            · by_cases h3 : c = 62
              · subst h3; rfl
              · by_cases h4 : c = 34
                · subst h4; rfl
                · simp [h1, h2, h3, h4]
  exact main _ s (Nat.le_refl _)

/-! ## the decoder gives it back -/

theorem back_of {attr : Bool} {k : List UInt8} {n : Nat} {z : Int} {b : List UInt8} (r : List UInt8) (hn : nameL (k ++ r) = (n, z)) (hz : n ≠ 0) (hl : k.length = n) (h35 : (k ++ r)[0]? ≠ some 35) (h59 : (k ++ r)[n - 1]? = some 59) (hb : encodeRune z = b) : unr attr (38 :: (k ++ r)) = b ++ unr attr r := by
  have hr : refL attr (k ++ r) = (n, z) := by
    unfold refL
    rw [if_neg h35, hn]
    rw [if_neg (fun h => h.2.2.1 h59)]
  rw [unr_amp]
  unfold oneL
  rw [hr]
  simp only
  rw [if_neg hz, hb, ← hl, List.drop_left]
theorem back_amp (attr : Bool) (r : List UInt8) : unr attr (ampE ++ r) = 38 :: unr attr r := back_of (k := [97, 109, 112, 59]) (n := 4) (z := 38) (b := [38]) r (by kernel_rfl) (by decide) rfl (by simp) (by simp) (by kernel_rfl)
theorem back_lt (attr : Bool) (r : List UInt8) : unr attr (ltE ++ r) = 60 :: unr attr r := back_of (k := [108, 116, 59]) (n := 3) (z := 60) (b := [60]) r (by kernel_rfl) (by decide) rfl (by simp) (by simp) (by kernel_rfl)
theorem back_gt (attr : Bool) (r : List UInt8) : unr attr (gtE ++ r) = 62 :: unr attr r := back_of (k := [103, 116, 59]) (n := 3) (z := 62) (b := [62]) r (by kernel_rfl) (by decide) rfl (by simp) (by simp) (by kernel_rfl)
theorem back_quot (attr : Bool) (r : List UInt8) : unr attr (quotE ++ r) = 34 :: unr attr r := back_of (k := [113, 117, 111, 116, 59]) (n := 5) (z := 34) (b := [34]) r (by kernel_rfl) (by decide) rfl (by simp) (by simp) (by kernel_rfl)
theorem back_nbsp (attr : Bool) (r : List UInt8) : unr attr (nbspE ++ r) = 194 :: 160 :: unr attr r := back_of (k := [110, 98, 115, 112, 59]) (n := 5) (z := 160) (b := [194, 160]) r (by kernel_rfl) (by decide) rfl (by simp) (by simp) (by kernel_rfl)
theorem esc_back (attr q : Bool) : ∀ (n : Nat) (s : List UInt8), s.length ≤ n → unr attr (escL q s) = s
  | _, [], _ => by rw [escL]; rfl
  | 0, c :: r, h => by simp at h
  | n + 1, c :: r, h => by
    simp only [List.length_cons] at h
    rw [escL]
    split
    · rename_i h1
      obtain ⟨rfl, h2⟩ := h1
      cases r with
      | nil => cases h2
      | cons d t =>
        simp only [List.head?_cons, Option.some.injEq] at h2
        subst h2
        rw [back_nbsp, esc_back attr q n _ (by simp at h ⊢; omega)]
        rfl
    · have ih := esc_back attr q n r (by omega)
      unfold esc1
      split
      · rename_i e; rw [back_amp, ih, e]
      · split
        · rename_i e; rw [back_lt, ih, e]
        · split
          · rename_i e; rw [back_gt, ih, e]
          · split
            · rename_i e; rw [back_quot, ih, e.2]
            · rename_i h1 _ _ _
              show unr attr (c :: escL q r) = _
              rw [unr_other attr c _ h1, ih]
theorem esc_signs (q : Bool) : ∀ (n : Nat) (s : List UInt8), s.length ≤ n → ∀ c ∈ escL q s, c ≠ 60 ∧ c ≠ 62 ∧ (q = true → c ≠ 34)
  | _, [], _ => by rw [escL]; intro c hc; cases hc
  | 0, c :: r, h => by simp at h
  | n + 1, c :: r, h => by
    simp only [List.length_cons] at h
    rw [escL]
    intro d hd
    split at hd
    · rcases List.mem_append.1 hd with h1 | h1
      · revert h1
        simp only [nbspE, List.mem_cons, List.not_mem_nil, or_false]
        rintro (rfl | rfl | rfl | rfl | rfl | rfl) <;> simp
      · exact esc_signs q n _ (by simp; omega) d h1
    · rcases List.mem_append.1 hd with h1 | h1
      · revert h1
        unfold esc1
        split
        · simp only [ampE, List.mem_cons, List.not_mem_nil, or_false]
          rintro (rfl | rfl | rfl | rfl | rfl) <;> simp
        · split
          · simp only [ltE, List.mem_cons, List.not_mem_nil, or_false]
            rintro (rfl | rfl | rfl | rfl) <;> simp
          · split
            · simp only [gtE, List.mem_cons, List.not_mem_nil, or_false]
              rintro (rfl | rfl | rfl | rfl) <;> simp
            · split
              · simp only [quotE, List.mem_cons, List.not_mem_nil, or_false]
                rintro (rfl | rfl | rfl | rfl | rfl | rfl) <;> simp
              · rename_i h2 h3 h4 h5
                rw [List.mem_singleton]
                rintro rfl
                exact ⟨h3, h4, fun hq e => h5 ⟨hq, e⟩⟩
      · exact esc_signs q n _ (by omega) d h1
end Go.Proofs.YtkcgmimldjeaiaaDoor

/-
  Package written: Text, EndTag, and a value as a start tag has it: their walks.
-/
namespace Go.Proofs.YtkcgmimldjeaiaaDoor
open Go.RowKit Go.Lib Own

theorem rep_len {x : UInt8} {new : List UInt8} (hn : ([x] == new) = false) (h1 : 1 ≤ new.length) (s : List UInt8) : s.length ≤ (replaceAll s [x] new).length := by
  rw [rep_one hn]
  induction s with
  | nil => simp
  | cons c r ih =>
    rw [List.flatMap_cons, List.length_append, List.length_cons]
    split
    · omega
    · rw [List.length_singleton]; omega
theorem three_len (s : List UInt8) : (replaceAll (replaceAll (replaceAll s [38] ampE) [60] ltE) [62] gtE).length ≤ 5 * s.length := by
  rw [three]
  induction s with
  | nil => simp
  | cons c r ih =>
    rw [List.flatMap_cons, List.length_append, List.length_cons]
    have : (esc1 false c).length ≤ 5 := by
      unfold esc1
      repeat' split
      all_goals try simp [ampE, ltE, gtE]
      rename_i h
      exact absurd h.1 (by decide)
    omega
theorem esc_len (q : Bool) : ∀ (n : Nat) (s : List UInt8), s.length ≤ n → (escL q s).length ≤ 6 * s.length
  | _, [], _ => by rw [escL]; simp
  | 0, c :: r, h => by simp at h
  | n + 1, c :: r, h => by
    simp only [List.length_cons] at h
    rw [escL]
    split
    · have := esc_len q n (r.drop 1) (by simp; omega)
      rw [List.length_append, List.length_cons]
      simp [nbspE] at this ⊢
      omega
    · have := esc_len q n r (by omega)
      have h2 : (esc1 q c).length ≤ 6 := by
        unfold esc1
        repeat' split
        all_goals simp [ampE, ltE, gtE, quotE]
      rw [List.length_append, List.length_cons]
      omega
theorem count_le (s old : ByteArray) (h1 : 1 ≤ old.size) : countB s old ≤ s.size := Nat.le_trans (Nat.le_mul_of_pos_right _ h1) (countB_mul_le old h1 s.size s (Nat.le_refl _))
/-- one replacing of a text that is not too long -/
theorem repl_any (s : ByteArray) (old new : List UInt8) (m : Int) (w : World) (hs : s.size ≤ 1000000000) (hm : w.cell? ⟨10, 0, none⟩ = some (.int .i64 m)) (h1 : 1 ≤ old.length) (h2 : new.length ≤ 6) :
    Calls Tryd.prog 130 #[.string s, .string (bs old), .string (bs new)] w fun e w' => e = .returned (.string (bs (replaceAll s.data.toList old new))) ∧ Below w.heap.size w w' := by
  have hc := count_le s (bs old) (by rw [bs_size]; exact h1)
  have h3 : countB s (bs old) * (bs new).size ≤ s.size * 6 := Nat.mul_le_mul hc (by rw [bs_size]; exact h2)
  exact Tryd.strings_ReplaceAll s (bs old) (bs new) m w (by omega) hm (by rw [bs_size]; exact h1) (by omega)

set_option maxHeartbeats 1000000 in
theorem wrText_any (s : ByteArray) (m : Int) (w : World) (hs : s.size ≤ 100000000) (hm : w.cell? ⟨10, 0, none⟩ = some (.int .i64 m)) :
    Calls Tryd.prog 131 #[.string s] w fun e w' => e = .returned (.string (bs (escL false s.data.toList))) ∧ Below w.heap.size w w' := by
  have hz := size_eq s
  have l1 := rep_len (x := 60) (new := ltE) (by decide) (by decide) (replaceAll s.data.toList [38] ampE)
  have l2 := rep_len (x := 62) (new := gtE) (by decide) (by decide) (replaceAll (replaceAll s.data.toList [38] ampE) [60] ltE)
  have l3 := three_len s.data.toList
  have ht := textE_eq _ s.data.toList (Nat.le_refl _)
  unfold textE at ht
  obtain ⟨r1, hr1⟩ : ∃ r1, replaceAll s.data.toList [38] ampE = r1 := ⟨_, rfl⟩
  have c1 := repl_any s [38] ampE m w (by omega) hm (by decide) (by decide)
  rw [hr1] at l1 l2 l3 ht c1
  obtain ⟨r2, hr2⟩ : ∃ r2, replaceAll r1 [60] ltE = r2 := ⟨_, rfl⟩
  have c2 := fun W hW => repl_any (bs r1) [60] ltE m W (by rw [bs_size]; omega) hW (by decide) (by decide)
  rw [bs_data] at c2
  rw [hr2] at l1 l2 l3 ht c2
  obtain ⟨r3, hr3⟩ : ∃ r3, replaceAll r2 [62] gtE = r3 := ⟨_, rfl⟩
  have c3 := fun W hW => repl_any (bs r2) [62] gtE m W (by rw [bs_size]; omega) hW (by decide) (by decide)
  rw [bs_data] at c3
  rw [hr3] at l2 l3 ht c3
  have c4 := fun W hW => repl_any (bs r3) [194, 160] nbspE m W (by rw [bs_size]; omega) hW (by decide) (by decide)
  rw [bs_data, ht] at c4
  have C1 := hid c1
  have C2 := hid c2
  have C3 := hid c3
  have C4 := hid c4
  have HM := hid hm
  clear c1 c2 c3 c4 l1 l2 l3 ht hr1 hr2 hr3 hz hm
  obtain ⟨R, hR⟩ : ∃ R, bs (escL false s.data.toList) = R := ⟨_, rfl⟩
  obtain ⟨R1, hR1⟩ : ∃ R, bs r1 = R := ⟨_, rfl⟩
  obtain ⟨R2, hR2⟩ : ∃ R, bs r2 = R := ⟨_, rfl⟩
  obtain ⟨R3, hR3⟩ : ∃ R, bs r3 = R := ⟨_, rfl⟩
  rw [hR] at C4 ⊢
  rw [hR1] at C1 C2
  rw [hR2] at C2 C3
  rw [hR3] at C3 C4
  clear hR hR1 hR2 hR3
  unfold bs ampE ltE gtE nbspE at *
  go_enter Tryd.func131, Tryd.ntmps131
  go_wp2_with fail
  refine C1.out.mono ?_
  rintro e w1 ⟨rfl, b1⟩
  have m1 := cell_low HM.out b1 (cell_block HM.out)
  go_wp2_with fail
  refine (C2.out w1 m1).mono ?_
  rintro e w2 ⟨rfl, b2⟩
  have m2 := cell_low m1 b2 (cell_block m1)
  go_wp2_with fail
  refine (C3.out w2 m2).mono ?_
  rintro e w3 ⟨rfl, b3⟩
  have m3 := cell_low m2 b3 (cell_block m2)
  go_wp2_with fail
  refine (C4.out w3 m3).mono ?_
  rintro e w4 ⟨rfl, b4⟩
  have hb := ((b1.trans (b2.mono b1.size)).trans (b3.mono (b1.trans (b2.mono b1.size)).size)).trans (b4.mono ((b1.trans (b2.mono b1.size)).trans (b3.mono (b1.trans (b2.mono b1.size)).size)).size)
  clear b1 b2 b3 b4 m1 m2 m3
  go_wp2
  go_ret
  exact ⟨rfl, hb⟩

/-- an end tag -/
def etagL (n : List UInt8) : List UInt8 := [60, 47] ++ n ++ [62]
theorem wrEnd_any (n : ByteArray) (w : World) (hs : n.size ≤ 100000000) :
    Calls Tryd.prog 114 #[.string n] w fun e w' => e = .returned (.string (bs (etagL n.data.toList))) ∧ w' = w := by
  have hr : (⟨#[60, 47]⟩ : ByteArray) ++ n ++ ⟨#[62]⟩ = bs (etagL n.data.toList) := by
    rw [show (⟨#[60, 47]⟩ : ByteArray) = bs [60, 47] from rfl, show (⟨#[62]⟩ : ByteArray) = bs [62] from rfl, cat_bs, bs_cat]
    rfl
  rw [← hr]
  go_enter Tryd.func114, Tryd.ntmps114
  go_wp2
  go_ret
  exact ⟨rfl, rfl⟩
end Go.Proofs.YtkcgmimldjeaiaaDoor

/-
  The reference's CleanURL: its walk.
-/
namespace Go.Proofs.YtkcgmimldjeaiaaDoor
open Go.RowKit Go.Lib Own

def seenB (c : UInt8) : Bool := decide (31 < (c.toNat : Int)) && ((c.toNat : Int) != 127)
def rtrim (L : List UInt8) : List UInt8 := (L.reverse.dropWhile fun c => c == 32).reverse
theorem rtrim_sp (L : List UInt8) : rtrim (L ++ [32]) = rtrim L := by
  unfold rtrim
  rw [List.reverse_append]
  rfl
theorem rtrim_ne (L : List UInt8) (c : UInt8) (h : c ≠ 32) : rtrim (L ++ [c]) = L ++ [c] := by
  unfold rtrim
  rw [List.reverse_append]
  show (List.dropWhile (fun c => c == 32) (c :: L.reverse)).reverse = _
  rw [List.dropWhile_cons, if_neg (by simpa using h)]
  simp
/-- a link that is stripped -/
def stripL (v : List UInt8) : List UInt8 := rtrim ((v.filter seenB).drop ((v.filter seenB).takeWhile [32].contains).length)
def markT : List UInt8 := [58, 47, 63, 35]
/-- a stripped link, and whether it may stay -/
def linkL (schemes : List (List UInt8)) (v : List UInt8) : List UInt8 × Bool :=
  if (stripL v)[((stripL v).takeWhile fun c => !markT.contains c).length]? = some 58 ∧ schemes.contains (((stripL v).take ((stripL v).takeWhile fun c => !markT.contains c).length).map lowC) = false then ([], false) else (stripL v, true)

theorem filter_step {p : UInt8 → Bool} {l : List UInt8} {k : Nat} {x : UInt8} (h : l[k]? = some x) : (l.take (k + 1)).filter p = (l.take k).filter p ++ (if p x = true then [x] else []) := by
  rw [List.take_add_one, h, List.filter_append]
  congr 1
  show List.filter p [x] = _
  rw [List.filter_cons, List.filter_nil]
theorem extract_list (s : ByteArray) (i j : Nat) : (s.extract i j).data.toList = (s.data.toList.drop i).take (j - i) := by
  rw [ByteArray.data_extract, Array.toList_extract]
theorem while_len {p : UInt8 → Bool} (l : List UInt8) : (l.takeWhile p).length ≤ l.length := by
  induction l with
  | nil => simp
  | cons a l ih =>
    rw [List.takeWhile_cons]
    split
    · simp; omega
    · simp

end Go.Proofs.YtkcgmimldjeaiaaDoor

/-
  The statements' ordered, as a plain function on policies: what it makes is valid.
-/
namespace Go.Proofs.YtkcgmimldjeaiaaDoor
open Go.RowKit Go.Lib Own

def ordE : List (List UInt8) := [[97], [98], [98, 108, 111, 99, 107, 113, 117, 111, 116, 101], [98, 114], [99, 111, 100, 101], [100, 105, 118], [101, 109], [104, 49], [104, 50], [104, 51], [104, 52], [104, 53], [104, 54], [104, 114], [105], [105, 109, 103], [108, 105], [111, 108], [112], [112, 114, 101], [113], [115], [115, 109, 97, 108, 108], [115, 112, 97, 110], [115, 116, 114, 111, 110, 103], [115, 117, 98], [115, 117, 112], [116, 97, 98, 108, 101], [116, 98, 111, 100, 121], [116, 100], [116, 101, 120, 116, 97, 114, 101, 97], [116, 102, 111, 111, 116], [116, 104], [116, 104, 101, 97, 100], [116, 114], [117], [117, 108]]
def ordA : List (List UInt8) := [[97, 108, 116], [99, 105, 116, 101], [99, 108, 97, 115, 115], [99, 111, 108, 115, 112, 97, 110], [100, 105, 114], [104, 101, 105, 103, 104, 116], [104, 114, 101, 102], [105, 100], [108, 97, 110, 103], [114, 101, 108], [114, 111, 119, 115, 112, 97, 110], [115, 114, 99], [115, 116, 97, 114, 116], [116, 105, 116, 108, 101], [119, 105, 100, 116, 104]]
def ordS : List (List UInt8) := [[104, 116, 116, 112], [104, 116, 116, 112, 115], [109, 97, 105, 108, 116, 111], [102, 116, 112], [116, 101, 108], [119, 115]]
def ordD : List (List UInt8) := [[115, 118, 103], [109, 97, 116, 104], [116, 101, 109, 112, 108, 97, 116, 101], [115, 99, 114, 105, 112, 116], [115, 116, 121, 108, 101], [102, 111, 114, 109], [111, 98, 106, 101, 99, 116], [116, 105, 116, 108, 101]]
/-- the attributes that the rules of this name list, and whether there is one -/
def wantedL (rs : List RuleP) (n : List UInt8) : List (List UInt8) × Bool := ((rs.filter fun r => r.1 == n).flatMap Prod.snd, rs.any fun r => r.1 == n)
/-- brought within bounds, as the statements do it -/
def withinP (n lo hi : Int) : Int := if lo ≤ n ∧ n ≤ hi then n else if Int.tmod n (hi - lo + 1) < 0 then lo + (Int.tmod n (hi - lo + 1) + (hi - lo + 1)) else lo + Int.tmod n (hi - lo + 1)
theorem within_bounds (n lo hi : Int) (h : lo ≤ hi) : lo ≤ withinP n lo hi ∧ withinP n lo hi ≤ hi := by
  have h1 : (0 : Int) < hi - lo + 1 := by omega
  have h2 := Int.tmod_lt_of_pos n h1
  have h3 : -(hi - lo + 1) < Int.tmod n (hi - lo + 1) := by
    have h4 := Int.tmod_lt_of_pos (-n) h1
    rw [Int.neg_tmod] at h4
    omega
  unfold withinP
  split
  · assumption
  · split <;> omega
/-- is it a part that lists or tables need? -/
def partL (rs : List RuleP) (n : List UInt8) : Bool := (((wantedL rs [117, 108]).2 || (wantedL rs [111, 108]).2) && n == [108, 105]) || ((wantedL rs [116, 97, 98, 108, 101]).2 && (n == [116, 98, 111, 100, 121] || (n == [116, 114] || n == [116, 100])))
def ordR (rs : List RuleP) (n : List UInt8) : Option RuleP := if ((wantedL rs n).2 || partL rs n) = true then some (n, ordA.filter fun a => (wantedL rs n).1.contains a) else none
def orderedP (P : PolP) : PolP := ⟨ordE.filterMap (ordR P.rules), ordS.filter P.schemes.contains, ordD.filter P.drop.contains, withinP P.depth 1 256, withinP P.window 32 4096⟩
theorem ordR_name {rs : List RuleP} {n : List UInt8} {r : RuleP} (h : ordR rs n = some r) : r.1 = n := by
  unfold ordR at h
  split at h
  · cases h; rfl
  · cases h
/-- no rule for svg -/
theorem ordered_svg (P : PolP) : ∀ r ∈ (orderedP P).rules, r.1 ≠ [115, 118, 103] := by
  intro r hr e
  obtain ⟨n, hn, h⟩ := List.mem_filterMap.1 hr
  rw [ordR_name h] at e
  subst e
  exact absurd hn (by decide +kernel)
def keepsL (rs : List RuleP) (n : List UInt8) : Bool := (wantedL rs n).2 || partL rs n
theorem ord_names (rs : List RuleP) : ∀ l : List (List UInt8), (l.filterMap (ordR rs)).map Prod.fst = l.filter (keepsL rs)
  | [] => rfl
  | n :: l => by
    by_cases h : keepsL rs n = true
    · have h1 : ordR rs n = some (n, ordA.filter fun a => (wantedL rs n).1.contains a) := by unfold ordR; exact if_pos h
      rw [List.filterMap_cons, h1, List.filter_cons_of_pos h, List.map_cons, ord_names rs l]
    · have h1 : ordR rs n = none := by unfold ordR; exact if_neg h
      rw [List.filterMap_cons, h1, List.filter_cons_of_neg h, ord_names rs l]
theorem once_filter {l : List (List UInt8)} (h : l.Nodup) (p : List UInt8 → Bool) : twiceL (l.filter p) = false := decide_eq_false (fun q => q (h.filter p))
theorem ord_rule {rs : List RuleP} {r : RuleP} (h : r ∈ ordE.filterMap (ordR rs)) : r.1 ∈ ordE ∧ ∃ p, r.2 = ordA.filter p := by
  obtain ⟨n, hn, h1⟩ := List.mem_filterMap.1 h
  unfold ordR at h1
  split at h1
  · cases h1; exact ⟨hn, _, rfl⟩
  · cases h1
theorem any_falseO {α : Type} {l : List α} {p : α → Bool} (h : ∀ x ∈ l, p x = false) : l.any p = false := by
  rw [List.any_eq_false]
  intro x hx
  rw [h x hx]
  exact Bool.false_ne_true
theorem ord_parts (rs : List RuleP) : partsP (ordE.filter (keepsL rs)) = false := by
  have hmem : ∀ n, (ordE.filter (keepsL rs)).contains n = (ordE.contains n && keepsL rs n) := fun n => by
    rw [Bool.eq_iff_iff]
    simp
  unfold partsP
  simp only [hmem]
  have e1 : ordE.contains [117, 108] = true := by decide +kernel
  have e2 : ordE.contains [111, 108] = true := by decide +kernel
  have e3 : ordE.contains [108, 105] = true := by decide +kernel
  have e4 : ordE.contains [116, 97, 98, 108, 101] = true := by decide +kernel
  have e5 : ordE.contains [116, 98, 111, 100, 121] = true := by decide +kernel
  have e6 : ordE.contains [116, 114] = true := by decide +kernel
  have e7 : ordE.contains [116, 100] = true := by decide +kernel
  simp only [e1, e2, e3, e4, e5, e6, e7, Bool.true_and, keepsL, partL]
  generalize (wantedL rs [117, 108]).2 = a
  generalize (wantedL rs [111, 108]).2 = b
  generalize (wantedL rs [108, 105]).2 = c
  generalize (wantedL rs [116, 97, 98, 108, 101]).2 = d
  generalize (wantedL rs [116, 98, 111, 100, 121]).2 = e
  generalize (wantedL rs [116, 114]).2 = f
  generalize (wantedL rs [116, 100]).2 = g
  cases a <;> cases b <;> cases c <;> cases d <;> cases e <;> cases f <;> cases g <;> rfl
/-- what ordered makes is valid, whatever part of its list of drops is put into it -/
theorem ordered_check (P : PolP) (D : List (List UInt8)) (hD : D.Nodup) (hD2 : ∀ x ∈ D, x ∈ ordD) (hD3 : D.length ≤ 64) : checkP ⟨(orderedP P).rules, (orderedP P).schemes, D, (orderedP P).depth, (orderedP P).window⟩ = 0 := by
  obtain ⟨d1, d2⟩ := within_bounds P.depth 1 256 (by decide)
  obtain ⟨w1, w2⟩ := within_bounds P.window 32 4096 (by decide)
  have hn := ord_names P.rules ordE
  have key : ∀ n, 1 ≤ n → n ≤ 10 → wrongP n ⟨(orderedP P).rules, (orderedP P).schemes, D, (orderedP P).depth, (orderedP P).window⟩ = false := by
    intro n h1 h2
    have hany : ∀ m, anyWrongP m ⟨(orderedP P).rules, (orderedP P).schemes, D, (orderedP P).depth, (orderedP P).window⟩ = false := by
      intro m
      have hr : (ordE.filterMap (ordR P.rules)).any (wrongRuleP m) = false := any_falseO (fun r hr => by
        obtain ⟨h1, p, h2⟩ := ord_rule hr
        unfold wrongRuleP
        split
        · exact (by decide +kernel : ∀ x ∈ ordE, (classL x == 0) = false) _ h1
        · split
          · rw [h2]; exact once_filter (by decide +kernel) p
          · rw [h2]
            have : ((ordA.filter p).any fun a => !attrT.contains a) = false := any_falseO (fun a ha => (by decide +kernel : ∀ a ∈ ordA, (!attrT.contains a) = false) a (List.mem_filter.1 ha).1)
            rw [this, Bool.and_false])
      have hs : (ordS.filter P.schemes.contains).any wrongSchemeP = false := any_falseO (fun x hx => (by decide +kernel : ∀ x ∈ ordS, wrongSchemeP x = false) x (List.mem_filter.1 hx).1)
      have hd : D.any (wrongDropP ((ordE.filterMap (ordR P.rules)).map Prod.fst)) = false := any_falseO (fun x hx => by
        have h3 := hD2 x hx
        have h4 : ((ordE.filterMap (ordR P.rules)).map Prod.fst).contains x = false := by
          rw [hn, Bool.eq_false_iff]
          intro h
          have h5 : x ∈ ordE := (List.mem_filter.1 (List.contains_iff_mem.1 h)).1
          exact (by decide +kernel : ∀ x ∈ ordD, x ∉ ordE) x h3 h5
        unfold wrongDropP
        rw [h4, Bool.or_false]
        exact (by decide +kernel : ∀ x ∈ ordD, (voidT.contains x || !isWordL dropL x) = false) x h3)
      unfold anyWrongP orderedP
      simp only [hr, hs, hd, Bool.and_false, Bool.or_false]
    unfold wrongP
    simp only [hany, Bool.or_false]
    have hl : (ordS.filter P.schemes.contains).length ≤ 6 := List.length_filter_le _ _
    have ht : twiceL ((ordE.filterMap (ordR P.rules)).map Prod.fst) = false := by rw [hn]; exact once_filter (by decide +kernel) _
    have hp : partsP ((ordE.filterMap (ordR P.rules)).map Prod.fst) = false := by rw [hn]; exact ord_parts P.rules
    have hsn : twiceL (ordS.filter P.schemes.contains) = false := once_filter (by decide +kernel) _
    have hdn : twiceL D = false := decide_eq_false (fun q => q hD)
    unfold orderedP
    split
    · exact decide_eq_false (by simp only; omega)
    · split
      · exact decide_eq_false (by simp only; omega)
      · split
        · exact ht
        · split
          · exact decide_eq_false (by simp only; omega)
          · split
            · exact hsn
            · split
              · simp only [hdn, Bool.or_false]; exact decide_eq_false (by omega)
              · split
                · exact hp
                · rfl
  unfold checkP
  simp only [checkFrom]
  rw [key 1 (by omega) (by omega), key 2 (by omega) (by omega), key 3 (by omega) (by omega), key 4 (by omega) (by omega), key 5 (by omega) (by omega), key 6 (by omega) (by omega), key 7 (by omega) (by omega), key 8 (by omega) (by omega), key 9 (by omega) (by omega), key 10 (by omega) (by omega)]
  rfl
end Go.Proofs.YtkcgmimldjeaiaaDoor

/-
  policy.Check: predicates on words and rules, and Check itself: their walks.
-/
namespace Go.Proofs.YtkcgmimldjeaiaaDoor
open Go.RowKit Go.Lib Own

set_option maxHeartbeats 2000000 in
set_option maxRecDepth 100000 in
theorem isWord_any (x sg : ByteArray) (w : World) (hx : x.size ≤ 1000000000) :
    Calls Tryd.prog 105 #[.string x, .string sg] w fun e w' => e = .returned (.bool (isWordL (smallL ++ digitL ++ sg.data.toList) x.toList)) ∧ w' = w := by
  have hw := fun W => wordLen_any x sg W hx
  have hxz := size_eq x
  have hle := wordLen_le sg.data.toList x.data.toList
  rw [← hxz] at hle
  rw [word_is]
  have htl : x.toList = x.data.toList := Lib.toList_data x
  have q0 : (x.toList == []) = (x.data.toList == []) := by rw [htl]
  rw [htl, ← hxz]
  generalize wordLenL sg.data.toList x.data.toList = n at hw hle ⊢
  by_cases h0 : x.data.toList = []
  · rw [h0] at q0 ⊢
    have q1 : (x.toList == []) = true := q0
    clear hw htl hxz q0 h0
    go_enter Tryd.func105, Tryd.ntmps105
    go_wp2
    go_ret
    exact ⟨rfl, rfl⟩
  · have e0 : (x.data.toList == []) = false := beq_eq_false_iff_ne.2 h0
    have q1 : (x.toList == []) = false := q0.trans e0
    rw [e0]
    by_cases h32 : x.size ≤ 32
    · rw [decide_eq_true h32]
      have z1 : (x.size : Int) ≤ 32 := by omega
      by_cases hn : n = x.size
      · subst hn
        have HW := hid hw
        clear hw htl hxz q0 h0 e0
        go_enter Tryd.func105, Tryd.ntmps105
        go_wp2_with (go_at_call 128; refine (HW.out _).mono ?_; rintro e w' ⟨rfl, rfl⟩)
        go_ret
        exact ⟨ret_bool (by simp), rfl⟩
      · have e1 : (n == x.size) = false := beq_eq_false_iff_ne.2 hn
        have z2 : ((n : Int) == (x.size : Int)) = false := beq_eq_false_iff_ne.2 (by omega)
        rw [e1]
        have HW := hid hw
        clear hw htl hxz q0 h0 e0 e1 hn
        go_enter Tryd.func105, Tryd.ntmps105
        go_wp2_with (go_at_call 128; refine (HW.out _).mono ?_; rintro e w' ⟨rfl, rfl⟩)
        go_ret
        exact ⟨ret_bool (by simp), rfl⟩
    · rw [decide_eq_false h32]
      have z1 : ¬ (x.size : Int) ≤ 32 := by omega
      clear hw htl hxz q0 h0 e0 hle
      go_enter Tryd.func105, Tryd.ntmps105
      go_wp2
      go_ret
      exact ⟨rfl, rfl⟩

set_option maxHeartbeats 2000000 in
set_option maxRecDepth 100000 in
theorem isBadScheme_any (x : ByteArray) (w : World) (hx : x.size ≤ 1000000000) :
    Calls Tryd.prog 68 #[.string x] w fun e w' => e = .returned (.bool (wrongSchemeP x.toList)) ∧ w' = w := by
  have hw := fun W => isWord_any x (bs [43, 45, 46]) W hx
  rw [show smallL ++ digitL ++ (bs [43, 45, 46]).data.toList = schemeL from rfl] at hw
  unfold wrongSchemeP
  obtain ⟨B, hB⟩ : ∃ B, isWordL schemeL x.toList = B := ⟨_, rfl⟩
  rw [hB] at hw ⊢
  have HW := hid hw
  unfold bs at HW
  clear hw hB
  obtain ⟨b1, h1⟩ : ∃ b1, (x.toList == [106, 97, 118, 97, 115, 99, 114, 105, 112, 116]) = b1 := ⟨_, rfl⟩
  obtain ⟨b2, h2⟩ : ∃ b2, (x.toList == [118, 98, 115, 99, 114, 105, 112, 116]) = b2 := ⟨_, rfl⟩
  obtain ⟨b3, h3⟩ : ∃ b3, (x.toList == [100, 97, 116, 97]) = b3 := ⟨_, rfl⟩
  rw [h1, h2, h3]
  cases b1
  · cases b2
    · cases b3
      · go_enter Tryd.func68, Tryd.ntmps68
        go_wp2_with (go_at_call 105; refine (HW.out _).mono ?_; rintro e w' ⟨rfl, rfl⟩)
        go_ret
        exact ⟨ret_bool (by cases B <;> rfl), rfl⟩
      · go_enter Tryd.func68, Tryd.ntmps68
        go_wp2
        go_ret
        exact ⟨ret_bool (by cases B <;> rfl), rfl⟩
    · go_enter Tryd.func68, Tryd.ntmps68
      go_wp2
      go_ret
      exact ⟨ret_bool (by cases B <;> rfl), rfl⟩
  · go_enter Tryd.func68, Tryd.ntmps68
    go_wp2
    go_ret
    exact ⟨ret_bool (by cases B <;> rfl), rfl⟩

set_option maxHeartbeats 4000000 in
set_option maxRecDepth 100000 in
theorem neverEnds_yes (X : List UInt8) (w : World) (hk : X ∈ voidT) :
    Calls Tryd.prog 107 #[.string (bs X)] w fun e w' => e = .returned (.bool true) ∧ w' = w := by
  simp only [voidT, List.mem_cons, List.not_mem_nil, or_false] at hk
  rcases hk with rfl | rfl | rfl | rfl | rfl | rfl | rfl | rfl | rfl | rfl | rfl | rfl | rfl
  all_goals unfold bs
  all_goals go_enter Tryd.func107, Tryd.ntmps107
  all_goals go_wp2
  all_goals go_ret
  all_goals exact ⟨rfl, rfl⟩
set_option maxHeartbeats 4000000 in
set_option maxRecDepth 100000 in
theorem neverEnds_no (x : ByteArray) (w : World) (hk : x.toList ∉ voidT) :
    Calls Tryd.prog 107 #[.string x] w fun e w' => e = .returned (.bool false) ∧ w' = w := by
  simp only [voidT, List.mem_cons, List.not_mem_nil, or_false, not_or] at hk
  obtain ⟨h0, h1, h2, h3, h4, h5, h6, h7, h8, h9, h10, h11, h12⟩ := hk
  replace h0 := ne_beq h0
  replace h1 := ne_beq h1
  replace h2 := ne_beq h2
  replace h3 := ne_beq h3
  replace h4 := ne_beq h4
  replace h5 := ne_beq h5
  replace h6 := ne_beq h6
  replace h7 := ne_beq h7
  replace h8 := ne_beq h8
  replace h9 := ne_beq h9
  replace h10 := ne_beq h10
  replace h11 := ne_beq h11
  replace h12 := ne_beq h12
  go_enter Tryd.func107, Tryd.ntmps107
  go_wp2
  go_ret
  exact ⟨rfl, rfl⟩
theorem neverEnds_any (x : ByteArray) (w : World) :
    Calls Tryd.prog 107 #[.string x] w fun e w' => e = .returned (.bool (voidT.contains x.toList)) ∧ w' = w := by
  by_cases hk : x.toList ∈ voidT
  · have h2 := neverEnds_yes x.toList w hk
    rw [bs_toList2] at h2
    rw [show voidT.contains x.toList = true by simpa using hk]
    exact h2
  · rw [show voidT.contains x.toList = false by simpa using hk]
    exact neverEnds_no x w hk

/-! ## the closures -/

set_option maxHeartbeats 2000000 in
set_option maxRecDepth 100000 in
theorem badDrop_any (x : ByteArray) (B : Nat) (v : Value) (names : List (List UInt8)) (w : World) (hx : x.size ≤ 1000000000) (hB : w.cell? ⟨B, 0, none⟩ = some v) (h : Words w v names) :
    Calls Tryd.prog 106 #[.string x, .pointer (some ⟨B, 0, none⟩)] w fun e w' => e = .returned (.bool (wrongDropP names x.toList)) ∧ w' = w := by
  have hw := fun W => isWord_any x (bs [45]) W hx
  rw [show smallL ++ digitL ++ (bs [45]).data.toList = dropL from rfl] at hw
  have hne := fun W => neverEnds_any x W
  have hct := slContains_any v names x w h
  obtain ⟨p, c, rfl, _⟩ := h.len
  unfold wrongDropP
  generalize isWordL dropL x.toList = b1 at hw ⊢
  generalize voidT.contains x.toList = b2 at hne ⊢
  generalize names.contains x.toList = b3 at hct ⊢
  have HW := hid hw
  have HN := hid hne
  have HC := hid hct
  unfold bs at HW
  clear hw hne hct h
  cases b1
  · go_enter Tryd.func106, Tryd.ntmps106
    go_wp2_with (go_at_call 105; refine (HW.out _).mono ?_; rintro e w' ⟨rfl, rfl⟩)
    go_ret
    exact ⟨ret_bool (by cases b2 <;> rfl), rfl⟩
  · cases b2
    · go_enter Tryd.func106, Tryd.ntmps106
      go_wp2_with (first | (go_at_call 105; refine (HW.out _).mono ?_; rintro e w' ⟨rfl, rfl⟩) | (go_at_call 107; refine (HN.out _).mono ?_; rintro e w' ⟨rfl, rfl⟩) | (go_at_call 102; refine HC.out.mono ?_; rintro e w' ⟨rfl, rfl⟩))
      go_ret
      exact ⟨ret_bool (by cases b3 <;> rfl), rfl⟩
    · go_enter Tryd.func106, Tryd.ntmps106
      go_wp2_with (first | (go_at_call 105; refine (HW.out _).mono ?_; rintro e w' ⟨rfl, rfl⟩) | (go_at_call 107; refine (HN.out _).mono ?_; rintro e w' ⟨rfl, rfl⟩))
      go_ret
      exact ⟨ret_bool (by cases b3 <;> rfl), rfl⟩
theorem partsOne_any (x : ByteArray) (B : Nat) (v : Value) (names : List (List UInt8)) (w : World) (hB : w.cell? ⟨B, 0, none⟩ = some v) (h : Words w v names) :
    Calls Tryd.prog 108 #[.string x, .pointer (some ⟨B, 0, none⟩)] w fun e w' => e = .returned (.bool (names.contains x.toList)) ∧ w' = w := by
  have hct := slContains_any v names x w h
  obtain ⟨p, c, rfl, _⟩ := h.len
  generalize names.contains x.toList = b3 at hct ⊢
  have HC := hid hct
  clear hct h
  go_enter Tryd.func108, Tryd.ntmps108
  go_wp2_with (go_at_call 102; refine HC.out.mono ?_; rintro e w' ⟨rfl, rfl⟩)
  go_ret
  exact ⟨rfl, rfl⟩

/-! ## the predicates, as IndexFunc asks them -/

theorem predEl (w : World) (ss : List (List UInt8)) (hT : KindsTab w) : PredW w 63 #[] ss (fun s => classL s == 0) := fun W s _ hb => by
  have := isUnkEl_any (bs s) W (hT.below hb)
  rw [bs_toList] at this
  exact this.mono (fun _ _ ⟨h1, h2⟩ => ⟨h1, hb.trans (h2.mono hb.size)⟩)
theorem predAt (w : World) (ss : List (List UInt8)) (hT : VAttrTab w) : PredW w 104 #[] ss (fun s => !attrT.contains s) := fun W s _ hb => by
  have := isUnkAt_any (bs s) W (hT.below hb)
  rw [bs_toList] at this
  exact this.mono (fun _ _ ⟨h1, h2⟩ => ⟨h1, by rw [h2]; exact hb⟩)
theorem predSch (w : World) (ss : List (List UInt8)) (hs : ∀ s ∈ ss, s.length ≤ 1000000000) : PredW w 68 #[] ss wrongSchemeP := fun W s hm hb => by
  have := isBadScheme_any (bs s) W (by rw [bs_size]; exact hs s hm)
  rw [bs_toList] at this
  exact this.mono (fun _ _ ⟨h1, h2⟩ => ⟨h1, by rw [h2]; exact hb⟩)
theorem predDrop (w : World) (ss : List (List UInt8)) (B : Nat) (v : Value) (names : List (List UInt8)) (hs : ∀ s ∈ ss, s.length ≤ 1000000000) (hB : w.cell? ⟨B, 0, none⟩ = some v) (h : Words w v names) :
    PredW w 106 #[.pointer (some ⟨B, 0, none⟩)] ss (wrongDropP names) := fun W s hm hb => by
  have := badDrop_any (bs s) B v names W (by rw [bs_size]; exact hs s hm) (cell_kept hB hb) (h.below hb)
  rw [bs_toList] at this
  exact this.mono (fun _ _ ⟨h1, h2⟩ => ⟨h1, by rw [h2]; exact hb⟩)

set_option maxHeartbeats 1000000 in
theorem listsUnk_any (r : RuleP) (u : Value) (w : World) (h : Words w u r.2) (hT : VAttrTab w) :
    Calls Tryd.prog 66 #[.agg #[.string (bs r.1), u]] w fun e w' => e = .returned (.bool (r.2.any fun a => !attrT.contains a)) ∧ Below w.heap.size w w' := by
  have hb := (Below.refl w.heap.size w).alloc (Nat.le_refl _) (.cells #[.string (bs r.1), u] 73)
  have hn := heap_alloc_new w (.cells #[.string (bs r.1), u] 73)
  have hc := slContainsFunc_any 104 #[] (enters_of Tryd.func104 (by kernel_rfl) rfl) _ u r.2 _ (h.below hb) (predAt _ r.2 (hT.below hb))
  have c1 := cell_at hn (j := 1) rfl
  obtain ⟨p, c, rfl, _⟩ := h.len
  obtain ⟨R, hR⟩ : ∃ R, r.2.any (fun a => !attrT.contains a) = R := ⟨_, rfl⟩
  obtain ⟨S, hS⟩ : ∃ S, bs r.1 = S := ⟨_, rfl⟩
  rw [hR, hS] at hc
  rw [hS] at c1 hb ⊢
  rw [hR]
  have HC := hid hc
  have HB := hid hb
  clear hc hR hS h hn hb
  go_enter Tryd.func66, Tryd.ntmps66
  go_wp2_with (go_at_call 62; refine HC.out.mono ?_; rintro e w' ⟨rfl, b1⟩)
  go_ret
  exact ⟨rfl, HB.out.trans (b1.mono HB.out.size)⟩
set_option maxHeartbeats 1000000 in
theorem listsTw_any (r : RuleP) (u : Value) (w : World) (h : Words w u r.2) :
    Calls Tryd.prog 67 #[.agg #[.string (bs r.1), u]] w fun e w' => e = .returned (.bool (twiceL r.2)) ∧ Below w.heap.size w w' := by
  have hb := (Below.refl w.heap.size w).alloc (Nat.le_refl _) (.cells #[.string (bs r.1), u] 73)
  have hn := heap_alloc_new w (.cells #[.string (bs r.1), u] 73)
  have hc := hasTwice_any u r.2 _ (h.below hb)
  have c1 := cell_at hn (j := 1) rfl
  obtain ⟨p, c, rfl, _⟩ := h.len
  obtain ⟨R, hR⟩ : ∃ R, twiceL r.2 = R := ⟨_, rfl⟩
  obtain ⟨S, hS⟩ : ∃ S, bs r.1 = S := ⟨_, rfl⟩
  rw [hR, hS] at hc
  rw [hS] at c1 hb ⊢
  rw [hR]
  have HC := hid hc
  have HB := hid hb
  clear hc hR hS h hn hb
  go_enter Tryd.func67, Tryd.ntmps67
  go_wp2_with (go_at_call 64; refine HC.out.mono ?_; rintro e w' ⟨rfl, rfl⟩)
  go_ret
  exact ⟨rfl, HB.out⟩
theorem predUnk (w : World) (rs : List RuleP) (hT : VAttrTab w) : PredR w 66 #[] rs (fun r => r.2.any fun a => !attrT.contains a) := fun W r u _ hu hb =>
  (listsUnk_any r u W (hu.below hb) (hT.below hb)).mono (fun _ _ ⟨h1, h2⟩ => ⟨h1, hb.trans (h2.mono hb.size)⟩)
theorem predTw (w : World) (rs : List RuleP) : PredR w 67 #[] rs (fun r => twiceL r.2) := fun W r u _ hu hb =>
  (listsTw_any r u W (hu.below hb)).mono (fun _ _ ⟨h1, h2⟩ => ⟨h1, hb.trans (h2.mono hb.size)⟩)
end Go.Proofs.YtkcgmimldjeaiaaDoor
