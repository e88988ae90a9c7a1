/-
  Parts of the walk, joined: TagAttrs, Stream, InReset, EndText, PutEv, EvGet, BalL, SameEv, PolLend, PolLendA, PolSame, SameR, PolLendB, PolKept, AppendTwo, Reader, ReadByte, SkipTag, StepB, ApartA, ApartB, LendE, InStr, FoldN, EscText, WrText, WrTag, FiltL, LinkIx, LinkAny, LinkCode, WrTake, WordsA, TabsK.
-/
import Derived.Test.YtkcgmimldjeaiaaDoorGen
import Derived.Test.YtkcgmimldjeaiaaDoorJoinA
import Derived.Test.YtkcgmimldjeaiaaDoorUnref
import Derived.Deep.RegionLaw
import Derived.Deep.AppendLies
import Derived.Test.YtkcgmimldjeaiaaDoorPolCode
import Derived.BigQuiet
import Derived.Test.YtkcgmimldjeaiaaDoorPolRefC
import Derived.Laws.AppendOwnNone
import Derived.Deep.Cut
import Derived.Deep.RegionWith
import Derived.Laws.Rows
import Derived.Maps.AppendAt
import Derived.Test.YtkcgmimldjeaiaaDoorLexFind
import Derived.Test.YtkcgmimldjeaiaaDoorShelf
import Derived.Test.YtkcgmimldjeaiaaDoorMemW
import Derived.Lib.UnsafeStr
import Derived.Test.YtkcgmimldjeaiaaDoorVoc
import Derived.Lib.Replace
import Derived.Lib.ReplaceLaws
import Derived.WalkKit
import Derived.Test.YtkcgmimldjeaiaaDoorRefText
import Derived.Laws.RangeAny
import Derived.Laws.RangeString
import Derived.Lib.OthersKept
import Derived.Lib.QuoteLoop
import Derived.Lib.TrimU
import Derived.Shelf.Strings.IndexAny
import Derived.WalkMore
import Derived.Deep.QuietTactic
import Derived.BigCall
import Derived.Lib.RuneCountTail
import Derived.Shelf.Strings.IndexAnyAll
import Derived.Test.YtkcgmimldjeaiaaDoorSlW
import Derived.Test.YtkcgmimldjeaiaaDoorLower
import Derived.Test.YtkcgmimldjeaiaaDoorLex
import Derived.Test.YtkcgmimldjeaiaaDoorRows
import Derived.Test.YtkcgmimldjeaiaaDoorPolRefB
import Derived.SliceStrings
import Derived.Deep.Strs
import Derived.Lib.LaidU8T
import Derived.Lib.LaidTab
import Derived.Lib.LaidU8
import Derived.OpenShut
import Derived.ChangeSame
import Derived.ChangeArms
/-
  lexer.tagAttrs: its walk.
-/
namespace Go.Proofs.YtkcgmimldjeaiaaDoor
open Go.RowKit Go.Lib Own

def attrsV (l : List (List UInt8 × List UInt8)) : List Value := l.flatMap fun a => [strV a.1, strV a.2]
theorem attrsV_len : ∀ l : List (List UInt8 × List UInt8), (attrsV l).length = l.length * 2
  | [] => rfl
  | a :: l => by
    have := attrsV_len l
    unfold attrsV at this ⊢
    simp only [List.flatMap_cons, List.length_append, List.length_cons, List.length_nil, this]
    omega
theorem attrsV_app (a b : List (List UInt8 × List UInt8)) : attrsV (a ++ b) = attrsV a ++ attrsV b := by
  unfold attrsV
  rw [List.flatMap_append]
theorem attrsV_set (ini : List (List UInt8 × List UInt8)) (a : List UInt8 × List UInt8) (u : List UInt8) : (attrsV (ini ++ [a])).set (ini.length * 2 + 1) (strV u) = attrsV (ini ++ [(a.1, u)]) := by
  rw [attrsV_app, attrsV_app, List.set_append, attrsV_len, if_neg (by omega), Nat.add_sub_cancel_left]
  rfl
theorem info_attr : (Tryd.prog.info? 101).map (fun i => (i.zero, i.size, i.bytes)) = some (some (.agg #[.string ⟨#[]⟩, .string ⟨#[]⟩]), 2, 32) := by kernel_rfl
theorem part_more (L : List UInt8) (f k : Nat) (x : UInt8) (hf : f ≤ k) (h : L[k]? = some x) : (L.take (k + 1)).drop f = (L.take k).drop f ++ [x] := by
  have h1 := (List.getElem?_eq_some_iff.1 h).1
  rw [List.take_add_one, h, List.drop_append_of_le_length (by rw [List.length_take]; omega)]
  rfl
theorem part_slice (s : ByteArray) (f k : Nat) : (s.extract f k).data.toList = (s.data.toList.take k).drop f := by
  simp [List.drop_take]
theorem next_table (s : Nat) (h0 : 3 ≤ s) (h1 : s ≤ 10) (c : UInt8) : ((s = 5 ∨ s = 8 ∨ s = 9 ∨ s = 10) → nextT s c = s ∨ nextT s c ≠ 8 ∧ nextT s c ≠ 9) ∧
    ((nextT s c = 6 ∨ nextT s c = 7 ∨ nextT s c = 8 ∨ nextT s c = 9 ∨ nextT s c = 10) → s = 5 ∨ 6 ≤ s) := by
  have hc := colC_lt c
  have hall : ∀ (i : Fin 8) (k : Fin 7), ((i.val + 3 = 5 ∨ i.val + 3 = 8 ∨ i.val + 3 = 9 ∨ i.val + 3 = 10) → (tagTab.getD i.val []).getD k.val 0 = i.val + 3 ∨ (tagTab.getD i.val []).getD k.val 0 ≠ 8 ∧ (tagTab.getD i.val []).getD k.val 0 ≠ 9) ∧
    (((tagTab.getD i.val []).getD k.val 0 = 6 ∨ (tagTab.getD i.val []).getD k.val 0 = 7 ∨ (tagTab.getD i.val []).getD k.val 0 = 8 ∨ (tagTab.getD i.val []).getD k.val 0 = 9 ∨ (tagTab.getD i.val []).getD k.val 0 = 10) → i.val + 3 = 5 ∨ 6 ≤ i.val + 3) := by decide +kernel
  obtain ⟨i, rfl⟩ : ∃ i, s = i + 3 := ⟨s - 3, by omega⟩
  exact hall ⟨i, by omega⟩ ⟨colC c, hc⟩
/-- the attributes, from byte k on -/
def AttrsAt (L : List UInt8) (k s f : Nat) (acc R : List (List UInt8 × List UInt8)) : Prop := attrsL s ((L.take k).drop f) acc (L.drop k) = R ∧ (passL s (L.drop k)).1 = L.length - k
theorem attrs_same {L : List UInt8} {k s f : Nat} {acc R : List (List UInt8 × List UInt8)} {x : UInt8} (h : AttrsAt L k s f acc R) (hf : f ≤ k) (hx : L[k]? = some x) (hs : s ≠ 0) (hv : nextT s x = s) : AttrsAt L (k + 1) s f acc R := by
  obtain ⟨h1, h2⟩ := h
  obtain ⟨hl, hg⟩ := List.getElem?_eq_some_iff.1 hx
  rw [List.drop_eq_getElem_cons hl, hg] at h1 h2
  rw [attrsL, if_pos hv] at h1
  rw [passL, if_neg hs, hv] at h2
  exact ⟨by rw [part_more L f k x hf hx]; exact h1, by simp only at h2; omega⟩
theorem attrs_next {L : List UInt8} {k s f : Nat} {acc R : List (List UInt8 × List UInt8)} {x : UInt8} (h : AttrsAt L k s f acc R) (hx : L[k]? = some x) (hs : s ≠ 0) (hv : nextT s x ≠ s) :
    AttrsAt L (k + 1) (nextT s x) (if nextT s x = 8 ∨ nextT s x = 9 then k + 1 else k)
      (if s = 5 then acc ++ [(((L.take k).drop f).map lowC, [])] else if s = 8 ∨ s = 9 ∨ s = 10 then acc.dropLast ++ [((acc.getLast?.getD ([], [])).1, unr true ((L.take k).drop f))] else acc) R := by
  obtain ⟨h1, h2⟩ := h
  obtain ⟨hl, hg⟩ := List.getElem?_eq_some_iff.1 hx
  rw [List.drop_eq_getElem_cons hl, hg] at h1 h2
  rw [attrsL, if_neg hv] at h1
  rw [passL, if_neg hs] at h2
  refine ⟨?_, by simp only at h2; omega⟩
  have hpart : (L.take (k + 1)).drop (if nextT s x = 8 ∨ nextT s x = 9 then k + 1 else k) = if nextT s x = 8 ∨ nextT s x = 9 then [] else [x] := by
    split
    · rw [List.drop_of_length_le (by rw [List.length_take]; omega)]
    · rw [part_more L k k x (Nat.le_refl _) hx, List.drop_of_length_le (by rw [List.length_take]; omega)]
      rfl
  rw [hpart]
  exact h1
theorem attrs_live {L : List UInt8} {k s f : Nat} {acc R : List (List UInt8 × List UInt8)} (h : AttrsAt L k s f acc R) (hk : k < L.length) : s ≠ 0 := by
  rintro rfl
  obtain ⟨_, h2⟩ := h
  rw [List.drop_eq_getElem_cons hk] at h2
  simp only [passL, if_true] at h2
  omega
theorem attrs_over {L : List UInt8} {k s f : Nat} {acc R : List (List UInt8 × List UInt8)} (h : AttrsAt L k s f acc R) (hk : L.length ≤ k) : acc = R := by
  obtain ⟨h1, _⟩ := h
  rw [List.drop_of_length_le hk] at h1
  exact h1
end Go.Proofs.YtkcgmimldjeaiaaDoor

/-
  The stream of events inside another block: what it holds, and PutText: its walk.
-/
namespace Go.Proofs.YtkcgmimldjeaiaaDoor
open Go.RowKit Go.Lib Own

/-- the cells of a list of events: each an event's four -/
def EvsAt (W : World) (base : Nat) : List Value → List Ev → Prop
  | [], [] => True
  | k :: n :: a :: t :: r, e :: l => (match e with
    | .text b => k = .int .i64 3 ∧ n = .string ⟨#[]⟩ ∧ a = .slice none 0 0 ∧ t = strV b
    | .start m at_ => k = .int .i64 1 ∧ n = strV m ∧ W.ownsRow base 101 2 a at_.length (attrsV at_) ∧ t = .string ⟨#[]⟩
    | .stop m => k = .int .i64 2 ∧ n = strV m ∧ a = .slice none 0 0 ∧ t = .string ⟨#[]⟩) ∧ EvsAt W base r l
  | _, _ => False
/-- rows of another kind than the one that is written stay what they are -/
theorem row_keep {W W' : World} {base b : Nat} {e T : TypeId} {size n n0 : Nat} {v v0 : Value} {xs xs0 : List Value} {cs : Array Value} (h : W.ownsRow base e size v n xs) (hb : W.heap[b]? = some (.cells cs T (0, 0))) (hT : T ≠ e)
    (h0 : W.ownsRowF base 5 1 v0 n0 xs0) (he : e ≠ 5) (hk : ∀ k, k < W.heap.size → k ≠ b → v0.ownBlock ≠ some k → W'.heap[k]? = W.heap[k]?) : W'.ownsRow base e size v n xs := by
  refine ⟨h.1, ?_⟩
  rcases h.2 with h2 | ⟨g, cap, cur, rfl, hg0, hg, rest⟩
  · exact .inl h2
  · refine .inr ⟨g, cap, cur, rfl, hg0, ?_, rest⟩
    rw [hk g (Array.getElem?_eq_some_iff.1 hg).1 ?_ ?_]
    · exact hg
    · rintro rfl
      rw [hg] at hb
      simp only [Option.some.injEq, Obj.cells.injEq] at hb
      exact hT hb.2.1.symm
    · intro h3
      rcases h0.2 with ⟨rfl, _⟩ | ⟨g', cap', cur', fz, rfl, _, hg', _⟩
      · cases h3
      · simp only [Value.ownBlock, Option.some.injEq] at h3
        subst h3
        rw [hg] at hg'
        simp only [Option.some.injEq, Obj.cells.injEq] at hg'
        exact he hg'.2.1
theorem evs_keep {W W' : World} {base b : Nat} {T : TypeId} {n0 : Nat} {v0 : Value} {xs0 : List Value} {cs : Array Value} (hb : W.heap[b]? = some (.cells cs T (0, 0))) (hT : T ≠ 101)
    (h0 : W.ownsRowF base 5 1 v0 n0 xs0) (hk : ∀ k, k < W.heap.size → k ≠ b → v0.ownBlock ≠ some k → W'.heap[k]? = W.heap[k]?) : ∀ (xs : List Value) (l : List Ev), EvsAt W base xs l → EvsAt W' base xs l
  | [], [], _ => trivial
  | k :: n :: a :: t :: r, e :: l, ⟨h1, h2⟩ => by
    refine ⟨?_, evs_keep hb hT h0 hk r l h2⟩
    cases e with
    | text b => exact h1
    | start m at_ => exact ⟨h1.1, h1.2.1, row_keep h1.2.2.1 hb hT h0 (by decide) hk, h1.2.2.2⟩
    | stop m => exact h1
  | [], _ :: _, h => h.elim
  | [_], _, h => by cases ‹List Ev› <;> exact h.elim
  | [_, _], _, h => by cases ‹List Ev› <;> exact h.elim
  | [_, _, _], _, h => by cases ‹List Ev› <;> exact h.elim
  | _ :: _ :: _ :: _ :: _, [], h => h.elim
/-- no list of attributes of these events lies in block g -/
def NotIn (g : Nat) : List Value → Prop
  | _ :: _ :: a :: _ :: r => a.ownBlock ≠ some g ∧ NotIn g r
  | _ => True
/-- the lists of attributes lie in blocks of their own -/
def Apart : List Value → Prop
  | _ :: _ :: a :: _ :: r => (∀ g, a.ownBlock = some g → NotIn g r) ∧ Apart r
  | _ => True
theorem notIn_snoc {W : World} {base g : Nat} {k n a t : Value} (ha : a.ownBlock ≠ some g) : ∀ (xs : List Value) (l : List Ev), EvsAt W base xs l → NotIn g xs → NotIn g (xs ++ [k, n, a, t])
  | [], [], _, _ => ⟨ha, trivial⟩
  | k' :: n' :: a' :: t' :: r, e' :: l, ⟨_, h2⟩, hn => ⟨hn.1, notIn_snoc ha r l h2 hn.2⟩
  | [], _ :: _, h, _ => h.elim
  | [_], _, h, _ => by cases ‹List Ev› <;> exact h.elim
  | [_, _], _, h, _ => by cases ‹List Ev› <;> exact h.elim
  | [_, _, _], _, h, _ => by cases ‹List Ev› <;> exact h.elim
  | _ :: _ :: _ :: _ :: _, [], h, _ => h.elim
theorem apart_snoc {W : World} {base : Nat} {k n a t : Value} : ∀ (xs : List Value) (l : List Ev), EvsAt W base xs l → Apart xs → (∀ g, a.ownBlock = some g → NotIn g xs) → Apart (xs ++ [k, n, a, t])
  | [], [], _, _, _ => ⟨fun _ _ => trivial, trivial⟩
  | k' :: n' :: a' :: t' :: r, e' :: l, ⟨_, h2⟩, hp, hg => by
    refine ⟨fun g e => notIn_snoc (fun e2 => (hg g e2).1 e) r l h2 (hp.1 g e), apart_snoc r l h2 hp.2 (fun g e => (hg g e).2)⟩
  | [], _ :: _, h, _, _ => h.elim
  | [_], _, h, _, _ => by cases ‹List Ev› <;> exact h.elim
  | [_, _], _, h, _, _ => by cases ‹List Ev› <;> exact h.elim
  | [_, _, _], _, h, _, _ => by cases ‹List Ev› <;> exact h.elim
  | _ :: _ :: _ :: _ :: _, [], h, _, _ => h.elim
theorem notIn_new {W : World} {base g : Nat} (hg : W.heap.size ≤ g) : ∀ (xs : List Value) (l : List Ev), EvsAt W base xs l → NotIn g xs
  | [], [], _ => trivial
  | k' :: n' :: a' :: t' :: r, e' :: l, ⟨h1, h2⟩ => by
    refine ⟨fun e => ?_, notIn_new hg r l h2⟩
    cases e' with
    | text b => rw [h1.2.2.1] at e; cases e
    | start m at_ => have := (h1.2.2.1.lt g e).2; omega
    | stop m => rw [h1.2.2.1] at e; cases e
  | [], _ :: _, h => h.elim
  | [_], _, h => by cases ‹List Ev› <;> exact h.elim
  | [_, _], _, h => by cases ‹List Ev› <;> exact h.elim
  | [_, _, _], _, h => by cases ‹List Ev› <;> exact h.elim
  | _ :: _ :: _ :: _ :: _, [], h => h.elim
/-- a stream at cell o of block b, its events' cells told -/
structure StreamX (W : World) (base b o : Nat) (cs : Array Value) (T : TypeId) (evs : List Ev) (pend : List UInt8) (xs : List Value) : Prop where
  itx : ∃ ev p v, cs[o]? = some ev ∧ InB W base b (o + 1) cs T p v pend ∧ W.ownsRow base 39 4 ev evs.length xs ∧ EvsAt W base xs evs ∧ Apart xs
/-- a stream at cell o of block b -/
structure StreamAt (W : World) (base b o : Nat) (cs : Array Value) (T : TypeId) (evs : List Ev) (pend : List UInt8) : Prop where
  it : ∃ ev p v xs, cs[o]? = some ev ∧ InB W base b (o + 1) cs T p v pend ∧ W.ownsRow base 39 4 ev evs.length xs ∧ EvsAt W base xs evs ∧ Apart xs
theorem StreamAt.x {W : World} {base b o : Nat} {cs : Array Value} {T : TypeId} {evs : List Ev} {pend : List UInt8} (h : StreamAt W base b o cs T evs pend) : ∃ xs, StreamX W base b o cs T evs pend xs := by
  obtain ⟨ev, p, v, xs, h1⟩ := h.it
  exact ⟨xs, ⟨ev, p, v, h1⟩⟩
theorem StreamX.at {W : World} {base b o : Nat} {cs : Array Value} {T : TypeId} {evs : List Ev} {pend : List UInt8} {xs : List Value} (h : StreamX W base b o cs T evs pend xs) : StreamAt W base b o cs T evs pend := by
  obtain ⟨ev, p, v, h1⟩ := h.itx
  exact ⟨ev, p, v, xs, h1⟩
structure StreamT (T : TypeId) (cs : Array Value) (o : Nat) : Prop where
  lies : liesAt Tryd.prog Tryd.prog.depth T (cs.size / Tryd.prog.cellsOf T) (o + 1) 59 1 = true
  n0 : T ≠ 5
  n1 : T ≠ 101
  n2 : T ≠ 39

set_option maxHeartbeats 1000000 in
theorem putText_any (base b o : Nat) (cs : Array Value) (T : TypeId) (evs : List Ev) (pend : List UInt8) (s : ByteArray) (w : World) (h : StreamAt w base b o cs T evs pend) (hT : StreamT T cs o) (hlen : pend.length + s.size ≤ 140737488355328) :
    Calls Tryd.prog 52 #[.pointer (some ⟨b, o, none⟩), .string s] w fun e w' => e = .returned (.tuple #[]) ∧
      ∃ p v, StreamAt w' base b o ((cs.setIfInBounds (o + 1) p).setIfInBounds (o + 2) v) T evs (pend ++ s.data.toList) ∧ Below base w w' := by
  obtain ⟨ev, p, v, xs, hev, hin, hrow, hevs, hap⟩ := h.it
  have hw := write_in base b (o + 1) cs T p v pend s w hin hT.lies hT.n0 hlen
  have HW := hid hw
  clear hw
  go_enter Tryd.func52, Tryd.ntmps52
  go_wp2_with (go_at_call 76; refine HW.out.mono ?_; rintro e w1 ⟨rfl, v', hin', hbel, hk⟩)
  go_end0
  refine ⟨rfl, .pointer (some ⟨b, o + 1, none⟩), v', ⟨ev, _, v', xs, ?_, hin', row_keep hrow hin.at_ hT.n2 hin.own (by decide) hk, evs_keep hin.at_ hT.n1 hin.own hk xs evs hevs, hap⟩, hbel⟩
  rw [Array.getElem?_setIfInBounds, if_neg (by omega), Array.getElem?_setIfInBounds, if_neg (by omega)]
  exact hev
end Go.Proofs.YtkcgmimldjeaiaaDoor

/-
  Reset of a strings.Builder that lies inside another block: its walk.
-/
namespace Go.Proofs.YtkcgmimldjeaiaaDoor
open Go.RowKit Go.Lib Own

theorem reset_in (base b o : Nat) (cs : Array Value) (T : TypeId) (p v : Value) (w : World) (hat : w.heap[b]? = some (.cells cs T (0, 0))) (hlo : base ≤ b) (hcp : cs[o]? = some p) (hcv : cs[o + 1]? = some v) :
    Calls Tryd.prog 81 #[.pointer (some ⟨b, o, none⟩)] w fun e w' => e = .returned (.tuple #[]) ∧
      InB w' base b o ((cs.setIfInBounds o (.pointer none)).setIfInBounds (o + 1) (.slice none 0 0)) T (.pointer none) (.slice none 0 0) [] ∧ Below base w w' ∧ ∀ k, k ≠ b → w'.heap[k]? = w.heap[k]? := by
  have c0 := cell_at hat hcp
  have f0 := free_at hat o
  have j1 := just_set (j := o) hat (.pointer none)
  have hv1 : (cs.setIfInBounds o (.pointer none))[o + 1]? = some v := by
    rw [Array.getElem?_setIfInBounds, if_neg (by omega)]; exact hcv
  have hp1 : (cs.setIfInBounds o (.pointer none))[o]? = some (.pointer none) := by
    rw [Array.getElem?_setIfInBounds, if_pos rfl, if_pos (Array.getElem?_eq_some_iff.1 hcp).1]
  have c1 := cell_at j1.at_ hv1
  have f1 := free_at j1.at_ (o + 1)
  have j2 := just_set (j := o + 1) j1.at_ (.slice none 0 0)
  have hb1 := j1.below hlo
  have hb2 := j2.below hlo
  have hfin : InB ((w.setCell ⟨b, o, none⟩ (.pointer none)).setCell ⟨b, o + 1, none⟩ (.slice none 0 0)) base b o ((cs.setIfInBounds o (.pointer none)).setIfInBounds (o + 1) (.slice none 0 0)) T (.pointer none) (.slice none 0 0) [] := by
    refine ⟨j2.at_, hlo, ?_, ?_, .inl rfl, ⟨rfl, .inl ⟨rfl, rfl⟩⟩, by simp [Value.ownBlock]⟩
    · rw [Array.getElem?_setIfInBounds, if_neg (by omega)]; exact hp1
    · rw [Array.getElem?_setIfInBounds, if_pos rfl, if_pos (Array.getElem?_eq_some_iff.1 hv1).1]
  have hkp : ∀ k, k ≠ b → ((w.setCell ⟨b, o, none⟩ (.pointer none)).setCell ⟨b, o + 1, none⟩ (.slice none 0 0)).heap[k]? = w.heap[k]? := fun k hk => (j2.other k hk).trans (j1.other k hk)
  have HF := hid hfin
  have HK := hid hkp
  clear hfin hkp j1 j2
  go_enter Tryd.func81, Tryd.ntmps81
  go_wp2
  go_end0
  exact ⟨rfl, HF.out, hb1.trans hb2, HK.out⟩
end Go.Proofs.YtkcgmimldjeaiaaDoor

/-
  The stream's endText where there is text: its walk.
-/
namespace Go.Proofs.YtkcgmimldjeaiaaDoor
open Go.RowKit Go.Lib Own

theorem info_event : (Tryd.prog.info? 39).map (fun i => (i.zero, i.size, i.bytes)) = some (some (.agg #[.int .i64 0, .string ⟨#[]⟩, .slice none 0 0, .string ⟨#[]⟩]), 4, 64) := by kernel_rfl
theorem evs_mono {W W' : World} {base : Nat} (hr : ∀ a n xs, W.ownsRow base 101 2 a n xs → W'.ownsRow base 101 2 a n xs) : ∀ (xs : List Value) (l : List Ev), EvsAt W base xs l → EvsAt W' base xs l
  | [], [], _ => trivial
  | k :: n :: a :: t :: r, e :: l, ⟨h1, h2⟩ => by
    refine ⟨?_, evs_mono hr r l h2⟩
    cases e with
    | text b => exact h1
    | start m at_ => exact ⟨h1.1, h1.2.1, hr _ _ _ h1.2.2.1, h1.2.2.2⟩
    | stop m => exact h1
  | [], _ :: _, h => h.elim
  | [_], _, h => by cases ‹List Ev› <;> exact h.elim
  | [_, _], _, h => by cases ‹List Ev› <;> exact h.elim
  | [_, _, _], _, h => by cases ‹List Ev› <;> exact h.elim
  | _ :: _ :: _ :: _ :: _, [], h => h.elim
theorem evs_snoc {W : World} {base : Nat} {b : List UInt8} : ∀ (xs : List Value) (l : List Ev), EvsAt W base xs l → EvsAt W base (xs ++ [.int .i64 3, .string ⟨#[]⟩, .slice none 0 0, strV b]) (l ++ [.text b])
  | [], [], _ => ⟨⟨rfl, rfl, rfl, rfl⟩, trivial⟩
  | k :: n :: a :: t :: r, e :: l, ⟨h1, h2⟩ => ⟨h1, evs_snoc r l h2⟩
  | [], _ :: _, h => h.elim
  | [_], _, h => by cases ‹List Ev› <;> exact h.elim
  | [_, _], _, h => by cases ‹List Ev› <;> exact h.elim
  | [_, _, _], _, h => by cases ‹List Ev› <;> exact h.elim
  | _ :: _ :: _ :: _ :: _, [], h => h.elim
/-- blocks that are not the stream's stay what they are -/
def KeepF (w w' : World) (b o : Nat) (cs : Array Value) : Prop := ∀ ev v, cs[o]? = some ev → cs[o + 2]? = some v → ∀ k, k < w.heap.size → k ≠ b → ev.ownBlock ≠ some k → v.ownBlock ≠ some k → w'.heap[k]? = w.heap[k]?
set_option maxHeartbeats 4000000 in
set_option maxRecDepth 100000 in
theorem endText_full (base b o : Nat) (cs : Array Value) (T : TypeId) (evs : List Ev) (pend : List UInt8) (xs : List Value) (w : World) (h : StreamX w base b o cs T evs pend xs) (hT : StreamT T cs o) (h0 : pend ≠ []) (hlen : evs.length ≤ 10000000) :
    Calls Tryd.prog 53 #[.pointer (some ⟨b, o, none⟩)] w fun e w' => e = .returned (.tuple #[]) ∧
      ∃ ev, StreamX w' base b o (((cs.setIfInBounds o ev).setIfInBounds (o + 1) (.pointer none)).setIfInBounds (o + 2) (.slice none 0 0)) T (evs ++ [.text pend]) [] (xs ++ [.int .i64 3, .string ⟨#[]⟩, .slice none 0 0, strV pend]) ∧ Below base w w' ∧ (∀ a n ys, w.ownsRow base 101 2 a n ys → w'.ownsRow base 101 2 a n ys) ∧ KeepF w w' b o cs := by
  obtain ⟨i0, hi, hz0, hz1, hz2⟩ := info_parts info_event
  obtain ⟨ev, p, v, hev, hin, hrow, hevs, hap⟩ := h.itx
  have hlen0 := fun W hW => len_in base b (o + 1) cs T p v pend W hW
  have hn0 : ((pend.length : Int) == 0) = false := beq_eq_false_iff_ne.2 (by have := List.length_pos_iff.2 h0; omega)
  have hstr := fun W hW => string_in base b (o + 1) cs T p v pend W hW h0
  have ce := cell_at hin.at_ hev
  have fe := free_at hin.at_ o
  have HL := hid hlen0
  have HS := hid hstr
  have HI := hid hin
  clear hlen0 hstr hin
  go_enter Tryd.func53, Tryd.ntmps53
  go_wp2_with (go_at_call 80; refine (HL.out _ HI.out).mono ?_; rintro e w1 ⟨rfl, rfl⟩)
  have hbs : base ≤ w1.heap.size := by have := (Array.getElem?_eq_some_iff.1 HI.out.at_).1; have := HI.out.lo; omega
  have hneb : ev.ownBlock ≠ some b := row_ne hrow HI.out.at_ hT.n2
  go_region_law (first
    | (go_simp; go_at_call 45; refine (HS.out _ (by exact ⟨HI.out.at_, HI.out.lo, HI.out.cp, HI.out.cv, HI.out.hp, HI.out.own, HI.out.ne⟩)).mono ?_; rintro e w9 ⟨rfl, hb9, bel9, k9⟩; have hbs9 := (Array.getElem?_eq_some_iff.1 hb9).1; have hsz9 := bel9.size; have hsz9' : w1.heap.size ≤ w9.heap.size := (by exact hsz9); have ce9 := cell_at hb9 hev; have fe9 := free_at hb9 o; have hrow9 := row_keep hrow HI.out.at_ hT.n2 HI.out.own (by decide) (fun k _ h1 h2 => k9 k h1 h2))
    | (refine step_append_lies _ rfl (.tmp 11) (.tmp 17) 22 rfl base 39 i0 (.agg #[.int .i64 0, .string ⟨#[]⟩, .slice none 0 0, .string ⟨#[]⟩]) 4 64 Tryd.underlying22 hi hz0 hz1 hz2 rfl (by decide) ev evs.length xs (by simp [Act.eval]) (by exact hrow9.alloc _) ⟨_, 0, none⟩ 1 1 [.int .i64 3, .string ⟨#[]⟩, .slice none 0 0, strV pend] (by simp [Act.eval]) rfl (cells_newV _ _ _) (by simp [Value.oneCell', strV]) (by omega) (by unfold maxLen; omega) (by omega) (by simp; omega) _ rfl ?_; rintro g cap w10 hrow10 hgrow10 - -; have hb10 : w10.heap[b]? = some (.cells cs T (0, 0)) := ((hgrow10.block b (by simp; omega) (fun e => hneb e.symm)).trans (alloc_old _ _ b (by exact hbs9))).trans (by exact hb9); have ce10 := cell_at hb10 hev; have fe10 := free_at hb10 o))
  all_goals
    have j1 := just_set (j := o) hb10 (.slice (some ⟨g, 0, none⟩) (evs.length + 1) cap)
    have hlo := HI.out.lo
    have hcp1 : (cs.setIfInBounds o (.slice (some ⟨g, 0, none⟩) (evs.length + 1) cap))[o + 1]? = some p := by
      rw [Array.getElem?_setIfInBounds, if_neg (by omega)]; exact HI.out.cp
    have hcv1 : (cs.setIfInBounds o (.slice (some ⟨g, 0, none⟩) (evs.length + 1) cap))[o + 1 + 1]? = some v := by
      rw [Array.getElem?_setIfInBounds, if_neg (by omega)]; exact HI.out.cv
    have hres := reset_in base b (o + 1) _ T p v _ j1.at_ hlo hcp1 hcv1
    have HR := hid hres
    clear hres
    have hkx := j1.other
    have hbx := j1.below hlo
    clear j1
    go_wp2_with (go_at_call 81; refine HR.out.mono ?_; rintro e w11 ⟨rfl, hin11, bel11, k11⟩)
    go_end0
    have hk : ∀ k, k ≠ b → w11.heap[k]? = w10.heap[k]? := fun k h => (k11 k h).trans (hkx k h)
    have b9 : Below base w1 w9 := ⟨bel9.os, bel9.tape, bel9.output, bel9.size, bel9.block⟩
    have b10 : Below base w1 w10 := (b9.alloc (by omega) _).grown hgrow10 (by simp; omega) (fun k hk => (hrow9.lt k hk).1)
    have e9 : EvsAt w9 base xs evs := evs_keep HI.out.at_ hT.n1 HI.out.own (fun k _ h1 h2 => k9 k h1 h2) xs evs hevs
    have e10 : EvsAt w10 base xs evs := evs_mono (fun a n ys hr => (hr.alloc _).kept hgrow10 (rows_ne hr hrow9 (by decide))) xs evs e9
    have e11 : EvsAt w11 base xs evs := evs_mono (fun a n ys hr => row_just hr hb10 hT.n1 hk) xs evs e10
    refine ⟨rfl, .slice (some ⟨g, 0, none⟩) (evs.length + 1) cap, ⟨.slice (some ⟨g, 0, none⟩) (evs.length + 1) cap, .pointer none, .slice none 0 0, ?_, hin11, ?_, evs_snoc xs evs e11, apart_snoc xs evs e11 hap (fun g e => by cases e)⟩, b10.trans (hbx.trans bel11), fun a n ys hr => row_just (((row_keep hr HI.out.at_ hT.n1 HI.out.own (by decide) (fun k _ h1 h2 => k9 k h1 h2)).alloc _).kept hgrow10 (rows_ne (row_keep hr HI.out.at_ hT.n1 HI.out.own (by decide) (fun k _ h1 h2 => k9 k h1 h2)) hrow9 (by decide))) hb10 hT.n1 hk, ?_⟩
    · rw [Array.getElem?_setIfInBounds, if_neg (by omega), Array.getElem?_setIfInBounds, if_neg (by omega), Array.getElem?_setIfInBounds, if_pos rfl, if_pos (Array.getElem?_eq_some_iff.1 hev).1]
    · have := row_just hrow10 hb10 hT.n2 hk
      rw [List.length_append]
      exact this
    · intro ev' v' hev' hv' k hks hkb hke hkv
      rw [hev] at hev'
      obtain rfl := Option.some.inj hev'
      rw [HI.out.cv] at hv'
      obtain rfl := Option.some.inj hv'
      have hk9 : k < w9.heap.size := by omega
      exact (((hk k hkb).trans (hgrow10.block k (by simp; omega) (fun e => hke e.symm))).trans (alloc_old _ _ k (by exact hk9))).trans (k9 k hkb hkv)

set_option maxHeartbeats 1000000 in
theorem endText_none (base b o : Nat) (cs : Array Value) (T : TypeId) (evs : List Ev) (w : World) (h : StreamAt w base b o cs T evs []) :
    Calls Tryd.prog 53 #[.pointer (some ⟨b, o, none⟩)] w fun e w' => e = .returned (.tuple #[]) ∧ w' = w := by
  obtain ⟨ev, p, v, xs, hev, hin, hrow, hevs, _⟩ := h.it
  have hlen0 : Calls Tryd.prog 80 #[.pointer (some ⟨b, o + 1, none⟩)] w fun e w' => e = .returned (.int .i64 0) ∧ w' = w := len_in base b (o + 1) cs T p v [] w hin
  have HL := hid hlen0
  clear hlen0 hin hrow hevs h
  go_enter Tryd.func53, Tryd.ntmps53
  go_wp2_with (go_at_call 80; refine HL.out.mono ?_; rintro e w1 ⟨rfl, rfl⟩)
  refine bodyPost_ret (v := .tuple #[]) ?_ rfl ⟨rfl, rfl⟩
  simp [results, Tryd.results53]
theorem endText_x (base b o : Nat) (cs : Array Value) (T : TypeId) (evs : List Ev) (pend : List UInt8) (xs : List Value) (w : World) (h : StreamX w base b o cs T evs pend xs) (hT : StreamT T cs o) (hlen : evs.length ≤ 10000000) :
    Calls Tryd.prog 53 #[.pointer (some ⟨b, o, none⟩)] w fun e w' => e = .returned (.tuple #[]) ∧
      ∃ e1 p1 v1 xs1, StreamX w' base b o (((cs.setIfInBounds o e1).setIfInBounds (o + 1) p1).setIfInBounds (o + 2) v1) T (flushE (evs, pend)) [] xs1 ∧ (xs1 = xs ∨ xs1 = xs ++ [.int .i64 3, .string ⟨#[]⟩, .slice none 0 0, strV pend]) ∧ Below base w w' ∧ (∀ a n ys, w.ownsRow base 101 2 a n ys → w'.ownsRow base 101 2 a n ys) ∧ KeepF w w' b o cs := by
  by_cases h0 : pend = []
  · subst h0
    refine (endText_none base b o cs T evs w h.at).mono ?_
    rintro e w' ⟨rfl, rfl⟩
    obtain ⟨ev, p, v, hev, hin, hrow, hevs, hap⟩ := h.itx
    refine ⟨rfl, ev, p, v, xs, ?_, .inl rfl, Below.refl _ _, fun _ _ _ h => h, fun _ _ _ _ _ _ _ _ _ => rfl⟩
    rw [set_same hev, set_same hin.cp, set_same hin.cv]
    exact h
  · refine (endText_full base b o cs T evs pend xs w h hT h0 hlen).mono ?_
    rintro e w' ⟨rfl, ev, h1, h2, h3, h4⟩
    refine ⟨rfl, ev, .pointer none, .slice none 0 0, _, ?_, .inr rfl, h2, h3, h4⟩
    unfold flushE
    rw [if_neg h0]
    exact h1
theorem endText_any (base b o : Nat) (cs : Array Value) (T : TypeId) (evs : List Ev) (pend : List UInt8) (w : World) (h : StreamAt w base b o cs T evs pend) (hT : StreamT T cs o) (hlen : evs.length ≤ 10000000) :
    Calls Tryd.prog 53 #[.pointer (some ⟨b, o, none⟩)] w fun e w' => e = .returned (.tuple #[]) ∧
      ∃ e1 p1 v1, StreamAt w' base b o (((cs.setIfInBounds o e1).setIfInBounds (o + 1) p1).setIfInBounds (o + 2) v1) T (flushE (evs, pend)) [] ∧ Below base w w' ∧ (∀ a n ys, w.ownsRow base 101 2 a n ys → w'.ownsRow base 101 2 a n ys) ∧ KeepF w w' b o cs := by
  obtain ⟨xs, hx⟩ := h.x
  refine (endText_x base b o cs T evs pend xs w hx hT hlen).mono ?_
  rintro e w' ⟨rfl, e1, p1, v1, xs1, h1, _, h2, h3, h4⟩
  exact ⟨rfl, e1, p1, v1, h1.at, h2, h3, h4⟩

set_option maxHeartbeats 1000000 in
theorem events_ap (base b o : Nat) (cs : Array Value) (T : TypeId) (evs : List Ev) (pend : List UInt8) (w : World) (h : StreamAt w base b o cs T evs pend) (hT : StreamT T cs o) (hlen : evs.length ≤ 10000000) :
    Calls Tryd.prog 29 #[.pointer (some ⟨b, o, none⟩)] w fun e w' => ∃ ev xs, e = .returned ev ∧ w'.ownsRow base 39 4 ev (flushE (evs, pend)).length xs ∧ EvsAt w' base xs (flushE (evs, pend)) ∧ Below base w w' ∧ Apart xs := by
  have hend := endText_any base b o cs T evs pend w h hT hlen
  have HE := hid hend
  clear hend
  go_enter Tryd.func29, Tryd.ntmps29
  go_wp2_with fail
  refine HE.out.mono ?_
  rintro e w1 ⟨rfl, e1, p1, v1, hs, hbel, -, -⟩
  obtain ⟨ev, p, v, xs, hev, hin, hrow, hevs, hap⟩ := hs.it
  have c := cell_at hin.at_ hev
  clear HE hin hev
  go_wp2
  go_ret
  exact ⟨_, _, rfl, hrow, hevs, hbel, hap⟩
theorem events_any (base b o : Nat) (cs : Array Value) (T : TypeId) (evs : List Ev) (pend : List UInt8) (w : World) (h : StreamAt w base b o cs T evs pend) (hT : StreamT T cs o) (hlen : evs.length ≤ 10000000) :
    Calls Tryd.prog 29 #[.pointer (some ⟨b, o, none⟩)] w fun e w' => ∃ ev xs, e = .returned ev ∧ w'.ownsRow base 39 4 ev (flushE (evs, pend)).length xs ∧ EvsAt w' base xs (flushE (evs, pend)) ∧ Below base w w' :=
  (events_ap base b o cs T evs pend w h hT hlen).mono fun _ _ ⟨ev, xs, h1, h2, h3, h4, _⟩ => ⟨ev, xs, h1, h2, h3, h4⟩
end Go.Proofs.YtkcgmimldjeaiaaDoor

/-
  The stream's Put: its walk.
-/
namespace Go.Proofs.YtkcgmimldjeaiaaDoor
open Go.RowKit Go.Lib Own

theorem evs_snoc2 {W : World} {base : Nat} {k n a t : Value} {e : Ev} : ∀ (xs : List Value) (l : List Ev), EvsAt W base xs l → EvsAt W base [k, n, a, t] [e] → EvsAt W base (xs ++ [k, n, a, t]) (l ++ [e])
  | [], [], _, h => h
  | k' :: n' :: a' :: t' :: r, e' :: l, ⟨h1, h2⟩, h => ⟨h1, evs_snoc2 r l h2 h⟩
  | [], _ :: _, h, _ => h.elim
  | [_], _, h, _ => by cases ‹List Ev› <;> exact h.elim
  | [_, _], _, h, _ => by cases ‹List Ev› <;> exact h.elim
  | [_, _, _], _, h, _ => by cases ‹List Ev› <;> exact h.elim
  | _ :: _ :: _ :: _ :: _, [], h, _ => h.elim
theorem StreamX.below {W W' : World} {base b o : Nat} {cs : Array Value} {T : TypeId} {evs : List Ev} {pend : List UInt8} {xs : List Value} (h : StreamX W base b o cs T evs pend xs) (hb : Below W.heap.size W W') : StreamX W' base b o cs T evs pend xs := by
  obtain ⟨ev, p, v, hev, hin, hrow, hevs, hap⟩ := h.itx
  have hg : W.grownBy W' none := ⟨hb.os, hb.tape, hb.output, hb.size, fun k hk _ => hb.block k hk⟩
  exact ⟨ev, p, v, hev, ⟨(hb.block b (Array.getElem?_eq_some_iff.1 hin.at_).1).trans hin.at_, hin.lo, hin.cp, hin.cv, hin.hp, hin.own.kept hg (by cases hv : v.ownBlock <;> simp), hin.ne⟩, hrow.kept hg (Classical.em _), evs_mono (fun a n ys hr => hr.kept hg (Classical.em _)) xs evs hevs, hap⟩
theorem StreamX.new {W : World} {base b o g : Nat} {cs : Array Value} {T : TypeId} {evs : List Ev} {pend : List UInt8} {xs : List Value} (h : StreamX W base b o cs T evs pend xs) (hg : W.heap.size ≤ g) : NotIn g xs := by
  obtain ⟨ev, p, v, hev, hin, hrow, hevs, hap⟩ := h.itx
  exact notIn_new hg xs evs hevs
theorem StreamAt.alloc {W : World} {base b o : Nat} {cs : Array Value} {T : TypeId} {evs : List Ev} {pend : List UInt8} (h : StreamAt W base b o cs T evs pend) (X : Obj) : StreamAt (W.alloc X) base b o cs T evs pend := by
  obtain ⟨ev, p, v, xs, hev, hin, hrow, hevs, hap⟩ := h.it
  refine ⟨ev, p, v, xs, hev, ⟨(alloc_old _ _ b (Array.getElem?_eq_some_iff.1 hin.at_).1).trans hin.at_, hin.lo, hin.cp, hin.cv, hin.hp, ?_, hin.ne⟩, hrow.alloc _, evs_mono (fun a n ys hr => hr.alloc _) xs evs hevs, hap⟩
  exact hin.own.kept (World.grownBy_alloc W X none) (by cases hv : v.ownBlock <;> simp)

theorem set_three (cs : Array Value) (o : Nat) (e1 e2 p v : Value) : (((cs.setIfInBounds o e1).setIfInBounds (o + 1) p).setIfInBounds (o + 2) v).setIfInBounds o e2 = ((cs.setIfInBounds o e2).setIfInBounds (o + 1) p).setIfInBounds (o + 2) v := by
  apply Array.ext_getElem?
  intro i
  simp only [Array.getElem?_setIfInBounds, Array.size_setIfInBounds]
  repeat' split
  all_goals first | rfl | omega
theorem rowF_ne {W : World} {base : Nat} {e2 : TypeId} {z2 n1 n2 : Nat} {v1 v2 : Value} {xs1 xs2 : List Value} (h1 : W.ownsRowF base 5 1 v1 n1 xs1) (h2 : W.ownsRow base e2 z2 v2 n2 xs2) (hne : e2 ≠ 5) : v1.ownBlock = none ∨ v1.ownBlock ≠ v2.ownBlock := by
  rcases h1.2 with ⟨rfl, _⟩ | ⟨g, cap, cur, fz, rfl, _, hg, _⟩
  · exact .inl rfl
  · refine .inr (fun h3 => ?_)
    rcases h2.2 with ⟨rfl, _⟩ | ⟨g2, cap2, cur2, rfl, _, hg2, _⟩
    · cases h3
    · simp only [Value.ownBlock, Option.some.injEq] at h3
      subst h3
      rw [hg] at hg2
      simp only [Option.some.injEq, Obj.cells.injEq] at hg2
      exact hne hg2.2.1.symm
set_option maxHeartbeats 4000000 in
set_option maxRecDepth 100000 in
theorem put_any (base b o : Nat) (cs : Array Value) (T : TypeId) (evs : List Ev) (pend : List UInt8) (g0 : Nat) (kk : Int) (nb tb : ByteArray) (ap : Option Addr) (an ac : Nat) (e0 : Ev) (w0 w : World) (hsl : w.heap[g0]? = some (.cells #[.int .i64 kk, .string nb, .slice ap an ac, .string tb] 39 (0, 0))) (hkk : (kk == 3) = false) (h0 : StreamAt w0 base b o cs T evs pend) (hw0 : Below w0.heap.size w0 w) (hfr : ∀ g, (Value.slice ap an ac).ownBlock = some g → w0.heap.size ≤ g) (hT : StreamT T cs o) (hlen : evs.length ≤ 9000000) (h1 : EvsAt w base [.int .i64 kk, .string nb, .slice ap an ac, .string tb] [e0])
    (hone : ∀ u ∈ [Value.int .i64 kk, .string nb, .slice ap an ac, .string tb], u.oneCell' = true) :
    Calls Tryd.prog 26 #[.pointer (some ⟨b, o, none⟩), .slice (some ⟨g0, 0, none⟩) 1 1] w fun e w' => e = .returned (.tuple #[]) ∧
      ∃ e1 p1 v1, StreamAt w' base b o (((cs.setIfInBounds o e1).setIfInBounds (o + 1) p1).setIfInBounds (o + 2) v1) T (flushE (evs, pend) ++ [e0]) [] ∧ Below base w w' := by
  obtain ⟨i0, hi, hz0, hz1, hz2⟩ := info_parts info_event
  obtain ⟨xs0, hx0⟩ := h0.x
  have hnew : ∀ g, (Value.slice ap an ac).ownBlock = some g → NotIn g xs0 := fun g e => hx0.new (hfr g e)
  have hxa : StreamX (w.alloc (.cells #[.int .i64 kk, .string nb, .slice ap an ac, .string tb] 39)) base b o cs T evs pend xs0 := (hx0.below hw0).below ((Below.refl w.heap.size w).alloc (Nat.le_refl _) _)
  have hend := endText_x base b o cs T evs pend xs0 _ hxa hT (by omega)
  obtain ⟨ev0, p0, v0, hev0, hin0, hrow0, hevs0, _⟩ := (hx0.below hw0).itx
  have hbs : b < w.heap.size := (Array.getElem?_eq_some_iff.1 hin0.at_).1
  have hlo := hin0.lo
  have hevlt : ev0.ownBlock ≠ some w.heap.size := fun hh => by have := (hrow0.lt _ hh).2; omega
  have hvlt : v0.ownBlock ≠ some w.heap.size := fun hh => by have := (hin0.own.lt _ hh).2; omega
  have hcv0 := hin0.cv
  have HE := hid hend
  clear hend hin0 hrow0 hx0 h0 hw0 hfr hxa
  go_enter Tryd.func26, Tryd.ntmps26
  have hs0 := cell_at hsl (j := 0) rfl
  have hs1 := cell_at hsl (j := 1) rfl
  have hs2 := cell_at hsl (j := 2) rfl
  have hs3 := cell_at hsl (j := 3) rfl
  clear hsl
  go_wp2_with fail
  go_loopw [8] (fun iv wr => (iv = .int .i64 0 ∧ w = wr) ∨ (iv = .int .i64 1 ∧ Hid (∃ e1 p1 v1, StreamAt wr base b o (((cs.setIfInBounds o e1).setIfInBounds (o + 1) p1).setIfInBounds (o + 2) v1) T (flushE (evs, pend) ++ [e0]) [] ∧ Below base w wr))) (fun iv _ => 1 - (RowKit.intOf iv).toNat)
  case atStart => exact .inl ⟨rfl, rfl⟩
  case round =>
  rcases hrel with ⟨rfl, rfl⟩ | ⟨rfl, HZ⟩
  case inr =>
    go_wp2
    go_end0
    exact ⟨rfl, HZ.out⟩
  go_wp2_with fail
  refine HE.out.mono ?_
  rintro e w1 ⟨rfl, e1, p1, v1, xs, hs, hxs, hbel, hrows, hkeep⟩
  have hpb : w1.heap[w.heap.size]? = some (.cells #[.int .i64 kk, .string nb, .slice ap an ac, .string tb] 39 (0, 0)) := (hkeep ev0 v0 hev0 hcv0 w.heap.size (by simp) (by omega) hevlt hvlt).trans (heap_alloc_new w _)
  have p0 := cell_at hpb (j := 0) rfl
  have p1' := cell_at hpb (j := 1) rfl
  have p2 := cell_at hpb (j := 2) rfl
  have p3 := cell_at hpb (j := 3) rfl
  obtain ⟨cs2, hcs2⟩ : ∃ cs2, ((cs.setIfInBounds o e1).setIfInBounds (o + 1) p1).setIfInBounds (o + 2) v1 = cs2 := ⟨_, rfl⟩
  rw [hcs2] at hs
  obtain ⟨ev, p, v, hev, hin, hrow, hevs, hap⟩ := hs.itx
  have hap2 : Apart (xs ++ [.int .i64 kk, .string nb, .slice ap an ac, .string tb]) := by
    refine apart_snoc xs _ hevs hap (fun g e => ?_)
    rcases hxs with rfl | rfl
    · exact hnew g e
    · exact notIn_snoc (by simp [Value.ownBlock]) _ _ hevs0 (hnew g e)
  clear hap hxs hnew hevs0
  have hb1 := hin.at_
  have ce := cell_at hb1 hev
  have fe := free_at hb1 o
  have hneb : ev.ownBlock ≠ some b := row_ne hrow hb1 hT.n2
  have hbl : base ≤ w1.heap.size := by have := (Array.getElem?_eq_some_iff.1 hb1).1; omega
  have hbs1 := (Array.getElem?_eq_some_iff.1 hb1).1
  have hfl : (flushE (evs, pend)).length ≤ 9000001 := by
    unfold flushE
    split
    · simp only; omega
    · simp only [List.length_append, List.length_singleton]; omega
  have h11 : EvsAt w1 base [.int .i64 kk, .string nb, .slice ap an ac, .string tb] [e0] := evs_mono (fun a n ys hr => hrows a n ys (hr.alloc _)) _ _ h1
  have HV := hid (And.intro hevs (And.intro h11 hin))
  have HK := hid hrows
  clear hevs h11 hin hs HE hkeep hrows
  go_wp2_with fail
  go_region_law (refine step_append_lies _ rfl (.tmp 25) (.tmp 27) 22 rfl base 39 i0 (.agg #[.int .i64 0, .string ⟨#[]⟩, .slice none 0 0, .string ⟨#[]⟩]) 4 64 Tryd.underlying22 hi hz0 hz1 hz2 rfl (by decide) ev (flushE (evs, pend)).length xs (by simp [Act.eval]) (by exact hrow.alloc _) ⟨_, 0, none⟩ 1 1 [.int .i64 kk, .string nb, .slice ap an ac, .string tb] (by simp [Act.eval]) rfl (cells_newV _ _ _) hone (by omega) (by unfold maxLen; omega) (by omega) (by simp; omega) _ rfl ?_; rintro g cap w10 hrow10 hgrow10 - -; have hb10 : w10.heap[b]? = some (.cells cs2 T (0, 0)) := ((hgrow10.block b (by simp; omega) (fun e => hneb e.symm)).trans (alloc_old _ _ b (by exact hbs1))).trans (by exact hb1); have ce10 := cell_at hb10 hev; have fe10 := free_at hb10 o)
  all_goals
    have j1 := just_set (j := o) hb10 (.slice (some ⟨g, 0, none⟩) ((flushE (evs, pend)).length + 1) cap)
    obtain ⟨hevs, h11, hin⟩ := HV.out
    have hg10 : (w1.alloc (.cells #[.int .i64 kk, .string nb, .slice ap an ac, .string tb] 39)).grownBy w10 ev.ownBlock := ⟨hgrow10.os, hgrow10.tape, hgrow10.output, hgrow10.size, hgrow10.block⟩
    have e10 : EvsAt w10 base (xs ++ [.int .i64 kk, .string nb, .slice ap an ac, .string tb]) (flushE (evs, pend) ++ [e0]) := evs_mono (fun a' n' ys hr => (hr.alloc _).kept hg10 (rows_ne hr hrow (by decide))) _ _ (evs_snoc2 xs _ hevs h11)
    have e11 := evs_mono (W' := w10.setCell ⟨b, o, none⟩ (.slice (some ⟨g, 0, none⟩) ((flushE (evs, pend)).length + 1) cap)) (fun a' n' ys hr => row_just hr hb10 hT.n1 j1.other) _ _ e10
    have r11 := row_just hrow10 hb10 hT.n2 j1.other
    have o10 : w10.ownsRowF base 5 1 v 0 (byteCells []) := (hin.own.kept (World.grownBy_alloc w1 _ none) (by cases hv : v.ownBlock <;> simp)).kept hg10 (rowF_ne hin.own hrow (by decide))
    have o11 := o10.kept (w' := w10.setCell ⟨b, o, none⟩ (.slice (some ⟨g, 0, none⟩) ((flushE (evs, pend)).length + 1) cap)) (row := some b) ⟨j1.os, j1.tape, j1.output, by rw [j1.size]; exact Nat.le_refl _, fun k _ hk => j1.other k (fun e => hk (by rw [e]))⟩ (.inr hin.ne)
    have b10 : Below base w1 w10 := ((Below.refl base w1).alloc (by omega) _).grown hg10 (by simp; omega) (fun k hk => (hrow.lt k hk).1)
    have bw : Below base w (w.alloc (.cells #[.int .i64 kk, .string nb, .slice ap an ac, .string tb] 39)) := (Below.refl base w).alloc (by omega) _
    have bfin := (bw.trans hbel).trans (b10.trans (j1.below hlo))
    have hat := j1.at_
    rw [← hcs2, set_three] at hat
    have hcp2 : (((cs.setIfInBounds o (.slice (some ⟨g, 0, none⟩) ((flushE (evs, pend)).length + 1) cap)).setIfInBounds (o + 1) p1).setIfInBounds (o + 2) v1)[o + 1]? = some p := by
      rw [← set_three cs o e1, hcs2, Array.getElem?_setIfInBounds, if_neg (by omega)]; exact hin.cp
    have hcv2 : (((cs.setIfInBounds o (.slice (some ⟨g, 0, none⟩) ((flushE (evs, pend)).length + 1) cap)).setIfInBounds (o + 1) p1).setIfInBounds (o + 2) v1)[o + 1 + 1]? = some v := by
      rw [← set_three cs o e1, hcs2, Array.getElem?_setIfInBounds, if_neg (by omega)]; exact hin.cv
    have hev2 : (((cs.setIfInBounds o (.slice (some ⟨g, 0, none⟩) ((flushE (evs, pend)).length + 1) cap)).setIfInBounds (o + 1) p1).setIfInBounds (o + 2) v1)[o]? = some (.slice (some ⟨g, 0, none⟩) ((flushE (evs, pend)).length + 1) cap) := by
      rw [← set_three cs o e1, hcs2, Array.getElem?_setIfInBounds, if_pos rfl, if_pos (Array.getElem?_eq_some_iff.1 hev).1]
    have hS : StreamAt (w10.setCell ⟨b, o, none⟩ (.slice (some ⟨g, 0, none⟩) ((flushE (evs, pend)).length + 1) cap)) base b o (((cs.setIfInBounds o (.slice (some ⟨g, 0, none⟩) ((flushE (evs, pend)).length + 1) cap)).setIfInBounds (o + 1) p1).setIfInBounds (o + 2) v1) T (flushE (evs, pend) ++ [e0]) [] :=
      ⟨_, p, v, _, hev2, ⟨hat, hlo, hcp2, hcv2, hin.hp, o11, hin.ne⟩, by rw [List.length_append]; exact r11, e11, hap2⟩
    have HS := hid hS
    have HB := hid bfin
    clear hS bfin e10 e11 r11 o10 o11 hat hcp2 hcv2 hev2 j1
    go_wp2
    go_roundw
    case rel => exact .inr ⟨rfl, hid ⟨_, _, _, HS.out, HB.out⟩⟩
    case measure => simp [RowKit.intOf]
end Go.Proofs.YtkcgmimldjeaiaaDoor

/-
  The cells of one event among a list's.
-/
namespace Go.Proofs.YtkcgmimldjeaiaaDoor
open Go.RowKit Go.Lib Own

def evK : Ev → Nat
  | .text _ => 3
  | .start _ _ => 1
  | .stop _ => 2
def evN : Ev → List UInt8
  | .text _ => []
  | .start n _ => n
  | .stop n => n
def evA : Ev → List (List UInt8 × List UInt8)
  | .start _ a => a
  | _ => []
def evT : Ev → List UInt8
  | .text b => b
  | _ => []
theorem strV_nil : strV [] = .string ⟨#[]⟩ := rfl
theorem evs_get {W : World} {base : Nat} : ∀ (xs : List Value) (l : List Ev) (k : Nat) (e : Ev), EvsAt W base xs l → l[k]? = some e →
    ∃ a, xs[k * 4]? = some (.int .i64 (evK e : Nat)) ∧ xs[k * 4 + 1]? = some (strV (evN e)) ∧ xs[k * 4 + 2]? = some a ∧ xs[k * 4 + 3]? = some (strV (evT e)) ∧ W.ownsRow base 101 2 a (evA e).length (attrsV (evA e)) ∧ EvsAt W base [.int .i64 (evK e : Nat), strV (evN e), a, strV (evT e)] [e]
  | [], [], k, e, _, h => by simp at h
  | k' :: n :: a :: t :: r, e' :: l, 0, e, ⟨h1, h2⟩, h => by
    simp only [List.getElem?_cons_zero, Option.some.injEq] at h
    subst h
    cases e' with
    | text b =>
      obtain ⟨rfl, rfl, rfl, rfl⟩ := h1
      exact ⟨_, rfl, rfl, rfl, rfl, World.ownsRow_nil _ _ _ _, ⟨⟨rfl, rfl, rfl, rfl⟩, trivial⟩⟩
    | start m at_ =>
      obtain ⟨rfl, rfl, h3, rfl⟩ := h1
      exact ⟨_, rfl, rfl, rfl, rfl, h3, ⟨⟨rfl, rfl, h3, rfl⟩, trivial⟩⟩
    | stop m =>
      obtain ⟨rfl, rfl, rfl, rfl⟩ := h1
      exact ⟨_, rfl, rfl, rfl, rfl, World.ownsRow_nil _ _ _ _, ⟨⟨rfl, rfl, rfl, rfl⟩, trivial⟩⟩
  | k' :: n :: a :: t :: r, e' :: l, k + 1, e, ⟨h1, h2⟩, h => by
    rw [List.getElem?_cons_succ] at h
    obtain ⟨a', g1, g2, g3, g4, g5⟩ := evs_get r l k e h2 h
    refine ⟨a', ?_, ?_, ?_, ?_, g5⟩
    · rw [show (k + 1) * 4 = k * 4 + 4 by omega]; exact g1
    · rw [show (k + 1) * 4 + 1 = k * 4 + 1 + 4 by omega]; exact g2
    · rw [show (k + 1) * 4 + 2 = k * 4 + 2 + 4 by omega]; exact g3
    · rw [show (k + 1) * 4 + 3 = k * 4 + 3 + 4 by omega]; exact g4
  | [], _ :: _, _, _, h, _ => h.elim
  | [_], _, _, _, h, _ => by cases ‹List Ev› <;> exact h.elim
  | [_, _], _, _, _, h, _ => by cases ‹List Ev› <;> exact h.elim
  | [_, _, _], _, _, _, h, _ => by cases ‹List Ev› <;> exact h.elim
  | _ :: _ :: _ :: _ :: _, [], _, _, h, _ => h.elim
theorem evs_len {W : World} {base : Nat} : ∀ (xs : List Value) (l : List Ev), EvsAt W base xs l → xs.length = l.length * 4
  | [], [], _ => rfl
  | k' :: n :: a :: t :: r, e' :: l, ⟨h1, h2⟩ => by
    have := evs_len r l h2
    simp only [List.length_cons]
    omega
  | [], _ :: _, h => h.elim
  | [_], _, h => by cases ‹List Ev› <;> exact h.elim
  | [_, _], _, h => by cases ‹List Ev› <;> exact h.elim
  | [_, _, _], _, h => by cases ‹List Ev› <;> exact h.elim
  | _ :: _ :: _ :: _ :: _, [], h => h.elim
theorem evs_app {W : World} {base : Nat} : ∀ (xs : List Value) (l : List Ev) (ys : List Value) (m : List Ev), EvsAt W base xs l → EvsAt W base ys m → EvsAt W base (xs ++ ys) (l ++ m)
  | [], [], _, _, _, h => h
  | k' :: n :: a :: t :: r, e' :: l, ys, m, ⟨h1, h2⟩, h => ⟨h1, evs_app r l ys m h2 h⟩
  | [], _ :: _, _, _, h, _ => h.elim
  | [_], _, _, _, h, _ => by cases ‹List Ev› <;> exact h.elim
  | [_, _], _, _, _, h, _ => by cases ‹List Ev› <;> exact h.elim
  | [_, _, _], _, _, _, h, _ => by cases ‹List Ev› <;> exact h.elim
  | _ :: _ :: _ :: _ :: _, [], _, _, h, _ => h.elim
end Go.Proofs.YtkcgmimldjeaiaaDoor

/-
  Balance as a plain function on events: the nesting table, a stack of open names, one event at a time.
-/
namespace Go.Proofs.YtkcgmimldjeaiaaDoor
open Go.RowKit Go.Lib Own

/-- 0 stop, 1 up, 2 take, 3 and on: in these implied elements -/
def nestT : List (List Nat) := [[2, 2, 2, 1, 1, 1, 1], [1, 2, 2, 1, 1, 1, 1], [1, 1, 2, 1, 1, 1, 1], [3, 3, 3, 2, 1, 1, 1], [6, 6, 6, 0, 2, 4, 5], [8, 8, 8, 0, 1, 2, 7], [9, 9, 9, 0, 1, 1, 2], [2, 2, 2, 0, 1, 1, 1]]
def nestP (m c : Nat) : Nat := if m < 1 ∨ 8 < m ∨ c < 1 ∨ 7 < c then 0 else (nestT.getD (m - 1) []).getD (c - 1) 0
def liN : List UInt8 := [108, 105]
def tbodyN : List UInt8 := [116, 98, 111, 100, 121]
def trN : List UInt8 := [116, 114]
def tdN : List UInt8 := [116, 100]
def impP : Nat → List (List UInt8)
  | 3 => [liN]
  | 4 => [tbodyN]
  | 5 => [tbodyN, trN]
  | 6 => [tbodyN, trN, tdN]
  | 7 => [trN]
  | 8 => [trN, tdN]
  | 9 => [tdN]
  | _ => []
/-- class and model of a name; 0 where it isn't known -/
def clsX (x : List UInt8) : Nat := ((elemL x).map Prod.fst).getD 0
def modX (x : List UInt8) : Nat := ((elemL x).map Prod.snd).getD 0
/-- the model inside the innermost of the open elements -/
def modO (op : List (List UInt8)) : Nat := match op.getLast? with | none => 1 | some x => modX x
/-- a place for a thing of class c, looked for from the innermost of k open elements outward: how many stay open, and the place -/
def findP (c : Nat) (op : List (List UInt8)) : Nat → Nat × Nat
  | 0 => if nestP (modO (op.take 0)) c = 1 then (0, 0) else (0, nestP (modO (op.take 0)) c)
  | k + 1 => if nestP (modO (op.take (k + 1))) c = 1 then findP c op k else (k + 1, nestP (modO (op.take (k + 1))) c)
def aN : List UInt8 := [97]
def reachP (op : List (List UInt8)) (x : List UInt8) : Nat := if x = aN then op.idxOf aN else op.length
/-- the Ends of all but k open elements, innermost first -/
def closeE (k : Nat) (op : List (List UInt8)) : List Ev := (op.drop k).reverse.map .stop
def openE (l : List (List UInt8)) : List Ev := l.map fun x => .start x []
def tableX (x : List UInt8) : Bool := decide (5 ≤ modX x ∧ modX x ≤ 8)
/-- does an open element hide those around it from the end tag of x? -/
def wallX (o x : List UInt8) : Bool := if tableX x = true then modX o == 5 else if clsX x = 4 ∧ modX o = 4 then true else tableX o
/-- how many elements stay open behind an end tag that is looked for among the k outermost -/
def closesP (op : List (List UInt8)) (x : List UInt8) : Nat → Option Nat
  | 0 => none
  | k + 1 => if op.getD k [] = x then some k else if wallX (op.getD k []) x = true then none else closesP op x k
/-- whitespace taken off the beginning -/
def trimP (t : List UInt8) : List UInt8 := t.dropWhile spaceC
def startP (d : Nat) (op : List (List UInt8)) (x : List UInt8) (al : List AttrP) : List (List UInt8) × List Ev :=
  if elemL x = none then (op, []) else
  if (findP (clsX x) op (reachP op x)).2 = 0 ∨ d < (findP (clsX x) op (reachP op x)).1 + (impP (findP (clsX x) op (reachP op x)).2).length + 1 then (op, []) else
  (op.take (findP (clsX x) op (reachP op x)).1 ++ impP (findP (clsX x) op (reachP op x)).2 ++ (if modX x = 9 then [] else [x]),
    closeE (findP (clsX x) op (reachP op x)).1 op ++ openE (impP (findP (clsX x) op (reachP op x)).2) ++ [.start x al])
def textP (d : Nat) (op : List (List UInt8)) (t : List UInt8) : List (List UInt8) × List Ev :=
  if nestP (modO op) 3 = 2 then (op, if t = [] then [] else [.text t]) else
  if trimP t = [] ∨ d < op.length + (impP (nestP (modO op) 3)).length then (op, []) else (op ++ impP (nestP (modO op) 3), openE (impP (nestP (modO op) 3)) ++ [.text (trimP t)])
def endP (op : List (List UInt8)) (x : List UInt8) : List (List UInt8) × List Ev :=
  if elemL x = none then (op, []) else match closesP op x op.length with
    | none => (op, [])
    | some k => (op.take k, closeE k op)
def balS (d : Nat) (op : List (List UInt8)) (e : EvP) : List (List UInt8) × List Ev :=
  if e.k = 1 then startP d op e.n e.a else if e.k = 2 then endP op e.n else if e.k = 3 then textP d op e.t else (op, [])
/-- all events from a stack on, with the Ends behind the last -/
def rawB (d : Nat) : List (List UInt8) → List EvP → List Ev
  | op, [] => closeE 0 op
  | op, e :: r => (balS d op e).2 ++ rawB d (balS d op e).1 r
theorem rawB_step (d : Nat) (op : List (List UInt8)) (e : EvP) (r : List EvP) : rawB d op (e :: r) = (balS d op e).2 ++ rawB d (balS d op e).1 r := rfl
/-- an event put into a stream: texts that meet are one -/
def putE (s : List Ev × List UInt8) : Ev → List Ev × List UInt8
  | .text b => (s.1, s.2 ++ b)
  | e => (flushE s ++ [e], [])
def putEs (s : List Ev × List UInt8) (l : List Ev) : List Ev × List UInt8 := l.foldl putE s
theorem putEs_app (s : List Ev × List UInt8) (a b : List Ev) : putEs s (a ++ b) = putEs (putEs s a) b := List.foldl_append
/-- Balance's answer -/
def balP (d : Nat) (es : List EvP) : List Ev := flushE (putEs ([], []) (rawB d [] es))

/-! ## the table -/

theorem known_bd (x : List UInt8) : elemL x ≠ none → 1 ≤ clsX x ∧ clsX x ≤ 7 ∧ clsX x ≠ 3 ∧ 1 ≤ modX x ∧ modX x ≤ 9 := by
  refine elem_all (fun x => elemL x ≠ none → 1 ≤ clsX x ∧ clsX x ≤ 7 ∧ clsX x ≠ 3 ∧ 1 ≤ modX x ∧ modX x ≤ 9) (by decide +kernel) (fun x h1 _ h => absurd h1 h) x
theorem void_mod (x : List UInt8) : voidL x = (modX x == 9) := by
  refine elem_all (fun x => voidL x = (modX x == 9)) (by decide +kernel) (fun x h1 _ => ?_) x
  have h2 : modX x = 0 := by unfold modX; rw [h1]; rfl
  rw [h2]
  by_cases h3 : voidL x = true
  · exfalso
    unfold voidL at h3
    simp only [Bool.or_eq_true, beq_iff_eq] at h3
    rcases h3 with rfl | rfl | rfl <;> exact absurd h1 (by decide +kernel)
  · rw [Bool.not_eq_true] at h3; rw [h3]; rfl
/-- what is open: known elements that are not void, at most one a among them -/
structure OpenOk (op : List (List UInt8)) : Prop where
  known : ∀ x ∈ op, elemL x ≠ none ∧ modX x ≠ 9
  one : op.count aN ≤ 1
theorem OpenOk.nil : OpenOk [] := ⟨fun _ h => absurd h List.not_mem_nil, Nat.zero_le _⟩
theorem OpenOk.take {op : List (List UInt8)} (h : OpenOk op) (k : Nat) : OpenOk (op.take k) :=
  ⟨fun x hx => h.known x (List.mem_of_mem_take hx), Nat.le_trans ((List.take_sublist k op).count_le aN) h.one⟩
theorem OpenOk.mod {op : List (List UInt8)} (h : OpenOk op) : 1 ≤ modO op ∧ modO op ≤ 8 := by
  unfold modO
  cases hl : op.getLast? with
  | none => simp
  | some x =>
    have hm : x ∈ op := List.mem_of_getLast? hl
    obtain ⟨h1, h2⟩ := h.known x hm
    have := known_bd x h1
    simp only
    omega
theorem nest_lt (m c : Nat) : nestP m c < 10 := by
  unfold nestP
  split
  · omega
  · rename_i h
    have h1 : m - 1 < 8 := by omega
    have h2 : c - 1 < 7 := by omega
    have : ∀ i < 8, ∀ j < 7, (nestT.getD i []).getD j 0 < 10 := by decide +kernel
    exact this _ h1 _ h2
theorem imp_one {p : Nat} {x : List UInt8} (h : x ∈ impP p) : x = liN ∨ x = tbodyN ∨ x = trN ∨ x = tdN := by
  unfold impP at h
  split at h <;> (try simp only [List.mem_cons, List.not_mem_nil, or_false] at h)
  · exact .inl h
  · exact .inr (.inl h)
  · rcases h with h | h
    · exact .inr (.inl h)
    · exact .inr (.inr (.inl h))
  · rcases h with h | h | h
    · exact .inr (.inl h)
    · exact .inr (.inr (.inl h))
    · exact .inr (.inr (.inr h))
  · exact .inr (.inr (.inl h))
  · rcases h with h | h
    · exact .inr (.inr (.inl h))
    · exact .inr (.inr (.inr h))
  · exact .inr (.inr (.inr h))
theorem imp_ok {p : Nat} {x : List UInt8} (h : x ∈ impP p) : elemL x ≠ none ∧ modX x ≠ 9 ∧ x ≠ aN ∧ x ≠ [] := by
  rcases imp_one h with rfl | rfl | rfl | rfl <;> decide +kernel
theorem imp_len (p : Nat) : (impP p).length ≤ 3 := by
  unfold impP
  split <;> simp

/-! ## where a thing may stand -/

theorem findP_le (c : Nat) (op : List (List UInt8)) : ∀ k, (findP c op k).1 ≤ k
  | 0 => by unfold findP; split <;> exact Nat.le_refl 0
  | k + 1 => by
    unfold findP
    split
    · have := findP_le c op k; omega
    · exact Nat.le_refl _
/-- the place is not up; and if it isn't stop, it is the table's at what stays open -/
theorem findP_at (c : Nat) (op : List (List UInt8)) : ∀ k, (findP c op k).2 ≠ 1 ∧ ((findP c op k).2 ≠ 0 → (findP c op k).2 = nestP (modO (op.take (findP c op k).1)) c)
  | 0 => by
    unfold findP
    split
    · simp
    · rename_i h; exact ⟨h, fun _ => rfl⟩
  | k + 1 => by
    unfold findP
    split
    · exact findP_at c op k
    · rename_i h; exact ⟨h, fun _ => rfl⟩
theorem findP_self {c k p : Nat} {op : List (List UInt8)} (h : nestP (modO (op.take k)) c = p) (hp : p ≠ 1) : findP c op k = (k, p) := by
  subst h
  cases k <;> (unfold findP; rw [if_neg hp])
theorem findP_take (c : Nat) (op : List (List UInt8)) (n : Nat) : ∀ k, k ≤ n → findP c (op.take n) k = findP c op k
  | 0, _ => by unfold findP; rw [List.take_zero, List.take_zero]
  | k + 1, h => by
    unfold findP
    rw [findP_take c op n k (by omega), List.take_take, Nat.min_eq_left h]
end Go.Proofs.YtkcgmimldjeaiaaDoor

/-
  The statement's comparing of events: its walk, where both hold the same.
-/
namespace Go.Proofs.YtkcgmimldjeaiaaDoor
open Go.RowKit Go.Lib Own

theorem attrs_at (l : List (List UInt8 × List UInt8)) (k : Nat) (a : List UInt8 × List UInt8) (h : l[k]? = some a) : (attrsV l)[k * 2]? = some (strV a.1) ∧ (attrsV l)[k * 2 + 1]? = some (strV a.2) := by
  induction l generalizing k with
  | nil => simp at h
  | cons b l ih =>
    cases k with
    | zero =>
      simp only [List.getElem?_cons_zero, Option.some.injEq] at h
      subst h
      exact ⟨rfl, rfl⟩
    | succ k =>
      rw [List.getElem?_cons_succ] at h
      obtain ⟨h1, h2⟩ := ih k h
      refine ⟨?_, ?_⟩
      · rw [show (k + 1) * 2 = k * 2 + 1 + 1 by omega]; exact h1
      · rw [show (k + 1) * 2 + 1 = k * 2 + 1 + 1 + 1 by omega]; exact h2
set_option maxHeartbeats 2000000 in
set_option maxRecDepth 10000 in
theorem sameAttrs_any (B1 B2 : Nat) (v1 v2 : Value) (l : List (List UInt8 × List UInt8)) (w : World) (h1 : w.ownsRow B1 101 2 v1 l.length (attrsV l)) (h2 : w.ownsRow B2 101 2 v2 l.length (attrsV l)) :
    Calls Tryd.prog 32 #[v1, v2] w fun e w' => e = .returned (.bool true) ∧ ∃ n, w' = w.drewN n := by
  have hl := row_max h1
  obtain ⟨p1, k1, rfl⟩ := row_shape h1
  obtain ⟨p2, k2, rfl⟩ := row_shape h2
  have hlen : (attrsV l).length = l.length * 2 := attrsV_len l
  have H1 := hid h1
  have H2 := hid h2
  clear h1 h2
  go_enter Tryd.func32, Tryd.ntmps32
  have q0 : ((l.length : Int) != (l.length : Int)) = false := by simp
  go_wp2
  go_loopw [13] (fun iv wr => ∃ k n : Nat, iv = .int .i64 k ∧ k ≤ l.length ∧ wr = w.drewN n) (fun iv _ => l.length - (RowKit.intOf iv).toNat)
  case atStart => exact ⟨0, 0, rfl, Nat.zero_le _, rfl⟩
  case round =>
    obtain ⟨k, n, rfl, hk, rfl⟩ := hrel
    by_cases hkl : k < l.length
    · obtain ⟨g1, ca1, e1, _, _, hc1⟩ := row_at H1.out (by omega)
      obtain ⟨g2, ca2, e2, _, _, hc2⟩ := row_at H2.out (by omega)
      cases e1
      cases e2
      obtain ⟨x1, x2⟩ := attrs_at l k l[k] (List.getElem?_eq_getElem hkl)
      have a1 := (hc1 (k * 2) (by omega)).trans x1
      have a2 := (hc1 (k * 2 + 1) (by omega)).trans x2
      have b1 := (hc2 (k * 2) (by omega)).trans x1
      have b2 := (hc2 (k * 2 + 1) (by omega)).trans x2
      obtain ⟨u1, hu1⟩ : ∃ u1, (⟨l[k].1.toArray⟩ : ByteArray) = u1 := ⟨_, rfl⟩
      obtain ⟨u2, hu2⟩ : ∃ u2, (⟨l[k].2.toArray⟩ : ByteArray) = u2 := ⟨_, rfl⟩
      unfold strV at a1 a2 b1 b2
      rw [hu1] at a1 b1
      rw [hu2] at a2 b2
      clear hc1 hc2 x1 x2 hu1 hu2 H1 H2
      go_wp2_with fail
      go_quiet (fail)
      go_wp2
      go_roundw
      case rel => exact ⟨k + 1, n + nq, rfl, by omega, by first | rfl | simp⟩
      case measure => simp [RowKit.intOf]; omega
    · go_wp2
      go_ret
      exact ⟨rfl, n, rfl⟩

/-- the four cells of an event in a row -/
theorem ev_cells {W : World} {base : Nat} {v : Value} {xs : List Value} {l : List Ev} (h : W.ownsRow base 39 4 v l.length xs) (he : EvsAt W base xs l) (k : Nat) (hk : k < l.length) :
    ∃ g cap a, v = .slice (some ⟨g, 0, none⟩) l.length cap ∧ base ≤ g ∧ g < W.heap.size ∧ W.cell? ⟨g, k * 4, none⟩ = some (.int .i64 (evK l[k] : Nat)) ∧ W.cell? ⟨g, k * 4 + 1, none⟩ = some (strV (evN l[k])) ∧ W.cell? ⟨g, k * 4 + 2, none⟩ = some a ∧
      W.cell? ⟨g, k * 4 + 3, none⟩ = some (strV (evT l[k])) ∧ W.ownsRow base 101 2 a (evA l[k]).length (attrsV (evA l[k])) ∧ EvsAt W base [.int .i64 (evK l[k] : Nat), strV (evN l[k]), a, strV (evT l[k])] [l[k]] := by
  obtain ⟨g, cap, hv, hg1, hg2, hc⟩ := row_at h (by omega)
  obtain ⟨a, a0, a1, a2, a3, a4, a5⟩ := evs_get xs l k l[k] he (List.getElem?_eq_getElem hk)
  exact ⟨g, cap, a, hv, hg1, hg2, (hc _ (by omega)).trans a0, (hc _ (by omega)).trans a1, (hc _ (by omega)).trans a2, (hc _ (by omega)).trans a3, a4, a5⟩

set_option maxHeartbeats 4000000 in
set_option maxRecDepth 10000 in
theorem sameEvents_any (B1 B2 : Nat) (v1 v2 : Value) (xs1 xs2 : List Value) (l : List Ev) (w : World) (h1 : w.ownsRow B1 39 4 v1 l.length xs1) (e1 : EvsAt w B1 xs1 l) (h2 : w.ownsRow B2 39 4 v2 l.length xs2) (e2 : EvsAt w B2 xs2 l) :
    Calls Tryd.prog 11 #[v1, v2] w fun e w' => e = .returned (.bool true) ∧ ∃ n, w' = w.drewN n := by
  have hl := row_max h1
  obtain ⟨p1, k1, rfl⟩ := row_shape h1
  obtain ⟨p2, k2, rfl⟩ := row_shape h2
  have H1 := hid (And.intro h1 e1)
  have H2 := hid (And.intro h2 e2)
  clear h1 h2 e1 e2
  go_enter Tryd.func11, Tryd.ntmps11
  have q0 : ((l.length : Int) != (l.length : Int)) = false := by simp
  go_wp2
  go_loopw [13] (fun iv wr => ∃ k : Nat, iv = .int .i64 k ∧ k ≤ l.length ∧ Hid (True → ∃ n, wr = w.drewN n)) (fun iv _ => l.length - (RowKit.intOf iv).toNat)
  case atStart => exact ⟨0, rfl, Nat.zero_le _, hid (fun _ => ⟨0, rfl⟩)⟩
  case round =>
    obtain ⟨k, rfl, hk, HQ⟩ := hrel
    by_cases hkl : k < l.length
    · obtain ⟨g1, ca1, a1, ex1, _, _, b0, b1, b2, b3, b4, _⟩ := ev_cells H1.out.1 H1.out.2 k hkl
      obtain ⟨g2, ca2, a2, ex2, _, _, d0, d1, d2, d3, d4, _⟩ := ev_cells H2.out.1 H2.out.2 k hkl
      cases ex1
      cases ex2
      obtain ⟨sp1, sc1, rfl⟩ := row_shape b4
      obtain ⟨sp2, sc2, rfl⟩ := row_shape d4
      have hq := HQ.out trivial
      replace b0 := cell_drew hq b0
      replace b1 := cell_drew hq b1
      replace b2 := cell_drew hq b2
      replace b3 := cell_drew hq b3
      replace d0 := cell_drew hq d0
      replace d1 := cell_drew hq d1
      replace d2 := cell_drew hq d2
      replace d3 := cell_drew hq d3
      have hsame := fun n => sameAttrs_any B1 B2 _ _ (evA l[k]) (wr.drewN n) (by obtain ⟨n', rfl⟩ := hq; exact b4) (by obtain ⟨n', rfl⟩ := hq; exact d4)
      have HS := hid hsame
      clear hsame b4 d4 hq H1 H2
      obtain ⟨u1, hu1⟩ : ∃ u1, (⟨(evN l[k]).toArray⟩ : ByteArray) = u1 := ⟨_, rfl⟩
      obtain ⟨u2, hu2⟩ : ∃ u2, (⟨(evT l[k]).toArray⟩ : ByteArray) = u2 := ⟨_, rfl⟩
      unfold strV at b1 b3 d1 d3
      rw [hu1] at b1 d1
      rw [hu2] at b3 d3
      have q1 : (((evK l[k] : Nat) : Int) != ((evK l[k] : Nat) : Int)) = false := by simp
      generalize ((evK l[k] : Nat) : Int) = z at *
      clear hu1 hu2
      go_wp2_with fail
      go_quiet (first | (go_at_call 32; refine Calls.quiet_of (HS.out _)))
      go_wp2
      go_roundw
      case rel =>
        obtain ⟨n, hn⟩ := HQ.out trivial
        exact ⟨k + 1, rfl, by omega, hid (fun _ => ⟨n + nq, by rw [hn]; simp⟩)⟩
      case measure => simp [RowKit.intOf]; omega
    · go_wp2
      go_ret
      exact ⟨rfl, HQ.out trivial⟩
end Go.Proofs.YtkcgmimldjeaiaaDoor

/-
  The statements' sameTexts, longTexts: their walks.
-/
namespace Go.Proofs.YtkcgmimldjeaiaaDoor
open Go.RowKit Go.Lib Own

/-- the cells of words -/
def wordsV (ss : List (List UInt8)) : List Value := ss.map fun s => .string (bs s)
theorem wordsV_app (a b : List (List UInt8)) : wordsV (a ++ b) = wordsV a ++ wordsV b := List.map_append
theorem wordsV_len (a : List (List UInt8)) : (wordsV a).length = a.length * 1 := by simp [wordsV]
theorem wordsV_one (a : List (List UInt8)) : ∀ u ∈ wordsV a, u.oneCell' = true := by
  intro u hu
  unfold wordsV at hu
  obtain ⟨s, _, rfl⟩ := List.mem_map.1 hu
  rfl
/-- words appended to a row of words that the call owns -/
theorem wpList_append_words {w : World} {ops : Array Oper} {rest : List Oper} {o : Oper} {a : Act} {Q : Exit → Act → World → Prop} (hgd : o.guard = none) (s x : Operand)
    (ho : o.op = .call { callee := .builtin .append, args := #[s, x], argTypes := #[23, 23] }) (base : Nat) (v vx : Value) (l m : List (List UInt8)) (hs : a.eval s = v) (hx : a.eval x = vx)
    (hown : w.ownsRow base 9 1 v l.length (wordsV l)) (hw : Words w vx m) (hbase : base ≤ w.heap.size) (hsz : l.length + m.length ≤ 1000000000)
    (h : ∀ v' w', w'.ownsRow base 9 1 v' (l ++ m).length (wordsV (l ++ m)) → w.grownBy w' v.ownBlock → wpList Tryd.prog ops Q rest (a.put o.dst v') w') : wpList Tryd.prog ops Q (o :: rest) a w := by
  obtain ⟨i0, hi, hz0, hz1, hz2⟩ := info_parts info_str
  obtain ⟨p, c, rfl, hc, hm, hcell, hnone⟩ := hw
  cases p with
  | none =>
    obtain rfl : c = 0 := hnone rfl
    obtain rfl : m = [] := List.length_eq_zero_iff.1 (by omega)
    refine wpList_append_own_none hgd s x 23 ho base 9 i0 1 Tryd.underlying23 hi v l.length (wordsV l) hs hown hx ?_
    exact h v w (by rw [List.append_nil]; exact hown) ⟨rfl, rfl, rfl, Nat.le_refl _, fun _ _ _ => rfl⟩
  | some ad =>
    refine wpList_append_own w hgd s x 23 ho base 9 i0 (.string ⟨#[]⟩) 1 16 Tryd.underlying23 hi hz0 hz1 hz2 rfl (by decide) v l.length (wordsV l) hs hown ad m.length c (wordsV m) hx (wordsV_len m) ?_ (wordsV_one m) (by unfold maxLen; omega) (by omega) hbase ?_
    · intro j u hj
      unfold wordsV at hj
      rw [List.getElem?_map] at hj
      obtain ⟨t, ht, rfl⟩ := Option.map_eq_some_iff.1 hj
      obtain ⟨b, o', e, hd⟩ := hcell j t ht
      cases e
      have hadd : (⟨b, o', none⟩ : Addr).add j = ⟨b, o' + j, none⟩ := by unfold Addr.add; split <;> simp_all
      rw [hadd]
      exact hd
    · intro v' w' h2 h3 _
      exact h v' w' (by rw [List.length_append, wordsV_app]; exact h2) h3

end Go.Proofs.YtkcgmimldjeaiaaDoor

/-
  The statements' lendPolicy: what its memory holds.
-/
namespace Go.Proofs.YtkcgmimldjeaiaaDoor
open Go.RowKit Go.Lib Own

def zeroP : List Value := [.slice none 0 0, .slice none 0 0, .slice none 0 0, .int .i64 0, .int .i64 0]
def zeroL : Array Value := #[.slice none 0 0, .slice none 0 0, .slice none 0 0, .int .i64 0, .int .i64 0, .slice none 0 0, .slice none 0 0, .slice none 0 0, .slice none 0 0]
theorem row_cap {W : World} {base : Nat} {e : TypeId} {size n m c : Nat} {p : Option Addr} {xs : List Value} (h : W.ownsRow base e size (.slice p m c) n xs) : m = n ∧ n ≤ c := by
  rcases h.2 with ⟨e, rfl⟩ | ⟨g, cap, cur, e, _, _, hle, _⟩
  · cases e
    exact ⟨rfl, Nat.le_refl _⟩
  · cases e
    exact ⟨rfl, hle⟩
theorem alloc_lt (W : World) (X : Obj) : W.heap.size < (W.alloc X).heap.size := by simp
/-- a rule's cells: its name and the front of its words -/
def frontV : Value → Nat → Value
  | .slice p _ c, n => .slice p n c
  | v, _ => v
def rcells (prs : List (RuleP × Value)) : List Value := prs.flatMap fun x => [.string (bs x.1.1), x.2]
theorem rcells_app (a b : List (RuleP × Value)) : rcells (a ++ b) = rcells a ++ rcells b := List.flatMap_append
theorem rcells_len : ∀ a : List (RuleP × Value), (rcells a).length = a.length * 2
  | [] => rfl
  | x :: r => by
    have := rcells_len r
    show (_ :: _ :: rcells r).length = _
    simp only [List.length_cons, this]
    omega
theorem rcells_at : ∀ (a : List (RuleP × Value)) (k : Nat) (x : RuleP × Value), a[k]? = some x → (rcells a)[k * 2]? = some (.string (bs x.1.1)) ∧ (rcells a)[k * 2 + 1]? = some x.2
  | [], k, x, h => by simp at h
  | y :: r, 0, x, h => by
    simp only [List.getElem?_cons_zero, Option.some.injEq] at h
    subst h
    exact ⟨rfl, rfl⟩
  | y :: r, k + 1, x, h => by
    rw [List.getElem?_cons_succ] at h
    obtain ⟨h1, h2⟩ := rcells_at r k x h
    exact ⟨by rw [show (k + 1) * 2 = k * 2 + 1 + 1 by omega]; exact h1, by rw [show (k + 1) * 2 + 1 = k * 2 + 1 + 1 + 1 by omega]; exact h2⟩
theorem Just.andThen {W W1 W2 : World} {b : Nat} {cs cs2 : Array Value} {T : TypeId} (h : Just W W1 b cs T) (h2 : Just W1 W2 b cs2 T) : Just W W2 b cs2 T :=
  ⟨h2.os.trans h.os, h2.tape.trans h.tape, h2.output.trans h.output, h2.size.trans h.size, h2.at_, fun k hk => (h2.other k hk).trans (h.other k hk)⟩
theorem just_put {W : World} {b j : Nat} {cs cs2 : Array Value} {T : TypeId} (h : W.heap[b]? = some (.cells cs T (0, 0))) (v : Value) (e : cs.setIfInBounds j v = cs2) : Just W (W.setCell ⟨b, j, none⟩ v) b cs2 T := by
  subst e
  exact just_set h v
theorem nine_other (W : World) (b : Nat) (sv dv : Value) (k : Nat) (hk : k ≠ b) : (((((((((W.setCell ⟨b, 0, none⟩ (.slice none 0 0)).setCell ⟨b, 1, none⟩ (.slice none 0 0)).setCell ⟨b, 2, none⟩ (.slice none 0 0)).setCell ⟨b, 3, none⟩ (.int .i64 0)).setCell ⟨b, 4, none⟩ (.int .i64 0)).setCell ⟨b, 5, none⟩ (.slice none 0 0)).setCell ⟨b, 6, none⟩ (.slice none 0 0)).setCell ⟨b, 7, none⟩ (sv)).setCell ⟨b, 8, none⟩ (dv)).heap[k]? = W.heap[k]? := by
  rw [heap_setCell_other _ _ _ _ hk, heap_setCell_other _ _ _ _ hk, heap_setCell_other _ _ _ _ hk, heap_setCell_other _ _ _ _ hk, heap_setCell_other _ _ _ _ hk, heap_setCell_other _ _ _ _ hk, heap_setCell_other _ _ _ _ hk, heap_setCell_other _ _ _ _ hk, heap_setCell_other _ _ _ _ hk]
theorem nine_below {B : Nat} {w W : World} (h : Below B w W) {b : Nat} (hb : B ≤ b) (sv dv : Value) : Below B w (((((((((W.setCell ⟨b, 0, none⟩ (.slice none 0 0)).setCell ⟨b, 1, none⟩ (.slice none 0 0)).setCell ⟨b, 2, none⟩ (.slice none 0 0)).setCell ⟨b, 3, none⟩ (.int .i64 0)).setCell ⟨b, 4, none⟩ (.int .i64 0)).setCell ⟨b, 5, none⟩ (.slice none 0 0)).setCell ⟨b, 6, none⟩ (.slice none 0 0)).setCell ⟨b, 7, none⟩ (sv)).setCell ⟨b, 8, none⟩ (dv)) :=
  ((((((((h.setCell hb _).setCell hb _).setCell hb _).setCell hb _).setCell hb _).setCell hb _).setCell hb _).setCell hb _).setCell hb _
theorem just_low {W W' : World} {b : Nat} {cs : Array Value} {T : TypeId} (h : Just W W' b cs T) {base : Nat} (hb : base ≤ b) : Below base W W' :=
  ⟨h.os, h.tape, h.output, by rw [h.size]; exact Nat.le_refl _, fun k hk => h.other k (by omega)⟩
theorem grown_at {W W2 : World} {v : Value} (hg : W.grownBy W2 v.ownBlock) {b : Nat} {o : Obj} (h : W.heap[b]? = some o) (hne : v.ownBlock ≠ some b) : W2.heap[b]? = some o := (hg.block b (block_lt h) (fun e => hne e.symm)).trans h
theorem info_rule : (Tryd.prog.info? 73).map (fun i => (i.zero, i.size, i.bytes)) = some (some (.agg #[.string ⟨#[]⟩, .slice none 0 0]), 2, 40) := by kernel_rfl
theorem info_words : (Tryd.prog.info? 23).map (fun i => (i.zero, i.size, i.bytes)) = some (some (.slice none 0 0), 1, 24) := by kernel_rfl


/-- a list of lists of words -/
def ListsR (W : World) (v : Value) (ls : List (List (List UInt8))) : Prop :=
  ∃ p c, v = .slice p ls.length c ∧ ls.length ≤ c ∧ c ≤ 9223372036854775807 ∧ ∀ j l, ls[j]? = some l → ∃ b o u, p = some ⟨b, o, none⟩ ∧ W.cell? ⟨b, o + j, none⟩ = some u ∧ Words W u l
theorem ListsR.below {W W' : World} {v : Value} {ls : List (List (List UInt8))} (h : ListsR W v ls) (hb : Below W.heap.size W W') : ListsR W' v ls := by
  obtain ⟨p, c, rfl, h1, h2, h3⟩ := h
  refine ⟨p, c, rfl, h1, h2, fun j r hj => ?_⟩
  obtain ⟨b, o, u, rfl, hc, hw⟩ := h3 j r hj
  exact ⟨b, o, u, rfl, cell_kept hc hb, hw.below hb⟩
/-- a policy that was lent -/
def LentR (W : World) (v : Value) (P : PolP) (ms : List (List UInt8)) : Prop :=
  ∃ vr vs vd vR va vS vD, v = .agg #[vr, vs, vd, .int .i64 P.depth, .int .i64 P.window, vR, va, vS, vD] ∧ PolR W vr vs vd P ∧ RulesR W vR (P.rules ++ ms.map fun s => (s, [])) ∧ ListsR W va (P.rules.map fun q => q.2 ++ ms) ∧ Words W vS (P.schemes ++ ms) ∧ Words W vD (P.drop ++ ms)
theorem LentR.below {W W' : World} {v : Value} {P : PolP} {ms : List (List UInt8)} (h : LentR W v P ms) (hb : Below W.heap.size W W') : LentR W' v P ms := by
  obtain ⟨vr, vs, vd, vR, va, vS, vD, e, h1, h2, h3, h4, h5⟩ := h
  exact ⟨vr, vs, vd, vR, va, vS, vD, e, h1.below hb, h2.below hb, h3.below hb, h4.below hb, h5.below hb⟩
theorem RulesR.front {W : World} {p : Option Addr} {n c : Nat} {a b : List RuleP} (h : RulesR W (.slice p n c) (a ++ b)) : RulesR W (.slice p a.length c) a := by
  obtain ⟨p', c', e, h1, h2, h3⟩ := h
  cases e
  rw [List.length_append] at h1
  refine ⟨p, c, rfl, by omega, h2, fun j r hj => h3 j r ?_⟩
  rw [List.getElem?_append_left (List.getElem?_eq_some_iff.1 hj).1]
  exact hj
theorem row_bound {W : World} {base : Nat} {e : TypeId} {size n m c : Nat} {p : Option Addr} {xs : List Value} (h : W.ownsRow base e size (.slice p m c) n xs) : c ≤ 9223372036854775807 := by
  rcases h.2 with ⟨e, _⟩ | ⟨g, cap, cur, e, _, _, _, hle, _⟩
  · cases e
    omega
  · cases e
    unfold maxLen at hle
    omega
/-- the lists alone -/
structure LndR (w W : World) (rv av sv dv : Value) (R : List RuleP) (S D ms : List (List UInt8)) (prs : List (RuleP × Value)) (us : List Value) : Prop where
  s : W.ownsRow w.heap.size 9 1 sv S.length (wordsV S)
  d : W.ownsRow w.heap.size 9 1 dv D.length (wordsV D)
  a : W.ownsRow w.heap.size 23 1 av us.length us
  r : W.ownsRow w.heap.size 73 2 rv prs.length (rcells prs)
  u : ∀ (k : Nat) (v : Value) (q : RuleP), us[k]? = some v → R[k]? = some q → W.ownsRow w.heap.size 9 1 v (q.2 ++ ms).length (wordsV (q.2 ++ ms))
  rw : ∀ (k : Nat) (x : RuleP × Value), prs[k]? = some x → (x.1.2 = [] ∧ x.2 = .slice none 0 0) ∨ ∃ v, us[k]? = some v ∧ R[k]? = some x.1 ∧ x.2 = frontV v x.1.2.length
theorem LndR.lent {w W : World} {rp sp dp ap : Option Addr} {rn rc sn sc dn dc an ac : Nat} {P : PolP} {ms : List (List UInt8)} {prs : List (RuleP × Value)} {us : List Value}
    (h : LndR w W (.slice rp rn rc) (.slice ap an ac) (.slice sp sn sc) (.slice dp dn dc) P.rules (P.schemes ++ ms) (P.drop ++ ms) ms prs us)
    (hp : prs.map Prod.fst = P.rules ++ ms.map fun s => (s, [])) (hu : us.length = P.rules.length) :
    LentR W (.agg #[.slice rp P.rules.length rc, .slice sp P.schemes.length sc, .slice dp P.drop.length dc, .int .i64 P.depth, .int .i64 P.window, .slice rp rn rc, .slice ap an ac, .slice sp sn sc, .slice dp dn dc]) P ms := by
  have hpl : prs.length = (P.rules ++ ms.map fun s => (s, [])).length := by rw [← hp, List.length_map]
  have hS : Words W (.slice sp sn sc) (P.schemes ++ ms) := Words.row h.s
  have hD : Words W (.slice dp dn dc) (P.drop ++ ms) := Words.row h.d
  have hRR : RulesR W (.slice rp rn rc) (P.rules ++ ms.map fun s => (s, [])) := by
    obtain ⟨e1, e2⟩ := row_cap h.r
    subst e1
    refine ⟨rp, rc, by rw [← hpl], by rw [← hpl]; exact e2, row_bound h.r, fun j q hj => ?_⟩
    rw [← hp, List.getElem?_map] at hj
    obtain ⟨x, hx, rfl⟩ := Option.map_eq_some_iff.1 hj
    have hlt := (List.getElem?_eq_some_iff.1 hx).1
    obtain ⟨g, cap, e3, _, _, hcell⟩ := row_at h.r (by omega)
    cases e3
    obtain ⟨a1, a2⟩ := rcells_at prs j x hx
    refine ⟨g, 0, x.2, rfl, by rw [Nat.zero_add, hcell _ (by omega), a1], by rw [Nat.zero_add, hcell _ (by omega), a2], ?_⟩
    rcases h.rw j x hx with ⟨h1, h2⟩ | ⟨v, h1, h2, h3⟩
    · rw [h1, h2]
      exact Words.nil W
    · have hw := Words.row (h.u j v x.1 h1 h2)
      obtain ⟨p, c, rfl, _⟩ := hw.len
      have := hw.front x.1.2.length (by rw [List.length_append]; omega)
      rw [List.take_left] at this
      rw [h3]
      exact this
  have hA : ListsR W (.slice ap an ac) (P.rules.map fun q => q.2 ++ ms) := by
    obtain ⟨e1, e2⟩ := row_cap h.a
    subst e1
    refine ⟨ap, ac, by rw [List.length_map, hu], by rw [List.length_map, ← hu]; exact e2, row_bound h.a, fun j l hj => ?_⟩
    rw [List.getElem?_map] at hj
    obtain ⟨q, hq, rfl⟩ := Option.map_eq_some_iff.1 hj
    have hlt := (List.getElem?_eq_some_iff.1 hq).1
    obtain ⟨g, cap, e3, _, _, hcell⟩ := row_at h.a (by omega)
    cases e3
    obtain ⟨v, hv⟩ : ∃ v, us[j]? = some v := ⟨_, List.getElem?_eq_getElem (by omega)⟩
    exact ⟨g, 0, v, rfl, by rw [Nat.zero_add, hcell _ (by omega), hv], Words.row (h.u j v q hv hq)⟩
  refine ⟨_, _, _, _, _, _, _, rfl, ⟨hRR.front, ?_, ?_⟩, hRR, hA, hS, hD⟩
  · have := hS.front P.schemes.length (by rw [List.length_append]; omega)
    rwa [List.take_left] at this
  · have := hD.front P.drop.length (by rw [List.length_append]; omega)
    rwa [List.take_left] at this
end Go.Proofs.YtkcgmimldjeaiaaDoor

/-
  The statements' samePolicy: its walk, at policies that are the same.
-/
namespace Go.Proofs.YtkcgmimldjeaiaaDoor
open Go.RowKit Go.Lib Own

theorem cell_drewT {W0 wr : World} (hq : Hid (True → ∃ n, wr = W0.drewN n)) {b o : Nat} {v : Value} (h : W0.cell? ⟨b, o, none⟩ = some v) : wr.cell? ⟨b, o, none⟩ = some v := by
  obtain ⟨n, rfl⟩ := hq.out trivial
  exact h

theorem heap_two_new (W : World) (X : Obj) (cs : Array Value) (t : TypeId) : ((W.alloc X).alloc (.cells cs t)).heap[W.heap.size + 1]? = some (.cells cs t (0, 0)) := by
  have := heap_alloc_new (W.alloc X) (.cells cs t)
  simpa using this

end Go.Proofs.YtkcgmimldjeaiaaDoor

/-
  The statements' sameAttrs, sameEvents, sameNodes, sameLists: their walks, at lists that can be read and hold the same.
-/
namespace Go.Proofs.YtkcgmimldjeaiaaDoor
open Go.RowKit Go.Lib Own

theorem AttrsR.drewN {W : World} {v : Value} {al : List AttrP} (h : AttrsR W v al) (n : Nat) : AttrsR (W.drewN n) v al := h
theorem AttrsR.shape {W : World} {v : Value} {al : List AttrP} (h : AttrsR W v al) : ∃ p n c, v = .slice p n c := by
  obtain ⟨p, c, e, _⟩ := h
  exact ⟨p, _, c, e⟩
theorem EvsR.shape {W : World} {v : Value} {al : List EvP} (h : EvsR W v al) : ∃ p n c, v = .slice p n c := by
  obtain ⟨p, c, e, _⟩ := h
  exact ⟨p, _, c, e⟩

set_option maxHeartbeats 2000000 in
set_option maxRecDepth 10000 in
theorem sameAttrsR_any (v1 v2 : Value) (l : List AttrP) (w : World) (h1 : AttrsR w v1 l) (h2 : AttrsR w v2 l) :
    Calls Tryd.prog 32 #[v1, v2] w fun e w' => e = .returned (.bool true) ∧ ∃ n, w' = w.drewN n := by
  obtain ⟨p1, k1, rfl, _, _, a1, _⟩ := h1
  obtain ⟨p2, k2, rfl, _, _, a2, _⟩ := h2
  have H1 := hid a1
  have H2 := hid a2
  clear a1 a2
  go_enter Tryd.func32, Tryd.ntmps32
  have q0 : ((l.length : Int) != (l.length : Int)) = false := by simp
  go_wp2
  go_loopw [13] (fun iv wr => ∃ k n : Nat, iv = .int .i64 k ∧ k ≤ l.length ∧ wr = w.drewN n) (fun iv _ => l.length - (RowKit.intOf iv).toNat)
  case atStart => exact ⟨0, 0, rfl, Nat.zero_le _, rfl⟩
  case round =>
    obtain ⟨k, n, rfl, hk, rfl⟩ := hrel
    by_cases hkl : k < l.length
    · obtain ⟨s, hs⟩ : ∃ s, l[k]? = some s := ⟨_, List.getElem?_eq_getElem hkl⟩
      obtain ⟨g1, o1, rfl, a1, a2⟩ := H1.out k s hs
      obtain ⟨g2, o2, rfl, b1, b2⟩ := H2.out k s hs
      obtain ⟨u1, hu1⟩ : ∃ u1, bs s.1 = u1 := ⟨_, rfl⟩
      obtain ⟨u2, hu2⟩ : ∃ u2, bs s.2 = u2 := ⟨_, rfl⟩
      rw [hu1] at a1 b1
      rw [hu2] at a2 b2
      clear hu1 hu2 H1 H2 hs
      go_wp2_with fail
      go_quiet (fail)
      go_wp2
      go_roundw
      case rel => exact ⟨k + 1, n + nq, rfl, by omega, by first | rfl | simp⟩
      case measure => simp [RowKit.intOf]; omega
    · go_wp2
      go_ret
      exact ⟨rfl, n, rfl⟩

set_option maxHeartbeats 4000000 in
set_option maxRecDepth 10000 in
theorem sameEventsR_any (v1 v2 : Value) (l : List EvP) (w : World) (h1 : EvsR w v1 l) (h2 : EvsR w v2 l) :
    Calls Tryd.prog 11 #[v1, v2] w fun e w' => e = .returned (.bool true) ∧ ∃ n, w' = w.drewN n := by
  obtain ⟨p1, k1, rfl, _, _, a1⟩ := h1
  obtain ⟨p2, k2, rfl, _, _, a2⟩ := h2
  have H1 := hid a1
  have H2 := hid a2
  clear a1 a2
  go_enter Tryd.func11, Tryd.ntmps11
  have q0 : ((l.length : Int) != (l.length : Int)) = false := by simp
  go_wp2
  go_loopw [13] (fun iv wr => ∃ k : Nat, iv = .int .i64 k ∧ k ≤ l.length ∧ Hid (True → ∃ n, wr = w.drewN n)) (fun iv _ => l.length - (RowKit.intOf iv).toNat)
  case atStart => exact ⟨0, rfl, Nat.zero_le _, hid (fun _ => ⟨0, rfl⟩)⟩
  case round =>
    obtain ⟨k, rfl, hk, HQ⟩ := hrel
    by_cases hkl : k < l.length
    · obtain ⟨s, hs⟩ : ∃ s, l[k]? = some s := ⟨_, List.getElem?_eq_getElem hkl⟩
      obtain ⟨g1, o1, a1, rfl, b0, b1, b2, b3, b4⟩ := H1.out k s hs
      obtain ⟨g2, o2, a2, rfl, d0, d1, d2, d3, d4⟩ := H2.out k s hs
      obtain ⟨sp1, sn1, sc1, rfl⟩ := b4.shape
      obtain ⟨sp2, sn2, sc2, rfl⟩ := d4.shape
      have hq := HQ.out trivial
      replace b0 := cell_drew hq b0
      replace b1 := cell_drew hq b1
      replace b2 := cell_drew hq b2
      replace b3 := cell_drew hq b3
      replace d0 := cell_drew hq d0
      replace d1 := cell_drew hq d1
      replace d2 := cell_drew hq d2
      replace d3 := cell_drew hq d3
      have hsame := fun n => sameAttrsR_any _ _ s.a (wr.drewN n) (by obtain ⟨n', rfl⟩ := hq; exact (b4.drewN _).drewN _) (by obtain ⟨n', rfl⟩ := hq; exact (d4.drewN _).drewN _)
      have HS := hid hsame
      clear hsame b4 d4 hq H1 H2 hs
      obtain ⟨u1, hu1⟩ : ∃ u1, bs s.n = u1 := ⟨_, rfl⟩
      obtain ⟨u2, hu2⟩ : ∃ u2, bs s.t = u2 := ⟨_, rfl⟩
      rw [hu1] at b1 d1
      rw [hu2] at b3 d3
      obtain ⟨z, hz⟩ : ∃ z, s.k = z := ⟨_, rfl⟩
      rw [hz] at b0 d0
      have q1 : (z != z) = false := by simp
      clear hu1 hu2 hz
      go_wp2_with fail
      go_quiet (first | (go_at_call 32; refine Calls.quiet_of (HS.out _)))
      go_wp2
      go_roundw
      case rel =>
        obtain ⟨n, hn⟩ := HQ.out trivial
        exact ⟨k + 1, rfl, by omega, hid (fun _ => ⟨n + nq, by rw [hn]; simp⟩)⟩
      case measure => simp [RowKit.intOf]; omega
    · go_wp2
      go_ret
      exact ⟨rfl, HQ.out trivial⟩

/-- a list of lists of attributes that can be read -/
def AlistsR (W : World) (v : Value) (ls : List (List AttrP)) : Prop :=
  ∃ p c, v = .slice p ls.length c ∧ ls.length ≤ c ∧ c ≤ 9223372036854775807 ∧ ∀ j l, ls[j]? = some l → ∃ b o u, p = some ⟨b, o, none⟩ ∧ W.cell? ⟨b, o + j, none⟩ = some u ∧ AttrsR W u l
theorem AlistsR.below {W W' : World} {v : Value} {ls : List (List AttrP)} (h : AlistsR W v ls) (hb : Below W.heap.size W W') : AlistsR W' v ls := by
  obtain ⟨p, c, rfl, h1, h2, h3⟩ := h
  refine ⟨p, c, rfl, h1, h2, fun j s hj => ?_⟩
  obtain ⟨b, o, u, rfl, hc, hw⟩ := h3 j s hj
  exact ⟨b, o, u, rfl, cell_kept hc hb, hw.below hb⟩
theorem AlistsR.shape {W : World} {v : Value} {al : List (List AttrP)} (h : AlistsR W v al) : ∃ p n c, v = .slice p n c := by
  obtain ⟨p, c, e, _⟩ := h
  exact ⟨p, _, c, e⟩

set_option maxHeartbeats 4000000 in
set_option maxRecDepth 10000 in
theorem sameLists_any (v1 v2 : Value) (l : List (List AttrP)) (w : World) (h1 : AlistsR w v1 l) (h2 : AlistsR w v2 l) :
    Calls Tryd.prog 31 #[v1, v2] w fun e w' => e = .returned (.bool true) ∧ ∃ n, w' = w.drewN n := by
  obtain ⟨p1, k1, rfl, _, _, a1⟩ := h1
  obtain ⟨p2, k2, rfl, _, _, a2⟩ := h2
  have H1 := hid a1
  have H2 := hid a2
  clear a1 a2
  go_enter Tryd.func31, Tryd.ntmps31
  go_wp2
  go_loopw [8] (fun iv wr => ∃ k : Nat, iv = .int .i64 k ∧ k ≤ l.length ∧ Hid (True → ∃ n, wr = w.drewN n)) (fun iv _ => l.length - (RowKit.intOf iv).toNat)
  case atStart => exact ⟨0, rfl, Nat.zero_le _, hid (fun _ => ⟨0, rfl⟩)⟩
  case round =>
    obtain ⟨k, rfl, hk, HQ⟩ := hrel
    by_cases hkl : k < l.length
    · obtain ⟨s, hs⟩ : ∃ s, l[k]? = some s := ⟨_, List.getElem?_eq_getElem hkl⟩
      obtain ⟨g1, o1, a1, rfl, b0, b4⟩ := H1.out k s hs
      obtain ⟨g2, o2, a2, rfl, d0, d4⟩ := H2.out k s hs
      obtain ⟨sp1, sn1, sc1, rfl⟩ := b4.shape
      obtain ⟨sp2, sn2, sc2, rfl⟩ := d4.shape
      have hq := HQ.out trivial
      replace b0 := cell_drew hq b0
      replace d0 := cell_drew hq d0
      have hsame := fun n => sameAttrsR_any _ _ s (wr.drewN n) (by obtain ⟨n', rfl⟩ := hq; exact (b4.drewN _).drewN _) (by obtain ⟨n', rfl⟩ := hq; exact (d4.drewN _).drewN _)
      have HS := hid hsame
      clear hsame b4 d4 hq H1 H2 hs
      go_wp2_with fail
      go_quiet (first | (go_at_call 32; refine Calls.quiet_of (HS.out _)))
      go_wp2
      go_roundw
      case rel =>
        obtain ⟨n, hn⟩ := HQ.out trivial
        exact ⟨k + 1, rfl, by omega, hid (fun _ => ⟨n + nq, by rw [hn]; simp⟩)⟩
      case measure => simp [RowKit.intOf]; omega
    · have q0 : ((l.length : Int) == (l.length : Int)) = true := by simp
      go_wp2
      go_ret
      exact ⟨rfl, HQ.out trivial⟩
end Go.Proofs.YtkcgmimldjeaiaaDoor

/-
  The statements' lendPolicy: its walk.
-/
namespace Go.Proofs.YtkcgmimldjeaiaaDoor
open Go.RowKit Go.Lib Own

end Go.Proofs.YtkcgmimldjeaiaaDoor

/-
  The statements' keptPolicy: its walk, at a policy that is as it was lent.
-/
namespace Go.Proofs.YtkcgmimldjeaiaaDoor
open Go.RowKit Go.Lib Own

theorem RulesR.shape {W : World} {v : Value} {rs : List RuleP} (h : RulesR W v rs) : ∃ p n c, v = .slice p n c := by
  obtain ⟨p, c, e, _⟩ := h
  exact ⟨p, _, c, e⟩
theorem Words.shape {W : World} {v : Value} {ss : List (List UInt8)} (h : Words W v ss) : ∃ p n c, v = .slice p n c := by
  obtain ⟨p, c, e, _⟩ := h
  exact ⟨p, _, c, e⟩

end Go.Proofs.YtkcgmimldjeaiaaDoor

/-
  Appending to a row that a call owns: where it grows into a new block, the old blocks stay as they were.
-/
namespace Go.Proofs.YtkcgmimldjeaiaaDoor
open Go.RowKit Go.Lib

theorem ok_inj {P : Program} {m : Sem Value} {w : World} {v v' : Value} {w1 w2 : World} (h : m.run P w = .ok v w1) (h' : m.run P w = .ok v' w2) : v = v' ∧ w1 = w2 := by
  rw [h] at h'
  cases h'
  exact ⟨rfl, rfl⟩
theorem run_append_two {P : Program} (w : World) (t ty : TypeId) (base : Nat) (e : TypeId) (i : TypeInfo) (z : Value) (size bytes : Nat) (ht : P.underlying t = some (.slice e)) (hi : P.info? e = some i) (hz : i.zero = some z)
    (hsize : i.size = size) (hby : i.bytes = bytes) (hzs : z.cells.size = size) (hsz : 0 < size)
    (v : Value) (n : Nat) (xs : List Value) (hown : w.ownsRow base e size v n xs)
    (ad : Addr) (m c : Nat) (news : List Value) (hl : news.length = m * size) (hnews : ∀ j u, news[j]? = some u → w.cell? (ad.add j) = some u) (h1 : ∀ u ∈ news, u.oneCell' = true)
    (hm : 0 < m) (h63 : n + m ≤ maxLen) (hbytes : (n + m) * bytes ≤ 140737488355328) (hbase : base ≤ w.heap.size) :
    ∃ g cap w', (Builtin.append_ #[t, t] ty #[v, .slice (some ad) m c]).run P w = .ok (.slice (some ⟨g, 0, none⟩) (n + m) cap) w' ∧ w'.ownsRow base e size (.slice (some ⟨g, 0, none⟩) (n + m) cap) (n + m) (xs ++ news) ∧ w.grownBy w' v.ownBlock ∧
      (v.ownBlock = some g ∨ g = w.heap.size ∧ ∀ k, k < w.heap.size → w'.heap[k]? = w.heap[k]?) := by
  obtain ⟨v', w', hr, h2, h3, _, _⟩ := run_append_own_at (P := P) w base t ty e i z size bytes ht hi hz hsize hby hzs hsz v n xs hown ad m c news hl hnews h1 h63 hbytes hbase
  have hsmall : n + m ≤ 9223372036854775807 := by simp only [maxLen] at h63; omega
  have hold : ∀ (o : Obj) (k : Nat), k < w.heap.size → (w.drew.alloc o).heap[k]? = w.heap[k]? := fun o k hk => Go.Lib.alloc_old w.drew o k hk
  subst hsize hby
  rcases hown.2 with ⟨rfl, rfl⟩ | ⟨g, cap, cur, rfl, hbg, hg, hnc, hcm, hcs, htake⟩
  · have hr2 := run_append_nil (P := P) w t ty e i z ht hi hz ad m c news hl hnews (by omega) (by omega) (by have hb := hbytes; simp only [Nat.zero_add] at hb; omega)
    obtain ⟨rfl, rfl⟩ := ok_inj hr hr2
    rw [Nat.zero_add] at h2 ⊢
    exact ⟨_, _, _, hr2, h2, h3, .inr ⟨rfl, hold _⟩⟩
  · by_cases hroom : n + m ≤ cap
    · obtain ⟨w2, hr2, _⟩ := run_append_fits (P := P) w base t ty e i i.size ht hi rfl g n cap xs hown ad m c news hl hnews h1 hroom
      obtain ⟨rfl, rfl⟩ := ok_inj hr hr2
      exact ⟨_, _, _, hr2, h2, h3, .inl rfl⟩
    · have holds : ∀ j u, xs[j]? = some u → w.cell? ((⟨g, 0, none⟩ : Addr).add j) = some u := hown.cells (g := g) rfl
      have hr2 := run_append_grow (P := P) w t ty e i z ht hi hz ⟨g, 0, none⟩ n cap xs hown.1 holds ad m c news hl hnews (by omega) (by omega) (growslice_fits (by omega) hbytes)
      obtain ⟨rfl, rfl⟩ := ok_inj hr hr2
      exact ⟨_, _, _, hr2, h2, h3, .inr ⟨rfl, hold _⟩⟩
theorem wpList_append_two {P : Program} (w : World) {ops : Array Oper} {rest : List Oper} {o : Oper} {a : Act} {Q : Exit → Act → World → Prop} (hgd : o.guard = none) (s x : Operand) (t : TypeId)
    (ho : o.op = .call { callee := .builtin .append, args := #[s, x], argTypes := #[t, t] })
    (base : Nat) (e : TypeId) (i : TypeInfo) (z : Value) (size bytes : Nat) (ht : P.underlying t = some (.slice e)) (hi : P.info? e = some i) (hz : i.zero = some z)
    (hsize : i.size = size) (hby : i.bytes = bytes) (hzs : z.cells.size = size) (hsz : 0 < size)
    (v : Value) (n : Nat) (xs : List Value) (hs : a.eval s = v) (hown : w.ownsRow base e size v n xs)
    (ad : Addr) (m c : Nat) (news : List Value) (hx : a.eval x = .slice (some ad) m c) (hl : news.length = m * size) (hnews : ∀ j u, news[j]? = some u → w.cell? (ad.add j) = some u) (h1 : ∀ u ∈ news, u.oneCell' = true)
    (hm : 0 < m) (h63 : n + m ≤ maxLen) (hbytes : (n + m) * bytes ≤ 140737488355328) (hbase : base ≤ w.heap.size)
    (h : ∀ g cap w', w'.ownsRow base e size (.slice (some ⟨g, 0, none⟩) (n + m) cap) (n + m) (xs ++ news) → w.grownBy w' v.ownBlock → (v.ownBlock = some g ∨ g = w.heap.size ∧ ∀ k, k < w.heap.size → w'.heap[k]? = w.heap[k]?) → wpList P ops Q rest (a.put o.dst (.slice (some ⟨g, 0, none⟩) (n + m) cap)) w') :
    wpList P ops Q (o :: rest) a w := by
  refine wpList_plain hgd fun K hK => ?_
  obtain ⟨g, cap, w', hr, h2, h3, h4⟩ := run_append_two (P := P) w t o.type base e i z size bytes ht hi hz hsize hby hzs hsz v n xs hown ad m c news hl hnews h1 hm h63 hbytes hbase
  unfold Oper.wp execOp
  simp only [ho, resolve, invoke, builtin, Sem.run_bind, Sem.run_pure, Result.andThen_ok, List.map_toArray, List.map_cons, List.map_nil, hs, hx, hr]
  exact hK _ _ (h g cap w' h2 h3 h4)
end Go.Proofs.YtkcgmimldjeaiaaDoor

/-
  The reader's state; unit, beginSkip: their walks.
-/
namespace Go.Proofs.YtkcgmimldjeaiaaDoor
open Go.RowKit Go.Lib Own

/-- the reader's nine cells -/
def rdC (win : Int) (data : ByteArray) (pos mode scan : Int) (eat : Bool) (ev p v : Value) : Array Value :=
  #[.int .i64 win, .string data, .int .i64 pos, .int .i64 mode, .int .i64 scan, .bool eat, ev, p, v]
theorem StreamAt.heap {W : World} {base b o : Nat} {cs : Array Value} {T : TypeId} {evs : List Ev} {pend : List UInt8} (h : StreamAt W base b o cs T evs pend) : W.heap[b]? = some (.cells cs T (0, 0)) ∧ base ≤ b := by
  obtain ⟨ev, p, v, xs, hev, hin, hrow, hevs, hap⟩ := h.it
  exact ⟨hin.at_, hin.lo⟩
/-- a cell that is none of the stream's three is stored -/
theorem StreamAt.stored {W : World} {base b o : Nat} {cs : Array Value} {T : TypeId} {evs : List Ev} {pend : List UInt8} (h : StreamAt W base b o cs T evs pend) (hT : StreamT T cs o) (j : Nat) (hj : j < o) (u : Value) : StreamAt (W.setCell ⟨b, j, none⟩ u) base b o (cs.setIfInBounds j u) T evs pend := by
  obtain ⟨ev, p, v, xs, hev, hin, hrow, hevs, hap⟩ := h.it
  have j1 := just_set (j := j) hin.at_ u
  refine ⟨ev, p, v, xs, ?_, ⟨j1.at_, hin.lo, ?_, ?_, hin.hp, ?_, hin.ne⟩, row_just hrow hin.at_ hT.n2 j1.other, evs_mono (fun a n ys hr => row_just hr hin.at_ hT.n1 j1.other) xs evs hevs, hap⟩
  · rw [Array.getElem?_setIfInBounds, if_neg (by omega)]; exact hev
  · rw [Array.getElem?_setIfInBounds, if_neg (by omega)]; exact hin.cp
  · rw [Array.getElem?_setIfInBounds, if_neg (by omega)]; exact hin.cv
  · exact hin.own.kept (row := some b) ⟨j1.os, j1.tape, j1.output, by rw [j1.size]; exact Nat.le_refl _, fun k _ hk => j1.other k (fun e => hk (by rw [e]))⟩ (.inr hin.ne)

end Go.Proofs.YtkcgmimldjeaiaaDoor

/-
  The reader's readByte: its walk.
-/
namespace Go.Proofs.YtkcgmimldjeaiaaDoor
open Go.RowKit Go.Lib Own

theorem StreamAt.drew {W : World} {base b o : Nat} {cs : Array Value} {T : TypeId} {evs : List Ev} {pend : List UInt8} (h : StreamAt W base b o cs T evs pend) : StreamAt W.drew base b o cs T evs pend := by
  obtain ⟨ev, p, v, xs, hev, hin, hrow, hevs, hap⟩ := h.it
  exact ⟨ev, p, v, xs, hev, ⟨hin.at_, hin.lo, hin.cp, hin.cv, hin.hp, hin.own, hin.ne⟩, hrow, evs_mono (W := W) (W' := W.drew) (fun _ _ _ h => h) xs evs hevs, hap⟩
end Go.Proofs.YtkcgmimldjeaiaaDoor

/-
  The reader's skipTag, beginSkip: their walks.
-/
namespace Go.Proofs.YtkcgmimldjeaiaaDoor
open Go.RowKit Go.Lib Own

end Go.Proofs.YtkcgmimldjeaiaaDoor

/-
  A step of the reader, in the plain lexer's words; skipBogus, skipComment: their walks.
-/
namespace Go.Proofs.YtkcgmimldjeaiaaDoor
open Go.RowKit Go.Lib Own

theorem StreamAt.below {W W' : World} {base b o : Nat} {cs : Array Value} {T : TypeId} {evs : List Ev} {pend : List UInt8} (h : StreamAt W base b o cs T evs pend) (hb : Below W.heap.size W W') : StreamAt W' base b o cs T evs pend := by
  obtain ⟨ev, p, v, xs, hev, hin, hrow, hevs, hap⟩ := h.it
  have hg : W.grownBy W' none := ⟨hb.os, hb.tape, hb.output, hb.size, fun k hk _ => hb.block k hk⟩
  exact ⟨ev, p, v, xs, hev, ⟨(hb.block b (Array.getElem?_eq_some_iff.1 hin.at_).1).trans hin.at_, hin.lo, hin.cp, hin.cv, hin.hp, hin.own.kept hg (by cases hv : v.ownBlock <;> simp), hin.ne⟩, hrow.kept hg (Classical.em _), evs_mono (fun a n ys hr => hr.kept hg (Classical.em _)) xs evs hevs, hap⟩
theorem below_low {A B : Nat} {w w' : World} (h : Below B w w') (hAB : A ≤ B) : Below A w w' := Below.mono h hAB

end Go.Proofs.YtkcgmimldjeaiaaDoor

/-
  The statements' appended and allNamed: their walks.
-/
namespace Go.Proofs.YtkcgmimldjeaiaaDoor
open Go.RowKit Go.Lib Own

/-- attributes of one name -/
def namedV (nm : ByteArray) (ws : List ByteArray) : List Value := ws.flatMap fun x => [.string nm, .string x]
theorem namedV_len (nm : ByteArray) : ∀ ws : List ByteArray, (namedV nm ws).length = ws.length * 2
  | [] => rfl
  | x :: ws => by
    have := namedV_len nm ws
    unfold namedV at this ⊢
    simp only [List.flatMap_cons, List.length_append, List.length_cons, List.length_nil, this]
    omega
theorem namedV_app (nm : ByteArray) (a b : List ByteArray) : namedV nm (a ++ b) = namedV nm a ++ namedV nm b := by
  unfold namedV
  rw [List.flatMap_append]
theorem namedV_at (nm : ByteArray) : ∀ (ws : List ByteArray) (j : Nat), j < ws.length → (namedV nm ws)[j * 2]? = some (.string nm)
  | [], j, h => by simp at h
  | x :: ws, 0, _ => rfl
  | x :: ws, j + 1, h => by
    have := namedV_at nm ws j (by simpa using h)
    rw [show (j + 1) * 2 = j * 2 + 1 + 1 by omega]
    exact this
/-- a list of attributes that can be read, all of one name -/
def NamedR (W : World) (v : Value) (n : Nat) (nm : ByteArray) : Prop := n ≤ 9223372036854775807 ∧ ∃ p c, v = .slice p n c ∧ ∀ j, j < n → ∃ g, p = some ⟨g, 0, none⟩ ∧ W.cell? ⟨g, j * 2, none⟩ = some (.string nm) ∧ ∃ cs, W.heap[g]? = some (.cells cs 101 (0, 0))
theorem NamedR.of {W : World} {base n : Nat} {v : Value} {nm : ByteArray} {ws : List ByteArray} (h : W.ownsRow base 101 2 v n (namedV nm ws)) : NamedR W v n nm := by
  have hl : ws.length = n := by have := h.1; rw [namedV_len] at this; omega
  refine ⟨row_max h, ?_⟩
  obtain ⟨p, c, rfl⟩ := row_shape h
  refine ⟨p, c, rfl, fun j hj => ?_⟩
  obtain ⟨g, cap, e, _, _, hc⟩ := row_at h (by omega)
  cases e
  refine ⟨g, rfl, (hc _ (by omega)).trans (namedV_at nm ws j (by omega)), ?_⟩
  rcases h.2 with ⟨e2, _⟩ | ⟨g2, cap2, cur, e2, _, hh, _⟩
  · cases e2
  · cases e2
    exact ⟨cur, hh⟩
theorem NamedR.kept {W W' : World} {n : Nat} {v : Value} {nm : ByteArray} (h : NamedR W v n nm) (hk : 0 < n → ∀ k, v.ownBlock = some k → W'.heap[k]? = W.heap[k]?) : NamedR W' v n nm := by
  obtain ⟨h0, p, c, rfl, h1⟩ := h
  refine ⟨h0, p, c, rfl, fun j hj => ?_⟩
  obtain ⟨g, rfl, h2, cs, h3⟩ := h1 j hj
  have := hk (by omega) g rfl
  refine ⟨g, rfl, ?_, cs, by rw [this]; exact h3⟩
  unfold World.cell? at h2 ⊢
  rw [this]
  exact h2
theorem NamedR.own {W : World} {n : Nat} {v : Value} {nm : ByteArray} (h : NamedR W v n nm) (hn : 0 < n) : ∃ g, v.ownBlock = some g ∧ g < W.heap.size := by
  obtain ⟨h0, p, c, rfl, h1⟩ := h
  obtain ⟨g, rfl, h2, _⟩ := h1 0 hn
  exact ⟨g, rfl, cell_block h2⟩

set_option maxHeartbeats 2000000 in
set_option maxRecDepth 10000 in
theorem allNamed_any (v : Value) (n : Nat) (nm : ByteArray) (w : World) (h : NamedR w v n nm) :
    Calls Tryd.prog 60 #[v, .string nm] w fun e w' => e = .returned (.bool true) ∧ w' = w := by
  obtain ⟨h0, p, c, rfl, h1⟩ := h
  have H1 := hid h1
  clear h1
  go_enter Tryd.func60, Tryd.ntmps60
  go_wp2
  go_loopw [8] (fun iv wr => ∃ k : Nat, iv = .int .i64 k ∧ k ≤ n ∧ wr = w) (fun iv _ => n - (RowKit.intOf iv).toNat)
  case atStart => exact ⟨0, rfl, Nat.zero_le _, rfl⟩
  case round =>
    obtain ⟨k, rfl, hk, rfl⟩ := hrel
    by_cases hkl : k < n
    · obtain ⟨g, rfl, hc, _⟩ := H1.out k hkl
      clear H1
      go_wp2
      go_roundw
      case rel => exact ⟨k + 1, rfl, by omega, by first | rfl | trivial⟩
      case measure => simp [RowKit.intOf]; omega
    · go_wp2
      go_ret
      exact ⟨rfl, by first | rfl | trivial⟩

/-- a list of words that came in -/
structure WordsAt (W : World) (base : Nat) (a : Option Addr) (ss : List ByteArray) : Prop where
  at_ : ∀ j, j < ss.length → ∃ b o, a = some ⟨b, o, none⟩ ∧ b < base ∧ W.cell? ⟨b, o + j, none⟩ = some (.string (ss.getD j ByteArray.empty))
theorem WordsAt.below {W W' : World} {base : Nat} {a : Option Addr} {ss : List ByteArray} (h : WordsAt W base a ss) (hb : Below base W W') : WordsAt W' base a ss :=
  ⟨fun j hj => by
    obtain ⟨b, o, h1, h2, h3⟩ := h.at_ j hj
    exact ⟨b, o, h1, h2, cell_low h3 hb h2⟩⟩
theorem WordsAt.up {W : World} {base base2 : Nat} {a : Option Addr} {ss : List ByteArray} (h : WordsAt W base a ss) (hb : base ≤ base2) : WordsAt W base2 a ss :=
  ⟨fun j hj => by
    obtain ⟨b, o, h1, h2, h3⟩ := h.at_ j hj
    exact ⟨b, o, h1, by omega, h3⟩⟩

/-- a list that grows out of another one -/
structure Grows (w wr : World) (base : Nat) (v : Value) (n : Nat) (nm : ByteArray) (cv : Value) (K : Nat) (ws : List ByteArray) : Prop where
  own : wr.ownsRow base 101 2 cv K (namedV nm ws)
  le : n ≤ K
  low : base ≤ w.heap.size
  size : w.heap.size ≤ wr.heap.size
  fr : ∀ k, k < w.heap.size → v.ownBlock ≠ some k → wr.heap[k]? = w.heap[k]?
  bl : cv.ownBlock = v.ownBlock ∨ ∀ g, cv.ownBlock = some g → w.heap.size ≤ g
  be : Below base w wr
  nr : NamedR wr v n nm
theorem Grows.next {w wr w2 : World} {base : Nat} {v cv : Value} {n K g cap : Nat} {nm x : ByteArray} {ws : List ByteArray} {X : Obj} (h : Grows w wr base v n nm cv K ws)
    (h2 : w2.ownsRow base 101 2 (.slice (some ⟨g, 0, none⟩) (K + 1) cap) (K + 1) (namedV nm ws ++ [.string nm, .string x])) (h3 : (wr.alloc X).grownBy w2 cv.ownBlock)
    (h4 : cv.ownBlock = some g ∨ g = wr.heap.size + 1 ∧ ∀ k, k < wr.heap.size + 1 → w2.heap[k]? = (wr.alloc X).heap[k]?) : Grows w w2 base v n nm (.slice (some ⟨g, 0, none⟩) (K + 1) cap) (K + 1) (ws ++ [x]) := by
  have hown2 : w2.ownsRow base 101 2 (.slice (some ⟨g, 0, none⟩) (K + 1) cap) (K + 1) (namedV nm (ws ++ [x])) := by rw [namedV_app]; exact h2
  have hsz1 : (wr.alloc X).heap.size = wr.heap.size + 1 := by simp
  have hold : ∀ k, k < wr.heap.size → (wr.alloc X).heap[k]? = wr.heap[k]? := fun k hk => Go.Lib.alloc_old wr X k hk
  have hbs := h.size
  have hb3 : Below base wr w2 := ((Below.refl base wr).alloc (Nat.le_trans h.low hbs) X).grown h3 (by rw [hsz1]; have := h.low; omega) (fun k hk => (h.own.lt k hk).1)
  refine ⟨hown2, by have := h.le; omega, h.low, Nat.le_trans hbs hb3.size, fun k hk hv => ?_, ?_, h.be.trans hb3, ?_⟩
  · have hcv : cv.ownBlock ≠ some k := by
      rcases h.bl with e | e
      · rw [e]; exact hv
      · intro e2
        have := e k e2
        omega
    rw [h3.block k (by omega) (fun e => hcv e.symm), hold k (by omega)]
    exact h.fr k hk hv
  · rcases h4 with e | ⟨e, _⟩
    · rcases h.bl with e2 | e2
      · left
        show some g = _
        rw [← e2, e]
      · right
        intro g' hg'
        exact e2 g' (by rw [e]; exact hg')
    · right
      intro g' hg'
      have : g = g' := Option.some.inj hg'
      omega
  · -- what stood there can be read still
    by_cases hn : n = 0
    · obtain ⟨h0, p, c, rfl, h1⟩ := h.nr
      exact ⟨h0, p, c, rfl, fun j hj => by omega⟩
    · obtain ⟨g0, hg0, hlt⟩ := h.nr.own (by omega)
      by_cases hc : cv.ownBlock = some g0
      · rcases h4 with e | ⟨e, hk⟩
        · have hgg : g = g0 := by rw [hc] at e; exact (Option.some.inj e).symm
          subst hgg
          obtain ⟨h0, p, c, rfl, h1⟩ := h.nr
          obtain ⟨_, p2, c2, e2, h5⟩ := NamedR.of hown2
          cases e2
          refine ⟨h0, p, c, rfl, fun j hj => ?_⟩
          obtain ⟨g1, rfl, _⟩ := h1 j hj
          obtain ⟨g2, e3, h6, cs, h7⟩ := h5 j (by have := h.le; omega)
          have e4 : g2 = g := by cases e3; rfl
          have e5 : g1 = g := Option.some.inj hg0
          exact ⟨g1, rfl, by rw [e5]; rw [e4] at h6; exact h6, cs, by rw [e5]; rw [e4] at h7; exact h7⟩
        · exact h.nr.kept (fun _ k hk2 => by
            have : k = g0 := by rw [hg0] at hk2; exact (Option.some.inj hk2).symm
            subst this
            rw [hk k (by omega), hold k hlt])
      · exact h.nr.kept (fun _ k hk2 => by
          have : k = g0 := by rw [hg0] at hk2; exact (Option.some.inj hk2).symm
          subst this
          rw [h3.block k (by omega) (fun e => hc e.symm), hold k hlt])
theorem Grows.start {w : World} {base : Nat} {v : Value} {n : Nat} {nm : ByteArray} {ws : List ByteArray} (h : w.ownsRow base 101 2 v n (namedV nm ws)) (hb : base ≤ w.heap.size) : Grows w w base v n nm v n ws :=
  ⟨h, Nat.le_refl _, hb, Nat.le_refl _, fun _ _ _ => rfl, .inl rfl, Below.refl _ _, NamedR.of h⟩

set_option maxHeartbeats 4000000 in
set_option maxRecDepth 100000 in
theorem appended_any (base : Nat) (v : Value) (n : Nat) (nm : ByteArray) (ws : List ByteArray) (a : Option Addr) (mc : Nat) (ss : List ByteArray) (w : World) (h : w.ownsRow base 101 2 v n (namedV nm ws)) (hb : base ≤ w.heap.size) (hn : n ≤ 100000000) (hs : ss.length ≤ 100000000) (hw : WordsAt w base a ss) :
    Calls Tryd.prog 59 #[v, .string nm, .slice a ss.length mc] w fun e w' => ∃ u ws2, e = .returned u ∧ Grows w w' base v n nm u (n + 1 + ss.length) ws2 := by
  obtain ⟨i0, hii, hz0, hz1, hz2⟩ := info_parts info_attr
  obtain ⟨p, c, rfl⟩ := row_shape h
  have HG0 := hid (Grows.start h hb)
  have HW := hid hw
  clear hw
  go_enter Tryd.func59, Tryd.ntmps59
  go_wp2_with (at_builtin; refine wpList_append_two _ rfl (.tmp 8) (.tmp 11) 37 rfl base 101 i0 (.agg #[.string ⟨#[]⟩, .string ⟨#[]⟩]) 2 32 Tryd.underlying37 hii hz0 hz1 hz2 rfl (by decide) _ _ _ rfl (h.alloc _) ⟨_, 0, none⟩ 1 1 [.string nm, .string ⟨#[]⟩] rfl rfl (cells_newV _ _ _) (by simp [Value.oneCell']) (by decide) (by unfold maxLen; omega) (by omega) (by simp; omega) ?_)
  intro g cap w2 hown2 hgrow htwo
  have HG1 := hid (HG0.out.next hown2 hgrow htwo)
  clear hown2 hgrow htwo HG0 h
  go_wp2
  go_loopw [0, 15] (fun cv iv wr => ∃ (k : Nat) (ws2 : List ByteArray), iv = .int .i64 k ∧ k ≤ ss.length ∧ Grows w wr base (.slice p n c) n nm cv (n + 1 + k) ws2) (fun _ iv _ => ss.length - (RowKit.intOf iv).toNat)
  case atStart => exact ⟨0, _, rfl, Nat.zero_le _, HG1.out⟩
  case round =>
    obtain ⟨k, ws2, rfl, hk, hG⟩ := hrel
    by_cases hkl : k < ss.length
    · obtain ⟨b, o, rfl, hb2, hc⟩ := HW.out.at_ k hkl
      have hc2 := cell_low hc hG.be hb2
      obtain ⟨x, hx⟩ : ∃ x, ss.getD k ByteArray.empty = x := ⟨_, rfl⟩
      rw [hx] at hc2
      clear hc hx
      have hsz := hG.size
      have HG2 := hid hG
      obtain ⟨cp, cc, rfl⟩ := row_shape hG.own
      go_wp2_with (at_builtin; refine wpList_append_two _ rfl (.tmp 18) (.tmp 25) 37 rfl base 101 i0 (.agg #[.string ⟨#[]⟩, .string ⟨#[]⟩]) 2 32 Tryd.underlying37 hii hz0 hz1 hz2 rfl (by decide) _ _ _ rfl (HG2.out.own.alloc _) ⟨_, 0, none⟩ 1 1 [.string nm, .string x] rfl rfl (cells_newV _ _ _) (by simp [Value.oneCell']) (by decide) (by unfold maxLen; omega) (by omega) (by simp; omega) ?_)
      intro g3 cap3 w3 hown3 hgrow3 htwo3
      have HG3 := hid (HG2.out.next hown3 hgrow3 htwo3)
      clear hown3 hgrow3 htwo3 HG2 hG
      go_wp2
      go_roundw
      case rel => first | exact ⟨k + 1, _, rfl, by omega, HG3.out⟩ | ((repeat apply Exists.intro); exact ⟨⟨k + 1, _, rfl, by omega, HG3.out⟩, rfl⟩)
      case measure => simp [RowKit.intOf]; omega
    · obtain rfl : k = ss.length := by omega
      go_wp2
      go_ret
      exact ⟨_, ws2, rfl, hG⟩
end Go.Proofs.YtkcgmimldjeaiaaDoor

/-
  The statements' apartLists: its walk.
-/
namespace Go.Proofs.YtkcgmimldjeaiaaDoor
open Go.RowKit Go.Lib Own

/-- every block that is no list of events, of attributes or of such lists stays -/
def KeepT (w W : World) : Prop := ∀ (b : Nat) (cs : Array Value) (T : TypeId), w.heap[b]? = some (.cells cs T (0, 0)) → T ≠ 39 → T ≠ 101 → T ≠ 37 → W.heap[b]? = some (.cells cs T (0, 0))
theorem KeepT.refl (w : World) : KeepT w w := fun _ _ _ h _ _ _ => h
theorem KeepT.trans {w1 w2 w3 : World} (h : KeepT w1 w2) (h2 : KeepT w2 w3) : KeepT w1 w3 := fun b cs T hb e1 e2 e3 => h2 b cs T (h b cs T hb e1 e2 e3) e1 e2 e3
theorem KeepT.below {w W : World} (h : Below w.heap.size w W) : KeepT w W := fun b _ _ hb _ _ _ => (h.block b (Array.getElem?_eq_some_iff.1 hb).1).trans hb
theorem KeepT.row {W W' : World} {base : Nat} {e : TypeId} {size n : Nat} {v : Value} {xs : List Value} (h : W.ownsRow base e size v n xs) (he : e = 39 ∨ e = 101 ∨ e = 37) (hk : ∀ k, k < W.heap.size → v.ownBlock ≠ some k → W'.heap[k]? = W.heap[k]?) : KeepT W W' :=
  fun b cs T hb e1 e2 e3 => (hk b (Array.getElem?_eq_some_iff.1 hb).1 (row_ne h hb (by
    rcases he with rfl | rfl | rfl
    · exact e1
    · exact e2
    · exact e3))).trans hb
theorem info_list : (Tryd.prog.info? 37).map (fun i => (i.zero, i.size, i.bytes)) = some (some (.slice none 0 0), 1, 24) := by kernel_rfl
/-- the name that the statement gives list k -/
def nmOf (k : Nat) : ByteArray := ⟨(Go.Lib.itoa (k : Int)).toArray⟩
/-- the library's table of powers, ahead of block 'base' -/
structure PowB (base : Nat) (w : World) : Prop where
  tab : Go.Lib.TabIs Tryd.prog w "internal/strconv.uint64pow10" .u64 Go.Lib.pow10Tab
  lt : 7 < base
theorem PowB.below {base : Nat} {w w' : World} (h : PowB base w) (hb : Below base w w') : PowB base w' := by
  refine ⟨?_, h.lt⟩
  have h1 := h.tab
  have hg : Tryd.prog.globalNamed "internal/strconv.uint64pow10" = some 7 := by kernel_rfl
  unfold Go.Lib.TabIs World.var? at h1 ⊢
  rw [hg] at h1 ⊢
  simp only [Option.bind_some] at h1 ⊢
  rw [hb.block _ h.lt]
  exact h1
theorem itoa_any (k : Nat) (hk : k ≤ 10000000) (base : Nat) (w : World) (h : PowB base w) :
    Calls Tryd.prog 58 #[.int .i64 k] w fun e w' => e = .returned (.string (nmOf k)) ∧ Below w.heap.size w w' := by
  refine (Tryd.strconv_Itoa (k : Int) (by omega) (by omega) w h.tab).mono ?_
  rintro e w' ⟨rfl, n, os, rfl⟩
  refine ⟨rfl, rfl, rfl, rfl, ?_, fun k hk => ?_⟩
  · show w.heap.size ≤ (w.heap ++ os).size
    rw [Array.size_append]; omega
  · show (w.heap ++ os)[k]? = w.heap[k]?
    rw [Array.getElem?_append_left hk]

theorem named_step {nm : ByteArray} {ws : List ByteArray} {y0 y1 : Value} {ys : List Value} : ((namedV nm ws ++ y0 :: y1 :: ys).set (ws.length * 2) (.string nm)).set (ws.length * 2 + 1) (.string ⟨#[]⟩) = namedV nm (ws ++ [⟨#[]⟩]) ++ ys := by
  have hl := namedV_len nm ws
  rw [List.set_append, if_neg (by omega), hl, Nat.sub_self, List.set_cons_zero, List.set_append, if_neg (by omega), hl, Nat.add_sub_cancel_left]
  show namedV nm ws ++ (.string nm :: .string ⟨#[]⟩ :: ys) = _
  rw [namedV_app]
  simp [namedV]
/-- the lists that are written over and appended to -/
structure Fam (W : World) (base : Nat) (vs : List Value) (ns : Nat → Nat) (i : Nat) : Prop where
  row : ∀ (k : Nat) (v : Value), vs[k]? = some v → (k < i → ∃ ws, W.ownsRow base 101 2 v (ns k) (namedV (nmOf k) ws)) ∧ ∃ ys, W.ownsRow base 101 2 v (ns k) ys
def Dist (vs : List Value) : Prop := ∀ (j k : Nat) (v u : Value), vs[j]? = some v → vs[k]? = some u → j ≠ k → ∀ g, v.ownBlock = some g → u.ownBlock ≠ some g

/-- the second round: the lists that grew out of the first i -/
structure Two (w W : World) (base : Nat) (lv : Value) (N : Nat) (vs : List Value) (ns : Nat → Nat) (m i : Nat) (lgv : Value) (us : List Value) : Prop where
  be : Below base w W
  li : W.ownsRow base 37 1 lv N vs
  lg : W.ownsRow w.heap.size 37 1 lgv i us
  hi : ∀ (k : Nat) (v : Value), vs[k]? = some v → i ≤ k → ∃ ws, W.ownsRow base 101 2 v (ns k) (namedV (nmOf k) ws)
  lo : ∀ (k : Nat) (v : Value), vs[k]? = some v → k < i → NamedR W v (ns k) (nmOf k) ∧ ∃ u, us[k]? = some u ∧ NamedR W u (ns k + 1 + m) (nmOf k) ∧ ∀ (j : Nat) (vj : Value), i ≤ j → vs[j]? = some vj → ∀ g, vj.ownBlock = some g → u.ownBlock ≠ some g
  kp : KeepT w W
theorem NamedR.ne {W : World} {base n k : Nat} {v lgv : Value} {nm : ByteArray} {us : List Value} (h : NamedR W v n nm) (hn : 0 < n) (hl : W.ownsRow base 37 1 lgv k us) : ∀ g, v.ownBlock = some g → lgv.ownBlock ≠ some g := by
  obtain ⟨_, p, c, rfl, h1⟩ := h
  obtain ⟨g0, rfl, _, cs, h3⟩ := h1 0 hn
  intro g hg
  have : g0 = g := Option.some.inj hg
  subst this
  exact row_ne hl h3 (by decide)
theorem NamedR.below {W W' : World} {n : Nat} {v : Value} {nm : ByteArray} (h : NamedR W v n nm) (hb : Below W.heap.size W W') : NamedR W' v n nm :=
  h.kept (fun hn k hk => by
    obtain ⟨g, hg, hlt⟩ := h.own hn
    rw [hg] at hk
    cases hk
    exact hb.block _ hlt)
theorem Two.next {w wr w1 w2 w3 : World} {base N m i n K : Nat} {lv lgv lgv3 v u : Value} {vs us : List Value} {ns : Nat → Nat} {ws2 : List ByteArray} {X : Obj} (h : Two w wr base lv N vs ns m i lgv us) (hD : Dist vs) (hbase : base ≤ w.heap.size) (hlv : ∀ g, lv.ownBlock = some g → g < w.heap.size)
    (hv : vs[i]? = some v) (hn : ns i = n) (hK : K = n + 1 + m) (b1 : Below wr.heap.size wr w1) (hG : Grows w1 w2 base v n (nmOf i) u K ws2)
    (h3 : w3.ownsRow w.heap.size 37 1 lgv3 (i + 1) (us ++ [u])) (hg : (w2.alloc X).grownBy w3 lgv.ownBlock) : Two w w3 base lv N vs ns m (i + 1) lgv3 (us ++ [u]) := by
  subst hn hK
  have hbs := h.be.size
  have hul : us.length = i := by have := h.lg.1; omega
  have li1 := row_below h.li b1
  have lg1 := row_below h.lg b1
  obtain ⟨wsv, hvw⟩ := h.hi i v hv (Nat.le_refl _)
  have v1 := row_below hvw b1
  have li2 := row_of_block li1 (fun g e => hG.fr g (li1.lt g e).2 (rows_ne2 li1 v1 (by decide) g e))
  have lg2 := row_of_block lg1 (fun g e => hG.fr g (lg1.lt g e).2 (rows_ne2 lg1 v1 (by decide) g e))
  have F23 : ∀ k, k < w2.heap.size → lgv.ownBlock ≠ some k → w3.heap[k]? = w2.heap[k]? := fun k hk hne => (hg.block k (by simp; omega) (fun e => hne e.symm)).trans (Go.Lib.alloc_old w2 X k hk)
  have keepN : ∀ {v' : Value} {n' : Nat} {nm : ByteArray}, NamedR w2 v' n' nm → NamedR w3 v' n' nm := fun hN => hN.kept (fun hn k hk => by
    obtain ⟨g, hg2, hlt⟩ := hN.own hn
    have hne := hN.ne hn lg2 g hg2
    rw [hg2] at hk
    cases hk
    exact F23 _ hlt hne)
  have b3 : Below base w2 w3 := ((Below.refl base w2).alloc (Nat.le_trans hG.low hG.size) X).grown hg (by have := Nat.le_trans hG.low hG.size; simp; omega) (fun k hk => by have := (lg2.lt k hk).1; omega)
  refine ⟨((h.be.trans (b1.mono (Nat.le_trans hbase hbs))).trans hG.be).trans b3, ?_, h3, fun k vk hk hik => ?_, fun k vk hk hik => ?_, (h.kp.trans (KeepT.below b1)).trans ((KeepT.row v1 (.inr (.inl rfl)) (fun k hk hne => hG.fr k hk hne)).trans (KeepT.row lg2 (.inr (.inr rfl)) F23))⟩
  · exact row_of_block li2 (fun g e => F23 g (li2.lt g e).2 (fun e2 => by
      have := (lg2.lt g e2).1
      have := hlv g e
      omega))
  · obtain ⟨ws, hr⟩ := h.hi k vk hk (by omega)
    have r1 := row_below hr b1
    have r2 := row_of_block r1 (fun g e => hG.fr g (r1.lt g e).2 (hD k i vk v hk hv (by omega) g e))
    refine ⟨ws, row_of_block r2 (fun g e => F23 g (r2.lt g e).2 (rows_ne2 r2 lg2 (by decide) g e))⟩
  · by_cases hki : k = i
    · subst hki
      rw [hv] at hk
      obtain rfl := Option.some.inj hk
      refine ⟨keepN hG.nr, u, by rw [List.getElem?_append_right (by omega), hul, Nat.sub_self]; rfl, keepN (NamedR.of hG.own), fun j vj hj hvj g hgj => ?_⟩
      obtain ⟨ws, hr⟩ := h.hi j vj hvj (by omega)
      have r1 := row_below hr b1
      rcases hG.bl with e | e
      · rw [e]
        exact fun e2 => hD j k vj v hvj hv (by omega) g hgj e2
      · intro e2
        have := e g e2
        have := (r1.lt g hgj).2
        omega
    · obtain ⟨n1, u', hu', n2, n3⟩ := h.lo k vk hk (by omega)
      have keep12 : ∀ {v' : Value} {n' : Nat} {nm : ByteArray}, NamedR wr v' n' nm → (∀ g, v'.ownBlock = some g → v.ownBlock ≠ some g) → NamedR w2 v' n' nm := fun hN hne => (hN.below b1).kept (fun hn k hk => by
        obtain ⟨g, hg2, hlt⟩ := (hN.below b1).own hn
        have := hne g hg2
        rw [hg2] at hk
        cases hk
        exact hG.fr _ hlt this)
      refine ⟨keepN (keep12 n1 (fun g e => hD k i vk v hk hv hki g e)), u', by rw [List.getElem?_append_left (by omega)]; exact hu', keepN (keep12 n2 (fun g e e2 => n3 i v (Nat.le_refl _) hv g e2 e)), fun j vj hj hvj g hgj => n3 j vj (by omega) hvj g hgj⟩

set_option maxHeartbeats 8000000 in
set_option maxRecDepth 100000 in
theorem apart_any (base : Nat) (lv : Value) (vs : List Value) (ns : Nat → Nat) (a : Option Addr) (mc : Nat) (ss : List ByteArray) (w : World) (hl : w.ownsRow base 37 1 lv vs.length vs) (hF : Fam w base vs ns 0) (hD : Dist vs) (hns : ∀ k, k < vs.length → ns k ≤ 5000000) (hN : vs.length ≤ 5000000)
    (hb : base ≤ w.heap.size) (hs : ss.length ≤ 5000000) (hw : WordsAt w base a ss) (hP : PowB base w) :
    Calls Tryd.prog 30 #[lv, .slice a ss.length mc] w fun e w' => e = .returned (.bool true) ∧ Below base w w' ∧ KeepT w w' := by
  obtain ⟨N, hNN⟩ : ∃ N, vs.length = N := ⟨_, rfl⟩
  rw [hNN] at hl hN hns
  obtain ⟨lp, lc, rfl⟩ := row_shape hl
  have HLV := hid (fun g (e : (Value.slice lp N lc).ownBlock = some g) => (hl.lt g e).2)
  have HL := hid hl
  have HF := hid hF
  have HD := hid hD
  have HW := hid hw
  have HP := hid hP
  have HNN := hid (fun (_ : True) => hNN)
  have HNS := hid hns
  clear hl hF hD hw hP hNN hns
  go_enter Tryd.func30, Tryd.ntmps30
  go_wp2
  go_loopw [16] (fun iv wr => ∃ i : Nat, iv = .int .i64 i ∧ i ≤ N ∧ Hid (Below base w wr ∧ wr.ownsRow base 37 1 (.slice lp N lc) N vs ∧ Fam wr base vs ns i ∧ KeepT w wr)) (fun iv _ => N - (RowKit.intOf iv).toNat)
  case atStart => exact ⟨0, rfl, Nat.zero_le _, hid ⟨Below.refl _ _, HL.out, HF.out, KeepT.refl _⟩⟩
  case round =>
    obtain ⟨i, rfl, hi, HX⟩ := hrel
    by_cases hiN : i < N
    · obtain ⟨v, hv⟩ : ∃ v, vs[i]? = some v := ⟨_, List.getElem?_eq_getElem (by rw [HNN.out trivial]; exact hiN)⟩
      obtain ⟨ys0, hrow0⟩ := (HX.out.2.2.1.row i v hv).2
      obtain ⟨n, hn⟩ : ∃ n, ns i = n := ⟨_, rfl⟩
      rw [hn] at hrow0
      have hn5 : n ≤ 5000000 := by rw [← hn]; exact HNS.out i hiN
      obtain ⟨p, c, rfl⟩ := row_shape hrow0
      obtain ⟨gl, lcap, e0, hgl1, hgl2, hlc⟩ := row_at HX.out.2.1 (by omega)
      cases e0
      have cl := (hlc i (by omega)).trans hv
      have hit := fun W hW => itoa_any i (by omega) base W hW
      obtain ⟨nm, hnm⟩ : ∃ nm, nmOf i = nm := ⟨_, rfl⟩
      rw [hnm] at hit
      have HIT := hid hit
      have HR0 := hid hrow0
      have HV := hid hv
      have hP1 := HP.out.below HX.out.1
      have hbs := HX.out.1.size
      clear hit hrow0 hv hlc HL HF
      go_wp2_with (go_at_call 58; refine (HIT.out _ hP1).mono ?_; rintro e w1 ⟨rfl, b1⟩; have cl1 := cell_low cl b1 hgl2)
      go_loopw [26] (fun jv wr2 => ∃ (j : Nat) (ws : List ByteArray) (ys : List Value), jv = .int .i64 j ∧ j ≤ n ∧ ws.length = j ∧ Hid (wr2.ownsRow base 101 2 (.slice p n c) n (namedV nm ws ++ ys) ∧ Below base w1 wr2 ∧ ∀ b, (Value.slice p n c).ownBlock ≠ some b → wr2.heap[b]? = w1.heap[b]?)) (fun jv _ => n - (RowKit.intOf jv).toNat)
      case atStart => exact ⟨0, [], ys0, rfl, Nat.zero_le _, rfl, hid ⟨row_below HR0.out b1, Below.refl _ _, fun _ _ => rfl⟩⟩
      case round =>
        obtain ⟨j, ws, ys, rfl, hj, hws, HY⟩ := hrel
        have hlen := HY.out.1.1
        rw [List.length_append, namedV_len, hws] at hlen
        have hglp : (Value.slice p n c).ownBlock ≠ some gl := by
          have := rows_ne HX.out.2.1 HR0.out (by decide)
          rcases this with e | e
          · cases e
          · exact fun e2 => e (by rw [e2]; rfl)
        have hlb := HY.out.2.2 gl hglp
        by_cases hjn : j < n
        · obtain ⟨g, cap, e1, hg1, hg2, hc⟩ := row_at HY.out.1 (by omega)
          cases e1
          obtain ⟨y0, y1, ys2, rfl⟩ : ∃ y0 y1 ys2, ys = y0 :: y1 :: ys2 := by
            cases ys with
            | nil => simp at hlen; omega
            | cons y0 ys =>
              cases ys with
              | nil => simp at hlen; omega
              | cons y1 ys2 => exact ⟨y0, y1, ys2, rfl⟩
          have hnl := namedV_len nm ws
          have k0 : wr.cell? ⟨g, j * 2, none⟩ = some y0 := (hc (j * 2) (by omega)).trans (by rw [List.getElem?_append_right (by omega), hnl, hws, Nat.sub_self]; rfl)
          have k1 : wr.cell? ⟨g, j * 2 + 1, none⟩ = some y1 := (hc (j * 2 + 1) (by omega)).trans (by rw [List.getElem?_append_right (by omega), hnl, hws, Nat.add_sub_cancel_left]; rfl)
          have f0 := HY.out.1.frozenAt (j * 2)
          have f1 := HY.out.1.frozenAt (j * 2 + 1)
          have cl2 : wr.cell? ⟨gl, i, none⟩ = some (.slice (some ⟨g, 0, none⟩) n c) := by
            unfold World.cell? at cl1 ⊢
            rw [hlb]
            exact cl1
          have hst := ((HY.out.1.stored (j * 2) (.string nm)).1.stored (j * 2 + 1) (.string ⟨#[]⟩)).1
          rw [← hws, named_step, hws] at hst
          have hfr : ∀ b, (Value.slice (some ⟨g, 0, none⟩) n c).ownBlock ≠ some b → ((wr.setCell ⟨g, j * 2, none⟩ (.string nm)).setCell ⟨g, j * 2 + 1, none⟩ (.string ⟨#[]⟩)).heap[b]? = w1.heap[b]? := fun b hb2 => by
            have hne : b ≠ g := fun e => hb2 (by rw [e]; rfl)
            rw [heap_setCell_other _ _ _ _ hne, heap_setCell_other _ _ _ _ hne]
            exact HY.out.2.2 b hb2
          have hbe : Below base w1 ((wr.setCell ⟨g, j * 2, none⟩ (.string nm)).setCell ⟨g, j * 2 + 1, none⟩ (.string ⟨#[]⟩)) := (HY.out.2.1.setCell hg1 _).setCell hg1 _
          have HZ := hid (And.intro hst (And.intro hbe hfr))
          clear hst hbe hfr hlen hlb hglp hc hnl HY
          go_wp2
          go_roundw
          case rel => first | exact ⟨j + 1, ws ++ [⟨#[]⟩], ys2, rfl, by omega, by simp [hws], HZ⟩ | ((repeat apply Exists.intro); exact ⟨⟨j + 1, ws ++ [⟨#[]⟩], ys2, rfl, by omega, by simp [hws], HZ⟩, rfl⟩)
          case measure => simp [RowKit.intOf]; omega
        · obtain rfl : j = n := by omega
          obtain rfl : ys = [] := List.eq_nil_of_length_eq_zero (by omega)
          have hbw : Below base w wr := (HX.out.1.trans (b1.mono (Nat.le_trans hb hbs))).trans HY.out.2.1
          have hlrow : wr.ownsRow base 37 1 (.slice (some ⟨gl, 0, none⟩) N lc) N vs := row_of_block (row_below HX.out.2.1 b1) (fun g hg => by cases hg; exact hlb)
          have hfam : Fam wr base vs ns (i + 1) := ⟨fun k u hu => by
            by_cases hki : k = i
            · subst hki
              rw [HV.out] at hu
              obtain rfl := Option.some.inj hu
              have hr := HY.out.1
              rw [List.append_nil] at hr
              rw [hnm, hn]
              exact ⟨fun _ => ⟨ws, hr⟩, _, hr⟩
            · obtain ⟨f1, ys9, f2⟩ := HX.out.2.2.1.row k u hu
              have hkeep : ∀ g, u.ownBlock = some g → wr.heap[g]? = w1.heap[g]? := fun g hg => HY.out.2.2 g (HD.out k i u _ hu HV.out hki g hg)
              refine ⟨fun h => ?_, ys9, row_of_block (row_below f2 b1) hkeep⟩
              obtain ⟨ws9, f3⟩ := f1 (by omega)
              exact ⟨ws9, row_of_block (row_below f3 b1) hkeep⟩⟩
          have hkp := HX.out.2.2.2.trans ((KeepT.below b1).trans (KeepT.row (row_below HR0.out b1) (.inr (.inl rfl)) (fun k _ hne => HY.out.2.2 k hne)))
          have HZ := hid (And.intro hbw (And.intro hlrow (And.intro hfam hkp)))
          clear hbw hlrow hfam hkp hlen hlb hglp HY
          go_wp2
          go_roundw
          case rel => first | exact ⟨i + 1, rfl, by omega, HZ⟩ | ((repeat apply Exists.intro); exact ⟨⟨i + 1, rfl, by omega, HZ⟩, rfl⟩)
          case measure => simp [RowKit.intOf]; omega
    · have hT0 : Two w wr base (.slice lp N lc) N vs ns ss.length 0 (.slice none 0 0) [] := ⟨HX.out.1, HX.out.2.1, World.ownsRow_nil _ _ _ _, fun k v hk _ => (HX.out.2.2.1.row k v hk).1 (by
        have := (List.getElem?_eq_some_iff.1 hk).1
        rw [HNN.out trivial] at this
        omega), fun k v hk h => absurd h (Nat.not_lt_zero _), HX.out.2.2.2⟩
      have HT0 := hid hT0
      clear HL HF hT0 HX
      obtain ⟨li0, lhi, lhz0, lhz1, lhz2⟩ := info_parts info_list
      go_wp2_with fail
      go_loopw [5, 41] (fun lgv iv wr2 => ∃ (i : Nat) (us : List Value), iv = .int .i64 i ∧ i ≤ N ∧ Hid (Two w wr2 base (.slice lp N lc) N vs ns ss.length i lgv us)) (fun _ iv _ => N - (RowKit.intOf iv).toNat)
      case atStart => exact ⟨0, [], rfl, Nat.zero_le _, HT0⟩
      case round =>
        obtain ⟨i, us, rfl, hi, HT⟩ := hrel
        clear HT0
        by_cases hiN : i < N
        · obtain ⟨v, hv⟩ : ∃ v, vs[i]? = some v := ⟨_, List.getElem?_eq_getElem (by rw [HNN.out trivial]; exact hiN)⟩
          obtain ⟨ws, hrow⟩ := HT.out.hi i v hv (Nat.le_refl _)
          obtain ⟨n, hn⟩ : ∃ n, ns i = n := ⟨_, rfl⟩
          have hn5 : n ≤ 5000000 := by rw [← hn]; exact HNS.out i hiN
          rw [hn] at hrow
          obtain ⟨p, c, rfl⟩ := row_shape hrow
          obtain ⟨gl, lcap, e0, hgl1, hgl2, hlc⟩ := row_at HT.out.li (by omega)
          cases e0
          have cl := (hlc i (by omega)).trans hv
          have hit := fun W hW => itoa_any i (by omega) base W hW
          have HNM := hid (fun (_ : True) => (rfl : nmOf i = nmOf i))
          obtain ⟨nm, hnm⟩ : ∃ nm, nmOf i = nm := ⟨_, rfl⟩
          rw [hnm] at hit hrow
          have HEQ := hid (fun (_ : True) => hnm)
          have HIT := hid hit
          have HR0 := hid hrow
          have HV := hid hv
          have HN := hid (fun (_ : True) => hn)
          have hP1 := HP.out.below HT.out.be
          have hw1 := HW.out.below HT.out.be
          have hbs := HT.out.be.size
          obtain ⟨lgp, lgc, rfl⟩ := row_shape HT.out.lg
          have HW1 := hid hw1
          clear hit hrow hv hlc hn hnm hw1 HNM
          go_wp2_with (first
            | (go_at_call 58; refine (HIT.out _ hP1).mono ?_; rintro e w1 ⟨rfl, b1⟩; have cl1 := cell_low cl b1 hgl2; have hb1s := b1.size)
            | (go_at_call 59; refine (appended_any base (.slice p n c) n nm ws a mc ss _ (row_below HR0.out b1) (by omega) (by omega) (by omega) (HW1.out.below (b1.mono (by omega)))).mono ?_; rintro e w2 ⟨u, ws2, rfl, hG⟩; obtain ⟨up, uc, rfl⟩ := row_shape hG.own; have hlg2 := row_of_block (row_below HT.out.lg b1) (fun g e => hG.fr g ((row_below HT.out.lg b1).lt g e).2 (rows_ne2 (row_below HT.out.lg b1) (row_below HR0.out b1) (by decide) g e)); have hws2 := hG.size; have HGG := hid hG)
            | (at_builtin; refine wpList_append_own _ rfl (.tmp 53) (.tmp 55) 25 rfl w.heap.size 37 li0 (.slice none 0 0) 1 24 Tryd.underlying25 lhi lhz0 lhz1 lhz2 rfl (by decide) _ _ _ rfl (hlg2.alloc _) ⟨_, 0, none⟩ 1 1 [.slice up (n + 1 + ss.length) uc] rfl rfl (cells_newV _ _ _) (by simp [Value.oneCell']) (by unfold maxLen; omega) (by omega) (by simp; omega) ?_))
          intro v' w3 hown3 hgrow3 _
          have hnext := HT.out.next HD.out hb HLV.out HV.out (HN.out trivial) rfl b1 (by rw [HEQ.out trivial]; exact HGG.out) hown3 hgrow3
          have HZ := hid hnext
          clear hnext hown3 hgrow3 HGG hlg2 hG b1 cl cl1
          go_wp2
          go_roundw
          case rel => first | exact ⟨i + 1, _, rfl, by omega, HZ⟩ | ((repeat apply Exists.intro); exact ⟨⟨i + 1, _, rfl, by omega, HZ⟩, rfl⟩)
          case measure => simp [RowKit.intOf]; omega
        · obtain rfl : i = N := by omega
          have hul : us.length = i := by have := HT.out.lg.1; omega
          have hall : ∀ (k : Nat) (v : Value), vs[k]? = some v → NamedR wr v (ns k) (nmOf k) ∧ ∃ u, us[k]? = some u ∧ NamedR wr u (ns k + 1 + ss.length) (nmOf k) := fun k v hk => by
            have hki : k < i := by
              have := (List.getElem?_eq_some_iff.1 hk).1
              rw [HNN.out trivial] at this
              exact this
            obtain ⟨n1, u, hu, n2, _⟩ := HT.out.lo k v hk hki
            exact ⟨n1, u, hu, n2⟩
          have hlg := row_lo2 HT.out.lg hb
          obtain ⟨lgp, lgc, rfl⟩ := row_shape hlg
          have H3 : Hid (Below base w wr ∧ wr.ownsRow base 37 1 (.slice lp i lc) i vs ∧ wr.ownsRow base 37 1 (.slice lgp i lgc) i us ∧ (∀ (k : Nat) (v : Value), vs[k]? = some v → NamedR wr v (ns k) (nmOf k) ∧ ∃ u, us[k]? = some u ∧ NamedR wr u (ns k + 1 + ss.length) (nmOf k)) ∧ KeepT w wr) := ⟨HT.out.be, HT.out.li, hlg, hall, HT.out.kp⟩
          clear HT hall hlg
          go_wp2_with fail
          go_loopw [60] (fun iv wr2 => ∃ k : Nat, iv = .int .i64 k ∧ k ≤ i ∧ Hid (Below base w wr2 ∧ wr2.ownsRow base 37 1 (.slice lp i lc) i vs ∧ wr2.ownsRow base 37 1 (.slice lgp i lgc) i us ∧ (∀ (k : Nat) (v : Value), vs[k]? = some v → NamedR wr2 v (ns k) (nmOf k) ∧ ∃ u, us[k]? = some u ∧ NamedR wr2 u (ns k + 1 + ss.length) (nmOf k)) ∧ KeepT w wr2)) (fun iv _ => i - (RowKit.intOf iv).toNat)
          case atStart => exact ⟨0, rfl, Nat.zero_le _, H3⟩
          case round =>
            obtain ⟨k, rfl, hk, HT⟩ := hrel
            clear H3
            by_cases hkN : k < i
            · obtain ⟨v, hv⟩ : ∃ v, vs[k]? = some v := ⟨_, List.getElem?_eq_getElem (by rw [HNN.out trivial]; exact hkN)⟩
              obtain ⟨n1, u, hu, n2⟩ := HT.out.2.2.2.1 k v hv
              obtain ⟨n, hn⟩ : ∃ n, ns k = n := ⟨_, rfl⟩
              have hn5 : n ≤ 5000000 := by rw [← hn]; exact HNS.out k hkN
              rw [hn] at n1 n2
              obtain ⟨K, hK⟩ : ∃ K, n + 1 + ss.length = K := ⟨_, rfl⟩
              rw [hK] at n2
              have q0 : ((K : Int) != (n : Int) + (ss.length : Int) + 1) = false := by rw [bne, beq_iff_eq.2 (by omega)]; rfl
              have hit := fun W hW => itoa_any k (by omega) base W hW
              obtain ⟨nm, hnm⟩ : ∃ nm, nmOf k = nm := ⟨_, rfl⟩
              rw [hnm] at hit n1 n2
              have m1 := n1
              have m2 := n2
              obtain ⟨_, vp, vc, rfl, _⟩ := m1
              obtain ⟨_, up, uc, rfl, _⟩ := m2
              obtain ⟨gl, lcap, e0, hgl1, hgl2, hlc⟩ := row_at HT.out.2.1 (by omega)
              cases e0
              obtain ⟨gm, mcap, e1, hgm1, hgm2, hmc⟩ := row_at HT.out.2.2.1 (by omega)
              cases e1
              have cl := (hlc k (by omega)).trans hv
              have cm := (hmc k (by omega)).trans hu
              have HIT := hid hit
              have N1 := hid n1
              have N2 := hid n2
              have hP1 := HP.out.below HT.out.1
              clear hit hlc hmc n1 n2 hv hu hn hnm hK
              go_wp2_with (go_at_call 58; refine (HIT.out _ hP1).mono ?_; rintro e w1 ⟨rfl, b1⟩; have cl1 := cell_low cl b1 hgl2; have cm1 := cell_low cm b1 hgm2; have hA1 := hid (fun q => (allNamed_any (.slice vp n vc) n nm (w1.drewN q) ((N1.out.below b1).kept (fun _ _ _ => rfl))).mono (fun _ _ (h : _ ∧ _) => And.intro h.1 (⟨0, h.2⟩ : ∃ q', _ = (w1.drewN q).drewN q'))); have hA2 := hid (fun q => (allNamed_any (.slice up K uc) K nm (w1.drewN q) ((N2.out.below b1).kept (fun _ _ _ => rfl))).mono (fun _ _ (h : _ ∧ _) => And.intro h.1 (⟨0, h.2⟩ : ∃ q', _ = (w1.drewN q).drewN q'))); clear cl cm)
              go_quiet (first | (go_at_call 60; first | (with_reducible refine Calls.quiet_of (hA1.out _)) | (with_reducible refine Calls.quiet_of (hA2.out _))))
              have hkeep : Below base wr (w1.drewN nq) := below_drewN (b1.mono (Nat.le_trans hb HT.out.1.size)) nq
              have HZ : Hid (Below base w (w1.drewN nq) ∧ (w1.drewN nq).ownsRow base 37 1 (.slice (some ⟨gl, 0, none⟩) i lc) i vs ∧ (w1.drewN nq).ownsRow base 37 1 (.slice (some ⟨gm, 0, none⟩) i lgc) i us ∧ (∀ (k : Nat) (v : Value), vs[k]? = some v → NamedR (w1.drewN nq) v (ns k) (nmOf k) ∧ ∃ u, us[k]? = some u ∧ NamedR (w1.drewN nq) u (ns k + 1 + ss.length) (nmOf k)) ∧ KeepT w (w1.drewN nq)) := by
                refine ⟨HT.out.1.trans hkeep, row_of_block (row_below HT.out.2.1 b1) (fun _ _ => rfl), row_of_block (row_below HT.out.2.2.1 b1) (fun _ _ => rfl), fun k v hv => ?_, fun b cs T h1 h2 h3 h4 => (HT.out.2.2.2.2.trans (KeepT.below b1)) b cs T h1 h2 h3 h4⟩
                obtain ⟨n1, u, hu, n2⟩ := HT.out.2.2.2.1 k v hv
                exact ⟨(n1.below b1).kept (fun _ _ _ => rfl), u, hu, (n2.below b1).kept (fun _ _ _ => rfl)⟩
              clear hkeep hA1 hA2 b1 cl1 cm1 HT N1 N2
              go_wp2
              go_roundw
              case rel => first | exact ⟨k + 1, rfl, by omega, HZ⟩ | ((repeat apply Exists.intro); exact ⟨⟨k + 1, rfl, by omega, HZ⟩, rfl⟩)
              case measure => simp [RowKit.intOf]; omega
            · go_wp2
              go_ret
              exact ⟨rfl, HT.out.1, HT.out.2.2.2.2⟩
end Go.Proofs.YtkcgmimldjeaiaaDoor

/-
  The statements' longAttrs: its walk; what the memory of lent events or nodes holds.
-/
namespace Go.Proofs.YtkcgmimldjeaiaaDoor
open Go.RowKit Go.Lib Own

theorem attrsR_row {W : World} {base : Nat} {v : Value} {al : List AttrP} (h : W.ownsRow base 101 2 v al.length (attrsV al)) : AttrsR W v al := by
  have hc : ∀ j a, al[j]? = some a → ∃ b o, (∃ n c, v = .slice (some ⟨b, o, none⟩) n c) ∧ W.cell? ⟨b, o + j * 2, none⟩ = some (.string (bs a.1)) ∧ W.cell? ⟨b, o + j * 2 + 1, none⟩ = some (.string (bs a.2)) := fun j a hj => by
    have hlt := (List.getElem?_eq_some_iff.1 hj).1
    obtain ⟨g, cap, rfl, _, _, hcell⟩ := row_at h (by omega)
    obtain ⟨x1, x2⟩ := attrs_at al j a hj
    exact ⟨g, 0, ⟨_, _, rfl⟩, by rw [Nat.zero_add]; exact (hcell _ (by omega)).trans x1, by rw [Nat.zero_add]; exact (hcell _ (by omega)).trans x2⟩
  rcases h.2 with ⟨rfl, h0⟩ | ⟨g, cap, cur, rfl, _, _, h1, h2, _⟩
  · exact ⟨none, 0, by rw [h0], by omega, by omega, fun j s hj => by have := (List.getElem?_eq_some_iff.1 hj).1; omega, fun _ => rfl⟩
  · refine ⟨some ⟨g, 0, none⟩, cap, rfl, h1, by unfold maxLen at h2; omega, fun j s hj => ?_, fun e => by cases e⟩
    obtain ⟨b, o, ⟨n, c, e⟩, hcell⟩ := hc j s hj
    cases e
    exact ⟨g, 0, rfl, hcell⟩
theorem attrsR_front {W : World} {base : Nat} {v : Value} {a m : List AttrP} (h : W.ownsRow base 101 2 v (a ++ m).length (attrsV (a ++ m))) : AttrsR W (frontV v a.length) a := by
  have h1 := attrsR_row h
  obtain ⟨p, c, rfl⟩ := row_shape h
  have h2 := h1.front a.length (by simp)
  rw [List.take_left'] at h2
  · exact h2
  · rfl
theorem attrsV_one (al : List AttrP) : ∀ u ∈ attrsV al, u.oneCell' = true := by
  intro u hu
  unfold attrsV at hu
  obtain ⟨s, _, hs⟩ := List.mem_flatMap.1 hu
  simp only [List.mem_cons, List.not_mem_nil, or_false] at hs
  rcases hs with rfl | rfl <;> rfl
/-- attributes appended to a row of attributes that the call owns -/
theorem wpList_append_attrs {w : World} {ops : Array Oper} {rest : List Oper} {o : Oper} {a : Act} {Q : Exit → Act → World → Prop} (hgd : o.guard = none) (s x : Operand)
    (ho : o.op = .call { callee := .builtin .append, args := #[s, x], argTypes := #[37, 37] }) (base : Nat) (v vx : Value) (l m : List AttrP) (hs : a.eval s = v) (hx : a.eval x = vx)
    (hown : w.ownsRow base 101 2 v l.length (attrsV l)) (hw : AttrsR w vx m) (hbase : base ≤ w.heap.size) (hsz : l.length + m.length ≤ 1000000000)
    (h : ∀ v' w', w'.ownsRow base 101 2 v' (l ++ m).length (attrsV (l ++ m)) → w.grownBy w' v.ownBlock → wpList Tryd.prog ops Q rest (a.put o.dst v') w') : wpList Tryd.prog ops Q (o :: rest) a w := by
  obtain ⟨i0, hi, hz0, hz1, hz2⟩ := info_parts info_attr
  obtain ⟨p, c, rfl, hc, hm, hcell, hnone⟩ := hw
  cases p with
  | none =>
    obtain rfl : c = 0 := hnone rfl
    obtain rfl : m = [] := List.length_eq_zero_iff.1 (by omega)
    refine wpList_append_own_none hgd s x 37 ho base 101 i0 2 Tryd.underlying37 hi v l.length (attrsV l) hs hown hx ?_
    exact h v w (by rw [List.append_nil]; exact hown) ⟨rfl, rfl, rfl, Nat.le_refl _, fun _ _ _ => rfl⟩
  | some ad =>
    refine wpList_append_own w hgd s x 37 ho base 101 i0 (.agg #[.string ⟨#[]⟩, .string ⟨#[]⟩]) 2 32 Tryd.underlying37 hi hz0 hz1 hz2 rfl (by decide) v l.length (attrsV l) hs hown ad m.length c (attrsV m) hx (attrsV_len m) ?_ (attrsV_one m) (by unfold maxLen; omega) (by omega) hbase ?_
    · intro j u hj
      have hjl := (List.getElem?_eq_some_iff.1 hj).1
      rw [attrsV_len] at hjl
      obtain ⟨t, ht⟩ : ∃ t, m[j / 2]? = some t := ⟨_, List.getElem?_eq_getElem (by omega)⟩
      obtain ⟨b, o', e, hd1, hd2⟩ := hcell _ t ht
      obtain ⟨x1, x2⟩ := attrs_at m _ t ht
      cases e
      have hadd : (⟨b, o', none⟩ : Addr).add j = ⟨b, o' + j, none⟩ := by unfold Addr.add; split <;> simp_all
      rw [hadd]
      rcases (show j = j / 2 * 2 ∨ j = j / 2 * 2 + 1 by omega) with e | e
      · rw [← e] at x1 hd1
        obtain rfl := Option.some.inj (x1.symm.trans hj)
        exact hd1
      · rw [← e] at x2
        rw [Nat.add_assoc, ← e] at hd2
        obtain rfl := Option.some.inj (x2.symm.trans hj)
        exact hd2
    · intro v' w' h2 h3 _
      exact h v' w' (by rw [List.length_append, attrsV_app]; exact h2) h3
/-- the attributes of these names -/
def namesA (ms : List (List UInt8)) : List AttrP := ms.map fun s => (s, [])

set_option maxHeartbeats 2000000 in
set_option maxRecDepth 100000 in
theorem longAttrs_any (v1 v2 : Value) (l : List AttrP) (ms : List (List UInt8)) (w : World) (h1 : AttrsR w v1 l) (h2 : Words w v2 ms) (hl : l.length ≤ 4000000) (hm : ms.length ≤ 4000000) :
    Calls Tryd.prog 24 #[v1, v2] w fun e w' => ∃ v, e = .returned v ∧ w'.ownsRow w.heap.size 101 2 v (l ++ namesA ms).length (attrsV (l ++ namesA ms)) ∧ Below w.heap.size w w' := by
  have H1 := hid h1
  obtain ⟨p1, c1, rfl⟩ := h1.len
  obtain ⟨p2, c2, rfl, hmc, _, hcell, _⟩ := h2
  have H2 := hid hcell
  clear h1 hcell
  obtain ⟨i0, hi, hz0, hz1, hz2⟩ := info_parts info_attr
  go_enter Tryd.func24, Tryd.ntmps24
  have hb0 := heap_alloc_new w (.cells #[] 101)
  have hown0 : (w.alloc (.cells #[] 101)).ownsRow w.heap.size 101 2 (.slice (some ⟨w.heap.size, 0, none⟩) 0 0) ([] : List AttrP).length (attrsV []) := ⟨rfl, .inr ⟨w.heap.size, 0, #[], rfl, Nat.le_refl _, hb0, Nat.le_refl _, by decide, rfl, rfl⟩⟩
  have hbel0 : Below w.heap.size w (w.alloc (.cells #[] 101)) := (Below.refl w.heap.size w).alloc (Nat.le_refl _) _
  have HO := hid hown0
  have HB := hid hbel0
  clear hb0 hown0 hbel0
  go_wp2_with (at_builtin; refine wpList_append_attrs rfl (.tmp 7) (.tmp 8) rfl w.heap.size _ _ [] l rfl rfl (by exact HO.out) (by exact H1.out.below HB.out) HB.out.size (by simp; omega) ?_)
  intro v3 w3 hown3 hgrow3
  have hbel3 : Below w.heap.size w w3 := HB.out.grown hgrow3 HB.out.size (fun k hk => (HO.out.lt k hk).1)
  have HX3 := hid (And.intro hown3 hbel3)
  clear hown3 hgrow3 hbel3 HO HB
  go_wp2_with fail
  go_loopw [5, 12] (fun bv iv wr => ∃ (k : Nat) (acc : List AttrP), iv = .int .i64 k ∧ k ≤ ms.length ∧ Hid (wr.ownsRow w.heap.size 101 2 bv acc.length (attrsV acc) ∧ Below w.heap.size w wr ∧ acc = l ++ namesA (ms.take k))) (fun _ iv _ => ms.length - (RowKit.intOf iv).toNat)
  case atStart => exact ⟨0, l, rfl, Nat.zero_le _, hid ⟨HX3.out.1, HX3.out.2, (List.append_nil l).symm⟩⟩
  case round =>
    obtain ⟨k, acc, rfl, hk, HX⟩ := hrel
    obtain ⟨bp, bc, rfl⟩ := row_shape HX.out.1
    by_cases hkl : k < ms.length
    · obtain ⟨s, hs⟩ : ∃ s, ms[k]? = some s := ⟨_, List.getElem?_eq_getElem hkl⟩
      obtain ⟨b, o, rfl, hc1⟩ := H2.out k s hs
      obtain ⟨hown, hbw, hacc⟩ := HX.out
      have hbs := hbw.size
      replace hc1 := cell_low hc1 hbw (cell_block hc1)
      have hlen : acc.length ≤ 10000000 := by rw [hacc, List.length_append]; unfold namesA; rw [List.length_map, List.length_take]; omega
      have hnext : acc ++ [(s, [])] = l ++ namesA (ms.take (k + 1)) := by
        rw [List.take_add_one, hs, hacc]
        unfold namesA
        rw [List.map_append, List.append_assoc]
        rfl
      have HN := hid hnext
      clear hnext hs hacc HX HX3 H1 H2
      go_wp2_with (at_builtin; refine wpList_append_own _ rfl (.tmp 15) (.tmp 21) 37 rfl w.heap.size 101 i0 (.agg #[.string ⟨#[]⟩, .string ⟨#[]⟩]) 2 32 Tryd.underlying37 hi hz0 hz1 hz2 rfl (by decide) _ acc.length (attrsV acc) rfl (hown.alloc _) ⟨_, 0, none⟩ 1 1 [.string (bs s), .string ⟨#[]⟩] rfl rfl (cells_newV _ _ _) (by simp [Value.oneCell']) (by unfold maxLen; omega) (by omega) (by simp; omega) ?_)
      intro v' w2 hown2 hgrow2 _
      have hbw2 := (hbw.alloc hbs _).grown hgrow2 (by simp; omega) (fun k hk => ((hown.alloc (.cells #[.string (bs s), .string ⟨#[]⟩] 101)).lt k hk).1)
      have hZ : w2.ownsRow w.heap.size 101 2 v' (acc ++ [(s, [])]).length (attrsV (acc ++ [(s, [])])) := by
        rw [List.length_append, attrsV_app]
        exact hown2
      have HZ := hid (And.intro hZ (And.intro hbw2 HN.out))
      clear hZ hbw2 hown2 hgrow2 hown hbw HN
      go_wp2
      go_roundw
      case rel => exact ⟨k + 1, acc ++ [(s, [])], rfl, by omega, HZ⟩
      case measure => simp [RowKit.intOf]; omega
    · obtain rfl : k = ms.length := by omega
      obtain ⟨h1, h2, h3⟩ := HX.out
      rw [List.take_length] at h3
      have HZ := hid (And.intro h1 (And.intro h2 h3))
      clear h1 h2 h3 HX HX3
      go_wp2
      go_ret
      obtain ⟨h1, h2, h3⟩ := HZ.out
      rw [← h3]
      exact ⟨_, rfl, h1, h2⟩

/-! ## cells of events, lists of attributes beside them -/

def ecells (prs : List (EvP × Value)) : List Value := prs.flatMap fun x => [.int .i64 x.1.k, .string (bs x.1.n), x.2, .string (bs x.1.t)]
theorem ecells_app (a b : List (EvP × Value)) : ecells (a ++ b) = ecells a ++ ecells b := List.flatMap_append
theorem ecells_at : ∀ (a : List (EvP × Value)) (k : Nat) (x : EvP × Value), a[k]? = some x → (ecells a)[k * 4]? = some (.int .i64 x.1.k) ∧ (ecells a)[k * 4 + 1]? = some (.string (bs x.1.n)) ∧ (ecells a)[k * 4 + 2]? = some x.2 ∧ (ecells a)[k * 4 + 3]? = some (.string (bs x.1.t))
  | [], k, x, h => by simp at h
  | y :: r, 0, x, h => by
    simp only [List.getElem?_cons_zero, Option.some.injEq] at h
    subst h
    exact ⟨rfl, rfl, rfl, rfl⟩
  | y :: r, k + 1, x, h => by
    rw [List.getElem?_cons_succ] at h
    obtain ⟨h1, h2, h3, h4⟩ := ecells_at r k x h
    exact ⟨by rw [show (k + 1) * 4 = k * 4 + 1 + 1 + 1 + 1 by omega]; exact h1, by rw [show (k + 1) * 4 + 1 = k * 4 + 1 + 1 + 1 + 1 + 1 by omega]; exact h2,
      by rw [show (k + 1) * 4 + 2 = k * 4 + 2 + 1 + 1 + 1 + 1 by omega]; exact h3, by rw [show (k + 1) * 4 + 3 = k * 4 + 3 + 1 + 1 + 1 + 1 by omega]; exact h4⟩
theorem evsR_row {T : TypeId} {W : World} {base : Nat} {v : Value} {prs : List (EvP × Value)} (h : W.ownsRow base T 4 v prs.length (ecells prs)) (ha : ∀ x ∈ prs, AttrsR W x.2 x.1.a) : EvsR W v (prs.map Prod.fst) := by
  have hlen : (prs.map Prod.fst).length = prs.length := List.length_map _
  have hc : ∀ j e, (prs.map Prod.fst)[j]? = some e → ∃ b o u, (∃ n c, v = .slice (some ⟨b, o, none⟩) n c) ∧ W.cell? ⟨b, o + j * 4, none⟩ = some (.int .i64 e.k) ∧ W.cell? ⟨b, o + j * 4 + 1, none⟩ = some (.string (bs e.n)) ∧ W.cell? ⟨b, o + j * 4 + 2, none⟩ = some u ∧ W.cell? ⟨b, o + j * 4 + 3, none⟩ = some (.string (bs e.t)) ∧ AttrsR W u e.a := fun j e hj => by
    rw [List.getElem?_map] at hj
    obtain ⟨x, hx, rfl⟩ := Option.map_eq_some_iff.1 hj
    have hlt := (List.getElem?_eq_some_iff.1 hx).1
    obtain ⟨g, cap, rfl, _, _, hcell⟩ := row_at h (by omega)
    obtain ⟨x1, x2, x3, x4⟩ := ecells_at prs j x hx
    refine ⟨g, 0, x.2, ⟨_, _, rfl⟩, ?_, ?_, ?_, ?_, ha x (List.mem_of_getElem? hx)⟩
    all_goals rw [Nat.zero_add]
    · exact (hcell _ (by omega)).trans x1
    · exact (hcell _ (by omega)).trans x2
    · exact (hcell _ (by omega)).trans x3
    · exact (hcell _ (by omega)).trans x4
  rcases h.2 with ⟨rfl, h0⟩ | ⟨g, cap, cur, rfl, _, _, h1, h2, _⟩
  · exact ⟨none, 0, by rw [hlen, h0], by omega, by omega, fun j s hj => by have := (List.getElem?_eq_some_iff.1 hj).1; omega⟩
  · refine ⟨some ⟨g, 0, none⟩, cap, by rw [hlen], by omega, by unfold maxLen at h2; omega, fun j s hj => ?_⟩
    obtain ⟨b, o, u, ⟨n, c, e⟩, hcell⟩ := hc j s hj
    cases e
    exact ⟨g, 0, u, rfl, hcell⟩
theorem alistsR_row {W : World} {base : Nat} {v : Value} {us : List Value} {ls : List (List AttrP)} (h : W.ownsRow base 37 1 v us.length us) (hl : us.length = ls.length) (ha : ∀ (k : Nat) u l, us[k]? = some u → ls[k]? = some l → AttrsR W u l) : AlistsR W v ls := by
  have hc : ∀ j l, ls[j]? = some l → ∃ b o u, (∃ n c, v = .slice (some ⟨b, o, none⟩) n c) ∧ W.cell? ⟨b, o + j, none⟩ = some u ∧ AttrsR W u l := fun j l hj => by
    have hlt := (List.getElem?_eq_some_iff.1 hj).1
    obtain ⟨g, cap, rfl, _, _, hcell⟩ := row_at h (by omega)
    obtain ⟨u, hu⟩ : ∃ u, us[j]? = some u := ⟨_, List.getElem?_eq_getElem (by omega)⟩
    exact ⟨g, 0, u, ⟨_, _, rfl⟩, by rw [Nat.zero_add]; exact (hcell _ (by omega)).trans hu, ha j u l hu hj⟩
  rcases h.2 with ⟨rfl, h0⟩ | ⟨g, cap, cur, rfl, _, _, h1, h2, _⟩
  · exact ⟨none, 0, by rw [← hl, h0], by omega, by omega, fun j s hj => by have := (List.getElem?_eq_some_iff.1 hj).1; omega⟩
  · refine ⟨some ⟨g, 0, none⟩, cap, by rw [hl], by omega, by unfold maxLen at h2; omega, fun j s hj => ?_⟩
    obtain ⟨b, o, u, ⟨n, c, e⟩, hcell⟩ := hc j s hj
    cases e
    exact ⟨g, 0, u, rfl, hcell⟩
theorem EvsR.front2 {W : World} {p : Option Addr} {n c : Nat} {a b : List EvP} (h : EvsR W (.slice p n c) (a ++ b)) : EvsR W (.slice p a.length c) a := by
  have := h.front a.length (by simp)
  rwa [List.take_left'] at this
  rfl

/-! ## events or nodes that are being lent: the box of the answer, the box of the list, the lists -/

structure LndE (T LT : TypeId) (w W : World) (wv av : Value) (es : List EvP) (mA : List AttrP) (prs : List (EvP × Value)) (us : List Value) : Prop where
  be : Below w.heap.size w W
  b0 : W.heap[w.heap.size]? = some (.cells #[.slice none 0 0, .slice none 0 0, .slice none 0 0] LT (0, 0))
  bx : W.heap[w.heap.size + 1]? = some (.cells #[.slice none 0 0, wv, av] LT (0, 0))
  a : W.ownsRow w.heap.size 37 1 av us.length us
  r : W.ownsRow w.heap.size T 4 wv prs.length (ecells prs)
  u : ∀ (k : Nat) (v : Value) (e : EvP), us[k]? = some v → es[k]? = some e → W.ownsRow w.heap.size 101 2 v (e.a ++ mA).length (attrsV (e.a ++ mA))
  rw : ∀ (k : Nat) (x : EvP × Value), prs[k]? = some x → (x.1.a = [] ∧ x.2 = .slice none 0 0) ∨ ∃ v, us[k]? = some v ∧ es[k]? = some x.1 ∧ x.2 = frontV v x.1.a.length
/-- the types stand apart -/
structure LndT (T LT : TypeId) : Prop where
  t0 : T ≠ 101
  t1 : T ≠ 37
  t2 : LT ≠ T
  t3 : LT ≠ 101
  t4 : LT ≠ 37
section
variable {T LT : TypeId} {w W W2 : World} {wv av : Value} {es : List EvP} {mA : List AttrP} {prs : List (EvP × Value)} {us : List Value}
theorem LndE.below (h : LndE T LT w W wv av es mA prs us) (hb : Below W.heap.size W W2) : LndE T LT w W2 wv av es mA prs us :=
  ⟨h.be.trans (hb.mono h.be.size), (hb.block _ (block_lt h.b0)).trans h.b0, (hb.block _ (block_lt h.bx)).trans h.bx, row_below h.a hb, row_below h.r hb, fun k v e h1 h2 => row_below (h.u k v e h1 h2) hb, h.rw⟩
theorem LndE.drew (h : LndE T LT w W wv av es mA prs us) : LndE T LT w W.drew wv av es mA prs us := ⟨⟨h.be.os, h.be.tape, h.be.output, h.be.size, h.be.block⟩, h.b0, h.bx, h.a, h.r, h.u, h.rw⟩
/-- a box of the element's type that is written into -/
theorem LndE.box {c : Nat} {cs cs2 : Array Value} (ht : LndT T LT) (h : LndE T LT w W wv av es mA prs us) (hc : W.heap[c]? = some (.cells cs T (0, 0))) (hlo : w.heap.size + 2 ≤ c) (hne : wv.ownBlock ≠ some c) (j : Just W W2 c cs2 T) : LndE T LT w W2 wv av es mA prs us :=
  ⟨h.be.trans (just_low j (by omega)), (j.other _ (by omega)).trans h.b0, (j.other _ (by omega)).trans h.bx, row_just h.a hc ht.t1 j.other, row_of_block h.r (fun g hg => j.other g (fun e => hne (by rw [hg, e]))), fun k v e h1 h2 => row_just (h.u k v e h1 h2) hc ht.t0 j.other, h.rw⟩
/-- one more list of attributes -/
theorem LndE.attr {u' v' : Value} {e : EvP} (ht : LndT T LT) (h : LndE T LT w W wv av es mA prs us) (hu : W.ownsRow w.heap.size 101 2 u' (e.a ++ mA).length (attrsV (e.a ++ mA))) (he : es[us.length]? = some e)
    (hg : (W.alloc (.cells #[u'] 37)).grownBy W2 av.ownBlock) (hv : W2.ownsRow w.heap.size 37 1 v' (us ++ [u']).length (us ++ [u'])) :
    LndE T LT w (W2.setCell ⟨w.heap.size + 1, 2, none⟩ v') wv v' es mA prs (us ++ [u']) := by
  have hax := h.a.alloc (.cells #[u'] 37)
  have bxa : (W.alloc (.cells #[u'] 37)).heap[w.heap.size + 1]? = _ := (Go.Lib.alloc_old _ _ _ (block_lt h.bx)).trans h.bx
  have b0a : (W.alloc (.cells #[u'] 37)).heap[w.heap.size]? = _ := (Go.Lib.alloc_old _ _ _ (block_lt h.b0)).trans h.b0
  have bx2 := grown_at hg bxa (row_ne hax bxa ht.t4)
  have b02 := grown_at hg b0a (row_ne hax b0a ht.t4)
  have j := just_put (j := 2) (cs2 := #[.slice none 0 0, wv, v']) bx2 v' (by simp)
  have str : ∀ a n xs, W.ownsRow w.heap.size 101 2 a n xs → (W2.setCell ⟨w.heap.size + 1, 2, none⟩ v').ownsRow w.heap.size 101 2 a n xs := fun a n xs hr =>
    row_just ((hr.alloc _).kept hg (rows_ne (hr.alloc _) hax (by decide))) bx2 ht.t3 j.other
  refine ⟨((h.be.alloc h.be.size _).grown hg (by have := h.be.size; simp; omega) (fun k hk => (hax.lt k hk).1)).trans (just_low j (by omega)), (j.other _ (by omega)).trans b02, j.at_, row_just hv bx2 ht.t4 j.other, row_just ((h.r.alloc _).kept hg (rows_ne (h.r.alloc _) hax ht.t1)) bx2 ht.t2 j.other, fun k v x h1 h2 => ?_, fun k x h1 => ?_⟩
  · by_cases hk : k < us.length
    · rw [List.getElem?_append_left hk] at h1
      exact str _ _ _ (h.u k v x h1 h2)
    · obtain rfl : k = us.length := by have := (List.getElem?_eq_some_iff.1 h1).1; simp at this; omega
      rw [List.getElem?_append_right (Nat.le_refl _), Nat.sub_self] at h1
      obtain rfl := Option.some.inj h1
      obtain rfl := Option.some.inj (he.symm.trans h2)
      exact str _ _ _ hu
  · rcases h.rw k x h1 with h3 | ⟨v, h3, h4, h5⟩
    · exact .inl h3
    · exact .inr ⟨v, by rw [List.getElem?_append_left (List.getElem?_eq_some_iff.1 h3).1]; exact h3, h4, h5⟩
/-- one more event -/
theorem LndE.ev {v' : Value} {x : EvP × Value} {X : Obj} (ht : LndT T LT) (h : LndE T LT w W wv av es mA prs us)
    (hx : (x.1.a = [] ∧ x.2 = .slice none 0 0) ∨ ∃ v, us[prs.length]? = some v ∧ es[prs.length]? = some x.1 ∧ x.2 = frontV v x.1.a.length)
    (hg : (W.alloc X).grownBy W2 wv.ownBlock) (hv : W2.ownsRow w.heap.size T 4 v' (prs ++ [x]).length (ecells (prs ++ [x]))) :
    LndE T LT w (W2.setCell ⟨w.heap.size + 1, 1, none⟩ v') v' av es mA (prs ++ [x]) us := by
  have hax := h.r.alloc X
  have bxa : (W.alloc X).heap[w.heap.size + 1]? = _ := (Go.Lib.alloc_old _ _ _ (block_lt h.bx)).trans h.bx
  have b0a : (W.alloc X).heap[w.heap.size]? = _ := (Go.Lib.alloc_old _ _ _ (block_lt h.b0)).trans h.b0
  have bx2 := grown_at hg bxa (row_ne hax bxa ht.t2)
  have b02 := grown_at hg b0a (row_ne hax b0a ht.t2)
  have j := just_put (j := 1) (cs2 := #[.slice none 0 0, v', av]) bx2 v' (by simp)
  have str : ∀ a n xs, W.ownsRow w.heap.size 101 2 a n xs → (W2.setCell ⟨w.heap.size + 1, 1, none⟩ v').ownsRow w.heap.size 101 2 a n xs := fun a n xs hr =>
    row_just ((hr.alloc _).kept hg (rows_ne (hr.alloc _) hax ht.t0.symm)) bx2 ht.t3 j.other
  refine ⟨((h.be.alloc h.be.size _).grown hg (by have := h.be.size; simp; omega) (fun k hk => (hax.lt k hk).1)).trans (just_low j (by omega)), (j.other _ (by omega)).trans b02, j.at_, row_just ((h.a.alloc _).kept hg (rows_ne (h.a.alloc _) hax ht.t1.symm)) bx2 ht.t4 j.other, row_just hv bx2 ht.t2 j.other, fun k v x h1 h2 => str _ _ _ (h.u k v x h1 h2), fun k y h1 => ?_⟩
  by_cases hk : k < prs.length
  · rw [List.getElem?_append_left hk] at h1
    exact h.rw k y h1
  · obtain rfl : k = prs.length := by have := (List.getElem?_eq_some_iff.1 h1).1; simp at this; omega
    rw [List.getElem?_append_right (Nat.le_refl _), Nat.sub_self] at h1
    obtain rfl := Option.some.inj h1
    exact hx
/-- what was lent can be read -/
theorem LndE.whole (h : LndE T LT w W wv av es mA prs us) : EvsR W wv (prs.map Prod.fst) := by
  refine evsR_row h.r (fun x hx => ?_)
  obtain ⟨k, hk⟩ := List.getElem?_of_mem hx
  rcases h.rw k x hk with ⟨h1, h2⟩ | ⟨v, h1, h2, h3⟩
  · rw [h1, h2]; exact AttrsR.nil W
  · rw [h3]; exact attrsR_front (h.u k v x.1 h1 h2)
theorem LndE.lists (h : LndE T LT w W wv av es mA prs us) (hl : us.length = es.length) : AlistsR W av (es.map fun e => e.a ++ mA) := by
  refine alistsR_row h.a (by rw [hl, List.length_map]) (fun k u l hu hk => ?_)
  rw [List.getElem?_map] at hk
  obtain ⟨e, he, rfl⟩ := Option.map_eq_some_iff.1 hk
  exact attrsR_row (h.u k u e hu he)
end
/-- events or nodes that were lent: the front, the whole, the lists of attributes -/
def LentE (W : World) (v : Value) (es more : List EvP) (mA : List AttrP) : Prop :=
  ∃ vf vw va, v = .agg #[vf, vw, va] ∧ EvsR W vf es ∧ EvsR W vw (es ++ more) ∧ AlistsR W va (es.map fun e => e.a ++ mA)
theorem LentE.below {W W' : World} {v : Value} {es more : List EvP} {mA : List AttrP} (h : LentE W v es more mA) (hb : Below W.heap.size W W') : LentE W' v es more mA := by
  obtain ⟨vf, vw, va, e, h1, h2, h3⟩ := h
  exact ⟨vf, vw, va, e, h1.below hb, h2.below hb, h3.below hb⟩
theorem three_put {W : World} {b : Nat} {T : TypeId} {a0 a1 a2 p0 p1 p2 : Value} (h : W.heap[b]? = some (.cells #[a0, a1, a2] T (0, 0))) :
    Just W (((W.setCell ⟨b, 0, none⟩ p0).setCell ⟨b, 1, none⟩ p1).setCell ⟨b, 2, none⟩ p2) b #[p0, p1, p2] T := by
  have h0 := just_put (j := 0) (cs2 := #[p0, a1, a2]) h p0 (by simp)
  have h1 := just_put (j := 1) (cs2 := #[p0, p1, a2]) h0.at_ p1 (by simp)
  have h2 := just_put (j := 2) (cs2 := #[p0, p1, p2]) h1.at_ p2 (by simp)
  exact (h0.andThen h1).andThen h2
/-- the lists alone -/
structure LndL (T : TypeId) (w W : World) (wv av : Value) (es : List EvP) (mA : List AttrP) (prs : List (EvP × Value)) (us : List Value) : Prop where
  a : W.ownsRow w.heap.size 37 1 av us.length us
  r : W.ownsRow w.heap.size T 4 wv prs.length (ecells prs)
  u : ∀ (k : Nat) (v : Value) (e : EvP), us[k]? = some v → es[k]? = some e → W.ownsRow w.heap.size 101 2 v (e.a ++ mA).length (attrsV (e.a ++ mA))
  rw : ∀ (k : Nat) (x : EvP × Value), prs[k]? = some x → (x.1.a = [] ∧ x.2 = .slice none 0 0) ∨ ∃ v, us[k]? = some v ∧ es[k]? = some x.1 ∧ x.2 = frontV v x.1.a.length
theorem LndE.lst {T LT : TypeId} {w W : World} {wv av : Value} {es : List EvP} {mA : List AttrP} {prs : List (EvP × Value)} {us : List Value} (h : LndE T LT w W wv av es mA prs us) : LndL T w W wv av es mA prs us := ⟨h.a, h.r, h.u, h.rw⟩
theorem LndL.just {T LT : TypeId} {w W W2 : World} {b : Nat} {cs cs2 : Array Value} {wv av : Value} {es : List EvP} {mA : List AttrP} {prs : List (EvP × Value)} {us : List Value} (ht : LndT T LT) (h : LndL T w W wv av es mA prs us) (hb : W.heap[b]? = some (.cells cs LT (0, 0))) (j : Just W W2 b cs2 LT) : LndL T w W2 wv av es mA prs us :=
  ⟨row_just h.a hb ht.t4 j.other, row_just h.r hb ht.t2 j.other, fun k v e h1 h2 => row_just (h.u k v e h1 h2) hb ht.t3 j.other, h.rw⟩
theorem LndL.lent {T : TypeId} {w W : World} {wp ap : Option Addr} {wn wc an ac : Nat} {es more : List EvP} {mA : List AttrP} {prs : List (EvP × Value)} {us : List Value} (h : LndL T w W (.slice wp wn wc) (.slice ap an ac) es mA prs us)
    (hp : prs.map Prod.fst = es ++ more) (hl : us.length = es.length) : LentE W (.agg #[.slice wp es.length wc, .slice wp wn wc, .slice ap an ac]) es more mA := by
  have hw : EvsR W (.slice wp wn wc) (prs.map Prod.fst) := by
    refine evsR_row h.r (fun x hx => ?_)
    obtain ⟨k, hk⟩ := List.getElem?_of_mem hx
    rcases h.rw k x hk with ⟨h1, h2⟩ | ⟨v, h1, h2, h3⟩
    · rw [h1, h2]; exact AttrsR.nil W
    · rw [h3]; exact attrsR_front (h.u k v x.1 h1 h2)
  rw [hp] at hw
  refine ⟨_, _, _, rfl, hw.front2, hw, alistsR_row h.a (by rw [hl, List.length_map]) (fun k u l hu hk => ?_)⟩
  rw [List.getElem?_map] at hk
  obtain ⟨e, he, rfl⟩ := Option.map_eq_some_iff.1 hk
  exact attrsR_row (h.u k u e hu he)
theorem EvsR.drewN {W : World} {v : Value} {l : List EvP} (h : EvsR W v l) (n : Nat) : EvsR (W.drewN n) v l := h
theorem AlistsR.drewN {W : World} {v : Value} {l : List (List AttrP)} (h : AlistsR W v l) (n : Nat) : AlistsR (W.drewN n) v l := h
end Go.Proofs.YtkcgmimldjeaiaaDoor

/-
  String of a strings.Builder that lies inside another block, an empty one too: its walk.
-/
namespace Go.Proofs.YtkcgmimldjeaiaaDoor
open Go.RowKit Go.Lib Own

theorem us_none (p : Option Addr) (W : World) : (Builtin.unsafeString_ #[129, 3] 9 #[.pointer p, .int .i64 0]).run Tryd.prog W = .ok (.string ⟨#[]⟩) W := Lib.run_unsafeString_none W _ _ _ p
set_option maxHeartbeats 2000000 in
set_option maxRecDepth 100000 in
theorem string_nil_in (b o : Nat) (cs : Array Value) (T : TypeId) (n : Nat) (hn : n = 0) (w : World) (hat : w.heap[b]? = some (.cells cs T (0, 0))) (hcv : cs[o + 1]? = some (.slice none n 0)) :
    Calls Tryd.prog 45 #[.pointer (some ⟨b, o, none⟩)] w fun e w' => e = .returned (.string ⟨#[]⟩) ∧ w' = w.drew := by
  subst hn
  have hUS := us_none
  have c1 : w.drew.cell? ⟨b, o + 1, none⟩ = some (.slice none 0 0) := cell_at hat hcv
  have hSD : (Builtin.unsafeSliceData_ #[50] 129 #[.slice none 0 0]).run Tryd.prog w.drew = .ok (.pointer none) w.drew := rfl
  go_enter Tryd.func45, Tryd.ntmps45
  go_wp2
  go_region
  all_goals (go_wp2; go_ret; exact ⟨rfl, rfl⟩)
set_option maxHeartbeats 2000000 in
set_option maxRecDepth 100000 in
theorem string_room_in (b o : Nat) (cs : Array Value) (T : TypeId) (g cap : Nat) (hc0 : cap ≠ 0) (w : World) (hat : w.heap[b]? = some (.cells cs T (0, 0))) (hcv : cs[o + 1]? = some (.slice (some ⟨g, 0, none⟩) 0 cap)) :
    Calls Tryd.prog 45 #[.pointer (some ⟨b, o, none⟩)] w fun e w' => e = .returned (.string ⟨#[]⟩) ∧ w' = w.drew := by
  have hUS := us_none
  have c1 : w.drew.cell? ⟨b, o + 1, none⟩ = some (.slice (some ⟨g, 0, none⟩) 0 cap) := cell_at hat hcv
  have hSD : (Builtin.unsafeSliceData_ #[50] 129 #[.slice (some ⟨g, 0, none⟩) 0 cap]).run Tryd.prog w.drew = .ok (.pointer (some ⟨g, 0, none⟩)) w.drew := Lib.run_unsafeSliceData_row _ _ _ _ _ _ hc0
  clear hc0
  go_enter Tryd.func45, Tryd.ntmps45
  go_wp2
  go_region
  all_goals (go_wp2; go_ret; exact ⟨rfl, rfl⟩)
set_option maxHeartbeats 2000000 in
set_option maxRecDepth 100000 in
theorem string_noroom_in (b o : Nat) (cs : Array Value) (T : TypeId) (g : Nat) (cur : Array Value) (fz : Nat × Nat) (w : World) (hat : w.heap[b]? = some (.cells cs T (0, 0))) (hcv : cs[o + 1]? = some (.slice (some ⟨g, 0, none⟩) 0 0)) (hg : w.heap[g]? = some (.cells cur 5 fz)) :
    Calls Tryd.prog 45 #[.pointer (some ⟨b, o, none⟩)] w fun e w' => e = .returned (.string ⟨#[]⟩) ∧ Below w.heap.size w w' := by
  have hUS := us_none
  have hlt := block_lt hat
  have c1 : w.drew.cell? ⟨b, o + 1, none⟩ = some (.slice (some ⟨g, 0, none⟩) 0 0) := cell_at hat hcv
  have hSD : (Builtin.unsafeSliceData_ #[50] 129 #[.slice (some ⟨g, 0, none⟩) 0 0]).run Tryd.prog w.drew = .ok (.pointer (some ⟨w.drew.heap.size, 0, none⟩)) (w.drew.alloc (.view ⟨g, 0, none⟩ 5)) :=
    Lib.run_unsafeSliceData_zero w.drew _ _ 5 Tryd.underlying129 ⟨g, 0, none⟩ 0 (5, cur.size) (by have hg' : w.drew.heap[g]? = some (.cells cur 5 fz) := hg; simp [World.shape?, hg'])
  have c2 : (w.drew.alloc (.view ⟨g, 0, none⟩ 5)).cell? ⟨b, o + 1, none⟩ = some (.slice (some ⟨g, 0, none⟩) 0 0) := by
    have : (w.drew.alloc (.view ⟨g, 0, none⟩ 5)).heap[b]? = _ := (Lib.alloc_old w.drew _ b hlt).trans hat
    exact cell_at this hcv
  have c3 : (w.alloc (.view ⟨g, 0, none⟩ 5)).drew.cell? ⟨b, o + 1, none⟩ = some (.slice (some ⟨g, 0, none⟩) 0 0) := c2
  have c0 : w.cell? ⟨b, o + 1, none⟩ = some (.slice (some ⟨g, 0, none⟩) 0 0) := c1
  go_enter Tryd.func45, Tryd.ntmps45
  go_wp2
  go_region
  all_goals (go_wp2; go_ret; exact ⟨rfl, (Below.drew (Below.refl _ w)).alloc (Nat.le_refl _) _⟩)
theorem string_any_in (base b o : Nat) (cs : Array Value) (T : TypeId) (p v : Value) (l : List UInt8) (w : World) (h : InB w base b o cs T p v l) :
    Calls Tryd.prog 45 #[.pointer (some ⟨b, o, none⟩)] w fun e w' => e = .returned (.string (bs l)) ∧ w'.heap[b]? = some (.cells cs T (0, 0)) ∧ Below base w w' ∧
      ∀ k, k < w.heap.size → k ≠ b → v.ownBlock ≠ some k → w'.heap[k]? = w.heap[k]? := by
  have hlt := block_lt h.at_
  have hbase : base ≤ w.heap.size := by have := h.lo; omega
  cases l with
  | cons x r => exact (string_in base b o cs T p v (x :: r) w h (by simp)).mono (fun e w' ⟨h1, h2, h3, h4⟩ => ⟨h1, h2, h3, fun k _ h5 h6 => h4 k h5 h6⟩)
  | nil =>
    have fin : ∀ e w', (e = Ending.returned (.string ⟨#[]⟩) ∧ Below w.heap.size w w') → (e = .returned (.string (bs [])) ∧ w'.heap[b]? = some (.cells cs T (0, 0)) ∧ Below base w w' ∧ ∀ k, k < w.heap.size → k ≠ b → v.ownBlock ≠ some k → w'.heap[k]? = w.heap[k]?) := by
      rintro e w' ⟨rfl, hb⟩
      exact ⟨rfl, (hb.block b hlt).trans h.at_, hb.mono hbase, fun k hk _ _ => hb.block k hk⟩
    have hcv := h.cv
    rcases h.own.2 with ⟨hv, h0⟩ | ⟨g, cap, cur, fz, hv, _, hg, _⟩
    · rw [hv] at hcv
      exact (string_nil_in b o cs T 0 rfl w h.at_ hcv).mono (fun e w' ⟨h1, h2⟩ => fin e w' ⟨h1, by rw [h2]; exact (Below.refl _ w).drew⟩)
    · rw [hv] at hcv
      by_cases hc0 : cap = 0
      · subst hc0
        exact (string_noroom_in b o cs T g cur fz w h.at_ hcv hg).mono (fun e w' h1 => fin e w' h1)
      · exact (string_room_in b o cs T g cap hc0 w h.at_ hcv).mono (fun e w' ⟨h1, h2⟩ => fin e w' ⟨h1, by rw [h2]; exact (Below.refl _ w).drew⟩)
end Go.Proofs.YtkcgmimldjeaiaaDoor

/-
  Nodes that a call made: their row, and their lists of attributes, which stand apart; which elements are void: two walks.
-/
namespace Go.Proofs.YtkcgmimldjeaiaaDoor
open Go.RowKit Go.Lib Own

structure MadeN (W : World) (base : Nat) (v : Value) (prs : List (EvP × Value)) : Prop where
  row : W.ownsRow base 84 4 v prs.length (ecells prs)
  own : ∀ (k : Nat) (x : EvP × Value), prs[k]? = some x → W.ownsRow base 101 2 x.2 x.1.a.length (attrsV x.1.a)
  ap : Dist (prs.map Prod.snd)
theorem MadeN.nil (W : World) (base : Nat) : MadeN W base (.slice none 0 0) [] := ⟨World.ownsRow_nil _ _ _ _, fun k x h => by simp at h, fun j k v u h => by simp at h⟩
theorem MadeN.keep {W W' : World} {base : Nat} {v : Value} {prs : List (EvP × Value)} (h : MadeN W base v prs) (h1 : ∀ v n xs, W.ownsRow base 84 4 v n xs → W'.ownsRow base 84 4 v n xs)
    (h2 : ∀ a n ys, W.ownsRow base 101 2 a n ys → W'.ownsRow base 101 2 a n ys) : MadeN W' base v prs := ⟨h1 _ _ _ h.row, fun k x hx => h2 _ _ _ (h.own k x hx), h.ap⟩
theorem MadeN.below {W W' : World} {base : Nat} {v : Value} {prs : List (EvP × Value)} (h : MadeN W base v prs) (hb : Below W.heap.size W W') : MadeN W' base v prs :=
  h.keep (fun _ _ _ hr => row_below hr hb) (fun _ _ _ hr => row_below hr hb)
theorem MadeN.drewN {W : World} {base : Nat} {v : Value} {prs : List (EvP × Value)} (h : MadeN W base v prs) (n : Nat) : MadeN (W.drewN n) base v prs := h.keep (fun _ _ _ hr => hr) (fun _ _ _ hr => hr)
theorem dist_end {vs : List Value} {v : Value} (h : Dist vs) (hn : ∀ (k : Nat) u, vs[k]? = some u → ∀ g, v.ownBlock = some g → u.ownBlock ≠ some g) : Dist (vs ++ [v]) := by
  intro j k a b hj hk hne g hg
  by_cases hjl : j < vs.length
  · rw [List.getElem?_append_left hjl] at hj
    by_cases hkl : k < vs.length
    · rw [List.getElem?_append_left hkl] at hk
      exact h j k a b hj hk hne g hg
    · have hk' : k = vs.length := by have := (List.getElem?_eq_some_iff.1 hk).1; simp at this; omega
      rw [hk', List.getElem?_append_right (Nat.le_refl _), Nat.sub_self] at hk
      obtain rfl : v = b := Option.some.inj hk
      exact fun e => hn j a hj g e hg
  · have hj' : j = vs.length := by have := (List.getElem?_eq_some_iff.1 hj).1; simp at this; omega
    rw [hj', List.getElem?_append_right (Nat.le_refl _), Nat.sub_self] at hj
    obtain rfl : v = a := Option.some.inj hj
    by_cases hkl : k < vs.length
    · rw [List.getElem?_append_left hkl] at hk
      exact hn k b hk g hg
    · have hk' : k = vs.length := by have := (List.getElem?_eq_some_iff.1 hk).1; simp at this; omega
      omega
/-- one more node -/
theorem MadeN.more {W W2 : World} {base : Nat} {v v' : Value} {prs : List (EvP × Value)} {x : EvP × Value} {X : Obj} (h : MadeN W base v prs) (hx : W.ownsRow base 101 2 x.2 x.1.a.length (attrsV x.1.a))
    (hn : ∀ g, x.2.ownBlock = some g → ∀ (k : Nat) y, prs[k]? = some y → y.2.ownBlock ≠ some g) (hg : (W.alloc X).grownBy W2 v.ownBlock)
    (hv : W2.ownsRow base 84 4 v' (prs.length + 1) (ecells prs ++ [.int .i64 x.1.k, .string (bs x.1.n), x.2, .string (bs x.1.t)])) : MadeN W2 base v' (prs ++ [x]) := by
  have hra := h.row.alloc X
  have mono : ∀ a n ys, W.ownsRow base 101 2 a n ys → W2.ownsRow base 101 2 a n ys := fun a n ys hr => (hr.alloc X).kept hg (rows_ne (hr.alloc X) hra (by decide))
  refine ⟨by rw [List.length_append, ecells_app]; exact hv, fun k y hy => ?_, ?_⟩
  · by_cases hk : k < prs.length
    · rw [List.getElem?_append_left hk] at hy
      exact mono _ _ _ (h.own k y hy)
    · have hk' : k = prs.length := by have := (List.getElem?_eq_some_iff.1 hy).1; simp at this; omega
      rw [hk', List.getElem?_append_right (Nat.le_refl _), Nat.sub_self] at hy
      obtain rfl : x = y := Option.some.inj hy
      exact mono _ _ _ hx
  · rw [List.map_append]
    refine dist_end h.ap (fun k u hu g hg2 => ?_)
    rw [List.getElem?_map] at hu
    obtain ⟨y, hy, rfl⟩ := Option.map_eq_some_iff.1 hu
    exact hn g hg2 k y hy
theorem MadeN.evs {W : World} {base : Nat} {v : Value} {prs : List (EvP × Value)} (h : MadeN W base v prs) : EvsR W v (prs.map Prod.fst) :=
  evsR_row h.row (fun x hx => by obtain ⟨k, hk⟩ := List.mem_iff_getElem?.1 hx; exact attrsR_row (h.own k x hk))
/-- what was made in a block that is new is no older node's -/
theorem MadeN.fresh {W : World} {base : Nat} {v : Value} {prs : List (EvP × Value)} (h : MadeN W base v prs) {u : Value} (hu : ∀ g, u.ownBlock = some g → W.heap.size ≤ g) : ∀ g, u.ownBlock = some g → ∀ (k : Nat) y, prs[k]? = some y → y.2.ownBlock ≠ some g := by
  intro g hg k y hy e
  have h1 := ((h.own k y hy).lt g e).2
  have h2 := hu g hg
  omega
theorem info_node : (Tryd.prog.info? 84).map (fun i => (i.zero, i.size, i.bytes)) = some (some (.agg #[.int .i64 0, .string ⟨#[]⟩, .slice none 0 0, .string ⟨#[]⟩]), 4, 64) := by kernel_rfl

/-! ## which elements are void -/

theorem elemF_mem (x : List UInt8) (r : Nat × Nat) : ∀ T : List (List (List UInt8) × Nat × Nat), elemF T x = some r → ∃ k ∈ T, k.1.contains x = true ∧ k.2 = r
  | [], h => by cases h
  | k :: T, h => by
    unfold elemF at h
    by_cases hc : k.1.contains x = true
    · rw [if_pos hc] at h
      exact ⟨k, List.mem_cons_self .., hc, Option.some.inj h⟩
    · rw [if_neg hc] at h
      obtain ⟨q, h1, h2⟩ := elemF_mem x r T h
      exact ⟨q, List.mem_cons_of_mem _ h1, h2⟩
def voidE : Option (Nat × Nat) → Bool
  | some (_, m) => (m : Int) == 9
  | none => false
theorem void_elem (x : List UInt8) : voidE (elemL x) = voidL x := by
  by_cases h1 : x = [98, 114]
  · subst h1; decide +kernel
  by_cases h2 : x = [104, 114]
  · subst h2; decide +kernel
  by_cases h3 : x = [105, 109, 103]
  · subst h3; decide +kernel
  have hv : voidL x = false := by
    unfold voidL
    rw [beq_eq_false_iff_ne.2 h1, beq_eq_false_iff_ne.2 h2, beq_eq_false_iff_ne.2 h3]
    rfl
  rw [hv]
  cases h : elemL x with
  | none => rfl
  | some r =>
    obtain ⟨c, m⟩ := r
    obtain ⟨k, hk, hc, e⟩ := elemF_mem x _ kindT h
    refine beq_eq_false_iff_ne.2 (fun hm => ?_)
    have h9 := (by decide +kernel : ∀ k ∈ kindT, k.2.2 = 9 → k.1 = [[98, 114], [105, 109, 103]] ∨ k.1 = [[104, 114]]) k hk (by rw [e]; show m = 9; omega)
    rcases h9 with e2 | e2
    · rw [e2] at hc
      simp at hc
      rcases hc with hc | hc
      · exact h1 hc
      · exact h3 hc
    · rw [e2] at hc
      simp at hc
      exact h2 hc

theorem elemVoid_any (a : Value) (c m : Nat) (w : World) : Calls Tryd.prog 122 #[.agg #[a, .int .i64 c, .int .i64 m]] w fun e w' => e = .returned (.bool ((m : Int) == 9)) ∧ Below w.heap.size w w' := by
  have hb := (Below.refl w.heap.size w).alloc (Nat.le_refl _) (.cells #[a, .int .i64 c, .int .i64 m] 140)
  have hn := heap_alloc_new w (.cells #[a, .int .i64 c, .int .i64 m] 140)
  have c2 := cell_at (j := 2) hn rfl
  go_enter Tryd.func122, Tryd.ntmps122
  go_wp2
  go_ret
  exact ⟨rfl, hb⟩
theorem isVoid_any (x : ByteArray) (w : World) (hT : KindsTab w) : Calls Tryd.prog 116 #[.string x] w fun e w' => e = .returned (.bool (voidL x.toList)) ∧ Below w.heap.size w w' := by
  have hf := find_any x w hT
  rw [← void_elem]
  obtain ⟨o, ho⟩ : ∃ o, elemL x.toList = o := ⟨_, rfl⟩
  rw [ho] at hf ⊢
  have HF := hid hf
  have HV := hid (fun a c m w => elemVoid_any a c m w)
  clear hf ho
  go_enter Tryd.func116, Tryd.ntmps116
  go_wp2_with fail
  refine HF.out.mono ?_
  rintro r W1 ⟨rfl, b1⟩
  cases o with
  | none =>
    unfold foundV zeroE
    have hb2 := (Below.refl W1.heap.size W1).alloc (Nat.le_refl _) (.cells #[.string ⟨#[]⟩, .int .i64 0, .int .i64 0] 140)
    have hl := elem_load (heap_alloc_new W1 (.cells #[.string ⟨#[]⟩, .int .i64 0, .int .i64 0] 140))
    have HB := hid (b1.trans (hb2.mono b1.size))
    have hsz := b1.size
    clear b1 hb2
    go_wp2_with (go_at_call 122; refine (HV.out _ 0 0 _).mono ?_; rintro r W3 ⟨rfl, b3⟩)
    have HZ := hid (HB.out.trans (b3.mono HB.out.size))
    clear b3 HB
    go_ret
    exact ⟨rfl, HZ.out⟩
  | some q =>
    obtain ⟨c, m⟩ := q
    unfold foundV elemC
    have hb2 := (Below.refl W1.heap.size W1).alloc (Nat.le_refl _) (.cells #[.string (bs x.toList), .int .i64 c, .int .i64 m] 140)
    have hl := elem_load (heap_alloc_new W1 (.cells #[.string (bs x.toList), .int .i64 c, .int .i64 m] 140))
    have HB := hid (b1.trans (hb2.mono b1.size))
    have hsz := b1.size
    clear b1 hb2
    go_wp2_with (go_at_call 122; refine (HV.out _ c m _).mono ?_; rintro r W3 ⟨rfl, b3⟩)
    have HZ := hid (HB.out.trans (b3.mono HB.out.size))
    clear b3 HB
    go_ret
    exact ⟨rfl, HZ.out⟩
theorem refVoid_any (x : ByteArray) (w : World) : Calls Tryd.prog 74 #[.string x] w fun e w' => e = .returned (.bool (voidL x.toList)) ∧ w' = w := by
  unfold voidL
  by_cases h1 : (x.toList == [98, 114]) = true
  · rw [h1, Bool.true_or]
    go_enter Tryd.func74, Tryd.ntmps74
    go_wp2
    go_ret
    exact ⟨rfl, rfl⟩
  rw [Bool.not_eq_true] at h1
  rw [h1, Bool.false_or]
  by_cases h2 : (x.toList == [104, 114]) = true
  · rw [h2, Bool.true_or]
    go_enter Tryd.func74, Tryd.ntmps74
    go_wp2
    go_ret
    exact ⟨rfl, rfl⟩
  rw [Bool.not_eq_true] at h2
  rw [h2, Bool.false_or]
  go_enter Tryd.func74, Tryd.ntmps74
  go_wp2
  go_ret
  exact ⟨rfl, rfl⟩
end Go.Proofs.YtkcgmimldjeaiaaDoor

/-
  What the writer escapes, as a plain function, and that the decoder gives it back.
-/
namespace Go.Proofs.YtkcgmimldjeaiaaDoor
open Go.Lib

theorem index_skip (c : UInt8) (r sub : List UInt8) (h : sub.isPrefixOf (c :: r) = false) : index (c :: r) sub = if index r sub = -1 then -1 else index r sub + 1 := by
  conv => lhs; unfold index
  rw [h]
  by_cases hh : index r sub = -1 <;> simp [hh]
theorem num_all (s old : List UInt8) : replaceNum s old (-1) = count s old := if_pos (.inl (by decide))
theorem rep_nil {old new : List UInt8} (h0 : old ≠ []) : replaceAll [] old new = [] := by
  have hi : index [] old = -1 := by
    cases old with
    | nil => exact absurd rfl h0
    | cons a t => rfl
  unfold replaceAll replace
  rw [num_all, count_miss hi]
  split <;> rfl
theorem rep_hit {old new : List UInt8} (h0 : old ≠ []) (hn : (old == new) = false) (r : List UInt8) : replaceAll (old ++ r) old new = new ++ replaceAll r old new := by
  have hi : index (old ++ r) old = (0 : Nat) := by
    cases old with
    | nil => exact absurd rfl h0
    | cons a t =>
      show index (a :: (t ++ r)) (a :: t) = 0
      unfold index
      rw [if_pos]
      exact List.isPrefixOf_iff_prefix.2 ⟨r, rfl⟩
  have hd : (old ++ r).drop (0 + old.length) = r := by rw [Nat.zero_add, List.drop_left]
  unfold replaceAll replace
  rw [hn, num_all, num_all, count_hit h0 hi, hd, Nat.add_comm 1]
  simp only [Bool.false_eq_true, if_false]
  rw [replaceK_hit old new _ _ 0 hi, hd]
  rfl
theorem rep_skip {old new : List UInt8} (h0 : old ≠ []) (hn : (old == new) = false) (c : UInt8) (r : List UInt8) (hp : old.isPrefixOf (c :: r) = false) : replaceAll (c :: r) old new = c :: replaceAll r old new := by
  have hx := index_skip c r old hp
  unfold replaceAll replace
  rw [hn, num_all, num_all]
  simp only [Bool.false_eq_true, if_false]
  by_cases hm : index r old = -1
  · rw [if_pos hm] at hx
    rw [count_miss hx, count_miss hm]
    rfl
  · rw [if_neg hm] at hx
    obtain ⟨i, hi⟩ : ∃ i : Nat, index r old = i := ⟨(index r old).toNat, by have := index_ge r old; omega⟩
    have hi1 : index (c :: r) old = (i + 1 : Nat) := by rw [hx, hi]; rfl
    have hd : (c :: r).drop (i + 1 + old.length) = r.drop (i + old.length) := by rw [show i + 1 + old.length = (i + old.length) + 1 by omega, List.drop_succ_cons]
    rw [count_hit h0 hi1, count_hit h0 hi, hd, Nat.add_comm 1, replaceK_hit old new _ _ (i + 1) hi1, replaceK_hit old new _ _ i hi, hd]
    rfl

/-! ## one byte replaced -/

theorem rep_one {x : UInt8} {new : List UInt8} (hn : ([x] == new) = false) : ∀ s : List UInt8, replaceAll s [x] new = s.flatMap fun c => if c = x then new else [c]
  | [] => rep_nil (by simp)
  | c :: r => by
    rw [List.flatMap_cons]
    by_cases hc : c = x
    · subst hc
      rw [if_pos rfl, ← rep_one hn r]
      exact rep_hit (by simp) hn r
    · rw [if_neg hc, ← rep_one hn r]
      exact rep_skip (by simp) hn c r (by simp [List.isPrefixOf]; exact fun h => hc h.symm)

def ampE : List UInt8 := [38, 97, 109, 112, 59]
def ltE : List UInt8 := [38, 108, 116, 59]
def gtE : List UInt8 := [38, 103, 116, 59]
def quotE : List UInt8 := [38, 113, 117, 111, 116, 59]
def nbspE : List UInt8 := [38, 110, 98, 115, 112, 59]
def esc1 (q : Bool) (c : UInt8) : List UInt8 := if c = 38 then ampE else if c = 60 then ltE else if c = 62 then gtE else if q = true ∧ c = 34 then quotE else [c]
def escL (q : Bool) : List UInt8 → List UInt8
  | [] => []
  | c :: r => if c = 194 ∧ r.head? = some 160 then nbspE ++ escL q (r.drop 1) else esc1 q c ++ escL q r
termination_by s => s.length
decreasing_by all_goals (simp; try omega)
/-- what package written does -/
def textE (s : List UInt8) : List UInt8 := replaceAll (replaceAll (replaceAll (replaceAll s [38] ampE) [60] ltE) [62] gtE) [194, 160] nbspE
def valueE (s : List UInt8) : List UInt8 := replaceAll (textE s) [34] quotE
theorem three (s : List UInt8) : replaceAll (replaceAll (replaceAll s [38] ampE) [60] ltE) [62] gtE = s.flatMap (esc1 false) := by
  rw [rep_one (by decide), rep_one (by decide), rep_one (by decide), List.flatMap_assoc, List.flatMap_assoc]
  congr 1
  funext c
  unfold esc1
  by_cases h1 : c = 38
  · subst h1; rfl
  · by_cases h2 : c = 60
    · subst h2; rfl
    · by_cases h3 : c = 62
      · subst h3; rfl
      · simp [h1, h2, h3]
theorem rep2_ahead : ∀ (a b : List UInt8), (∀ c ∈ a, c ≠ 194) → replaceAll (a ++ b) [194, 160] nbspE = a ++ replaceAll b [194, 160] nbspE
  | [], _, _ => rfl
  | c :: a, b, h => by
    have hc : ¬ 194 = c := fun e => h c (.head _) e.symm
    rw [List.cons_append, rep_skip (by simp) (by decide) c _ (by simp [List.isPrefixOf, hc]), rep2_ahead a b (fun d hd => h d (.tail _ hd))]
    rfl
theorem esc1_head (q : Bool) (c : UInt8) (h : c ≠ 160) (r : List UInt8) : (esc1 q c ++ r).head? ≠ some 160 := by
  unfold esc1
  repeat' split
  all_goals simp [ampE, ltE, gtE, quotE]
  exact h
theorem textE_eq : ∀ (n : Nat) (s : List UInt8), s.length ≤ n → textE s = escL false s
  | _, [], _ => by
    unfold textE
    rw [three, escL]
    exact rep_nil (by simp)
  | 0, c :: r, h => by simp at h
  | n + 1, c :: r, h => by
    simp only [List.length_cons] at h
    unfold textE
    rw [three, escL, List.flatMap_cons]
    by_cases h1 : c = 194 ∧ r.head? = some 160
    · obtain ⟨rfl, h2⟩ := h1
      rw [if_pos ⟨rfl, h2⟩]
      cases r with
      | nil => cases h2
      | cons d t =>
        simp only [List.head?_cons, Option.some.injEq] at h2
        subst h2
        have ih := textE_eq n t (by simp at h; omega)
        unfold textE at ih
        rw [three] at ih
        rw [List.drop_succ_cons, List.drop_zero, ← ih, List.flatMap_cons]
        exact rep_hit (by simp) (by decide) _
    · rw [if_neg h1]
      have ih := textE_eq n r (by omega)
      unfold textE at ih
      rw [three] at ih
      rw [← ih]
      by_cases hc : c = 194
      · subst hc
        have h2 : (r.flatMap (esc1 false)).head? ≠ some 160 := by
          cases r with
          | nil => simp
          | cons d t =>
            rw [List.flatMap_cons]
            exact esc1_head false d (fun e => h1 ⟨rfl, by rw [e]; rfl⟩) _
        show replaceAll (194 :: _) _ _ = 194 :: _
        refine rep_skip (by simp) (by decide) 194 _ ?_
        cases hf : r.flatMap (esc1 false) with
        | nil => rfl
        | cons d t =>
          rw [hf] at h2
          have h3 : ¬ 160 = d := fun e => h2 (by rw [e]; rfl)
          simp [List.isPrefixOf, h3]
      · refine rep2_ahead _ _ (fun d hd => ?_)
        unfold esc1 at hd
        rintro rfl
        revert hd
        repeat' split
        all_goals simp [ampE, ltE, gtE, quotE]
        exact fun e => hc e.symm
theorem valueE_eq (s : List UInt8) : valueE s = escL true s := by
  unfold valueE
  rw [textE_eq _ s (Nat.le_refl _), rep_one (by decide)]
  have main : ∀ (n : Nat) (s : List UInt8), s.length ≤ n → (escL false s).flatMap (fun c => if c = 34 then quotE else [c]) = escL true s := by
    intro n
    induction n with
    | zero =>
      intro s h
      cases s with
      | nil => rw [escL, escL]; rfl
      | cons c r => simp at h
    | succ n ih =>
      intro s h
      cases s with
      | nil => rw [escL, escL]; rfl
      | cons c r =>
        simp only [List.length_cons] at h
        rw [escL, escL]
        split
        · rw [List.flatMap_append, ih _ (by simp; omega)]
          rfl
        · rw [List.flatMap_append, ih r (by omega)]
          congr 1
          unfold esc1
          by_cases h1 : c = 38
          · subst h1; rfl
          · by_cases h2 : c = 60
            · subst h2; rfl
            · by_cases h3 : c = 62
              · subst h3; rfl
              · by_cases h4 : c = 34
                · subst h4; rfl
                · simp [h1, h2, h3, h4]
  exact main _ s (Nat.le_refl _)

/-! ## the decoder gives it back -/

theorem back_of {attr : Bool} {k : List UInt8} {n : Nat} {z : Int} {b : List UInt8} (r : List UInt8) (hn : nameL (k ++ r) = (n, z)) (hz : n ≠ 0) (hl : k.length = n) (h35 : (k ++ r)[0]? ≠ some 35) (h59 : (k ++ r)[n - 1]? = some 59) (hb : encodeRune z = b) : unr attr (38 :: (k ++ r)) = b ++ unr attr r := by
  have hr : refL attr (k ++ r) = (n, z) := by
    unfold refL
    rw [if_neg h35, hn]
    rw [if_neg (fun h => h.2.2.1 h59)]
  rw [unr_amp]
  unfold oneL
  rw [hr]
  simp only
  rw [if_neg hz, hb, ← hl, List.drop_left]
theorem back_amp (attr : Bool) (r : List UInt8) : unr attr (ampE ++ r) = 38 :: unr attr r := back_of (k := [97, 109, 112, 59]) (n := 4) (z := 38) (b := [38]) r (by kernel_rfl) (by decide) rfl (by simp) (by simp) (by kernel_rfl)
theorem back_lt (attr : Bool) (r : List UInt8) : unr attr (ltE ++ r) = 60 :: unr attr r := back_of (k := [108, 116, 59]) (n := 3) (z := 60) (b := [60]) r (by kernel_rfl) (by decide) rfl (by simp) (by simp) (by kernel_rfl)
theorem back_gt (attr : Bool) (r : List UInt8) : unr attr (gtE ++ r) = 62 :: unr attr r := back_of (k := [103, 116, 59]) (n := 3) (z := 62) (b := [62]) r (by kernel_rfl) (by decide) rfl (by simp) (by simp) (by kernel_rfl)
theorem back_quot (attr : Bool) (r : List UInt8) : unr attr (quotE ++ r) = 34 :: unr attr r := back_of (k := [113, 117, 111, 116, 59]) (n := 5) (z := 34) (b := [34]) r (by kernel_rfl) (by decide) rfl (by simp) (by simp) (by kernel_rfl)
theorem back_nbsp (attr : Bool) (r : List UInt8) : unr attr (nbspE ++ r) = 194 :: 160 :: unr attr r := back_of (k := [110, 98, 115, 112, 59]) (n := 5) (z := 160) (b := [194, 160]) r (by kernel_rfl) (by decide) rfl (by simp) (by simp) (by kernel_rfl)
theorem esc_back (attr q : Bool) : ∀ (n : Nat) (s : List UInt8), s.length ≤ n → unr attr (escL q s) = s
  | _, [], _ => by rw [escL]; rfl
  | 0, c :: r, h => by simp at h
  | n + 1, c :: r, h => by
    simp only [List.length_cons] at h
    rw [escL]
    split
    · rename_i h1
      obtain ⟨rfl, h2⟩ := h1
      cases r with
      | nil => cases h2
      | cons d t =>
        simp only [List.head?_cons, Option.some.injEq] at h2
        subst h2
        rw [back_nbsp, esc_back attr q n _ (by simp at h ⊢; omega)]
        rfl
    · have ih := esc_back attr q n r (by omega)
      unfold esc1
      split
      · rename_i e; rw [back_amp, ih, e]
      · split
        · rename_i e; rw [back_lt, ih, e]
        · split
          · rename_i e; rw [back_gt, ih, e]
          · split
            · rename_i e; rw [back_quot, ih, e.2]
            · rename_i h1 _ _ _
              show unr attr (c :: escL q r) = _
              rw [unr_other attr c _ h1, ih]
theorem esc_signs (q : Bool) : ∀ (n : Nat) (s : List UInt8), s.length ≤ n → ∀ c ∈ escL q s, c ≠ 60 ∧ c ≠ 62 ∧ (q = true → c ≠ 34)
  | _, [], _ => by rw [escL]; intro c hc; cases hc
  | 0, c :: r, h => by simp at h
  | n + 1, c :: r, h => by
    simp only [List.length_cons] at h
    rw [escL]
    intro d hd
    split at hd
    · rcases List.mem_append.1 hd with h1 | h1
      · revert h1
        simp only [nbspE, List.mem_cons, List.not_mem_nil, or_false]
        rintro (rfl | rfl | rfl | rfl | rfl | rfl) <;> simp
      · exact esc_signs q n _ (by simp; omega) d h1
    · rcases List.mem_append.1 hd with h1 | h1
      · revert h1
        unfold esc1
        split
        · simp only [ampE, List.mem_cons, List.not_mem_nil, or_false]
          rintro (rfl | rfl | rfl | rfl | rfl) <;> simp
        · split
          · simp only [ltE, List.mem_cons, List.not_mem_nil, or_false]
            rintro (rfl | rfl | rfl | rfl) <;> simp
          · split
            · simp only [gtE, List.mem_cons, List.not_mem_nil, or_false]
              rintro (rfl | rfl | rfl | rfl) <;> simp
            · split
              · simp only [quotE, List.mem_cons, List.not_mem_nil, or_false]
                rintro (rfl | rfl | rfl | rfl | rfl | rfl) <;> simp
              · rename_i h2 h3 h4 h5
                rw [List.mem_singleton]
                rintro rfl
                exact ⟨h3, h4, fun hq e => h5 ⟨hq, e⟩⟩
      · exact esc_signs q n _ (by omega) d h1
end Go.Proofs.YtkcgmimldjeaiaaDoor

/-
  Package written: Text, EndTag, and a value as a start tag has it: their walks.
-/
namespace Go.Proofs.YtkcgmimldjeaiaaDoor
open Go.RowKit Go.Lib Own

theorem rep_len {x : UInt8} {new : List UInt8} (hn : ([x] == new) = false) (h1 : 1 ≤ new.length) (s : List UInt8) : s.length ≤ (replaceAll s [x] new).length := by
  rw [rep_one hn]
  induction s with
  | nil => simp
  | cons c r ih =>
    rw [List.flatMap_cons, List.length_append, List.length_cons]
    split
    · omega
    · rw [List.length_singleton]; omega
theorem three_len (s : List UInt8) : (replaceAll (replaceAll (replaceAll s [38] ampE) [60] ltE) [62] gtE).length ≤ 5 * s.length := by
  rw [three]
  induction s with
  | nil => simp
  | cons c r ih =>
    rw [List.flatMap_cons, List.length_append, List.length_cons]
    have : (esc1 false c).length ≤ 5 := by
      unfold esc1
      repeat' split
      all_goals try simp [ampE, ltE, gtE]
      rename_i h
      exact absurd h.1 (by decide)
    omega
theorem esc_len (q : Bool) : ∀ (n : Nat) (s : List UInt8), s.length ≤ n → (escL q s).length ≤ 6 * s.length
  | _, [], _ => by rw [escL]; simp
  | 0, c :: r, h => by simp at h
  | n + 1, c :: r, h => by
    simp only [List.length_cons] at h
    rw [escL]
    split
    · have := esc_len q n (r.drop 1) (by simp; omega)
      rw [List.length_append, List.length_cons]
      simp [nbspE] at this ⊢
      omega
    · have := esc_len q n r (by omega)
      have h2 : (esc1 q c).length ≤ 6 := by
        unfold esc1
        repeat' split
        all_goals simp [ampE, ltE, gtE, quotE]
      rw [List.length_append, List.length_cons]
      omega
theorem count_le (s old : ByteArray) (h1 : 1 ≤ old.size) : countB s old ≤ s.size := Nat.le_trans (Nat.le_mul_of_pos_right _ h1) (countB_mul_le old h1 s.size s (Nat.le_refl _))
/-- one replacing of a text that is not too long -/
theorem repl_any (s : ByteArray) (old new : List UInt8) (m : Int) (w : World) (hs : s.size ≤ 1000000000) (hm : w.cell? ⟨10, 0, none⟩ = some (.int .i64 m)) (h1 : 1 ≤ old.length) (h2 : new.length ≤ 6) :
    Calls Tryd.prog 130 #[.string s, .string (bs old), .string (bs new)] w fun e w' => e = .returned (.string (bs (replaceAll s.data.toList old new))) ∧ Below w.heap.size w w' := by
  have hc := count_le s (bs old) (by rw [bs_size]; exact h1)
  have h3 : countB s (bs old) * (bs new).size ≤ s.size * 6 := Nat.mul_le_mul hc (by rw [bs_size]; exact h2)
  exact Tryd.strings_ReplaceAll s (bs old) (bs new) m w (by omega) hm (by rw [bs_size]; exact h1) (by omega)

set_option maxHeartbeats 1000000 in
theorem wrText_any (s : ByteArray) (m : Int) (w : World) (hs : s.size ≤ 100000000) (hm : w.cell? ⟨10, 0, none⟩ = some (.int .i64 m)) :
    Calls Tryd.prog 131 #[.string s] w fun e w' => e = .returned (.string (bs (escL false s.data.toList))) ∧ Below w.heap.size w w' := by
  have hz := size_eq s
  have l1 := rep_len (x := 60) (new := ltE) (by decide) (by decide) (replaceAll s.data.toList [38] ampE)
  have l2 := rep_len (x := 62) (new := gtE) (by decide) (by decide) (replaceAll (replaceAll s.data.toList [38] ampE) [60] ltE)
  have l3 := three_len s.data.toList
  have ht := textE_eq _ s.data.toList (Nat.le_refl _)
  unfold textE at ht
  obtain ⟨r1, hr1⟩ : ∃ r1, replaceAll s.data.toList [38] ampE = r1 := ⟨_, rfl⟩
  have c1 := repl_any s [38] ampE m w (by omega) hm (by decide) (by decide)
  rw [hr1] at l1 l2 l3 ht c1
  obtain ⟨r2, hr2⟩ : ∃ r2, replaceAll r1 [60] ltE = r2 := ⟨_, rfl⟩
  have c2 := fun W hW => repl_any (bs r1) [60] ltE m W (by rw [bs_size]; omega) hW (by decide) (by decide)
  rw [bs_data] at c2
  rw [hr2] at l1 l2 l3 ht c2
  obtain ⟨r3, hr3⟩ : ∃ r3, replaceAll r2 [62] gtE = r3 := ⟨_, rfl⟩
  have c3 := fun W hW => repl_any (bs r2) [62] gtE m W (by rw [bs_size]; omega) hW (by decide) (by decide)
  rw [bs_data] at c3
  rw [hr3] at l2 l3 ht c3
  have c4 := fun W hW => repl_any (bs r3) [194, 160] nbspE m W (by rw [bs_size]; omega) hW (by decide) (by decide)
  rw [bs_data, ht] at c4
  have C1 := hid c1
  have C2 := hid c2
  have C3 := hid c3
  have C4 := hid c4
  have HM := hid hm
  clear c1 c2 c3 c4 l1 l2 l3 ht hr1 hr2 hr3 hz hm
  obtain ⟨R, hR⟩ : ∃ R, bs (escL false s.data.toList) = R := ⟨_, rfl⟩
  obtain ⟨R1, hR1⟩ : ∃ R, bs r1 = R := ⟨_, rfl⟩
  obtain ⟨R2, hR2⟩ : ∃ R, bs r2 = R := ⟨_, rfl⟩
  obtain ⟨R3, hR3⟩ : ∃ R, bs r3 = R := ⟨_, rfl⟩
  rw [hR] at C4 ⊢
  rw [hR1] at C1 C2
  rw [hR2] at C2 C3
  rw [hR3] at C3 C4
  clear hR hR1 hR2 hR3
  unfold bs ampE ltE gtE nbspE at *
  go_enter Tryd.func131, Tryd.ntmps131
  go_wp2_with fail
  refine C1.out.mono ?_
  rintro e w1 ⟨rfl, b1⟩
  have m1 := cell_low HM.out b1 (cell_block HM.out)
  go_wp2_with fail
  refine (C2.out w1 m1).mono ?_
  rintro e w2 ⟨rfl, b2⟩
  have m2 := cell_low m1 b2 (cell_block m1)
  go_wp2_with fail
  refine (C3.out w2 m2).mono ?_
  rintro e w3 ⟨rfl, b3⟩
  have m3 := cell_low m2 b3 (cell_block m2)
  go_wp2_with fail
  refine (C4.out w3 m3).mono ?_
  rintro e w4 ⟨rfl, b4⟩
  have hb := ((b1.trans (b2.mono b1.size)).trans (b3.mono (b1.trans (b2.mono b1.size)).size)).trans (b4.mono ((b1.trans (b2.mono b1.size)).trans (b3.mono (b1.trans (b2.mono b1.size)).size)).size)
  clear b1 b2 b3 b4 m1 m2 m3
  go_wp2
  go_ret
  exact ⟨rfl, hb⟩

/-- an end tag -/
def etagL (n : List UInt8) : List UInt8 := [60, 47] ++ n ++ [62]
theorem wrEnd_any (n : ByteArray) (w : World) (hs : n.size ≤ 100000000) :
    Calls Tryd.prog 114 #[.string n] w fun e w' => e = .returned (.string (bs (etagL n.data.toList))) ∧ w' = w := by
  have hr : (⟨#[60, 47]⟩ : ByteArray) ++ n ++ ⟨#[62]⟩ = bs (etagL n.data.toList) := by
    rw [show (⟨#[60, 47]⟩ : ByteArray) = bs [60, 47] from rfl, show (⟨#[62]⟩ : ByteArray) = bs [62] from rfl, cat_bs, bs_cat]
    rfl
  rw [← hr]
  go_enter Tryd.func114, Tryd.ntmps114
  go_wp2
  go_ret
  exact ⟨rfl, rfl⟩
end Go.Proofs.YtkcgmimldjeaiaaDoor

/-
  Package written: a start tag: its walk.
-/
namespace Go.Proofs.YtkcgmimldjeaiaaDoor
open Go.RowKit Go.Lib Own

def attrL (a : AttrP) : List UInt8 := [32] ++ a.1 ++ [61, 34] ++ escL true a.2 ++ [34]
def openL (n : List UInt8) (al : List AttrP) : List UInt8 := [60] ++ n ++ al.flatMap attrL ++ [62]
theorem attrs_len : ∀ al : List AttrP, (al.flatMap attrL).length ≤ 6 * bulkA al
  | [] => by simp
  | a :: r => by
    have := attrs_len r
    have h2 := esc_len true _ a.2 (Nat.le_refl _)
    rw [List.flatMap_cons, List.length_append, bulkA_cons]
    have h3 : (attrL a).length = 4 + a.1.length + (escL true a.2).length := by
      unfold attrL
      simp only [List.length_append, List.length_cons, List.length_nil]
      omega
    omega
theorem attr_str (a : AttrP) (b : ByteArray) : (⟨#[32]⟩ : ByteArray) ++ b ++ ⟨#[61, 34]⟩ ++ bs (escL true a.2) ++ ⟨#[34]⟩ = bs ([32] ++ b.data.toList ++ [61, 34] ++ escL true a.2 ++ [34]) := by
  rw [show (⟨#[32]⟩ : ByteArray) = bs [32] from rfl, show (⟨#[61, 34]⟩ : ByteArray) = bs [61, 34] from rfl, show (⟨#[34]⟩ : ByteArray) = bs [34] from rfl, cat_bs, bs_cat, bs_cat, bs_cat]
theorem value_eq (s : List UInt8) : replaceAll (escL false s) [34] quotE = escL true s := by
  rw [← valueE_eq]
  unfold valueE
  rw [textE_eq _ s (Nat.le_refl _)]

set_option maxHeartbeats 4000000 in
set_option maxRecDepth 100000 in
theorem startTag_any (n : ByteArray) (u : Value) (al : List AttrP) (m : Int) (w : World) (hn : n.size ≤ 100000000) (h : AttrsR w u al) (hb : bulkA al ≤ 100000000) (hm : w.cell? ⟨10, 0, none⟩ = some (.int .i64 m)) :
    Calls Tryd.prog 110 #[.string n, u] w fun e w' => e = .returned (.string (bs (openL n.data.toList al))) ∧ Below w.heap.size w w' := by
  obtain ⟨p, c, rfl, hl, hcm, hcell, _⟩ := h
  have hnz := size_eq n
  have hlen := attrs_len al
  have hal := bulkA_len al
  obtain ⟨R, hR⟩ : ∃ R, [60] ++ n.data.toList ++ al.flatMap attrL = R := ⟨_, rfl⟩
  have hRl : R.length ≤ 700000001 := by rw [← hR]; simp only [List.length_append, List.length_cons, List.length_nil]; omega
  have ho : openL n.data.toList al = R ++ [62] := by unfold openL; rw [hR]
  rw [ho]
  have HR := hid (fun (_ : True) => hR)
  have HC := hid hcell
  have HM := hid hm
  have HB := hid hb
  have hstr : (⟨#[60]⟩ : ByteArray) ++ n = bs ([60] ++ n.data.toList) := cat_bs [60] n
  have HS := hid (fun (_ : True) => hstr)
  have HRL := hid hRl
  clear hcell hR ho hm hb hlen hstr hnz hal hRl
  go_enter Tryd.func110, Tryd.ntmps110
  go_wp2_with fail
  rw [HS.out trivial]
  refine (Tryd.Builder_WriteString_k w.heap.size w.heap.size (Lib.byteCells []) (bs ([60] ++ n.data.toList)) _ (builder_new w _ _) (by rw [bs_size]; simp only [List.length_append, List.length_cons, List.length_nil, Lib.byteCells_length]; rw [← size_eq]; omega) (by simp)).mono ?_
  rintro e W1 ⟨rfl, g1, g2, g3⟩
  have H1 : Hid (Lib.IsBuilderF 59 5 w.heap.size w.heap.size (Lib.byteCells ([60] ++ n.data.toList)) W1 ∧ Below w.heap.size w W1 ∧ w.heap.size < W1.heap.size) :=
    ⟨by rw [← List.nil_append ([60] ++ n.data.toList), Lib.byteCells_append, ← bs_data ([60] ++ n.data.toList), ← strCells_byte]; exact Or.inr g1, Below.trans (b := w.alloc (.cells #[.pointer none, .slice none 0 0] 59)) ((Below.refl _ w).alloc (Nat.le_refl _) _) g2, by have := g2.size; simp at this; omega⟩
  clear g1 g2 g3 HS
  go_wp2_with fail
  go_loopw [14] (fun iv wr => ∃ (k : Nat) (acc : List UInt8), iv = .int .i64 k ∧ k ≤ al.length ∧ Hid (Lib.IsBuilderF 59 5 w.heap.size w.heap.size (Lib.byteCells acc) wr ∧ Below w.heap.size w wr ∧ w.heap.size < wr.heap.size) ∧ Hid (True → acc ++ (al.drop k).flatMap attrL = R)) (fun iv _ => al.length - (RowKit.intOf iv).toNat)
  case atStart => exact ⟨0, [60] ++ n.data.toList, rfl, Nat.zero_le _, H1, HR⟩
  case round =>
    obtain ⟨k, acc, rfl, hk, HX, HK⟩ := hrel
    by_cases hkl : k < al.length
    · obtain ⟨a, ha⟩ : ∃ a, al[k]? = some a := ⟨_, List.getElem?_eq_getElem hkl⟩
      obtain ⟨b, o, rfl, hc1, hc2⟩ := HC.out k a ha
      replace hc1 := cell_low hc1 HX.out.2.1 (cell_block hc1)
      replace hc2 := cell_low hc2 HX.out.2.1 (cell_block hc2)
      have hab := bulkA_get ha
      have hd := HK.out trivial
      rw [drop_at ha, List.flatMap_cons] at hd
      have hdl := congrArg List.length hd
      have hRl := HRL.out
      have hBl := HB.out
      simp only [List.length_append] at hdl
      have hp : (attrL a).length = 4 + a.1.length + (escL true a.2).length := by
        unfold attrL
        simp only [List.length_append, List.length_cons, List.length_nil]
        omega
      have hal : acc.length + (attrL a).length ≤ 700000001 := by omega
      have ct := fun W hW => wrText_any (bs a.2) m W (by rw [bs_size]; omega) hW
      have cq := fun W hW => repl_any (bs (escL false a.2)) [34] quotE m W (by rw [bs_size]; have := esc_len false _ a.2 (Nat.le_refl _); omega) hW (by decide) (by decide)
      rw [bs_data] at ct cq
      rw [value_eq] at cq
      obtain ⟨E1, hE1⟩ : ∃ E1, bs (escL false a.2) = E1 := ⟨_, rfl⟩
      obtain ⟨E2, hE2⟩ : ∃ E2, bs (escL true a.2) = E2 := ⟨_, rfl⟩
      obtain ⟨S1, hS1⟩ : ∃ S, bs a.1 = S := ⟨_, rfl⟩
      obtain ⟨S2, hS2⟩ : ∃ S, bs a.2 = S := ⟨_, rfl⟩
      have hst := attr_str a S1
      rw [hE1] at ct cq
      rw [hE2] at cq hst
      rw [hS2] at ct hc2
      rw [hS1] at hc1
      have hs1 : S1.data.toList = a.1 := by rw [← hS1]; rfl
      rw [hs1] at hst
      have hz1 : S1.size ≤ 100000000 := by rw [size_eq, hs1]; omega
      have hz2 : E2.size ≤ 1000000000 := by rw [← hE2, bs_size]; omega
      have HST := hid (fun (_ : True) => hst)
      have CT := hid ct
      have CQ := hid cq
      unfold bs quotE at CQ
      have HAL := hid hal
      have HD := hid (fun (_ : True) => hd)
      have HM1 := hid (cell_low HM.out HX.out.2.1 (cell_block HM.out))
      clear ct cq hst hE1 hE2 hS1 hS2 hs1 hd hdl hRl hBl hp hal hab ha HK HC
      have hB1 := (Below.refl wr.heap.size wr).alloc (Nat.le_refl _) (.cells #[.string S1, .string S2] 101)
      have HB1 := hid (And.intro hB1 (heap_alloc_new wr (.cells #[.string S1, .string S2] 101)))
      clear hB1
      go_wp2_with fail
      refine (CT.out _ (cell_low HM1.out HB1.out.1 (cell_block HM1.out))).mono ?_
      rintro e W2 ⟨rfl, b2⟩
      have hat2 := (b2.block _ (block_lt HB1.out.2)).trans HB1.out.2
      have m2 := cell_low (cell_low HM1.out HB1.out.1 (cell_block HM1.out)) b2 (by have := cell_block HM1.out; simp; omega)
      have hbw2 := HB1.out.1.trans (b2.mono HB1.out.1.size)
      clear b2
      go_wp2_with fail
      refine (CQ.out _ m2).mono ?_
      rintro e W3 ⟨rfl, b3⟩
      have hat3 := (b3.block _ (block_lt hat2)).trans hat2
      have c3 := cell_at hat3 (j := 0) rfl
      have hbw3 := hbw2.trans (b3.mono hbw2.size)
      have I3 := hid (And.intro (builder_below HX.out.1 hbw3) (And.intro (HX.out.2.1.trans (hbw3.mono HX.out.2.1.size)) (Nat.lt_of_lt_of_le HX.out.2.2 hbw3.size)))
      clear b3 hat2 m2 hbw2 hat3 hbw3 HX HB1
      go_wp2_with fail
      rw [HST.out trivial]
      refine (Tryd.Builder_WriteString_k w.heap.size w.heap.size (Lib.byteCells acc) (bs (attrL a)) _ I3.out.1 (by rw [Lib.byteCells_length, bs_size]; have := HAL.out; omega) (by have := I3.out.2.2; omega)).mono ?_
      rintro e W4 ⟨rfl, g1, g2, g3⟩
      have HZ : Hid (Lib.IsBuilderF 59 5 w.heap.size w.heap.size (Lib.byteCells (acc ++ attrL a)) W4 ∧ Below w.heap.size w W4 ∧ w.heap.size < W4.heap.size) :=
        ⟨by rw [Lib.byteCells_append, ← bs_data (attrL a), ← strCells_byte]; exact Or.inr g1, I3.out.2.1.trans g2, by have := g2.size; have := I3.out.2.2; omega⟩
      have HE := hid (fun (_ : True) => (by have := HD.out trivial; rwa [← List.append_assoc] at this : (acc ++ attrL a) ++ (al.drop (k + 1)).flatMap attrL = R))
      clear g1 g2 g3 I3 HST HD HAL c3 CT CQ
      go_wp2_with fail
      go_roundw
      case rel => first | exact ⟨k + 1, _, rfl, by omega, HZ, HE⟩ | ((repeat apply Exists.intro); exact ⟨⟨k + 1, _, rfl, by omega, HZ, HE⟩, rfl⟩)
      case measure => simp [RowKit.intOf]; omega
    · obtain rfl : acc = R := by
        have := HK.out trivial
        rwa [List.drop_of_length_le (by omega), List.flatMap_nil, List.append_nil] at this
      have HRL2 := HRL
      clear HK HC H1
      go_wp2_with fail
      refine (Tryd.Builder_WriteString_k w.heap.size w.heap.size (Lib.byteCells acc) (bs [62]) _ HX.out.1 (by rw [Lib.byteCells_length, bs_size]; have := HRL.out; simp; omega) (by have := HX.out.2.2; omega)).mono ?_
      rintro e W4 ⟨rfl, g1, g2, g3⟩
      have HZ : Hid (Lib.IsBuilderF 59 5 w.heap.size w.heap.size (Lib.byteCells (acc ++ [62])) W4 ∧ Below w.heap.size w W4 ∧ w.heap.size < W4.heap.size) :=
        ⟨by rw [Lib.byteCells_append, ← bs_data [62], ← strCells_byte]; exact Or.inr g1, HX.out.2.1.trans g2, by have := g2.size; have := HX.out.2.2; omega⟩
      clear g1 g2 g3 HX
      go_wp2_with fail
      refine (Tryd.Builder_String_any_k w.heap.size w.heap.size (acc ++ [62]) _ HZ.out.1 (by have := HZ.out.2.2; omega)).mono ?_
      rintro e W5 ⟨rfl, _, g2, _⟩
      have HY := hid (HZ.out.2.1.trans g2)
      clear g2 HZ
      go_wp2_with fail
      go_ret
      exact ⟨rfl, HY.out⟩
end Go.Proofs.YtkcgmimldjeaiaaDoor

/-
  Filter as a plain function on events: one event at a time, a skip that is counted.
-/
namespace Go.Proofs.YtkcgmimldjeaiaaDoor
open Go.RowKit Go.Lib Own

def isLinkL (n : List UInt8) : Bool := n == [99, 105, 116, 101] || (n == [104, 114, 101, 102] || n == [115, 114, 99])
/-- the attributes that stay, behind those whose names were seen -/
def keptA (schemes listed : List (List UInt8)) : List (List UInt8) → List AttrP → List AttrP
  | _, [] => []
  | seen, a :: r => if listed.contains a.1 = false ∨ seen.contains a.1 = true then keptA schemes listed seen r else
    if isLinkL a.1 = true then (if (linkL schemes a.2).2 = true then (a.1, (linkL schemes a.2).1) :: keptA schemes listed (seen ++ [a.1]) r else keptA schemes listed (seen ++ [a.1]) r)
    else a :: keptA schemes listed (seen ++ [a.1]) r
/-- the attributes that the first rule of this name lists -/
def ruleL : List RuleP → List UInt8 → Option (List (List UInt8))
  | [], _ => none
  | r :: rs, n => if r.1 = n then some r.2 else ruleL rs n
/-- a Start that has a rule -/
def startF (P : PolP) (e : EvP) (listed : List (List UInt8)) : Option Ev :=
  if ((openL e.n (keptA P.schemes listed [] e.a)).length : Int) ≤ P.window then some (.start e.n (keptA P.schemes listed [] e.a)) else none
/-- a Start, by the rule of its name -/
def ruledF (P : PolP) (e : EvP) : Option Ev := match ruleL P.rules e.n with | none => none | some l => startF P e l
theorem ruledF_none {P : PolP} {e : EvP} (h : ruleL P.rules e.n = none) : ruledF P e = none := by unfold ruledF; rw [h]
theorem ruledF_some {P : PolP} {e : EvP} {l : List (List UInt8)} (h : ruleL P.rules e.n = some l) : ruledF P e = startF P e l := by unfold ruledF; rw [h]
/-- within a skip -/
def skipF (s : List UInt8 × Nat) (e : EvP) : Nat := if e.n = s.1 ∧ e.k = 1 then s.2 + 1 else if e.n = s.1 ∧ e.k = 2 then s.2 - 1 else s.2
/-- what is left of one event outside of a skip -/
def outL (P : PolP) (e : EvP) : Option Ev :=
  if e.k = 1 then ruledF P e
  else if e.k = 2 then (if (ruleL P.rules e.n).isSome = true then some (.stop e.n) else none)
  else if e.k = 3 then (if e.t = [] then none else some (.text e.t)) else none
def sieveL (P : PolP) (s : List UInt8 × Nat) (e : EvP) : (List UInt8 × Nat) × Option Ev :=
  if 0 < s.2 then ((s.1, skipF s e), none) else if e.k = 1 ∧ P.drop.contains e.n = true then ((e.n, 1), none) else (s, outL P e)
def filtL (P : PolP) : List UInt8 × Nat → List EvP → List Ev
  | _, [] => []
  | s, e :: r => (sieveL P s e).2.toList ++ filtL P (sieveL P s e).1 r
/-- how many events a skip takes -/
def dropN (n : List UInt8) : Nat → List EvP → Nat
  | _, [] => 0
  | c, e :: r => if c = 0 then 0 else 1 + dropN n (skipF (n, c) e) r
theorem dropN_le (n : List UInt8) : ∀ (es : List EvP) (c : Nat), dropN n c es ≤ es.length
  | [], _ => Nat.le_refl _
  | e :: r, c => by
    unfold dropN
    have := dropN_le n r (skipF (n, c) e)
    split
    · omega
    · simp only [List.length_cons]; omega
theorem filt_step (P : PolP) (s : List UInt8 × Nat) (e : EvP) (r : List EvP) : filtL P s (e :: r) = (sieveL P s e).2.toList ++ filtL P (sieveL P s e).1 r := rfl
theorem filt_zero (P : PolP) (n x : List UInt8) : ∀ es : List EvP, filtL P (n, 0) es = filtL P (x, 0) es
  | [] => rfl
  | e :: r => by
    rw [filt_step, filt_step]
    unfold sieveL
    rw [if_neg (Nat.lt_irrefl 0), if_neg (Nat.lt_irrefl 0)]
    split
    · rfl
    · rw [filt_zero P n x r]
theorem filt_skip (P : PolP) (n x : List UInt8) : ∀ (es : List EvP) (c : Nat), filtL P (n, c) es = filtL P (x, 0) (es.drop (dropN n c es))
  | [], c => by cases c <;> simp [filtL, dropN]
  | e :: r, 0 => by
    show _ = filtL P (x, 0) ((e :: r).drop 0)
    exact filt_zero P n x (e :: r)
  | e :: r, c + 1 => by
    rw [filt_step]
    unfold sieveL dropN
    rw [if_pos (Nat.succ_pos c), if_neg (Nat.succ_ne_zero c), Nat.add_comm 1, List.drop_succ_cons]
    exact filt_skip P n x r _
/-- Filter's answer -/
def filterP (P : PolP) (es : List EvP) : List Ev := filtL P ([], 0) es

/-! ## how long things are -/

theorem stripL_len (v : List UInt8) : (stripL v).length ≤ v.length := by
  unfold stripL rtrim
  have h1 := List.length_filter_le seenB v
  generalize v.filter seenB = f at h1
  have h2 : ∀ l : List UInt8, (l.dropWhile fun c => c == 32).length ≤ l.length := fun l => (List.dropWhile_sublist _).length_le
  have h3 := h2 ((f.drop (f.takeWhile [32].contains).length).reverse)
  rw [List.length_reverse] at h3 ⊢
  rw [List.length_drop] at h3
  omega
theorem linkL_len (schemes : List (List UInt8)) (v : List UInt8) : (linkL schemes v).1.length ≤ v.length := by
  unfold linkL
  split
  · simp
  · exact stripL_len v
theorem keptA_bulk (schemes listed : List (List UInt8)) : ∀ (al : List AttrP) (seen : List (List UInt8)), bulkA (keptA schemes listed seen al) ≤ bulkA al ∧ (keptA schemes listed seen al).length ≤ al.length
  | [], _ => ⟨Nat.le_refl _, Nat.le_refl _⟩
  | a :: r, seen => by
    have h1 := keptA_bulk schemes listed r seen
    have h2 := keptA_bulk schemes listed r (seen ++ [a.1])
    have h3 := linkL_len schemes a.2
    rw [bulkA_cons]
    unfold keptA
    simp only [List.length_cons]
    split
    · omega
    · split
      · split
        · rw [bulkA_cons]; simp only [List.length_cons]; omega
        · omega
      · rw [bulkA_cons]; simp only [List.length_cons]; omega
theorem sieve_opt (P : PolP) (s : List UInt8 × Nat) (e : EvP) : (sieveL P s e).2.toList.length ≤ 1 := by
  cases h : (sieveL P s e).2 <;> simp
theorem filt_len (P : PolP) : ∀ (es : List EvP) (s : List UInt8 × Nat), (filtL P s es).length ≤ es.length
  | [], _ => Nat.le_refl _
  | e :: r, s => by
    have h1 := filt_len P r (sieveL P s e).1
    have h2 := sieve_opt P s e
    rw [filt_step, List.length_append, List.length_cons]
    omega
theorem out_evA (P : PolP) (e : EvP) (v : Ev) (h : outL P e = some v) : (evA v).length ≤ e.a.length := by
  unfold outL at h
  split at h
  · unfold ruledF at h
    split at h
    · cases h
    · unfold startF at h
      split at h
      · cases h; exact (keptA_bulk _ _ _ _).2
      · cases h
  · split at h
    · split at h
      · cases h; exact Nat.zero_le _
      · cases h
    · split at h
      · split at h
        · cases h
        · cases h; exact Nat.zero_le _
      · cases h
theorem filt_evA (P : PolP) (N : Nat) : ∀ (es : List EvP) (s : List UInt8 × Nat), (∀ e ∈ es, e.a.length ≤ N) → ∀ v ∈ filtL P s es, (evA v).length ≤ N
  | [], _, _, v, hv => by cases hv
  | e :: r, s, h, v, hv => by
    rw [filt_step] at hv
    rcases List.mem_append.1 hv with hv | hv
    · have h2 : (sieveL P s e).2 = some v := by simpa using hv
      unfold sieveL at h2
      split at h2
      · cases h2
      · split at h2
        · cases h2
        · exact Nat.le_trans (out_evA P e v h2) (h e (List.mem_cons_self ..))
    · exact filt_evA P N r _ (fun x hx => h x (List.mem_cons_of_mem _ hx)) v hv
end Go.Proofs.YtkcgmimldjeaiaaDoor

/-
  strings.IndexRune and IndexAny, of the four marks of a link: their walks at every text.
-/
namespace Go.Proofs.YtkcgmimldjeaiaaDoor
open Go.RowKit Go.Lib Own

theorem decode_cont (s : ByteArray) (pos : Nat) (h : pos < s.size) (ha : 128 ≤ (s[pos]'h).toNat) : ∀ k, k < (Utf8.decode s pos).2 → ∃ hk : pos + k < s.size, 128 ≤ (s[pos + k]'hk).toNat := by
  have hg : ∀ j (hj : j < s.size), s.get! j = s[j]'hj := fun j hj => by
    show s.data[j]! = s.data[j]
    simp [getElem!_pos, hj]
  have zero : ∃ hk : pos + 0 < s.size, 128 ≤ (s[pos + 0]'hk).toNat := ⟨h, ha⟩
  have cont : ∀ k, (decide (pos + k < s.size) && ((s.get! (pos + k)).toNat / 64 == 2)) = true → ∃ hk : pos + k < s.size, 128 ≤ (s[pos + k]'hk).toNat := fun k hc => by
    rw [Bool.and_eq_true, decide_eq_true_eq, beq_iff_eq] at hc
    refine ⟨hc.1, ?_⟩
    rw [← hg _ hc.1]
    omega
  intro k hk
  have one : (k < 1) → ∃ hk : pos + k < s.size, 128 ≤ (s[pos + k]'hk).toNat := fun h1 => by
    obtain rfl : k = 0 := by omega
    exact zero
  unfold Utf8.decode at hk
  simp only [Nat.add_zero] at hk
  split at hk
  · exact one hk
  · split at hk
    · rename_i _ h2
      simp only [Bool.and_eq_true] at h2
      split at hk
      · simp only at hk
        match k, hk with
        | 0, _ => exact zero
        | 1, _ => exact cont 1 (by simpa using h2.2)
        | k + 2, hk => omega
      · exact one hk
    · split at hk
      · rename_i _ _ h3
        simp only [Bool.and_eq_true] at h3
        split at hk
        · simp only at hk
          match k, hk with
          | 0, _ => exact zero
          | 1, _ => exact cont 1 (by simpa using h3.1.2)
          | 2, _ => exact cont 2 (by simpa using h3.2)
          | k + 3, hk => omega
        · exact one hk
      · split at hk
        · rename_i _ _ _ h4
          simp only [Bool.and_eq_true] at h4
          split at hk
          · simp only at hk
            match k, hk with
            | 0, _ => exact zero
            | 1, _ => exact cont 1 (by simpa using h4.1.1.2)
            | 2, _ => exact cont 2 (by simpa using h4.1.2)
            | 3, _ => exact cont 3 (by simpa using h4.2)
            | k + 4, hk => omega
          · exact one hk
        · exact one hk

/-- a rune as it is encoded: two bytes to four, the last of 128 on -/
theorem enc_high (r : Int) (h : 128 ≤ r) (h1 : r ≤ 1114111) (h2 : ¬ (55296 ≤ r ∧ r ≤ 57343)) : ∃ l, (l = 1 ∨ l = 2 ∨ l = 3) ∧ (Utf8.encode r).size = l + 1 ∧ ∃ (hl : l < (Utf8.encode r).size), 128 ≤ ((Utf8.encode r)[l]'hl).toNat := by
  have hv : Utf8.valid r = true := by
    unfold Utf8.valid
    simp
    omega
  have h8 : ∀ n : Nat, (UInt8.ofNat (128 + n % 64)).toNat = 128 + n % 64 := fun n => by
    rw [UInt8.toNat_ofNat']
    omega
  obtain ⟨n, rfl⟩ : ∃ n : Nat, r = n := ⟨r.toNat, by omega⟩
  unfold Utf8.encode
  rw [hv]
  simp only [if_true, Int.toNat_natCast]
  split
  · omega
  · split
    · exact ⟨1, .inl rfl, rfl, Nat.lt_succ_self _, by show 128 ≤ (UInt8.ofNat (128 + n % 64)).toNat; rw [h8]; omega⟩
    · split
      · exact ⟨2, .inr (.inl rfl), rfl, Nat.lt_succ_self _, by show 128 ≤ (UInt8.ofNat (128 + n % 64)).toNat; rw [h8]; omega⟩
      · exact ⟨3, .inr (.inr rfl), rfl, Nat.lt_succ_self _, by show 128 ≤ (UInt8.ofNat (128 + n % 64)).toNat; rw [h8]; omega⟩
def marksB : ByteArray := ⟨#[58, 47, 63, 35]⟩
set_option maxHeartbeats 2000000 in
set_option maxRecDepth 100000 in
theorem idxRune_high (r : Int) (w : World) (h0 : 128 ≤ r) (h1 : r ≤ 1114111) (h2 : ¬ (55296 ≤ r ∧ r ≤ 57343)) (h3 : r ≠ 65533) :
    Calls Tryd.prog 173 #[.string marksB, .int .i32 r] w fun e w' => e = .returned (.int .i64 (-1)) ∧ Below w.heap.size w w' := by
  have q1 : ¬ r < 128 := by omega
  have q2 : (0 : Int) ≤ r := by omega
  have q3 : (r == 65533) = false := beq_eq_false_iff_ne.2 h3
  have hvr : ∀ W, Calls Tryd.prog 183 #[.int .i32 r] W fun e w' => e = .returned (.bool true) ∧ w' = W := by
    intro W
    by_cases h4 : r < 55296
    · clear h2 h3 q3
      go_enter Tryd.func183, Tryd.ntmps183
      go_wp2_with fail
      go_ret
      exact ⟨rfl, rfl⟩
    · have h5 : 57343 < r := by omega
      clear h2 h3 q3
      go_enter Tryd.func183, Tryd.ntmps183
      go_wp2_with fail
      go_ret
      exact ⟨rfl, rfl⟩
  have HVR := hid hvr
  obtain ⟨l, hl, hsz, hlt, hb⟩ := enc_high r h0 h1 h2
  obtain ⟨E, hE⟩ : ∃ E, Utf8.encode r = E := ⟨_, rfl⟩
  have hbE : ∃ (hl : l < E.size), 128 ≤ (E[l]'hl).toNat := by subst hE; exact ⟨hlt, hb⟩
  have hszE : E.size = l + 1 := by rw [← hE]; exact hsz
  clear hvr h2 h3 hsz hb hlt
  obtain ⟨hlt, hb⟩ := hbE
  obtain ⟨c, hc⟩ : ∃ c, E[l]'hlt = c := ⟨_, rfl⟩
  rw [hc] at hb
  have hcu := UInt8.toNat_lt c
  have d1 : ((((⟨#[58, 47, 63, 35]⟩ : ByteArray)[1]'(by decide)).toNat : Int) != (c.toNat : Int)) = true := bne_iff_ne.2 (by show (47 : Int) ≠ _; omega)
  have d2 : ((((⟨#[58, 47, 63, 35]⟩ : ByteArray)[2]'(by decide)).toNat : Int) != (c.toNat : Int)) = true := bne_iff_ne.2 (by show (63 : Int) ≠ _; omega)
  have d3 : ((((⟨#[58, 47, 63, 35]⟩ : ByteArray)[3]'(by decide)).toNat : Int) != (c.toNat : Int)) = true := bne_iff_ne.2 (by show (35 : Int) ≠ _; omega)
  have hib : ∀ s W, 128 ≤ c.toNat → s.data.toList.contains c = false → Calls Tryd.prog 138 #[.string s, .int .u8 (c.toNat : Int)] W fun e w' => e = .returned (.int .i64 (-1)) ∧ w' = W := by
    intro s W _ h
    have h1 := Tryd.strings_IndexByte s (c.toNat : Int) W
    have hback : ((c.toNat : Int)).toNat.toUInt8 = c := by simp
    rw [hback] at h1
    have h2 := Lib.contains_iff_indexByte s.data.toList c
    rw [h] at h2
    have h3 := Lib.indexByte_ge s.data.toList c
    have h4 : Lib.indexByte s.data.toList c = -1 := by have := of_decide_eq_false h2.symm; omega
    rw [h4] at h1
    exact h1
  have hno : ∀ L : List UInt8, (∀ x ∈ L, x.toNat < 128) → L.contains c = false := fun L h => by
    rw [Bool.eq_false_iff]
    intro h2
    have := h c (List.contains_iff_mem.1 h2)
    omega
  have HIB := hid hib
  have HNO := hid hno
  have y2 : IntKind.i64.wrap 2 = 2 := by decide
  have y3 : IntKind.i64.wrap 3 = 3 := by decide
  have y4 : IntKind.i64.wrap 4 = 4 := by decide
  clear hib hno
  unfold marksB
  rcases hl with rfl | rfl | rfl
  · go_enter Tryd.func173, Tryd.ntmps173
    go_wp2_with fail
    refine (HVR.out _).mono ?_
    rintro e w1 ⟨rfl, rfl⟩
    go_wp2_with fail
    go_step3
    go_wp2_with fail
    go_loopw [4, 9, 10, 11, 12] (fun _ a _ _ _ wr => a = .int .i64 1 ∧ wr = w1) (fun _ _ _ _ _ _ => 0)
    case atStart => exact ⟨rfl, rfl⟩
    case round =>
      obtain ⟨rfl, rfl⟩ := hrel
      go_wp2_with fail
      go_step3
      go_wp2_with fail
      go_quiet (fail)
      go_wp2_with fail
      obtain ⟨w5, hw5⟩ : ∃ W, wr.drewN nq = W := ⟨_, rfl⟩
      have hb5 : Below wr.heap.size wr w5 := by rw [← hw5]; exact below_drewN (Below.refl _ _) nq
      simp only [hw5]
      clear hw5
      go_quiet (first | (go_at_call 138; refine Calls.quiet_of_same (HIB.out _ _ hb (HNO.out _ ?_)); decide +kernel))
      go_wp2_with fail
      simp (config := { zetaDelta := true }) only [Exit.noGoto_ret, Exit.inBlock, Exit.then]
      go_ret
      exact ⟨rfl, below_drewN hb5 _⟩
  · go_enter Tryd.func173, Tryd.ntmps173
    go_wp2_with fail
    refine (HVR.out _).mono ?_
    rintro e w1 ⟨rfl, rfl⟩
    go_wp2_with fail
    go_step3
    go_wp2_with fail
    go_loopw [4, 9, 10, 11, 12] (fun _ a _ _ _ wr => a = .int .i64 2 ∧ wr = w1) (fun _ _ _ _ _ _ => 0)
    case atStart => exact ⟨rfl, rfl⟩
    case round =>
      obtain ⟨rfl, rfl⟩ := hrel
      go_wp2_with fail
      go_step3
      go_wp2_with fail
      go_quiet (fail)
      go_wp2_with fail
      obtain ⟨w5, hw5⟩ : ∃ W, wr.drewN nq = W := ⟨_, rfl⟩
      have hb5 : Below wr.heap.size wr w5 := by rw [← hw5]; exact below_drewN (Below.refl _ _) nq
      simp only [hw5]
      clear hw5
      go_quiet (first | (go_at_call 138; refine Calls.quiet_of_same (HIB.out _ _ hb (HNO.out _ ?_)); decide +kernel))
      go_wp2_with fail
      simp (config := { zetaDelta := true }) only [Exit.noGoto_ret, Exit.inBlock, Exit.then]
      go_ret
      exact ⟨rfl, below_drewN hb5 _⟩
  · go_enter Tryd.func173, Tryd.ntmps173
    go_wp2_with fail
    refine (HVR.out _).mono ?_
    rintro e w1 ⟨rfl, rfl⟩
    go_wp2_with fail
    go_step3
    go_wp2_with fail
    go_loopw [4, 9, 10, 11, 12] (fun _ a _ _ _ wr => a = .int .i64 3 ∧ wr = w1) (fun _ _ _ _ _ _ => 0)
    case atStart => exact ⟨rfl, rfl⟩
    case round =>
      obtain ⟨rfl, rfl⟩ := hrel
      go_wp2_with fail
      go_step3
      go_wp2_with fail
      go_quiet (fail)
      go_wp2_with fail
      obtain ⟨w5, hw5⟩ : ∃ W, wr.drewN nq = W := ⟨_, rfl⟩
      have hb5 : Below wr.heap.size wr w5 := by rw [← hw5]; exact below_drewN (Below.refl _ _) nq
      simp only [hw5]
      clear hw5
      go_quiet (first | (go_at_call 138; refine Calls.quiet_of_same (HIB.out _ _ hb (HNO.out _ ?_)); decide +kernel))
      go_wp2_with fail
      simp (config := { zetaDelta := true }) only [Exit.noGoto_ret, Exit.inBlock, Exit.then]
      go_ret
      exact ⟨rfl, below_drewN hb5 _⟩
set_option maxHeartbeats 2000000 in
set_option maxRecDepth 100000 in
theorem idxRune_bad (w : World) :
    Calls Tryd.prog 173 #[.string marksB, .int .i32 65533] w fun e w' => e = .returned (.int .i64 (-1)) ∧ Below w.heap.size w w' := by
  unfold marksB
  have y2 : IntKind.i64.wrap 2 = 2 := by decide
  go_enter Tryd.func173, Tryd.ntmps173
  go_wp2_with fail
  go_loopg [4, 5, 6] 4 (fun g _ _ _ wx => ∃ i : Nat, i + g = 4 ∧ wx = w.iter ⟨#[58, 47, 63, 35]⟩ i)
  case atStart => exact ⟨0, rfl, rfl⟩
  case round =>
    obtain ⟨i, hig, rfl⟩ := hrel
    cases gk with
    | zero =>
      obtain rfl : i = 4 := by omega
      have hnx := run_next_end (P := Tryd.prog) w ⟨#[58, 47, 63, 35]⟩ 4
      go_wp2
      go_ret
      exact ⟨rfl, (Below.refl _ w).alloc (Nat.le_refl _) _⟩
    | succ g =>
      have hi : i < (⟨#[58, 47, 63, 35]⟩ : ByteArray).size := by show i < 4; omega
      have h128 : ((⟨#[58, 47, 63, 35]⟩ : ByteArray)[i]'hi).toNat < 128 := by
        match i, hi with
        | 0, _ => show (58 : Nat) < 128; decide
        | 1, _ => show (47 : Nat) < 128; decide
        | 2, _ => show (63 : Nat) < 128; decide
        | 3, _ => show (35 : Nat) < 128; decide
        | k + 4, h => exact absurd h (by show ¬ k + 4 < 4; omega)
      have hnx := fun ty => run_next_ascii (P := Tryd.prog) w ⟨#[58, 47, 63, 35]⟩ i ty hi h128
      obtain ⟨x, hx⟩ : ∃ x : Nat, ((⟨#[58, 47, 63, 35]⟩ : ByteArray)[i]'hi).toNat = x := ⟨_, rfl⟩
      rw [hx] at hnx h128
      have q : ((x : Int) == 65533) = false := beq_eq_false_iff_ne.2 (by omega)
      clear hx
      go_wp2
      go_roundg g
      case measure => omega
      case rel => exact ⟨i + 1, by omega, rfl⟩
end Go.Proofs.YtkcgmimldjeaiaaDoor

/-
  strings.IndexAny at the four marks of a link, at every text: its walk.
-/
namespace Go.Proofs.YtkcgmimldjeaiaaDoor
open Go.RowKit Go.Lib Own

/-- where the first mark lies; -1: nowhere -/
def markN (L : List UInt8) : Nat := (L.takeWhile fun c => !markT.contains c).length
def markIx (L : List UInt8) : Int := if markN L < L.length then (markN L : Int) else -1
theorem markN_is {L : List UInt8} {k : Nat} (h : ∀ j c, j < k → L[j]? = some c → markT.contains c = false) (h2 : ∀ c, L[k]? = some c → markT.contains c = true) (hk : k ≤ L.length) : markN L = k := by
  induction L generalizing k with
  | nil => simp at hk; subst hk; rfl
  | cons c r ih =>
    unfold markN
    cases k with
    | zero =>
      have := h2 c rfl
      rw [List.takeWhile_cons, this]
      rfl
    | succ k =>
      have := h 0 c (by omega) rfl
      rw [List.takeWhile_cons, this]
      simp only [Bool.not_false, if_true, List.length_cons]
      have := ih (k := k) (fun j d hj hd => h (j + 1) d (by omega) (by rw [List.getElem?_cons_succ]; exact hd)) (fun d hd => h2 d (by rw [List.getElem?_cons_succ]; exact hd)) (by simpa using hk)
      unfold markN at this
      rw [this]
theorem markIx_hit {L : List UInt8} {k : Nat} {c : UInt8} (h : ∀ j c, j < k → L[j]? = some c → markT.contains c = false) (hc : L[k]? = some c) (h2 : markT.contains c = true) : markIx L = k := by
  have hl := (List.getElem?_eq_some_iff.1 hc).1
  have hn := markN_is h (fun d hd => by obtain rfl := Option.some.inj (hc.symm.trans hd); exact h2) (by omega)
  unfold markIx
  rw [hn, if_pos hl]
theorem markIx_none {L : List UInt8} (h : ∀ j c, j < L.length → L[j]? = some c → markT.contains c = false) : markIx L = -1 := by
  have hn := markN_is (k := L.length) h (fun d hd => by have := (List.getElem?_eq_some_iff.1 hd).1; omega) (Nat.le_refl _)
  unfold markIx
  rw [hn, if_neg (by omega)]
theorem markN_all (L : List UInt8) : ∀ j c, j < markN L → L[j]? = some c → markT.contains c = false := by
  induction L with
  | nil => intro j c _ h; simp at h
  | cons d r ih =>
    intro j c hj hc
    unfold markN at hj
    rw [List.takeWhile_cons] at hj
    cases hd : markT.contains d with
    | true => rw [hd] at hj; simp at hj
    | false =>
      rw [hd] at hj
      simp only [Bool.not_false, if_true, List.length_cons] at hj
      cases j with
      | zero =>
        simp only [List.getElem?_cons_zero, Option.some.injEq] at hc
        rw [← hc]; exact hd
      | succ j =>
        rw [List.getElem?_cons_succ] at hc
        exact ih j c (by unfold markN; omega) hc
theorem markN_at (L : List UInt8) (c : UInt8) (h : L[markN L]? = some c) : markT.contains c = true := by
  induction L with
  | nil => simp at h
  | cons d r ih =>
    unfold markN at h
    rw [List.takeWhile_cons] at h
    cases hd : markT.contains d with
    | true =>
      rw [hd] at h
      simp only [Bool.not_true, Bool.false_eq_true, if_false, List.length_nil, List.getElem?_cons_zero, Option.some.injEq] at h
      rw [← h]; exact hd
    | false =>
      rw [hd] at h
      simp only [Bool.not_false, if_true, List.length_cons, List.getElem?_cons_succ] at h
      exact ih h
theorem markN_le (L : List UInt8) : markN L ≤ L.length := (List.takeWhile_prefix (p := fun c => !markT.contains c) (l := L)).length_le
theorem indexAny_mark (L : List UInt8) : Lib.indexAny L marksB.data.toList = markIx L := by
  show Lib.indexAny L markT = _
  unfold markIx
  split
  · rename_i h
    obtain ⟨c, hc⟩ : ∃ c, L[markN L]? = some c := ⟨_, List.getElem?_eq_getElem h⟩
    exact Lib.indexAny_hit (fun j b hj hb => markN_all L j b hj hb) hc (markN_at L c hc)
  · rename_i h
    have hl := markN_le L
    refine Lib.indexAny_none (fun j b hj hb => markN_all L j b (by omega) hb)

theorem iterAt_at {W : World} {k : Nat} {o : Obj} (h : W.heap[k]? = some o) {s : ByteArray} (p : Nat) : (W.iterAt k s p).heap[k]? = some (.stringIter s p) := by
  have := block_lt h
  simp [World.iterAt, this]
theorem iterAt_below {w W : World} {k : Nat} (h : Below k w W) (s : ByteArray) (p : Nat) : Below k w (W.iterAt k s p) := by
  refine ⟨h.os, h.tape, h.output, by simpa [World.iterAt] using h.size, fun j hj => ?_⟩
  rw [← h.block j hj]
  have : k ≠ j := by omega
  simp [World.iterAt, this]

set_option maxHeartbeats 4000000 in
set_option maxRecDepth 100000 in
theorem idxAny_short (s : ByteArray) (w : World) (hs : s.size ≤ 8) :
    Calls Tryd.prog 159 #[.string s, .string marksB] w fun e w' => e = .returned (.int .i64 (markIx s.data.toList)) ∧ Below w.heap.size w w' := by
  have hz := size_eq s
  have h8z : ¬ ((s.size : Int) > 8) := by omega
  have hsu : ∀ W, Calls Tryd.prog 174 #[.int .i64 (s.size : Int)] W fun e w' => e = .returned (.bool false) ∧ w' = W := fun W => by
    have h8 : decide ((8 : Int) < (s.size : Int)) = false := decide_eq_false (by omega)
    clear hz
    go_enter Tryd.func174, Tryd.ntmps174
    go_wp2_with fail
    go_ret
    exact ⟨rfl, rfl⟩
  have HSU := hid hsu
  have HZ := hid hz
  clear hsu hz h8z
  have hB0 := (Below.refl w.heap.size w)
  unfold marksB
  go_enter Tryd.func159, Tryd.ntmps159
  go_wp2_with fail
  refine (HSU.out _).mono ?_
  rintro e w1 ⟨rfl, rfl⟩
  go_wp2_with fail
  go_loopg [4, 9, 10] s.size (fun g _ _ _ wx => ∃ i : Nat, i ≤ s.size ∧ s.size ≤ i + g ∧ Hid (Below w1.heap.size w1 wx ∧ wx.heap[w1.heap.size]? = some (.stringIter s i)) ∧ Hid (∀ j c, j < i → s.data.toList[j]? = some c → markT.contains c = false))
  case atStart => exact ⟨0, Nat.zero_le _, by omega, ⟨(Below.refl _ w1).alloc (Nat.le_refl _) _, heap_alloc_new w1 _⟩, fun j c h => absurd h (Nat.not_lt_zero _)⟩
  case round =>
    obtain ⟨i, hi, hg, HX, HK⟩ := hrel
    by_cases hil : i < s.size
    · obtain ⟨x, hx⟩ : ∃ x, s[i]'hil = x := ⟨_, rfl⟩
      have hxl := getElem_list hil hx
      by_cases h128 : x.toNat < 128
      · have hnx := fun ty => Lib.run_next_ascii_at (P := Tryd.prog) wr w1.heap.size s i ty HX.out.2 hil (by rw [hx]; exact h128)
        rw [hx] at hnx
        have hri := fun W => Tryd.strings_IndexRune_ascii marksB (x.toNat : Int) W (by omega) (by omega)
        have hback : ((x.toNat : Int)).toNat.toUInt8 = x := by simp
        rw [hback] at hri
        have hcon := Lib.contains_iff_indexByte markT x
        rw [show marksB.data.toList = markT from rfl] at hri
        have hit : (wr.iterAt w1.heap.size s (i + 1)).heap[w1.heap.size]? = some (.stringIter s (i + 1)) := iterAt_at HX.out.2 _
        have hbi : Below w1.heap.size w1 (wr.iterAt w1.heap.size s (i + 1)) := iterAt_below HX.out.1 s (i + 1)
        have HI := hid (And.intro hbi hit)
        have hmk : ∀ b, markT.contains x = b → (b = true → markIx s.data.toList = i) ∧ (b = false → ∀ j c, j < i + 1 → s.data.toList[j]? = some c → markT.contains c = false) := fun b hb => ⟨fun h => markIx_hit HK.out hxl (hb.trans h), fun h j c hj hc => by
          by_cases e : j = i
          · subst e
            obtain rfl := Option.some.inj (hxl.symm.trans hc)
            exact hb.trans h
          · exact HK.out j c (by omega) hc⟩
        have HMK := hid (hmk _ rfl)
        generalize markT.contains x = b at hcon HMK
        generalize Lib.indexByte markT x = z at hri hcon
        unfold marksB at hri
        have HRI := hid hri
        clear hri hback hmk hbi hit hxl HX HK
        cases b
        · have hz : ¬ (0 : Int) ≤ z := of_decide_eq_false hcon.symm
          have HN := hid (HMK.out.2 rfl)
          clear hcon HMK
          go_wp2_with (go_at_call 173; refine (HRI.out _).mono ?_; rintro e w' ⟨rfl, rfl⟩)
          go_roundg (gk - 1)
          case measure => omega
          case rel => exact ⟨i + 1, by omega, by omega, HI, HN⟩
        · have hz : (0 : Int) ≤ z := of_decide_eq_true hcon.symm
          have hR := HMK.out.1 rfl
          clear hcon HMK
          go_wp2_with (go_at_call 173; refine (HRI.out _).mono ?_; rintro e w' ⟨rfl, rfl⟩)
          go_ret
          exact ⟨ret_i64 hR.symm, HI.out.1⟩
      · obtain ⟨n, hn⟩ : ∃ n, (Utf8.decode s i).2 = n := ⟨_, rfl⟩
        obtain ⟨c, hc⟩ : ∃ c, (Utf8.decode s i).1 = c := ⟨_, rfl⟩
        have hnx := fun ty => Lib.run_next_any_at (P := Tryd.prog) wr w1.heap.size s i ty HX.out.2 hil
        have hd := decode_high s i hil (by rw [hx]; omega)
        have hdc := decode_cont s i hil (by rw [hx]; omega)
        have hle := Lib.rune_le s i
        have hvr : ¬ (55296 ≤ c ∧ c ≤ 57343) := by
          have h1 := Lib.rune_valid (s.extract i s.size)
          rw [Lib.tail_decode, Nat.add_zero, hc] at h1
          unfold Lib.validRune at h1
          have := of_decide_eq_true h1
          omega
        rw [hc] at hd hle
        rw [hn] at hd hdc
        rw [hn, hc] at hnx
        obtain ⟨hlast, _⟩ := hdc (n - 1) (by omega)
        have hno : ∀ j c, j < i + n → s.data.toList[j]? = some c → markT.contains c = false := fun j d hj hdd => by
          by_cases e : j < i
          · exact HK.out j d e hdd
          · obtain ⟨hk2, hge⟩ := hdc (j - i) (by omega)
            have hjs : j < s.size := by omega
            have h3 := getElem_list hjs rfl
            obtain rfl := Option.some.inj (h3.symm.trans hdd)
            have hge2 : 128 ≤ (s[j]'hjs).toNat := by
              have e2 : i + (j - i) = j := by omega
              simp only [e2] at hge
              exact hge
            rw [Bool.eq_false_iff]
            intro h4
            have h5 := List.contains_iff_mem.1 h4
            simp only [markT, List.mem_cons, List.not_mem_nil, or_false] at h5
            rcases h5 with h5 | h5 | h5 | h5 <;> rw [h5] at hge2 <;> exact absurd hge2 (by decide)
        have hit : (wr.iterAt w1.heap.size s (i + n)).heap[w1.heap.size]? = some (.stringIter s (i + n)) := iterAt_at HX.out.2 _
        have hbi : Below w1.heap.size w1 (wr.iterAt w1.heap.size s (i + n)) := iterAt_below HX.out.1 s (i + n)
        have HI := hid (And.intro hbi hit)
        have hri : ∀ W, Calls Tryd.prog 173 #[.string marksB, .int .i32 (c : Int)] W fun e w' => e = .returned (.int .i64 (-1)) ∧ Below W.heap.size W w' := fun W => by
          by_cases h3 : c = 65533
          · subst h3; exact idxRune_bad W
          · exact idxRune_high (c : Int) W (by omega) (by omega) (by omega) (by omega)
        unfold marksB at hri
        have HRI := hid hri
        have HN := hid hno
        clear hri hno hdc hbi hit hxl HX HK hvr hn hc
        go_wp2_with (go_at_call 173; refine (HRI.out _).mono ?_; rintro e w5 ⟨rfl, b5⟩)
        have HZ2 := hid (And.intro (HI.out.1.trans (b5.mono HI.out.1.size)) ((b5.block _ (block_lt HI.out.2)).trans HI.out.2))
        clear b5 HI HRI
        go_roundg (gk - 1)
        case measure => omega
        case rel => exact ⟨i + n, by omega, by omega, HZ2, HN⟩
    · have hR := markIx_none (L := s.data.toList) (fun j c hj hc => HK.out j c (by rw [← HZ.out] at hj; omega) hc)
      have hnx := fun ty => Lib.run_next_end_at (P := Tryd.prog) wr w1.heap.size s i ty HX.out.2 hil
      have HB := hid HX.out.1
      clear HX HK HZ
      go_wp2_with fail
      go_ret
      exact ⟨ret_i64 hR.symm, HB.out⟩
end Go.Proofs.YtkcgmimldjeaiaaDoor

/-
  sieve.CleanURL: its walk.
-/
namespace Go.Proofs.YtkcgmimldjeaiaaDoor
open Go.RowKit Go.Lib Own

set_option maxRecDepth 100000 in
theorem idxAny_any (s : ByteArray) (w : World) (hs : s.size ≤ 1000000000) :
    Calls Tryd.prog 159 #[.string s, .string marksB] w fun e w' => e = .returned (.int .i64 (markIx s.data.toList)) ∧ Below w.heap.size w w' := by
  by_cases h8 : s.size ≤ 8
  · exact idxAny_short s w h8
  · have h116 : (Tryd.prog.info? 201).map (fun i => (i.zero, i.size)) = some (some (.agg (Array.replicate 256 (.bool false))), 256) := by kernel_rfl
    refine (Tryd.strings_IndexAny_long (zero_of_info h116).1 s marksB w (by decide) (by omega) (by omega) (by decide) (fun j b hb => ?_)).mono ?_
    · have := List.mem_of_getElem? hb
      rw [show marksB.data.toList = [58, 47, 63, 35] from rfl] at this
      simp only [List.mem_cons, List.not_mem_nil, or_false] at this
      rcases this with rfl | rfl | rfl | rfl <;> decide
    · rintro e w' ⟨rfl, rfl⟩
      rw [indexAny_mark]
      exact ⟨rfl, ((Below.refl _ w).alloc (Nat.le_refl _) _).alloc (by simp) _⟩

/-! ## stripped -/

theorem rtrim_cons (c : UInt8) (r : List UInt8) : rtrim (c :: r) = if c = 32 ∧ rtrim r = [] then [] else c :: rtrim r := by
  unfold rtrim
  rw [List.reverse_cons, List.dropWhile_append]
  by_cases h : (r.reverse.dropWhile fun c => c == 32) = []
  · rw [h]
    simp only [List.isEmpty_nil, if_true, List.reverse_nil, and_true]
    by_cases hc : c = 32
    · subst hc; simp
    · rw [if_neg hc, List.dropWhile_cons, if_neg (by simpa using hc)]
      simp
  · rw [if_neg (by simpa using h), if_neg (by rintro ⟨_, h2⟩; exact h (by simpa using h2))]
    simp
theorem trim_comm : ∀ L : List UInt8, (rtrim L).dropWhile (fun c => c == 32) = rtrim (L.dropWhile fun c => c == 32)
  | [] => rfl
  | c :: r => by
    have ih := trim_comm r
    by_cases hc : c = 32
    · subst hc
      have e1 : (32 :: r).dropWhile (fun c => c == 32) = r.dropWhile (fun c => c == 32) := rfl
      have e2 : (32 :: rtrim r).dropWhile (fun c => c == 32) = (rtrim r).dropWhile (fun c => c == 32) := rfl
      rw [e1, ← ih, rtrim_cons]
      by_cases hr : rtrim r = []
      · rw [if_pos ⟨rfl, hr⟩, hr]
      · rw [if_neg (fun h => hr h.2), e2]
    · have e1 : (c == 32) = false := beq_eq_false_iff_ne.2 hc
      have e2 : ∀ l : List UInt8, (c :: l).dropWhile (fun c => c == 32) = c :: l := fun l => by
        rw [List.dropWhile_cons, e1]
        rfl
      rw [e2, rtrim_cons, if_neg (fun h => hc h.1), e2]
theorem drop_while : ∀ L : List UInt8, L.drop (L.takeWhile [32].contains).length = L.dropWhile fun c => c == 32
  | [] => rfl
  | c :: r => by
    have ih := drop_while r
    rw [List.takeWhile_cons, List.dropWhile_cons]
    have e : [32].contains c = (c == 32) := by
      rw [List.contains_cons, List.contains_nil, Bool.or_false]
    rw [e]
    cases h : (c == 32) with
    | true =>
      simp only [if_true, List.length_cons, List.drop_succ_cons]
      exact ih
    | false => simp
theorem strip_trim (v : List UInt8) : Lib.trimB (v.filter seenB) 32 = stripL v := by
  unfold Lib.trimB Lib.trimLeftB Lib.trimRightB stripL
  rw [drop_while]
  exact trim_comm _

set_option maxHeartbeats 2000000 in
set_option maxRecDepth 100000 in
theorem strip_any (v : ByteArray) (w : World) (hv : v.size ≤ 1000000000) :
    Calls Tryd.prog 148 #[.string v] w fun e w' => e = .returned (.string (bs (stripL v.data.toList))) ∧ Below w.heap.size w w' := by
  have hz := size_eq v
  have HZ := hid hz
  have H0 : Hid (Lib.IsBuilderF 59 5 w.heap.size w.heap.size (Lib.byteCells []) (w.alloc (.cells #[.pointer none, .slice none 0 0] 59)) ∧ Below w.heap.size w (w.alloc (.cells #[.pointer none, .slice none 0 0] 59)) ∧ w.heap.size < (w.alloc (.cells #[.pointer none, .slice none 0 0] 59)).heap.size) :=
    ⟨Lib.IsBuilderF.of (Or.inl ⟨Nat.le_refl _, .slice none 0 0, heap_alloc_new w _, World.ownsRow_nil _ _ _ _, by simp [Value.ownBlock]⟩), (Below.refl _ w).alloc (Nat.le_refl _) _, by simp⟩
  clear hz
  go_enter Tryd.func148, Tryd.ntmps148
  go_wp2_with fail
  go_loopw [4, 5, 8] (fun _ _ iv wr => ∃ k : Nat, iv = .int .i64 k ∧ k ≤ v.size ∧ Hid (Lib.IsBuilderF 59 5 w.heap.size w.heap.size (Lib.byteCells ((v.data.toList.take k).filter seenB)) wr ∧ Below w.heap.size w wr ∧ w.heap.size < wr.heap.size)) (fun _ _ iv _ => v.size - (RowKit.intOf iv).toNat)
  case atStart => exact ⟨0, rfl, Nat.zero_le _, H0⟩
  case round =>
    obtain ⟨k, rfl, hk, HX⟩ := hrel
    by_cases hkl : k < v.size
    · obtain ⟨c, hc⟩ : ∃ c, v[k]'hkl = c := ⟨_, rfl⟩
      have hcl := getElem_list hkl hc
      have hst := filter_step (p := seenB) hcl
      have hln : ((v.data.toList.take k).filter seenB).length ≤ k := Nat.le_trans (List.length_filter_le _ _) (by rw [List.length_take]; omega)
      have hu := UInt8.toNat_lt c
      have hsb : seenB c = (decide (32 ≤ (c.toNat : Int)) && ((c.toNat : Int) != 127)) := by
        unfold seenB
        rw [decide_eq_decide.2 (show (31 < (c.toNat : Int)) ↔ (32 ≤ (c.toNat : Int)) by omega)]
      rw [hsb] at hst
      have HST := hid (fun (_ : True) => hst)
      have HLN := hid hln
      clear hcl hst hsb hln
      by_cases z1 : (32 : Int) ≤ (c.toNat : Int)
      · by_cases z2 : (c.toNat : Int) = 127
        · have q2 : ((c.toNat : Int) != 127) = false := by rw [z2]; rfl
          have HE := hid (fun (_ : True) => (by have := HST.out trivial; rwa [q2, Bool.and_false, if_neg (by simp), List.append_nil] at this : (v.data.toList.take (k + 1)).filter seenB = (v.data.toList.take k).filter seenB))
          clear z2 HST
          go_wp2_with fail
          go_roundw
          case rel => exact ⟨k + 1, rfl, by omega, by rw [HE.out trivial]; exact HX⟩
          case measure => simp [RowKit.intOf]; omega
        · have q2 : ((c.toNat : Int) != 127) = true := bne_iff_ne.2 z2
          have HE := hid (fun (_ : True) => (by have := HST.out trivial; rwa [q2, decide_eq_true z1, Bool.and_self, if_pos rfl] at this : (v.data.toList.take (k + 1)).filter seenB = (v.data.toList.take k).filter seenB ++ [c]))
          clear z2 HST
          go_wp2_with fail
          refine (Tryd.Builder_WriteByte_k w.heap.size w.heap.size (Lib.byteCells ((v.data.toList.take k).filter seenB)) (c.toNat : Int) _ HX.out.1 (by rw [Lib.byteCells_length]; have := HLN.out; omega) (by have := HX.out.2.2; omega)).mono ?_
          rintro e w2 ⟨rfl, g1, g2, g3⟩
          have HZ2 : Hid (Lib.IsBuilderF 59 5 w.heap.size w.heap.size (Lib.byteCells ((v.data.toList.take (k + 1)).filter seenB)) w2 ∧ Below w.heap.size w w2 ∧ w.heap.size < w2.heap.size) :=
            ⟨by rw [HE.out trivial, Lib.byteCells_append]; exact Or.inr g1, HX.out.2.1.trans g2, by have := g2.size; have := HX.out.2.2; omega⟩
          clear g1 g2 g3 HX HE HLN
          go_wp2_with fail
          go_roundw
          case rel => exact ⟨k + 1, rfl, by omega, HZ2⟩
          case measure => simp [RowKit.intOf]; omega
      · have HE := hid (fun (_ : True) => (by have := HST.out trivial; rwa [decide_eq_false z1, Bool.false_and, if_neg (by simp), List.append_nil] at this : (v.data.toList.take (k + 1)).filter seenB = (v.data.toList.take k).filter seenB))
        clear HST
        go_wp2_with fail
        go_roundw
        case rel => exact ⟨k + 1, rfl, by omega, by rw [HE.out trivial]; exact HX⟩
        case measure => simp [RowKit.intOf]; omega
    · have hall : (v.data.toList.take k).filter seenB = v.data.toList.filter seenB := by rw [List.take_of_length_le (by rw [← HZ.out]; omega)]
      have HX2 := HX.out
      rw [hall] at HX2
      obtain ⟨F, hF⟩ : ∃ F, v.data.toList.filter seenB = F := ⟨_, rfl⟩
      have hFl : F.length ≤ 1000000000 := by rw [← hF]; exact Nat.le_trans (List.length_filter_le _ _) (by rw [← HZ.out]; omega)
      have hst := strip_trim v.data.toList
      rw [hF] at HX2 hst
      have hrw : bs (stripL v.data.toList) = bs (Lib.trimB F 32) := by rw [hst]
      have HRW := hid (fun (_ : True) => hrw)
      have HY := hid HX2
      have htr := fun W => Tryd.strings_Trim_one (bs F) 32 (by decide) W (by rw [bs_size]; omega)
      rw [bs_data] at htr
      unfold bs at htr
      have HTR := hid htr
      clear HX HX2 hall hF hst hrw HZ htr H0
      go_wp2_with fail
      refine (Tryd.Builder_String_any_k w.heap.size w.heap.size F _ HY.out.1 (by have := HY.out.2.2; omega)).mono ?_
      rintro e w2 ⟨rfl, _, g2, _⟩
      go_wp2_with fail
      refine (HTR.out _).mono ?_
      rintro e w3 ⟨rfl, h3⟩
      have hb3 : Below w.heap.size w w3 := by
        have := HY.out.2.1.trans g2
        rcases h3 with h3 | h3 <;> rw [h3]
        · exact this
        · exact this.drew
      clear g2 h3
      go_wp2_with fail
      go_ret
      exact ⟨by rw [HRW.out trivial]; rfl, hb3⟩
/-- the scheme of a link in lower case, if it has one -/
def schemeP (L : List UInt8) : List UInt8 × Bool := if L[markN L]? = some 58 then ((L.take (markN L)).map lowC, true) else ([], false)
theorem link_eq (schemes : List (List UInt8)) (v : List UInt8) : linkL schemes v = if (stripL v)[markN (stripL v)]? = some 58 ∧ schemes.contains (((stripL v).take (markN (stripL v))).map lowC) = false then ([], false) else (stripL v, true) := rfl
theorem link_scheme (schemes : List (List UInt8)) (v : List UInt8) : linkL schemes v = if (schemeP (stripL v)).2 = true ∧ schemes.contains (schemeP (stripL v)).1 = false then ([], false) else (stripL v, true) := by
  rw [link_eq]
  unfold schemeP
  by_cases h : (stripL v)[markN (stripL v)]? = some 58
  · rw [if_pos h]
    simp only [h, true_and]
  · rw [if_neg h, if_neg (fun h2 => h h2.1), if_neg (fun h2 => by simp at h2)]

set_option maxHeartbeats 2000000 in
set_option maxRecDepth 100000 in
theorem schemeOf_any (s : ByteArray) (w : World) (hs : s.size ≤ 10000000) :
    Calls Tryd.prog 149 #[.string s] w fun e w' => e = .returned (.tuple #[.string (bs (schemeP s.data.toList).1), .bool (schemeP s.data.toList).2]) ∧ Below w.heap.size w w' := by
  have hz := size_eq s
  have hix := idxAny_any s w (by omega)
  have hml := markN_le s.data.toList
  rw [← hz] at hml
  unfold marksB at hix
  unfold markIx at hix
  rw [← hz] at hix
  unfold schemeP
  by_cases hlt : markN s.data.toList < s.size
  · rw [if_pos hlt] at hix
    obtain ⟨n, hn⟩ : ∃ n, markN s.data.toList = n := ⟨_, rfl⟩
    rw [hn] at hix hlt ⊢
    obtain ⟨c, hc⟩ : ∃ c, s[n]'hlt = c := ⟨_, rfl⟩
    have hcl := getElem_list hlt hc
    have q0 : ¬ (n : Int) < 0 := by omega
    rw [hcl]
    have HIX := hid hix
    by_cases h58 : c = 58
    · subst h58
      rw [if_pos rfl]
      have q2 : (((58 : UInt8).toNat : Int) != 58) = false := rfl
      have hlo := fun W => lower_any (s.extract 0 n) W (by rw [size_eq, extract_list]; simp; omega)
      rw [show (s.extract 0 n).data.toList = s.data.toList.take n from by rw [extract_list]; simp] at hlo
      obtain ⟨X, hX⟩ : ∃ X, bs ((s.data.toList.take n).map lowC) = X := ⟨_, rfl⟩
      simp only
      rw [hX]
      have HLO : Hid (∀ W, Calls Tryd.prog 160 #[.string (s.extract 0 n)] W fun e w' => e = .returned (.string X) ∧ Below W.heap.size W w') := by rw [← hX]; exact hlo
      clear hix hcl hlo hml hn hz hX
      go_enter Tryd.func149, Tryd.ntmps149
      go_wp2_with (first | (go_at_call 159; refine HIX.out.mono ?_; rintro e w1 ⟨rfl, b1⟩) | (go_at_call 160; refine (HLO.out _).mono ?_; rintro e w2 ⟨rfl, b2⟩))
      go_ret2
      exact ⟨rfl, b1.trans (b2.mono b1.size)⟩
    · rw [if_neg (by simpa using h58)]
      have hne : c.toNat ≠ 58 := fun e => h58 (UInt8.toNat_inj.1 (e.trans rfl))
      have q2 : ((c.toNat : Int) != 58) = true := bne_iff_ne.2 (by omega)
      clear hix hcl hml hn hz h58 hne
      go_enter Tryd.func149, Tryd.ntmps149
      go_wp2_with (go_at_call 159; refine HIX.out.mono ?_; rintro e w1 ⟨rfl, b1⟩)
      go_ret2
      exact ⟨rfl, b1⟩
  · rw [if_neg hlt] at hix
    rw [if_neg (fun h => hlt (by have := (List.getElem?_eq_some_iff.1 h).1; rw [hz]; exact this))]
    have HIX := hid hix
    clear hix hml hz
    go_enter Tryd.func149, Tryd.ntmps149
    go_wp2_with (go_at_call 159; refine HIX.out.mono ?_; rintro e w1 ⟨rfl, b1⟩)
    go_ret2
    exact ⟨rfl, b1⟩

set_option maxHeartbeats 2000000 in
set_option maxRecDepth 100000 in
theorem cleanURL_any (sv : Value) (schemes : List (List UInt8)) (v : ByteArray) (w : World) (h : Words w sv schemes) (hv : v.size ≤ 10000000) :
    Calls Tryd.prog 140 #[sv, .string v] w fun e w' => e = .returned (.tuple #[.string (bs (linkL schemes v.data.toList).1), .bool (linkL schemes v.data.toList).2]) ∧ Below w.heap.size w w' := by
  have hsl : (stripL v.data.toList).length ≤ v.size := by
    rw [← strip_trim, size_eq]
    unfold Lib.trimB Lib.trimLeftB Lib.trimRightB
    have h1 : ∀ (p : UInt8 → Bool) (l : List UInt8), (l.dropWhile p).length ≤ l.length := fun p l => (List.dropWhile_suffix p).length_le
    have h2 := h1 (fun c => c == 32) ((List.filter seenB v.data.toList).reverse.dropWhile fun c => c == 32).reverse
    have h3 := h1 (fun c => c == 32) (List.filter seenB v.data.toList).reverse
    have h4 := List.length_filter_le seenB v.data.toList
    rw [List.length_reverse] at h2
    rw [List.length_reverse] at h3
    omega
  have hst := strip_any v w (by omega)
  have hsc := fun W => schemeOf_any (bs (stripL v.data.toList)) W (by rw [bs_size]; omega)
  rw [bs_data] at hsc
  rw [link_scheme]
  generalize stripL v.data.toList = L at hsl hst hsc ⊢
  obtain ⟨S, hS⟩ : ∃ S, bs L = S := ⟨_, rfl⟩
  have hz : L.length ≤ 10000000 := by omega
  obtain ⟨q, hq⟩ : ∃ q, schemeP L = q := ⟨_, rfl⟩
  obtain ⟨sch, fnd⟩ := q
  rw [hq] at hsc ⊢
  rw [hS] at hst hsc
  simp only at hsc ⊢
  obtain ⟨X, hX⟩ : ∃ X, bs sch = X := ⟨_, rfl⟩
  rw [hX] at hsc
  have hct := fun W hW => slContains_any sv schemes X W hW
  rw [← hX, bs_toList, hX] at hct
  have HW := hid h
  obtain ⟨sp, sc, rfl, _⟩ := h.len
  have HST := hid hst
  have HSC := hid hsc
  clear hst hsc hsl hq h hX
  cases fnd
  · rw [if_neg (fun h => by simp at h), hS]
    clear hct hS
    go_enter Tryd.func140, Tryd.ntmps140
    go_wp2_with (first | (go_at_call 148; refine HST.out.mono ?_; rintro e w1 ⟨rfl, b1⟩) | (go_at_call 149; refine (HSC.out _).mono ?_; rintro e w2 ⟨rfl, b2⟩))
    go_ret2
    exact ⟨rfl, b1.trans (b2.mono b1.size)⟩
  · obtain ⟨B, hB⟩ : ∃ B, schemes.contains sch = B := ⟨_, rfl⟩
    rw [hB] at hct ⊢
    have HCT := hid hct
    clear hct hB
    cases B
    · rw [if_pos ⟨rfl, rfl⟩]
      clear hS
      go_enter Tryd.func140, Tryd.ntmps140
      go_wp2_with (first | (go_at_call 148; refine HST.out.mono ?_; rintro e w1 ⟨rfl, b1⟩) | (go_at_call 149; refine (HSC.out _).mono ?_; rintro e w2 ⟨rfl, b2⟩; have HB := hid (b1.trans (b2.mono b1.size)); clear b1 b2) | (go_at_call 102; refine (HCT.out _ (HW.out.below HB.out)).mono ?_; rintro e w3 ⟨rfl, rfl⟩))
      go_ret2
      exact ⟨rfl, HB.out⟩
    · rw [if_neg (fun h => by simp at h), hS]
      clear hS
      go_enter Tryd.func140, Tryd.ntmps140
      go_wp2_with (first | (go_at_call 148; refine HST.out.mono ?_; rintro e w1 ⟨rfl, b1⟩) | (go_at_call 149; refine (HSC.out _).mono ?_; rintro e w2 ⟨rfl, b2⟩; have HB := hid (b1.trans (b2.mono b1.size)); clear b1 b2) | (go_at_call 102; refine (HCT.out _ (HW.out.below HB.out)).mono ?_; rintro e w3 ⟨rfl, rfl⟩))
      go_ret2
      exact ⟨rfl, HB.out⟩
end Go.Proofs.YtkcgmimldjeaiaaDoor

/-
  Package written: the Writer: its walks.
-/
namespace Go.Proofs.YtkcgmimldjeaiaaDoor
open Go.RowKit Go.Lib Own

theorem ret_txt {a b : ByteArray} (h : a = b) : Ending.returned (.string a) = .returned (.string b) := by rw [h]
theorem eatsNl_any (x : ByteArray) (w : World) : Calls Tryd.prog 113 #[.string x] w fun e w' => e = .returned (.bool (eatsL x.toList)) ∧ w' = w := by
  unfold eatsL
  by_cases h1 : (x.toList == [112, 114, 101]) = true
  · rw [h1, Bool.true_or]
    go_enter Tryd.func113, Tryd.ntmps113
    go_wp2
    go_ret
    exact ⟨rfl, rfl⟩
  · rw [Bool.not_eq_true] at h1
    rw [h1, Bool.false_or]
    obtain ⟨R, hR⟩ : ∃ R, (x.toList == [116, 101, 120, 116, 97, 114, 101, 97]) = R := ⟨_, rfl⟩
    rw [hR]
    go_enter Tryd.func113, Tryd.ntmps113
    go_wp2
    go_ret
    exact ⟨rfl, rfl⟩

/-- a text as it is written, and whether a newline is still to be guarded -/
def textW (eat : Bool) (t : List UInt8) : Bool × List UInt8 :=
  if t = [] then (eat, []) else (false, (if eat = true ∧ t.head? = some 10 then [10] else []) ++ escL false t)
def takeW (eat : Bool) (e : EvP) : Bool × List UInt8 :=
  if e.k = 1 then (eatsL e.n, openL e.n e.a) else if e.k = 2 then (false, etagL e.n) else if e.k = 3 then textW eat e.t else (eat, [])
def writeW (eat : Bool) : List EvP → List UInt8
  | [] => []
  | e :: r => (takeW eat e).2 ++ writeW (takeW eat e).1 r

theorem grown_below {w w' : World} (h : Below w.heap.size w w') (row : Option Nat) : w.grownBy w' row := ⟨h.os, h.tape, h.output, h.size, fun k hk _ => h.block k hk⟩
theorem just_grown {w w' : World} {b : Nat} {cs : Array Value} {T : TypeId} (h : Just w w' b cs T) : w.grownBy w' (some b) := ⟨h.os, h.tape, h.output, by rw [h.size]; exact Nat.le_refl _, fun k _ hk => h.other k (fun e => hk (by rw [e]))⟩
theorem cell_grown {w w' : World} {b o k : Nat} {v : Value} (h : w.cell? ⟨b, o, none⟩ = some v) (hg : w.grownBy w' (some k)) (hb : b ≠ k) : w'.cell? ⟨b, o, none⟩ = some v := by
  have := hg.block b (cell_block h) (fun e => hb (Option.some.inj e))
  unfold World.cell? at h ⊢
  rw [this]
  exact h

/-- the flag of a Writer that lies at cell o of block b -/
structure EatAt (w : World) (b o : Nat) (cs : Array Value) (T : TypeId) (eat : Bool) : Prop where
  at_ : w.heap[b]? = some (.cells cs T (0, 0))
  c : cs[o]? = some (.bool eat)

set_option maxHeartbeats 2000000 in
set_option maxRecDepth 100000 in
theorem wText_any (b o : Nat) (cs : Array Value) (T : TypeId) (eat : Bool) (t : ByteArray) (m : Int) (w : World) (h : EatAt w b o cs T eat) (ht : t.size ≤ 100000000) (hm : w.cell? ⟨10, 0, none⟩ = some (.int .i64 m)) (hmb : 10 ≠ b) :
    Calls Tryd.prog 115 #[.pointer (some ⟨b, o, none⟩), .string t] w fun e w' => e = .returned (.string (bs (textW eat t.data.toList).2)) ∧ w'.heap[b]? = some (.cells (cs.setIfInBounds o (.bool (textW eat t.data.toList).1)) T (0, 0)) ∧ w.grownBy w' (some b) := by
  have hc := cell_at h.at_ h.c
  have hz := size_eq t
  by_cases h0 : t.data.toList = []
  · have q : (t.toList == []) = true := by rw [Lib.toList_data, h0]; rfl
    have hcs : cs.setIfInBounds o (.bool eat) = cs := set_same h.c
    unfold textW
    rw [if_pos h0]
    simp only
    rw [hcs]
    clear hz hm ht
    go_enter Tryd.func115, Tryd.ntmps115
    go_wp2
    go_ret
    exact ⟨rfl, h.at_, World.grownBy.refl _ _⟩
  · have q : (t.toList == []) = false := by rw [Lib.toList_data]; exact beq_eq_false_iff_ne.2 h0
    have hp : 0 < t.size := by rw [hz]; exact List.length_pos_iff.2 h0
    obtain ⟨c, hcc⟩ : ∃ c, t[0]'hp = c := ⟨_, rfl⟩
    have hl := getElem_list hp hcc
    have hhd : t.data.toList.head? = some c := by rw [List.head?_eq_getElem?]; exact hl
    have j1 := just_set (j := o) h.at_ (.bool false)
    have hm1 := cell_grown hm (just_grown j1) hmb
    have ct := wrText_any t m _ ht hm1
    have e1 : (textW eat t.data.toList).1 = false := by unfold textW; rw [if_neg h0]
    have e2 : (textW eat t.data.toList).2 = (if eat = true ∧ c = 10 then [10] else []) ++ escL false t.data.toList := by
      unfold textW
      rw [if_neg h0, hhd]
      simp only [Option.some.injEq]
    rw [e1, e2]
    obtain ⟨E, hE⟩ : ∃ E, escL false t.data.toList = E := ⟨_, rfl⟩
    have hEl : (bs E).size ≤ 1000000000 := by rw [bs_size, ← hE]; have := esc_len false _ t.data.toList (Nat.le_refl _); omega
    rw [hE] at ct ⊢
    obtain ⟨S, hS⟩ : ∃ S, bs E = S := ⟨_, rfl⟩
    have HS := hid (fun (_ : True) => hS)
    rw [hS] at ct hEl
    have CT := hid ct
    have HJ := hid j1
    have hfz := free_at h.at_ o
    clear ct j1 hm1 hm hz hl hhd e1 e2 hE hS h h0 ht
    have fin : ∀ W3, Below (w.setCell ⟨b, o, none⟩ (.bool false)).heap.size (w.setCell ⟨b, o, none⟩ (.bool false)) W3 → W3.heap[b]? = some (.cells (cs.setIfInBounds o (.bool false)) T (0, 0)) ∧ w.grownBy W3 (some b) := fun W3 hb3 =>
      ⟨(hb3.block b (block_lt HJ.out.at_)).trans HJ.out.at_, (just_grown HJ.out).trans (grown_below hb3 _)⟩
    have FIN := hid fin
    clear fin
    by_cases hg : eat = true ∧ c = 10
    · rw [if_pos hg]
      obtain ⟨rfl, rfl⟩ := hg
      obtain ⟨R, hR⟩ : ∃ R, bs ([10] ++ E) = R := ⟨_, rfl⟩
      have hR2 : (⟨#[10]⟩ : ByteArray) ++ S = R := by
        rw [← hR, ← bs_cat, HS.out trivial]
        rfl
      rw [hR]
      have HR := hid (fun (_ : True) => hR2)
      clear hR hR2 HS
      go_enter Tryd.func115, Tryd.ntmps115
      go_wp2_with (go_at_call 131; refine CT.out.mono ?_; rintro e W3 ⟨rfl, b3⟩)
      go_ret
      exact ⟨ret_txt (HR.out trivial), FIN.out W3 b3⟩
    · rw [if_neg hg]
      obtain ⟨R, hR⟩ : ∃ R, bs ([] ++ E) = R := ⟨_, rfl⟩
      have hR2 : (⟨#[]⟩ : ByteArray) ++ S = R := by
        rw [← hR, ← bs_cat, HS.out trivial]
        rfl
      rw [hR]
      have HR := hid (fun (_ : True) => hR2)
      clear hR hR2 HS
      cases eat
      · clear hg
        go_enter Tryd.func115, Tryd.ntmps115
        go_wp2_with (go_at_call 131; refine CT.out.mono ?_; rintro e W3 ⟨rfl, b3⟩)
        go_ret
        exact ⟨ret_txt (HR.out trivial), FIN.out W3 b3⟩
      · have hc10 : c ≠ 10 := fun e => hg ⟨rfl, e⟩
        have hn10 : c.toNat ≠ 10 := fun e => hc10 (UInt8.toNat_inj.1 (e.trans rfl))
        have q11 : ((c.toNat : Int) == 10) = false := beq_eq_false_iff_ne.2 (by omega)
        clear hg hc10 hn10
        go_enter Tryd.func115, Tryd.ntmps115
        go_wp2_with (go_at_call 131; refine CT.out.mono ?_; rintro e W3 ⟨rfl, b3⟩)
        go_ret
        exact ⟨ret_txt (HR.out trivial), FIN.out W3 b3⟩

set_option maxHeartbeats 4000000 in
set_option maxRecDepth 100000 in
theorem wTake_any (b o : Nat) (cs : Array Value) (T : TypeId) (eat : Bool) (e : EvP) (u : Value) (m : Int) (w0 w : World) (h : EatAt w b o cs T eat) (hu0 : AttrsR w0 u e.a) (hb0 : Below w0.heap.size w0 w) (hlo : w0.heap.size ≤ b) (hs : e.n.length + e.t.length + bulkA e.a ≤ 100000000)
    (hm0 : w0.cell? ⟨10, 0, none⟩ = some (.int .i64 m)) :
    Calls Tryd.prog 77 #[.pointer (some ⟨b, o, none⟩), .agg (evC e u)] w fun r w' => r = .returned (.string (bs (takeW eat e).2)) ∧ w'.heap[b]? = some (.cells (cs.setIfInBounds o (.bool (takeW eat e).1)) T (0, 0)) ∧ w.grownBy w' (some b) := by
  obtain ⟨p, c, rfl⟩ := hu0.len
  have hmb : 10 ≠ b := by have := cell_block hm0; omega
  have hm := cell_low hm0 hb0 (cell_block hm0)
  have hu := hu0.below hb0
  have hbs := block_lt h.at_
  have hB := (Below.refl w.heap.size w).alloc (Nat.le_refl _) (.cells (evC e (.slice p e.a.length c)) 39)
  have hn := heap_alloc_new w (.cells (evC e (.slice p e.a.length c)) 39)
  obtain ⟨W1, hW1⟩ : ∃ W1, w.alloc (.cells (evC e (.slice p e.a.length c)) 39) = W1 := ⟨_, rfl⟩
  have hsz1 : W1.heap.size = w.heap.size + 1 := by rw [← hW1]; simp
  rw [hW1] at hB hn
  have h1 : EatAt W1 b o cs T eat := ⟨(hB.block b hbs).trans h.at_, h.c⟩
  have hm1 := cell_low hm hB (cell_block hm)
  have hu1 := hu.below hB
  obtain ⟨c0, c1, c2, c3⟩ := evC_at hn
  have hg1 := grown_below hB (some b)
  have hbe := cell_at h1.at_ h1.c
  have hfz := free_at h1.at_ o
  unfold evC at hW1 ⊢
  have HG := hid hg1
  have HB1 := hid (hb0.trans (hB.mono hb0.size))
  clear hB hg1 hu hm h
  have hj : ∀ v, Hid (Just W1 (W1.setCell ⟨b, o, none⟩ (.bool v)) b (cs.setIfInBounds o (.bool v)) T) := fun v => just_set (j := o) h1.at_ (.bool v)
  have fin : ∀ v W3, Below (W1.setCell ⟨b, o, none⟩ (.bool v)).heap.size (W1.setCell ⟨b, o, none⟩ (.bool v)) W3 → W3.heap[b]? = some (.cells (cs.setIfInBounds o (.bool v)) T (0, 0)) ∧ w.grownBy W3 (some b) := fun v W3 hb3 =>
    ⟨(hb3.block b (block_lt (hj v).out.at_)).trans (hj v).out.at_, (HG.out.trans (just_grown (hj v).out)).trans (grown_below hb3 _)⟩
  have FIN := hid fin
  have hm2 : ∀ v, (W1.setCell ⟨b, o, none⟩ (.bool v)).cell? ⟨10, 0, none⟩ = some (.int .i64 m) := fun v => cell_grown hm1 (just_grown (hj v).out) hmb
  clear fin
  by_cases k1 : e.k = 1
  · have e1 : takeW eat e = (eatsL e.n, openL e.n e.a) := by unfold takeW; rw [if_pos k1]
    rw [e1, k1]
    simp only
    rw [k1] at c0 hW1
    have hst := startTag_any (bs e.n) (.slice p e.a.length c) e.a m (W1.setCell ⟨b, o, none⟩ (.bool (eatsL e.n))) (by rw [bs_size]; omega) (hu0.below (HB1.out.setCell hlo _)) (by omega) (hm2 _)
    have het := fun W => eatsNl_any (bs e.n) W
    rw [bs_data] at hst
    rw [bs_toList] at het
    have fin2 := FIN.out (eatsL e.n)
    obtain ⟨v, hv⟩ : ∃ v, eatsL e.n = v := ⟨_, rfl⟩
    rw [hv] at het hst fin2 ⊢
    have HST := hid hst
    have HET := hid het
    have HF := hid fin2
    clear hst het fin2 hv hm2 hj FIN e1 k1 hs hn
    go_enter Tryd.func77, Tryd.ntmps77
    go_wp2_with (go_at_call 113; refine (HET.out _).mono ?_; rintro r W2 ⟨rfl, rfl⟩)
    refine HST.out.mono ?_
    rintro r W3 ⟨rfl, b3⟩
    go_wp2_with fail
    go_ret
    exact ⟨rfl, HF.out _ b3⟩
  · have q1 : (e.k == 1) = false := beq_eq_false_iff_ne.2 k1
    by_cases k2 : e.k = 2
    · have e1 : takeW eat e = (false, etagL e.n) := by unfold takeW; rw [if_neg k1, if_pos k2]
      rw [e1, k2]
      simp only
      rw [k2] at c0 hW1 q1
      have hen := fun W => wrEnd_any (bs e.n) W (by rw [bs_size]; omega)
      rw [bs_data] at hen
      have HEN := hid hen
      have HF := hid (FIN.out false)
      clear hen FIN hm2 hj e1 k1 k2 hs hn
      go_enter Tryd.func77, Tryd.ntmps77
      go_wp2_with (go_at_call 114; refine (HEN.out _).mono ?_; rintro r W3 ⟨rfl, rfl⟩)
      go_ret
      exact ⟨rfl, HF.out _ (Below.refl _ _)⟩
    · have q2 : (e.k == 2) = false := beq_eq_false_iff_ne.2 k2
      by_cases k3 : e.k = 3
      · have e1 : takeW eat e = textW eat e.t := by unfold takeW; rw [if_neg k1, if_neg k2, if_pos k3]
        rw [e1, k3]
        rw [k3] at c0 hW1 q1 q2
        have htx := wText_any b o cs T eat (bs e.t) m W1 h1 (by rw [bs_size]; omega) hm1 hmb
        rw [bs_data] at htx
        generalize textW eat e.t = tw at htx ⊢
        obtain ⟨t1, t2⟩ := tw
        simp only at htx ⊢
        have HTX := hid htx
        clear htx FIN hm2 hj e1 k1 k2 k3 hs hn
        go_enter Tryd.func77, Tryd.ntmps77
        go_wp2_with (go_at_call 115; refine HTX.out.mono ?_; rintro r W3 ⟨rfl, a3, g3⟩)
        go_ret
        exact ⟨rfl, a3, HG.out.trans g3⟩
      · have q3 : (e.k == 3) = false := beq_eq_false_iff_ne.2 k3
        have e1 : takeW eat e = (eat, []) := by unfold takeW; rw [if_neg k1, if_neg k2, if_neg k3]
        have hcs : cs.setIfInBounds o (.bool eat) = cs := set_same h1.c
        rw [e1]
        simp only
        rw [hcs]
        have h1a := hid h1.at_
        clear FIN hm2 hj e1 k1 k2 k3 hs hn hcs
        go_enter Tryd.func77, Tryd.ntmps77
        go_wp2
        go_ret
        exact ⟨rfl, h1a.out, HG.out⟩
end Go.Proofs.YtkcgmimldjeaiaaDoor

/-
  Words that can be read, as apartLists wants them.
-/
namespace Go.Proofs.YtkcgmimldjeaiaaDoor
open Go.RowKit Go.Lib Own

/-- words that can be read, as apartLists wants them -/
theorem words_at {W : World} {p : Option Addr} {n c : Nat} {ss : List (List UInt8)} (h : Words W (.slice p n c) ss) : n = ss.length ∧ WordsAt W W.heap.size p (ss.map bs) := by
  obtain ⟨p', c', e, _, _, hc, _⟩ := h
  cases e
  refine ⟨rfl, ⟨fun j hj => ?_⟩⟩
  rw [List.length_map] at hj
  obtain ⟨b, o, hp, hcell⟩ := hc j ss[j] (List.getElem?_eq_getElem hj)
  refine ⟨b, o, hp, cell_block hcell, ?_⟩
  rw [hcell]
  simp [List.getD, hj]
theorem Words.low {W W' : World} {v : Value} {ss : List (List UInt8)} {B : Nat} (h : Words W v ss) (hB : W.heap.size ≤ B) (hb : Below B W W') : Words W' v ss := h.below (hb.mono hB)

theorem PowB.up {base base2 : Nat} {w : World} (h : PowB base w) (hb : base ≤ base2) : PowB base2 w := ⟨h.1, Nat.lt_of_lt_of_le h.2 hb⟩
end Go.Proofs.YtkcgmimldjeaiaaDoor

/-
  From what a row says of the tables of words to what lies in memory.
-/
namespace Go.Proofs.YtkcgmimldjeaiaaDoor
open Go.RowKit Go.Lib Go.ChangeShapes Go.Deep

theorem range_ofK {P : Program} {w : World} {n : String} {g : Nat} {cs : Array Value} {L : List Value} (hg : P.globalNamed n = some g) (hvar : w.var? P n = some cs) (h : ∀ (j : Nat) (v : Value), L[j]? = some v → cs.toList[j]? = some v) : w.rangeAt g 0 L := by
  intro j v hv
  rw [Nat.zero_add, World.var?_cell hg hvar j, ← Array.getElem?_toList]
  exact h j v hv
theorem one_atK {α : Type} {l : List α} {j : Nat} {x : α} (h : (l.drop j).take 1 = [x]) : l[j]? = some x := by
  have := congrArg (·[0]?) h
  simpa using this
theorem strs_ofK {P : Program} {w : World} {n : String} {g t e m : Nat} {T : List (List UInt8)} (hg : P.globalNamed n = some g) (ht : (P.globals[g]?).map (·.type) = some t)
    (hu : P.underlying t = some (.array m e)) (he : P.underlying e = some .string) (hce : P.cellsOf e = 1) (hm : T.length = m) (h : VarReads P w n (.agg (T.map fun x => .lit (.string x)))) : w.rangeAt g 0 (T.map fun s => .string (bs s)) := by
  obtain ⟨g', t', cs, fuel, p, hg', hty, hvar, hd⟩ := h
  obtain rfl := Option.some.inj (hg.symm.trans hg')
  obtain rfl := Option.some.inj (ht.symm.trans hty)
  refine range_ofK hg hvar (fun j v hv => ?_)
  rw [List.getElem?_map] at hv
  obtain ⟨x, hx, rfl⟩ := Option.map_eq_some_iff.1 hv
  obtain ⟨fuel', d, q, hdi, hel⟩ := array_elem hu hd j (by rw [← hm]; exact (List.getElem?_eq_some_iff.1 hx).1)
  rw [List.getElem?_map, hx] at hdi
  simp only [Option.map_some, Option.some.injEq] at hdi
  subst hdi
  rw [hce, Nat.mul_one] at hel
  obtain ⟨s, hs, hx2, _⟩ := DataW.trod_string he hel
  simp only [Prod.mk.injEq, DataW.lit.injEq, Lit.string.injEq] at hx2
  rw [one_atK hs, hx2.1]
  rfl

theorem list3 {l : List Value} {a b c : Value} (hl : l.length = 3) (h0 : (l.drop 0).take 1 = [a]) (h1 : (l.drop 1).take 1 = [b]) (h2 : (l.drop 2).take 1 = [c]) : l = [a, b, c] := by
  match l, hl with
  | [x, y, z], _ =>
    simp only [List.drop_zero, List.take_succ_cons, List.take_zero, List.drop_succ_cons, List.cons.injEq, and_true] at h0 h1 h2
    rw [h0, h1, h2]
theorem add_noneK (b o : Nat) (n : Nat) : (⟨b, o, none⟩ : Addr).add n = ⟨b, o + n, none⟩ := by unfold Addr.add; split <;> simp_all
set_option maxRecDepth 100000 in
theorem kinds_of {w : World} (h : VarReads Tryd.prog w "scrub/vocabulary.kinds" (.agg (kindT.map fun x => .agg [.slice (x.1.map fun s => .lit (.string s)) [], .lit (.int .i64 x.2.1), .lit (.int .i64 x.2.2)]))) : KindsTab w := by
  obtain ⟨g', t', cs, fuel, p, hg', hty, hvar, hd⟩ := h
  obtain rfl := Option.some.inj ((show Tryd.prog.globalNamed "scrub/vocabulary.kinds" = some 4 by kernel_rfl).symm.trans hg')
  obtain rfl := Option.some.inj ((show (Tryd.prog.globals[4]?).map (·.type) = some 163 by kernel_rfl).symm.trans hty)
  obtain ⟨_, _, _, _, hlen, _⟩ := DataW.trod_array Tryd.underlying163 hd
  have k36 : Tryd.prog.cellsOf 163 = 36 := by kernel_rfl
  have k3 : Tryd.prog.cellsOf 162 = 3 := by kernel_rfl
  have k1 : Tryd.prog.cellsOf 23 = 1 := by kernel_rfl
  have ki : Tryd.prog.cellsOf 3 = 1 := by kernel_rfl
  refine ⟨cs.toList, by rw [← k36]; exact hlen, range_ofK (by kernel_rfl) hvar (fun j v hv => hv), fun k x hx => ?_⟩
  obtain ⟨fuel', d, q, hdi, hel⟩ := array_elem Tryd.underlying163 hd k (by have := (List.getElem?_eq_some_iff.1 hx).1; exact this)
  rw [List.getElem?_map, hx] at hdi
  simp only [Option.map_some, Option.some.injEq] at hdi
  subst hdi
  rw [k3] at hel
  obtain ⟨y0, y1, y2, n, hy, hl3, g0, g1, g2⟩ := trod_struct3 Tryd.underlying162 hel
  simp only [Prod.mk.injEq, DataW.agg.injEq, List.cons.injEq, and_true] at hy
  obtain ⟨⟨hy0, hy1, hy2⟩, _⟩ := hy
  have kc : Tryd.prog.cellsOf 137 = 1 := by kernel_rfl
  have km : Tryd.prog.cellsOf 138 = 1 := by kernel_rfl
  dsimp only at g0 g1 g2
  rw [k1] at g0
  rw [kc] at g1
  rw [km] at g2
  obtain ⟨n1, c1, e1, _⟩ := DataW.trod_int (k := .i64) (by kernel_rfl) g1
  obtain ⟨n2, c2, e2, _⟩ := DataW.trod_int (k := .i64) (by kernel_rfl) g2
  rw [e1] at hy1
  rw [e2] at hy2
  simp only [DataW.lit.injEq, Lit.int.injEq, true_and] at hy1 hy2
  rcases open_strings Tryd.underlying23 Tryd.underlying9 (by kernel_rfl) g0 with ⟨hcs, hx0⟩ | ⟨a, len, cap, ss, hcs, _, hl, hm9, hz, hx0, hcell, _⟩
  · rw [hx0] at hy0
    cases hy0
  · rw [hx0] at hy0
    simp only [DataW.slice.injEq] at hy0
    simp only [if_true] at hz
    refine ⟨.slice (some a) len cap, ?_, some a, cap, ?_, ?_, ?_, fun j s hj => ?_, fun h => by cases h⟩
    · rw [hy1, hy2]
      exact list3 (hl3.trans k3) hcs c1 c2
    all_goals have hxl := congrArg List.length hy0.1
    all_goals have hdl := congrArg List.length hy0.2
    all_goals unfold strs at hxl hdl
    all_goals simp only [List.length_map, List.length_take, List.length_drop, List.length_nil] at hxl hdl
    · rw [hxl]
      congr 1
      omega
    · omega
    · unfold maxLen at hm9
      omega
    · have hjl := (List.getElem?_eq_some_iff.1 hj).1
      have hc0 := hcell 0 (by omega)
      have hc := hcell j (by omega)
      obtain ⟨b, o, sp⟩ := a
      rw [show (⟨b, o, sp⟩ : Addr).add 0 = ⟨b, o, sp⟩ by simp [Addr.add]] at hc0
      obtain rfl := cell_spot hc0
      rw [add_noneK] at hc
      refine ⟨b, o, rfl, ?_⟩
      have he := congrArg (·[j]?) hy0.1
      unfold strs at he
      simp only [List.getElem?_map, hj, Option.map_some, List.getElem?_take_of_lt (show j < len by omega)] at he
      obtain ⟨s0, hs0, he0⟩ := Option.map_eq_some_iff.1 he.symm
      simp only [DataW.lit.injEq, Lit.string.injEq] at he0
      rw [hc, List.getD_eq_getElem?_getD, hs0, ← he0]
      rfl
end Go.Proofs.YtkcgmimldjeaiaaDoor
