/-
  Parts of the walk, joined: FoldL, InBuilder, TagName, OwnEnd, PolLink, PolCodeC, PolCodeD.
-/
import Derived.Test.YtkcgmimldjeaiaaDoorMemW
import Derived.Test.YtkcgmimldjeaiaaDoorGen
import Derived.Test.YtkcgmimldjeaiaaDoorOwn
import Derived.Test.YtkcgmimldjeaiaaDoorShelf
import Derived.Laws.Tables
import Derived.Lib.Builder
import Derived.Lib.FrozenHead2
import Derived.Lib.OthersKept
import Derived.Test.YtkcgmimldjeaiaaDoorLower
import Derived.BigQuiet
import Derived.Test.YtkcgmimldjeaiaaDoorPolMem
import Derived.Test.YtkcgmimldjeaiaaDoorPolCodeB
/-
  Fold as a plain function on events: a node for each event, and texts of one depth that meet made one.
-/
namespace Go.Proofs.YtkcgmimldjeaiaaDoor
open Go.RowKit Go.Lib

def voidL (n : List UInt8) : Bool := n == [98, 114] || (n == [104, 114] || n == [105, 109, 103])
/-- a node for each event that adds or goes on with one -/
def piecesL : Nat → List EvP → List EvP
  | _, [] => []
  | d, e :: r =>
    if e.k = 1 then (if e.n = [] then piecesL (d + 1) r else ⟨d, e.n, e.a, []⟩ :: piecesL (if voidL e.n = true then d else d + 1) r)
    else if e.k = 2 then piecesL (d - 1) r else if e.k = 3 ∧ e.t ≠ [] then ⟨d, [], [], e.t⟩ :: piecesL d r else piecesL d r
/-- may m go on with n? -/
def meetsN (n m : EvP) : Prop := n.n = [] ∧ m.n = [] ∧ m.k = n.k
instance (n m : EvP) : Decidable (meetsN n m) := by unfold meetsN; infer_instance
def jn (n : EvP) : List EvP → List EvP
  | [] => [n]
  | m :: r => if meetsN n m then ⟨n.k, n.n, n.a, n.t ++ m.t⟩ :: r else n :: m :: r
def joinN (l : List EvP) : List EvP := l.foldr jn []
theorem joinN_cons (n : EvP) (l : List EvP) : joinN (n :: l) = jn n (joinN l) := rfl
theorem jn_nil (n : EvP) : jn n [] = [n] := rfl
theorem jn_cons (n m : EvP) (r : List EvP) : jn n (m :: r) = if meetsN n m then ⟨n.k, n.n, n.a, n.t ++ m.t⟩ :: r else n :: m :: r := rfl
theorem jn_head (n : EvP) (l : List EvP) : ∃ t r, jn n l = ⟨n.k, n.n, n.a, t⟩ :: r := by
  cases l with
  | nil => exact ⟨n.t, [], rfl⟩
  | cons m r =>
    rw [jn_cons]
    by_cases h : meetsN n m
    · rw [if_pos h]; exact ⟨_, _, rfl⟩
    · rw [if_neg h]; exact ⟨n.t, _, rfl⟩
theorem jn_apart {n m : EvP} (h : ¬ meetsN n m) (l : List EvP) : jn n (jn m l) = n :: jn m l := by
  obtain ⟨t, r, e⟩ := jn_head m l
  rw [e, jn_cons]
  exact if_neg h
theorem jn_meet {n m : EvP} (h : meetsN n m) (l : List EvP) : jn n (jn m l) = jn ⟨n.k, n.n, n.a, n.t ++ m.t⟩ l := by
  cases l with
  | nil => rw [jn_nil, jn_nil, jn_cons, if_pos h]
  | cons x r =>
    by_cases hx : meetsN m x
    · have h2 : meetsN ⟨n.k, n.n, n.a, n.t ++ m.t⟩ x := ⟨h.1, hx.2.1, hx.2.2.trans h.2.2⟩
      have h3 : meetsN n ⟨m.k, m.n, m.a, m.t ++ x.t⟩ := h
      rw [jn_cons, if_pos hx, jn_cons, if_pos h3, jn_cons, if_pos h2]
      simp only [List.append_assoc]
    · have h2 : ¬ meetsN ⟨n.k, n.n, n.a, n.t ++ m.t⟩ x := fun q => hx ⟨h.2.1, q.2.1, q.2.2.trans h.2.2.symm⟩
      rw [jn_cons, if_neg hx, jn_cons, if_pos h, jn_cons, if_neg h2]
theorem jn_elem {n : EvP} (h : n.n ≠ []) (l : List EvP) : jn n l = n :: l := by
  cases l with
  | nil => rfl
  | cons m r => rw [jn_cons, if_neg (fun q : meetsN n m => h q.1)]
/-- Fold's answer -/
def foldP (es : List EvP) : List EvP := joinN (piecesL 0 es)
/-- the text that is under way -/
def pendN (td : Nat) (p : List UInt8) : List EvP := if p = [] then [] else [⟨td, [], [], p⟩]
/-- what is still to come, from nodes that are done, a depth, a text under way and its depth -/
def restN (d td : Nat) (p : List UInt8) (es : List EvP) : List EvP := joinN (pendN td p ++ piecesL d es)
theorem restN_end (d td : Nat) (p : List UInt8) : restN d td p [] = pendN td p := by
  unfold restN pendN piecesL
  split <;> rfl
theorem pieces_step (d : Nat) (e : EvP) (r : List EvP) : piecesL d (e :: r) = if e.k = 1 then (if e.n = [] then piecesL (d + 1) r else ⟨d, e.n, e.a, []⟩ :: piecesL (if voidL e.n = true then d else d + 1) r)
    else if e.k = 2 then piecesL (d - 1) r else if e.k = 3 ∧ e.t ≠ [] then ⟨d, [], [], e.t⟩ :: piecesL d r else piecesL d r := rfl
theorem restN_start (d td : Nat) (p : List UInt8) (e : EvP) (r : List EvP) (h1 : e.k = 1) (h2 : e.n ≠ []) :
    restN d td p (e :: r) = pendN td p ++ ⟨d, e.n, e.a, []⟩ :: restN (if voidL e.n = true then d else d + 1) td [] r := by
  have h4 : jn ⟨d, e.n, e.a, []⟩ (joinN (piecesL (if voidL e.n = true then d else d + 1) r)) = ⟨d, e.n, e.a, []⟩ :: joinN (piecesL (if voidL e.n = true then d else d + 1) r) := jn_elem (n := ⟨d, e.n, e.a, []⟩) h2 _
  unfold restN pendN
  rw [pieces_step, if_pos h1, if_neg h2, if_pos rfl, List.nil_append]
  split
  · rw [List.nil_append, joinN_cons, h4, List.nil_append]
  · rw [List.singleton_append, joinN_cons, joinN_cons, jn_apart (n := ⟨td, [], [], p⟩) (m := ⟨d, e.n, e.a, []⟩) (fun q => h2 q.2.1), h4]
    rfl
theorem restN_anon (d td : Nat) (p : List UInt8) (e : EvP) (r : List EvP) (h1 : e.k = 1) (h2 : e.n = []) : restN d td p (e :: r) = restN (d + 1) td p r := by
  unfold restN
  rw [pieces_step, if_pos h1, if_pos h2]
theorem restN_stop (d td : Nat) (p : List UInt8) (e : EvP) (r : List EvP) (h1 : e.k = 2) : restN d td p (e :: r) = restN (d - 1) td p r := by
  unfold restN
  rw [pieces_step, if_neg (by omega), if_pos h1]
theorem restN_pass (d td : Nat) (p : List UInt8) (e : EvP) (r : List EvP) (h1 : e.k ≠ 1) (h2 : e.k ≠ 2) (h3 : ¬ (e.k = 3 ∧ e.t ≠ [])) : restN d td p (e :: r) = restN d td p r := by
  unfold restN
  rw [pieces_step, if_neg h1, if_neg h2, if_neg h3]
theorem pieces_text (d : Nat) (e : EvP) (r : List EvP) (h1 : e.k = 3) (h2 : e.t ≠ []) : piecesL d (e :: r) = ⟨d, [], [], e.t⟩ :: piecesL d r := by
  rw [pieces_step, if_neg (by omega), if_neg (by omega), if_pos ⟨h1, h2⟩]
theorem restN_join (d td : Nat) (p : List UInt8) (e : EvP) (r : List EvP) (h1 : e.k = 3) (h2 : e.t ≠ []) (h3 : td = d) : restN d td p (e :: r) = restN d d (p ++ e.t) r := by
  subst h3
  unfold restN pendN
  rw [pieces_text td e r h1 h2, if_neg (show p ++ e.t ≠ [] by simp [h2])]
  by_cases hp : p = []
  · subst hp
    rfl
  · rw [if_neg hp, List.singleton_append, joinN_cons, joinN_cons, jn_meet (n := ⟨td, [], [], p⟩) (m := ⟨td, [], [], e.t⟩) ⟨rfl, rfl, rfl⟩]
    rfl
theorem restN_part (d td : Nat) (p : List UInt8) (e : EvP) (r : List EvP) (h1 : e.k = 3) (h2 : e.t ≠ []) (h3 : td ≠ d) : restN d td p (e :: r) = pendN td p ++ restN d d e.t r := by
  unfold restN pendN
  rw [pieces_text d e r h1 h2, if_neg h2]
  by_cases hp : p = []
  · rw [if_pos hp]
    rfl
  · rw [if_neg hp, List.singleton_append, joinN_cons, List.singleton_append, joinN_cons, jn_apart (n := ⟨td, [], [], p⟩) (m := ⟨d, [], [], e.t⟩) (fun q => h3 (by have := q.2.2; simp only at this; omega))]
    rfl
theorem foldP_eq (es : List EvP) : foldP es = restN 0 0 [] es := rfl

/-! ## how long things are -/

theorem pieces_bulk : ∀ (es : List EvP) (d : Nat), bulkE (piecesL d es) ≤ bulkE es ∧ (piecesL d es).length ≤ es.length
  | [], _ => ⟨Nat.le_refl _, Nat.le_refl _⟩
  | e :: r, d => by
    have h1 := fun d => pieces_bulk r d
    rw [pieces_step, bulkE_cons, List.length_cons]
    split
    · split
      · have := h1 (d + 1); omega
      · have := h1 (if voidL e.n = true then d else d + 1)
        rw [bulkE_cons, List.length_cons]
        simp only [List.length_nil]
        omega
    · split
      · have := h1 (d - 1); omega
      · split
        · have := h1 d
          rw [bulkE_cons, List.length_cons]
          simp only [List.length_nil, show bulkA [] = 0 from rfl]
          omega
        · have := h1 d; omega
theorem jn_bulk (n : EvP) (l : List EvP) : bulkE (jn n l) ≤ bulkE (n :: l) ∧ (jn n l).length ≤ l.length + 1 := by
  cases l with
  | nil => exact ⟨Nat.le_refl _, Nat.le_refl _⟩
  | cons m r =>
    rw [jn_cons]
    by_cases h : meetsN n m
    · rw [if_pos h, bulkE_cons, bulkE_cons, bulkE_cons]
      simp only [List.length_append, List.length_cons]
      omega
    · rw [if_neg h]; exact ⟨Nat.le_refl _, Nat.le_refl _⟩
theorem joinN_bulk : ∀ l : List EvP, bulkE (joinN l) ≤ bulkE l ∧ (joinN l).length ≤ l.length
  | [] => ⟨Nat.le_refl _, Nat.le_refl _⟩
  | n :: l => by
    have h1 := joinN_bulk l
    have h2 := jn_bulk n (joinN l)
    rw [joinN_cons, bulkE_cons]
    rw [bulkE_cons] at h2
    simp only [List.length_cons]
    omega
theorem fold_bulk (es : List EvP) : bulkE (foldP es) ≤ bulkE es ∧ (foldP es).length ≤ es.length := by
  have h1 := joinN_bulk (piecesL 0 es)
  have h2 := pieces_bulk es 0
  unfold foldP
  omega
theorem pieces_depth : ∀ (es : List EvP) (d : Nat), ∀ n ∈ piecesL d es, 0 ≤ n.k ∧ n.k ≤ d + es.length
  | [], _, n, h => by cases h
  | e :: r, d, n, h => by
    have ih := fun d => pieces_depth r d n
    rw [pieces_step] at h
    simp only [List.length_cons]
    split at h
    · split at h
      · have := ih _ h; omega
      · rcases List.mem_cons.1 h with rfl | h
        · simp only; omega
        · have := ih _ h
          split at this <;> omega
    · split at h
      · have := ih _ h; omega
      · split at h
        · rcases List.mem_cons.1 h with rfl | h
          · simp only; omega
          · have := ih _ h; omega
        · have := ih _ h; omega
theorem jn_k (n : EvP) (l : List EvP) : ∀ x ∈ jn n l, x.k = n.k ∨ x ∈ l := by
  cases l with
  | nil => intro x hx; simp only [jn, List.mem_singleton] at hx; exact .inl (by rw [hx])
  | cons m r =>
    intro x hx
    rw [jn_cons] at hx
    by_cases h : meetsN n m
    · rw [if_pos h] at hx
      rcases List.mem_cons.1 hx with rfl | hx
      · exact .inl rfl
      · exact .inr (List.mem_cons_of_mem _ hx)
    · rw [if_neg h] at hx
      rcases List.mem_cons.1 hx with rfl | hx
      · exact .inl rfl
      · exact .inr hx
theorem joinN_k {p : Int → Prop} : ∀ l : List EvP, (∀ n ∈ l, p n.k) → ∀ n ∈ joinN l, p n.k
  | [], _, n, h => by cases h
  | m :: l, h, n, hn => by
    rw [joinN_cons] at hn
    rcases jn_k m _ n hn with e | hn
    · rw [e]; exact h m (List.mem_cons_self ..)
    · exact joinN_k l (fun x hx => h x (List.mem_cons_of_mem _ hx)) n hn
end Go.Proofs.YtkcgmimldjeaiaaDoor

/-
  A strings.Builder that lies inside another block, at some offset: its methods' walks.
-/
namespace Go.Proofs.YtkcgmimldjeaiaaDoor
open Go.RowKit Go.Lib Own

theorem just_same {W : World} {b : Nat} {cs : Array Value} {T : TypeId} (h : W.heap[b]? = some (.cells cs T (0, 0))) : Just W W b cs T := ⟨rfl, rfl, rfl, rfl, h, fun _ _ => rfl⟩
theorem shape_at {W : World} {b : Nat} {cs : Array Value} {T : TypeId} (h : W.heap[b]? = some (.cells cs T (0, 0))) : W.shape? b = some (T, cs.size) := by
  simp [World.shape?, h]
theorem set_same {cs : Array Value} {j : Nat} {v : Value} (h : cs[j]? = some v) : cs.setIfInBounds j v = cs := by
  obtain ⟨h1, h2⟩ := Array.getElem?_eq_some_iff.1 h
  subst h2
  simp [Array.setIfInBounds, h1]
theorem builder_info : ∃ j, Tryd.prog.info? 59 = some j ∧ j.size = 2 := by
  have h : (Tryd.prog.info? 59).map (·.size) = some 2 := by kernel_rfl
  obtain ⟨j, h1, h2⟩ := Option.map_eq_some_iff.1 h
  exact ⟨j, h1, h2⟩

set_option maxHeartbeats 1000000 in
set_option maxRecDepth 100000 in
theorem copy_in (b o : Nat) (cs : Array Value) (T : TypeId) (p : Value) (w : World) (hb : w.heap[b]? = some (.cells cs T (0, 0))) (hp : cs[o]? = some p) (hpp : p = .pointer none ∨ p = .pointer (some ⟨b, o, none⟩))
    (hl : liesAt Tryd.prog Tryd.prog.depth T (cs.size / Tryd.prog.cellsOf T) o 59 1 = true) :
    Calls Tryd.prog 112 #[.pointer (some ⟨b, o, none⟩)] w fun e w' => e = .returned (.tuple #[]) ∧ Just w w' b (cs.setIfInBounds o (.pointer (some ⟨b, o, none⟩))) T := by
  obtain ⟨j, hj, hjs⟩ := builder_info
  have h0 := cell_at hb hp
  have hfz := free_at hb o
  have hsh := shape_at hb
  have hoff := (Array.getElem?_eq_some_iff.1 hp).1
  rcases hpp with rfl | rfl
  · go_enter Tryd.func112, Tryd.ntmps112
    go_wp2
    rw [Lib.run_to_unsafe w ⟨b, o, none⟩ Tryd.underlying57 Tryd.underlying173 hj (by rw [hjs]; decide) hsh hoff]
    simp only [Result.andThen]
    rw [Oper.upon_value]
    go_wp2
    rw [run_callFunc_extern Tryd.func132 (by kernel_rfl) (by kernel_rfl) (by kernel_rfl) (e := Extern.AbiNoEscape.same) (by kernel_rfl)]
    rw [Lib.run_noEscape]
    simp only [Result.andThen]
    rw [Oper.upon_value]
    go_wp2
    rw [Lib.run_from_unsafe w ⟨b, o, none⟩ Tryd.underlying173 Tryd.underlying57 hj hsh hl]
    simp only [Result.andThen]
    rw [Oper.upon_value]
    go_wp2
    go_end0
    exact ⟨rfl, just_set hb _⟩
  · go_enter Tryd.func112, Tryd.ntmps112
    go_wp2
    rw [Lib.run_neq_ptr_same w _ Tryd.underlying57 hj]
    go_wp2
    go_end0
    exact ⟨rfl, by rw [set_same hp]; exact just_same hb⟩
/-- a builder at cell o of block b, whose bytes lie in a row of the call's own -/
structure InB (W : World) (base b o : Nat) (cs : Array Value) (T : TypeId) (p v : Value) (bs : List UInt8) : Prop where
  at_ : W.heap[b]? = some (.cells cs T (0, 0))
  lo : base ≤ b
  cp : cs[o]? = some p
  cv : cs[o + 1]? = some v
  hp : p = .pointer none ∨ p = .pointer (some ⟨b, o, none⟩)
  own : W.ownsRowF base 5 1 v bs.length (byteCells bs)
  ne : v.ownBlock ≠ some b
theorem Just.below {W W' : World} {b : Nat} {cs : Array Value} {T : TypeId} (h : Just W W' b cs T) {base : Nat} (hb : base ≤ b) : Below base W W' :=
  ⟨h.os, h.tape, h.output, by rw [h.size]; exact Nat.le_refl _, fun k hk => h.other k (by omega)⟩

set_option maxHeartbeats 2000000 in
set_option maxRecDepth 100000 in
theorem write_in (base b o : Nat) (cs : Array Value) (T : TypeId) (p v : Value) (bs : List UInt8) (s : ByteArray) (w : World) (h : InB w base b o cs T p v bs)
    (hl : liesAt Tryd.prog Tryd.prog.depth T (cs.size / Tryd.prog.cellsOf T) o 59 1 = true) (hT : T ≠ 5) (hlen : bs.length + s.size ≤ 140737488355328) :
    Calls Tryd.prog 76 #[.pointer (some ⟨b, o, none⟩), .string s] w fun e w' => e = .returned (.tuple #[.int .i64 s.size, .nilIface]) ∧
      ∃ v', InB w' base b o ((cs.setIfInBounds o (.pointer (some ⟨b, o, none⟩))).setIfInBounds (o + 1) v') T (.pointer (some ⟨b, o, none⟩)) v' (bs ++ s.data.toList) ∧ Below base w w' ∧
        ∀ k, k < w.heap.size → k ≠ b → v.ownBlock ≠ some k → w'.heap[k]? = w.heap[k]? := by
  obtain ⟨i0, hi, hz0, hz1, hz2⟩ := info_parts info_u8
  obtain ⟨hat, hlo, hcp, hcv, hpp, hown, hne⟩ := h
  have hcopy := copy_in b o cs T p w hat hcp hpp hl
  have hbs : b < w.heap.size := (Array.getElem?_eq_some_iff.1 hat).1
  have hsz := (Array.getElem?_eq_some_iff.1 hcv).1
  have HC := hid hcopy
  clear hcopy
  go_enter Tryd.func76, Tryd.ntmps76
  go_wp2_with fail
  refine HC.out.mono ?_
  rintro e w1 ⟨rfl, j1⟩
  obtain ⟨cs1, hcs1⟩ : ∃ cs1, cs.setIfInBounds o (.pointer (some ⟨b, o, none⟩)) = cs1 := ⟨_, rfl⟩
  have hv1 : cs1[o + 1]? = some v := by
    rw [← hcs1, Array.getElem?_setIfInBounds, if_neg (by omega)]
    exact hcv
  have hp1 : cs1[o]? = some (.pointer (some ⟨b, o, none⟩)) := by
    rw [← hcs1, Array.getElem?_setIfInBounds, if_pos rfl, if_pos (by omega)]
  rw [hcs1] at j1
  have c1 := cell_at j1.at_ hv1
  have hg1 : w.grownBy w1 (some b) := ⟨j1.os, j1.tape, j1.output, by rw [j1.size]; exact Nat.le_refl _, fun k _ hk => j1.other k (fun e => hk (by rw [e]))⟩
  have hown1 := hown.kept hg1 (.inr hne)
  have hbel1 := j1.below hlo
  have hb1 := j1.at_
  have hoth1 := j1.other
  have hbs1 : b < w1.heap.size := by rw [j1.size]; exact hbs
  have hle1 : w.heap.size ≤ w1.heap.size := by rw [j1.size]; exact Nat.le_refl _
  clear HC hown hg1 j1 hat
  go_wp2_with (at_builtin; refine Lib.wpList_append_own_stringF _ rfl _ _ 50 9 rfl base 5 i0 Tryd.underlying50 Tryd.underlying9 hi hz0 hz1 hz2 _ _ _ rfl hown1 s rfl ?c3 ?c4 ?c5 ?_)
  case c3 => unfold maxLen; omega
  case c4 => omega
  case c5 => omega
  intro v' w2 hown' hgrow _
  have hb2 : w2.heap[b]? = some (.cells cs1 T (0, 0)) := by
    rw [hgrow.block b hbs1 (fun e => hne e.symm)]
    exact hb1
  have hne' : v'.ownBlock ≠ some b := by
    intro he
    rcases hown'.2 with ⟨rfl, _⟩ | ⟨g, cap, cur, fz, rfl, _, hg, _⟩
    · cases he
    · simp only [Value.ownBlock, Option.some.injEq] at he
      subst he
      rw [hg] at hb2
      simp only [Option.some.injEq, Obj.cells.injEq] at hb2
      exact hT hb2.2.1.symm
  have d1 := cell_at hb2 hv1
  have f1 := free_at hb2 (o + 1)
  have hbw2 : Below base w w2 := hbel1.grown hgrow (by omega) (fun k hk => (hown1.lt k hk).1)
  have hsz2 : w1.heap.size ≤ w2.heap.size := hgrow.size
  have hkeep : ∀ k, k < w.heap.size → k ≠ b → v.ownBlock ≠ some k → w2.heap[k]? = w.heap[k]? := fun k hk h1 h2 => (hgrow.block k (by omega) (fun e => h2 e.symm)).trans (hoth1 k h1)
  obtain ⟨ao, n', cap, rfl⟩ : ∃ ao n' cap, v' = .slice ao n' cap := by
    rcases hown'.2 with ⟨hv, _⟩ | ⟨g, cap, cur, fz, hv, _⟩
    · exact ⟨_, _, _, hv⟩
    · exact ⟨_, _, _, hv⟩
  have hj2 := just_set (j := o + 1) hb2 (.slice ao n' cap)
  have hown2 := hown'.kept (w' := w2.setCell ⟨b, o + 1, none⟩ (.slice ao n' cap)) (row := some b) ⟨hj2.os, hj2.tape, hj2.output, by rw [hj2.size]; exact Nat.le_refl _, fun k _ hk => hj2.other k (fun e => hk (by rw [e]))⟩ (.inr hne')
  go_wp2
  go_ret2
  subst hcs1
  refine ⟨rfl, .slice ao n' cap, ⟨hj2.at_, hlo, ?_, ?_, .inr rfl, ?_, hne'⟩, hbw2.trans (hj2.below hlo), fun k hk h1 h2 => (hj2.other k h1).trans (hkeep k hk h1 h2)⟩
  · rw [Array.getElem?_setIfInBounds, if_neg (by omega)]; exact hp1
  · rw [Array.getElem?_setIfInBounds, if_pos rfl, if_pos (Array.getElem?_eq_some_iff.1 hv1).1]
  · rw [byteCells_append, List.length_append, ← size_eq]
    exact hown2

/-- a cell of a struct that a pointer leads to: Len, Reset, PutText -/
theorem len_in (base b o : Nat) (cs : Array Value) (T : TypeId) (p v : Value) (bs : List UInt8) (w : World) (h : InB w base b o cs T p v bs) :
    Calls Tryd.prog 80 #[.pointer (some ⟨b, o, none⟩)] w fun e w' => e = .returned (.int .i64 bs.length) ∧ w' = w := by
  have c1 := cell_at h.at_ h.cv
  obtain ⟨ao, cap, rfl⟩ : ∃ ao cap, v = .slice ao bs.length cap := by
    rcases h.own.2 with ⟨hv, h0⟩ | ⟨g, cap, cur, fz, hv, _⟩
    · exact ⟨none, 0, by rw [hv, h0]⟩
    · exact ⟨_, _, hv⟩
  go_enter Tryd.func80, Tryd.ntmps80
  go_wp2
  go_ret
  exact ⟨rfl, rfl⟩
theorem freeze_other (w : World) (g n k : Nat) (hk : k ≠ g) : (w.freeze ⟨g, 0, none⟩ n).heap[k]? = w.heap[k]? := by
  unfold World.freeze
  split
  · rfl
  · simp only [Array.getElem?_modify]
    rw [if_neg (fun e => hk e.symm)]
set_option maxHeartbeats 2000000 in
set_option maxRecDepth 100000 in
theorem string_in (base b o : Nat) (cs : Array Value) (T : TypeId) (p v : Value) (bs : List UInt8) (w : World) (h : InB w base b o cs T p v bs) (h0 : bs ≠ []) :
    Calls Tryd.prog 45 #[.pointer (some ⟨b, o, none⟩)] w fun e w' => e = .returned (.string ⟨bs.toArray⟩) ∧ w'.heap[b]? = some (.cells cs T (0, 0)) ∧ Below base w w' ∧
      ∀ k, k ≠ b → v.ownBlock ≠ some k → w'.heap[k]? = w.heap[k]? := by
  obtain ⟨hat, hlo, hcp, hcv, hpp, hown, hne⟩ := h
  have hl0 : bs.length ≠ 0 := by simpa using h0
  obtain ⟨g, cap, cur, fz, rfl, hbg, hg, hfz, hnc, hcm, hcs, htake⟩ : ∃ g cap cur fz, v = .slice (some ⟨g, 0, none⟩) bs.length cap ∧ base ≤ g ∧ w.heap[g]? = some (.cells cur 5 fz) ∧ fz.2 ≤ bs.length * 1 ∧ bs.length ≤ cap ∧ cap ≤ maxLen ∧ cur.size = cap * 1 ∧ cur.toList.take (bs.length * 1) = byteCells bs := by
    rcases hown.2 with ⟨_, hz⟩ | ⟨g, cap, cur, fz, hv, r⟩
    · exact absurd hz hl0
    · exact ⟨g, cap, cur, fz, hv, r⟩
  have hgb : g ≠ b := fun e => hne (by simp [Value.ownBlock, e])
  have c1 : w.drew.cell? ⟨b, o + 1, none⟩ = some (.slice (some ⟨g, 0, none⟩) bs.length cap) := cell_at hat hcv
  have hSD : (Builtin.unsafeSliceData_ #[50] 129 #[.slice (some ⟨g, 0, none⟩) bs.length cap]).run Tryd.prog w.drew = .ok (.pointer (some ⟨g, 0, none⟩)) w.drew :=
    Lib.run_unsafeSliceData_row _ _ _ _ _ _ (by omega)
  have hUS : (Builtin.unsafeString_ #[129, 3] 9 #[.pointer (some ⟨g, 0, none⟩), .int .i64 bs.length]).run Tryd.prog w.drew = .ok (.string ⟨bs.toArray⟩) (w.drew.freeze ⟨g, 0, none⟩ bs.length) := by
    refine Lib.run_unsafeString_row w.drew 129 3 9 5 Tryd.underlying129 (by kernel_rfl) g cur.size (by have hg' : w.drew.heap[g]? = some (.cells cur 5 fz) := hg; simp [World.shape?, hg']) bs h0 (by omega) (by unfold maxLen at hcm; omega) ?_
    intro j x hx
    have := hown.cells (g := g) rfl j (.int .u8 x.toNat) (by simp [Lib.byteCells, hx])
    exact this
  have hb2 : (w.drew.freeze ⟨g, 0, none⟩ bs.length).heap[b]? = some (.cells cs T (0, 0)) := (freeze_other w.drew g bs.length b (fun e => hgb e.symm)).trans hat
  have hk2 : ∀ k, k ≠ b → (Value.slice (some ⟨g, 0, none⟩) bs.length cap).ownBlock ≠ some k → (w.drew.freeze ⟨g, 0, none⟩ bs.length).heap[k]? = w.heap[k]? := fun k _ hk => freeze_other w.drew g bs.length k (fun e => hk (by simp [Value.ownBlock, e]))
  have hbel : Below base w (w.drew.freeze ⟨g, 0, none⟩ bs.length) := Lib.below_freeze (Below.drew (Below.refl base w)) (p := ⟨g, 0, none⟩) hbg _
  have HB := hid hb2
  have HK := hid hk2
  clear hb2 hk2 hown htake
  go_enter Tryd.func45, Tryd.ntmps45
  go_wp2
  go_region
  all_goals (go_wp2; go_ret; exact ⟨rfl, HB.out, hbel, HK.out⟩)
end Go.Proofs.YtkcgmimldjeaiaaDoor

/-
  lexer.tagName: its walk.
-/
namespace Go.Proofs.YtkcgmimldjeaiaaDoor
open Go.RowKit Go.Lib Own

def nameC (c : UInt8) : Bool := nextT 3 c == 3
theorem tagName_eq (L : List UInt8) : tagNameL L = (L.takeWhile nameC).map lowC := rfl
end Go.Proofs.YtkcgmimldjeaiaaDoor

/-
  The reader's ownEnd: its walk.
-/
namespace Go.Proofs.YtkcgmimldjeaiaaDoor
open Go.RowKit Go.Lib Own

/-- the reader's own six cells, ahead of its stream's three -/
structure RdAt (W : World) (b : Nat) (win : Int) (data : ByteArray) (pos mode scan : Int) (eat : Bool) : Prop where
  c0 : W.cell? ⟨b, 0, none⟩ = some (.int .i64 win)
  c1 : W.cell? ⟨b, 1, none⟩ = some (.string data)
  c2 : W.cell? ⟨b, 2, none⟩ = some (.int .i64 pos)
  c3 : W.cell? ⟨b, 3, none⟩ = some (.int .i64 mode)
  c4 : W.cell? ⟨b, 4, none⟩ = some (.int .i64 scan)
  c5 : W.cell? ⟨b, 5, none⟩ = some (.bool eat)

theorem own_go {o r : List UInt8} {k R : Nat} {x y : UInt8} (hx : r[k]? = some x) (hy : o[k]? = some y) (he : lowC x = y) (h : ownL (o.drop k) (r.drop k) = R) : ownL (o.drop (k + 1)) (r.drop (k + 1)) = R := by
  obtain ⟨h1, h2⟩ := List.getElem?_eq_some_iff.1 hx
  obtain ⟨h3, h4⟩ := List.getElem?_eq_some_iff.1 hy
  rw [List.drop_eq_getElem_cons h1, h2, List.drop_eq_getElem_cons h3, h4, ownL, if_pos he] at h
  exact h
theorem own_no {o r : List UInt8} {k R : Nat} {x y : UInt8} (hx : r[k]? = some x) (hy : o[k]? = some y) (he : lowC x ≠ y) (h : ownL (o.drop k) (r.drop k) = R) : R = 0 := by
  obtain ⟨h1, h2⟩ := List.getElem?_eq_some_iff.1 hx
  obtain ⟨h3, h4⟩ := List.getElem?_eq_some_iff.1 hy
  rw [List.drop_eq_getElem_cons h1, h2, List.drop_eq_getElem_cons h3, h4, ownL, if_neg he] at h
  exact h.symm
theorem own_short {o r : List UInt8} {k R : Nat} (hk : r.length ≤ k) (h : ownL (o.drop k) (r.drop k) = R) : R = 1 := by
  rw [List.drop_of_length_le hk] at h
  rw [← h]
  unfold ownL
  rfl
theorem own_told {o r : List UInt8} {k R : Nat} {x : UInt8} (hx : r[k]? = some x) (hk : o.length ≤ k) (h : ownL (o.drop k) (r.drop k) = R) : R = if endsC x then 2 else 0 := by
  obtain ⟨h1, h2⟩ := List.getElem?_eq_some_iff.1 hx
  rw [List.drop_of_length_le hk, List.drop_eq_getElem_cons h1, h2] at h
  exact h.symm

end Go.Proofs.YtkcgmimldjeaiaaDoor

/-
  The reference's CleanURL: its walk.
-/
namespace Go.Proofs.YtkcgmimldjeaiaaDoor
open Go.RowKit Go.Lib Own

def seenB (c : UInt8) : Bool := decide (31 < (c.toNat : Int)) && ((c.toNat : Int) != 127)
def rtrim (L : List UInt8) : List UInt8 := (L.reverse.dropWhile fun c => c == 32).reverse
theorem rtrim_sp (L : List UInt8) : rtrim (L ++ [32]) = rtrim L := by
  unfold rtrim
  rw [List.reverse_append]
  rfl
theorem rtrim_ne (L : List UInt8) (c : UInt8) (h : c ≠ 32) : rtrim (L ++ [c]) = L ++ [c] := by
  unfold rtrim
  rw [List.reverse_append]
  show (List.dropWhile (fun c => c == 32) (c :: L.reverse)).reverse = _
  rw [List.dropWhile_cons, if_neg (by simpa using h)]
  simp
/-- a link that is stripped -/
def stripL (v : List UInt8) : List UInt8 := rtrim ((v.filter seenB).drop ((v.filter seenB).takeWhile [32].contains).length)
def markT : List UInt8 := [58, 47, 63, 35]
/-- a stripped link, and whether it may stay -/
def linkL (schemes : List (List UInt8)) (v : List UInt8) : List UInt8 × Bool :=
  if (stripL v)[((stripL v).takeWhile fun c => !markT.contains c).length]? = some 58 ∧ schemes.contains (((stripL v).take ((stripL v).takeWhile fun c => !markT.contains c).length).map lowC) = false then ([], false) else (stripL v, true)

theorem filter_step {p : UInt8 → Bool} {l : List UInt8} {k : Nat} {x : UInt8} (h : l[k]? = some x) : (l.take (k + 1)).filter p = (l.take k).filter p ++ (if p x = true then [x] else []) := by
  rw [List.take_add_one, h, List.filter_append]
  congr 1
  show List.filter p [x] = _
  rw [List.filter_cons, List.filter_nil]
theorem extract_list (s : ByteArray) (i j : Nat) : (s.extract i j).data.toList = (s.data.toList.drop i).take (j - i) := by
  rw [ByteArray.data_extract, Array.toList_extract]
theorem while_len {p : UInt8 → Bool} (l : List UInt8) : (l.takeWhile p).length ≤ l.length := by
  induction l with
  | nil => simp
  | cons a l ih =>
    rw [List.takeWhile_cons]
    split
    · simp; omega
    · simp

end Go.Proofs.YtkcgmimldjeaiaaDoor

/-
  policy.Check: predicates on words and rules, and Check itself: their walks.
-/
namespace Go.Proofs.YtkcgmimldjeaiaaDoor
open Go.RowKit Go.Lib Own

set_option maxHeartbeats 2000000 in
set_option maxRecDepth 100000 in
theorem isWord_any (x sg : ByteArray) (w : World) (hx : x.size ≤ 1000000000) :
    Calls Tryd.prog 105 #[.string x, .string sg] w fun e w' => e = .returned (.bool (isWordL (smallL ++ digitL ++ sg.data.toList) x.toList)) ∧ w' = w := by
  have hw := fun W => wordLen_any x sg W hx
  have hxz := size_eq x
  have hle := wordLen_le sg.data.toList x.data.toList
  rw [← hxz] at hle
  rw [word_is]
  have htl : x.toList = x.data.toList := Lib.toList_data x
  have q0 : (x.toList == []) = (x.data.toList == []) := by rw [htl]
  rw [htl, ← hxz]
  generalize wordLenL sg.data.toList x.data.toList = n at hw hle ⊢
  by_cases h0 : x.data.toList = []
  · rw [h0] at q0 ⊢
    have q1 : (x.toList == []) = true := q0
    clear hw htl hxz q0 h0
    go_enter Tryd.func105, Tryd.ntmps105
    go_wp2
    go_ret
    exact ⟨rfl, rfl⟩
  · have e0 : (x.data.toList == []) = false := beq_eq_false_iff_ne.2 h0
    have q1 : (x.toList == []) = false := q0.trans e0
    rw [e0]
    by_cases h32 : x.size ≤ 32
    · rw [decide_eq_true h32]
      have z1 : (x.size : Int) ≤ 32 := by omega
      by_cases hn : n = x.size
      · subst hn
        have HW := hid hw
        clear hw htl hxz q0 h0 e0
        go_enter Tryd.func105, Tryd.ntmps105
        go_wp2_with (go_at_call 128; refine (HW.out _).mono ?_; rintro e w' ⟨rfl, rfl⟩)
        go_ret
        exact ⟨ret_bool (by simp), rfl⟩
      · have e1 : (n == x.size) = false := beq_eq_false_iff_ne.2 hn
        have z2 : ((n : Int) == (x.size : Int)) = false := beq_eq_false_iff_ne.2 (by omega)
        rw [e1]
        have HW := hid hw
        clear hw htl hxz q0 h0 e0 e1 hn
        go_enter Tryd.func105, Tryd.ntmps105
        go_wp2_with (go_at_call 128; refine (HW.out _).mono ?_; rintro e w' ⟨rfl, rfl⟩)
        go_ret
        exact ⟨ret_bool (by simp), rfl⟩
    · rw [decide_eq_false h32]
      have z1 : ¬ (x.size : Int) ≤ 32 := by omega
      clear hw htl hxz q0 h0 e0 hle
      go_enter Tryd.func105, Tryd.ntmps105
      go_wp2
      go_ret
      exact ⟨rfl, rfl⟩

set_option maxHeartbeats 2000000 in
set_option maxRecDepth 100000 in
theorem isBadScheme_any (x : ByteArray) (w : World) (hx : x.size ≤ 1000000000) :
    Calls Tryd.prog 68 #[.string x] w fun e w' => e = .returned (.bool (wrongSchemeP x.toList)) ∧ w' = w := by
  have hw := fun W => isWord_any x (bs [43, 45, 46]) W hx
  rw [show smallL ++ digitL ++ (bs [43, 45, 46]).data.toList = schemeL from rfl] at hw
  unfold wrongSchemeP
  obtain ⟨B, hB⟩ : ∃ B, isWordL schemeL x.toList = B := ⟨_, rfl⟩
  rw [hB] at hw ⊢
  have HW := hid hw
  unfold bs at HW
  clear hw hB
  obtain ⟨b1, h1⟩ : ∃ b1, (x.toList == [106, 97, 118, 97, 115, 99, 114, 105, 112, 116]) = b1 := ⟨_, rfl⟩
  obtain ⟨b2, h2⟩ : ∃ b2, (x.toList == [118, 98, 115, 99, 114, 105, 112, 116]) = b2 := ⟨_, rfl⟩
  obtain ⟨b3, h3⟩ : ∃ b3, (x.toList == [100, 97, 116, 97]) = b3 := ⟨_, rfl⟩
  rw [h1, h2, h3]
  cases b1
  · cases b2
    · cases b3
      · go_enter Tryd.func68, Tryd.ntmps68
        go_wp2_with (go_at_call 105; refine (HW.out _).mono ?_; rintro e w' ⟨rfl, rfl⟩)
        go_ret
        exact ⟨ret_bool (by cases B <;> rfl), rfl⟩
      · go_enter Tryd.func68, Tryd.ntmps68
        go_wp2
        go_ret
        exact ⟨ret_bool (by cases B <;> rfl), rfl⟩
    · go_enter Tryd.func68, Tryd.ntmps68
      go_wp2
      go_ret
      exact ⟨ret_bool (by cases B <;> rfl), rfl⟩
  · go_enter Tryd.func68, Tryd.ntmps68
    go_wp2
    go_ret
    exact ⟨ret_bool (by cases B <;> rfl), rfl⟩

set_option maxHeartbeats 4000000 in
set_option maxRecDepth 100000 in
theorem neverEnds_yes (X : List UInt8) (w : World) (hk : X ∈ voidT) :
    Calls Tryd.prog 107 #[.string (bs X)] w fun e w' => e = .returned (.bool true) ∧ w' = w := by
  simp only [voidT, List.mem_cons, List.not_mem_nil, or_false] at hk
  rcases hk with rfl | rfl | rfl | rfl | rfl | rfl | rfl | rfl | rfl | rfl | rfl | rfl | rfl
  all_goals unfold bs
  all_goals go_enter Tryd.func107, Tryd.ntmps107
  all_goals go_wp2
  all_goals go_ret
  all_goals exact ⟨rfl, rfl⟩
set_option maxHeartbeats 4000000 in
set_option maxRecDepth 100000 in
theorem neverEnds_no (x : ByteArray) (w : World) (hk : x.toList ∉ voidT) :
    Calls Tryd.prog 107 #[.string x] w fun e w' => e = .returned (.bool false) ∧ w' = w := by
  simp only [voidT, List.mem_cons, List.not_mem_nil, or_false, not_or] at hk
  obtain ⟨h0, h1, h2, h3, h4, h5, h6, h7, h8, h9, h10, h11, h12⟩ := hk
  replace h0 := ne_beq h0
  replace h1 := ne_beq h1
  replace h2 := ne_beq h2
  replace h3 := ne_beq h3
  replace h4 := ne_beq h4
  replace h5 := ne_beq h5
  replace h6 := ne_beq h6
  replace h7 := ne_beq h7
  replace h8 := ne_beq h8
  replace h9 := ne_beq h9
  replace h10 := ne_beq h10
  replace h11 := ne_beq h11
  replace h12 := ne_beq h12
  go_enter Tryd.func107, Tryd.ntmps107
  go_wp2
  go_ret
  exact ⟨rfl, rfl⟩
theorem neverEnds_any (x : ByteArray) (w : World) :
    Calls Tryd.prog 107 #[.string x] w fun e w' => e = .returned (.bool (voidT.contains x.toList)) ∧ w' = w := by
  by_cases hk : x.toList ∈ voidT
  · have h2 := neverEnds_yes x.toList w hk
    rw [bs_toList2] at h2
    rw [show voidT.contains x.toList = true by simpa using hk]
    exact h2
  · rw [show voidT.contains x.toList = false by simpa using hk]
    exact neverEnds_no x w hk

/-! ## the closures -/

set_option maxHeartbeats 2000000 in
set_option maxRecDepth 100000 in
theorem badDrop_any (x : ByteArray) (B : Nat) (v : Value) (names : List (List UInt8)) (w : World) (hx : x.size ≤ 1000000000) (hB : w.cell? ⟨B, 0, none⟩ = some v) (h : Words w v names) :
    Calls Tryd.prog 106 #[.string x, .pointer (some ⟨B, 0, none⟩)] w fun e w' => e = .returned (.bool (wrongDropP names x.toList)) ∧ w' = w := by
  have hw := fun W => isWord_any x (bs [45]) W hx
  rw [show smallL ++ digitL ++ (bs [45]).data.toList = dropL from rfl] at hw
  have hne := fun W => neverEnds_any x W
  have hct := slContains_any v names x w h
  obtain ⟨p, c, rfl, _⟩ := h.len
  unfold wrongDropP
  generalize isWordL dropL x.toList = b1 at hw ⊢
  generalize voidT.contains x.toList = b2 at hne ⊢
  generalize names.contains x.toList = b3 at hct ⊢
  have HW := hid hw
  have HN := hid hne
  have HC := hid hct
  unfold bs at HW
  clear hw hne hct h
  cases b1
  · go_enter Tryd.func106, Tryd.ntmps106
    go_wp2_with (go_at_call 105; refine (HW.out _).mono ?_; rintro e w' ⟨rfl, rfl⟩)
    go_ret
    exact ⟨ret_bool (by cases b2 <;> rfl), rfl⟩
  · cases b2
    · go_enter Tryd.func106, Tryd.ntmps106
      go_wp2_with (first | (go_at_call 105; refine (HW.out _).mono ?_; rintro e w' ⟨rfl, rfl⟩) | (go_at_call 107; refine (HN.out _).mono ?_; rintro e w' ⟨rfl, rfl⟩) | (go_at_call 102; refine HC.out.mono ?_; rintro e w' ⟨rfl, rfl⟩))
      go_ret
      exact ⟨ret_bool (by cases b3 <;> rfl), rfl⟩
    · go_enter Tryd.func106, Tryd.ntmps106
      go_wp2_with (first | (go_at_call 105; refine (HW.out _).mono ?_; rintro e w' ⟨rfl, rfl⟩) | (go_at_call 107; refine (HN.out _).mono ?_; rintro e w' ⟨rfl, rfl⟩))
      go_ret
      exact ⟨ret_bool (by cases b3 <;> rfl), rfl⟩
theorem partsOne_any (x : ByteArray) (B : Nat) (v : Value) (names : List (List UInt8)) (w : World) (hB : w.cell? ⟨B, 0, none⟩ = some v) (h : Words w v names) :
    Calls Tryd.prog 108 #[.string x, .pointer (some ⟨B, 0, none⟩)] w fun e w' => e = .returned (.bool (names.contains x.toList)) ∧ w' = w := by
  have hct := slContains_any v names x w h
  obtain ⟨p, c, rfl, _⟩ := h.len
  generalize names.contains x.toList = b3 at hct ⊢
  have HC := hid hct
  clear hct h
  go_enter Tryd.func108, Tryd.ntmps108
  go_wp2_with (go_at_call 102; refine HC.out.mono ?_; rintro e w' ⟨rfl, rfl⟩)
  go_ret
  exact ⟨rfl, rfl⟩

/-! ## the predicates, as IndexFunc asks them -/

theorem predEl (w : World) (ss : List (List UInt8)) (hT : KindsTab w) : PredW w 63 #[] ss (fun s => classL s == 0) := fun W s _ hb => by
  have := isUnkEl_any (bs s) W (hT.below hb)
  rw [bs_toList] at this
  exact this.mono (fun _ _ ⟨h1, h2⟩ => ⟨h1, hb.trans (h2.mono hb.size)⟩)
theorem predAt (w : World) (ss : List (List UInt8)) (hT : VAttrTab w) : PredW w 104 #[] ss (fun s => !attrT.contains s) := fun W s _ hb => by
  have := isUnkAt_any (bs s) W (hT.below hb)
  rw [bs_toList] at this
  exact this.mono (fun _ _ ⟨h1, h2⟩ => ⟨h1, by rw [h2]; exact hb⟩)
theorem predSch (w : World) (ss : List (List UInt8)) (hs : ∀ s ∈ ss, s.length ≤ 1000000000) : PredW w 68 #[] ss wrongSchemeP := fun W s hm hb => by
  have := isBadScheme_any (bs s) W (by rw [bs_size]; exact hs s hm)
  rw [bs_toList] at this
  exact this.mono (fun _ _ ⟨h1, h2⟩ => ⟨h1, by rw [h2]; exact hb⟩)
theorem predDrop (w : World) (ss : List (List UInt8)) (B : Nat) (v : Value) (names : List (List UInt8)) (hs : ∀ s ∈ ss, s.length ≤ 1000000000) (hB : w.cell? ⟨B, 0, none⟩ = some v) (h : Words w v names) :
    PredW w 106 #[.pointer (some ⟨B, 0, none⟩)] ss (wrongDropP names) := fun W s hm hb => by
  have := badDrop_any (bs s) B v names W (by rw [bs_size]; exact hs s hm) (cell_kept hB hb) (h.below hb)
  rw [bs_toList] at this
  exact this.mono (fun _ _ ⟨h1, h2⟩ => ⟨h1, by rw [h2]; exact hb⟩)

set_option maxHeartbeats 1000000 in
theorem listsUnk_any (r : RuleP) (u : Value) (w : World) (h : Words w u r.2) (hT : VAttrTab w) :
    Calls Tryd.prog 66 #[.agg #[.string (bs r.1), u]] w fun e w' => e = .returned (.bool (r.2.any fun a => !attrT.contains a)) ∧ Below w.heap.size w w' := by
  have hb := (Below.refl w.heap.size w).alloc (Nat.le_refl _) (.cells #[.string (bs r.1), u] 73)
  have hn := heap_alloc_new w (.cells #[.string (bs r.1), u] 73)
  have hc := slContainsFunc_any 104 #[] (enters_of Tryd.func104 (by kernel_rfl) rfl) _ u r.2 _ (h.below hb) (predAt _ r.2 (hT.below hb))
  have c1 := cell_at hn (j := 1) rfl
  obtain ⟨p, c, rfl, _⟩ := h.len
  obtain ⟨R, hR⟩ : ∃ R, r.2.any (fun a => !attrT.contains a) = R := ⟨_, rfl⟩
  obtain ⟨S, hS⟩ : ∃ S, bs r.1 = S := ⟨_, rfl⟩
  rw [hR, hS] at hc
  rw [hS] at c1 hb ⊢
  rw [hR]
  have HC := hid hc
  have HB := hid hb
  clear hc hR hS h hn hb
  go_enter Tryd.func66, Tryd.ntmps66
  go_wp2_with (go_at_call 62; refine HC.out.mono ?_; rintro e w' ⟨rfl, b1⟩)
  go_ret
  exact ⟨rfl, HB.out.trans (b1.mono HB.out.size)⟩
set_option maxHeartbeats 1000000 in
theorem listsTw_any (r : RuleP) (u : Value) (w : World) (h : Words w u r.2) :
    Calls Tryd.prog 67 #[.agg #[.string (bs r.1), u]] w fun e w' => e = .returned (.bool (twiceL r.2)) ∧ Below w.heap.size w w' := by
  have hb := (Below.refl w.heap.size w).alloc (Nat.le_refl _) (.cells #[.string (bs r.1), u] 73)
  have hn := heap_alloc_new w (.cells #[.string (bs r.1), u] 73)
  have hc := hasTwice_any u r.2 _ (h.below hb)
  have c1 := cell_at hn (j := 1) rfl
  obtain ⟨p, c, rfl, _⟩ := h.len
  obtain ⟨R, hR⟩ : ∃ R, twiceL r.2 = R := ⟨_, rfl⟩
  obtain ⟨S, hS⟩ : ∃ S, bs r.1 = S := ⟨_, rfl⟩
  rw [hR, hS] at hc
  rw [hS] at c1 hb ⊢
  rw [hR]
  have HC := hid hc
  have HB := hid hb
  clear hc hR hS h hn hb
  go_enter Tryd.func67, Tryd.ntmps67
  go_wp2_with (go_at_call 64; refine HC.out.mono ?_; rintro e w' ⟨rfl, rfl⟩)
  go_ret
  exact ⟨rfl, HB.out⟩
theorem predUnk (w : World) (rs : List RuleP) (hT : VAttrTab w) : PredR w 66 #[] rs (fun r => r.2.any fun a => !attrT.contains a) := fun W r u _ hu hb =>
  (listsUnk_any r u W (hu.below hb) (hT.below hb)).mono (fun _ _ ⟨h1, h2⟩ => ⟨h1, hb.trans (h2.mono hb.size)⟩)
theorem predTw (w : World) (rs : List RuleP) : PredR w 67 #[] rs (fun r => twiceL r.2) := fun W r u _ hu hb =>
  (listsTw_any r u W (hu.below hb)).mono (fun _ _ ⟨h1, h2⟩ => ⟨h1, hb.trans (h2.mono hb.size)⟩)
end Go.Proofs.YtkcgmimldjeaiaaDoor

/-
  policy.Check: names and drops: their walks.
-/
namespace Go.Proofs.YtkcgmimldjeaiaaDoor
open Go.RowKit Go.Lib Own

set_option maxHeartbeats 2000000 in
set_option maxRecDepth 100000 in
theorem ruleNames_any (vr : Value) (rs : List RuleP) (w : World) (h : RulesR w vr rs) (hn : rs.length ≤ 2000000) :
    Calls Tryd.prog 61 #[vr] w fun e w' => ∃ v, e = .returned v ∧ Words w' v (rs.map Prod.fst) ∧ Below w.heap.size w w' := by
  obtain ⟨i0, hi, hz0, hz1, hz2⟩ := info_parts info_str
  obtain ⟨rp, rc, rfl, hr1, hr2, hr3⟩ := h
  have HR := hid hr3
  have H0 : Hid (Below w.heap.size w w ∧ w.ownsRow w.heap.size 9 1 (.slice none 0 0) 0 (((rs.take 0).map Prod.fst).map fun s => .string (bs s))) := ⟨Below.refl _ _, World.ownsRow_nil _ _ _ _⟩
  clear hr3
  go_enter Tryd.func61, Tryd.ntmps61
  go_wp2_with fail
  go_loopw [3, 5, 8] (fun nv _ iv wr => ∃ k : Nat, iv = .int .i64 k ∧ k ≤ rs.length ∧ Hid (Below w.heap.size w wr ∧ wr.ownsRow w.heap.size 9 1 nv k (((rs.take k).map Prod.fst).map fun s => .string (bs s)))) (fun _ _ iv _ => rs.length - (RowKit.intOf iv).toNat)
  case atStart => exact ⟨0, rfl, Nat.zero_le _, H0⟩
  case round =>
    obtain ⟨k, rfl, hk, HX⟩ := hrel
    obtain ⟨np, nc, rfl⟩ := row_shape HX.out.2
    by_cases hkl : k < rs.length
    · obtain ⟨r, hr⟩ : ∃ r, rs[k]? = some r := ⟨_, List.getElem?_eq_getElem hkl⟩
      obtain ⟨b, o, u, rfl, hc1, hc3, hwu⟩ := HR.out k r hr
      have hc2 := cell_low hc1 HX.out.1 (cell_block hc1)
      replace hc3 := cell_low hc3 HX.out.1 (cell_block hc3)
      obtain ⟨up, uc, rfl, _⟩ := hwu.len
      obtain ⟨S, hS⟩ : ∃ S, bs r.1 = S := ⟨_, rfl⟩
      rw [hS] at hc2
      have hown := HX.out.2
      have hbs := HX.out.1.size
      have hst : ((rs.take (k + 1)).map Prod.fst).map (fun s => Value.string (bs s)) = ((rs.take k).map Prod.fst).map (fun s => Value.string (bs s)) ++ [.string S] := by
        rw [List.take_add_one, hr, ← hS]
        simp
      obtain ⟨LK, hLK⟩ : ∃ LK, ((rs.take k).map Prod.fst).map (fun s => Value.string (bs s)) = LK := ⟨_, rfl⟩
      rw [hLK] at hst hown
      have HST := hid (fun (_ : True) => hst)
      clear hr hc1 hS hst H0 hLK hwu
      have hcn : ∀ j u, [Value.string S][j]? = some u → ((wr.alloc (.cells #[.string S, .slice up r.2.length uc] 73)).alloc (.cells #[.string S] 9)).cell? ((⟨wr.heap.size + 1, 0, none⟩ : Addr).add j) = some u := by
        have := cells_newV [.string S] 9 (wr.alloc (.cells #[.string S, .slice up r.2.length uc] 73))
        simpa using this
      have HCN := hid hcn
      clear hcn
      go_wp2_with (at_builtin; refine wpList_append_own _ rfl (.tmp 12) (.tmp 15) 23 rfl w.heap.size 9 i0 (.string ⟨#[]⟩) 1 16 Tryd.underlying23 hi hz0 hz1 hz2 rfl (by decide) _ _ _ rfl ((hown.alloc _).alloc _) ⟨_, 0, none⟩ 1 1 [.string S] rfl rfl HCN.out (by simp [Value.oneCell']) (by unfold maxLen; omega) (by omega) (by simp; omega) ?_)
      intro v' w2 hown2 hgrow2 _
      have hbel2 : Below w.heap.size w w2 := ((HX.out.1.alloc hbs _).alloc (by simp; omega) _).grown hgrow2 (by simp; omega) (fun k hk => (hown.lt k hk).1)
      rw [← HST.out trivial] at hown2
      have HZ := hid (And.intro hbel2 hown2)
      clear hbel2 hown2 hgrow2 hown HX hc2 hc3 HCN
      go_wp2_with fail
      go_roundw
      case rel => first | exact ⟨k + 1, rfl, by omega, HZ⟩ | ((repeat apply Exists.intro); exact ⟨⟨k + 1, rfl, by omega, HZ⟩, rfl⟩)
      case measure => simp [RowKit.intOf]; omega
    · obtain rfl : k = rs.length := by omega
      have hw : Words wr (.slice np rs.length nc) (rs.map Prod.fst) := by
        have := HX.out.2
        rw [List.take_length] at this
        exact Words.row (by rw [List.length_map]; exact this)
      have HW := hid (And.intro hw HX.out.1)
      clear hw HX H0
      go_wp2_with fail
      go_ret
      exact ⟨_, rfl, HW.out.1, HW.out.2⟩

set_option maxHeartbeats 2000000 in
set_option maxRecDepth 100000 in
theorem hasBadDrop_any (vd vn : Value) (ds names : List (List UInt8)) (w : World) (h : Words w vd ds) (hn : Words w vn names) (hs : ∀ s ∈ ds, s.length ≤ 1000000000) (hl : ds.length ≤ 2000000) :
    Calls Tryd.prog 69 #[vd, vn] w fun e w' => e = .returned (.bool ((decide (64 < ds.length) || twiceL ds) || ds.any (wrongDropP names))) ∧ Below w.heap.size w w' := by
  have hb := (Below.refl w.heap.size w).alloc (Nat.le_refl _) (.cells #[vn] 23)
  have hw := heap_alloc_new w (.cells #[vn] 23)
  have htw := hasTwice_any vd ds _ (h.below hb)
  have hcf := slContainsFunc_any 106 #[.pointer (some ⟨w.heap.size, 0, none⟩)] (enters_of Tryd.func106 (by kernel_rfl) rfl) _ vd ds _ (h.below hb) (predDrop _ ds w.heap.size vn names hs (cell_at hw rfl) (hn.below hb))
  obtain ⟨dp, dc, rfl, _⟩ := h.len
  obtain ⟨np, nc, rfl, _⟩ := hn.len
  generalize twiceL ds = b1 at htw ⊢
  generalize ds.any (wrongDropP names) = b2 at hcf ⊢
  have HT := hid htw
  have HC := hid hcf
  have HB := hid hb
  have hmf : ∀ (fn : Fn) (first cap : Array Value) (w : World), (Instr.makeFunc fn first cap).run Tryd.prog w = .ok (.func fn first cap) w := fun _ _ _ _ => rfl
  clear htw hcf h hn hw hb
  by_cases h64 : 64 < ds.length
  · rw [decide_eq_true h64]
    have z : (ds.length : Int) > 64 := by omega
    go_enter Tryd.func69, Tryd.ntmps69
    go_wp2_with fail
    go_ret
    exact ⟨rfl, HB.out⟩
  · rw [decide_eq_false h64]
    have z : ¬ ((ds.length : Int) > 64) := by omega
    cases b1
    · go_enter Tryd.func69, Tryd.ntmps69
      go_wp2_with (first | (go_at_call 64; refine HT.out.mono ?_; rintro e w1 ⟨rfl, rfl⟩) | (go_at_call 62; refine HC.out.mono ?_; rintro e w1 ⟨rfl, b1⟩))
      go_ret
      exact ⟨rfl, HB.out.trans (b1.mono HB.out.size)⟩
    · go_enter Tryd.func69, Tryd.ntmps69
      go_wp2_with (go_at_call 64; refine HT.out.mono ?_; rintro e w1 ⟨rfl, rfl⟩)
      go_ret
      exact ⟨rfl, HB.out⟩
end Go.Proofs.YtkcgmimldjeaiaaDoor
