/-
  Parts of the walk, joined: Row, Plain, Good, Own, InBuilder, Names, RefText, Lex.
-/
import Derived.Lib.AppendStr
import Derived.Lib.FrozenHead
import Derived.Lib.ConvBytes
import Derived.Lib.SlBytesConst
import Derived.Laws.IdiomStrings
import Derived.Lib.TrimUEq
import Derived.Lib.DecodeNEq
import Derived.Shelf.Unicode.DecodeSlow
import Derived.Lib.RuneBytes
import Derived.Test.YtialeicpelehoaaDoorProg
import Derived.WalkKit
import Derived.WalkLawsBesides
import Derived.WalkSpells
import Derived.Laws.BitsLemmas
import Derived.Lib.BufferWrite
import Derived.Test.YtialeicpelehoaaDoorShelf
import Derived.Laws.Tables
import Derived.Lib.Builder
import Derived.Lib.FrozenHead2
import Derived.Lib.OthersKept
/-
  A row of bytes that the call owns and that a conversion has marked behind its end: appending a text to it.
-/
namespace Go.Proofs.YtialeicpelehoaaDoor
open Go.Lib Go.RowKit
variable {P : Program}

/-- block g holds the cells xs, of cap places, none of them frozen -/
def ownsN (w : World) (e : TypeId) (g n cap : Nat) (xs : List Value) : Prop :=
  ∃ cur fz, w.heap[g]? = some (.cells cur e fz) ∧ (cap ≤ fz.1 ∨ fz = (0, 0)) ∧ n ≤ cap ∧ cap ≤ maxLen ∧ cur.size = cap ∧ xs.length = n ∧ cur.toList.take n = xs

theorem ownsN.lt {w : World} {e : TypeId} {g n cap : Nat} {xs : List Value} (h : ownsN w e g n cap xs) : g < w.heap.size := by
  obtain ⟨cur, fz, hg, _⟩ := h
  exact (Array.getElem?_eq_some_iff.1 hg).1
theorem ownsN.kept {w w' : World} {e : TypeId} {g n cap : Nat} {xs : List Value} (h : ownsN w e g n cap xs) (hk : w'.heap[g]? = w.heap[g]?) : ownsN w' e g n cap xs := by
  obtain ⟨cur, fz, hg, r⟩ := h
  exact ⟨cur, fz, hk.trans hg, r⟩
theorem ownsN.cell {w : World} {e : TypeId} {g n cap : Nat} {xs : List Value} (h : ownsN w e g n cap xs) (j : Nat) (hj : j < n) : w.cell? ⟨g, j, none⟩ = xs[j]? := by
  obtain ⟨cur, fz, hg, _, _, _, hc, hl, ht⟩ := h
  rw [← ht, List.getElem?_take, if_pos hj]
  simp [World.cell?, hg]

theorem run_storeCells_marked (P : Program) (g o : Nat) (t : TypeId) (fz : Nat × Nat) : ∀ (vs : List Value) (i : Nat) (cur : Array Value) (w : World), w.heap[g]? = some (.cells cur t fz) → (cur.size ≤ fz.1 ∨ fz = (0, 0)) → o + i + vs.length ≤ cur.size → (∀ v ∈ vs, v.oneCell' = true) →
    (storeCells ⟨g, o, none⟩ vs i).run P w = .ok () (w.setRow g (cur.toList.take (o + i) ++ vs ++ cur.toList.drop (o + i + vs.length)).toArray)
  | [], i, cur, w, hg, _, _, _ => by
    simp only [storeCells, List.append_nil, List.length_nil, Nat.add_zero, List.take_append_drop, Array.toArray_toList]
    rw [setRow_self w g cur t fz hg]
    rfl
  | v :: rest, i, cur, w, hg, hfz, hl, h1 => by
    have hi : o + i < cur.size := by simp at hl; omega
    have hadd : (⟨g, o, none⟩ : Addr).add i = ⟨g, o + i, none⟩ := by unfold Addr.add; split <;> simp_all
    have hcell : w.cell? ⟨g, o + i, none⟩ = some cur[o + i] := by simp [World.cell?, hg, hi]
    have hfro : w.frozen? ⟨g, o + i, none⟩ = false := by
      obtain ⟨lo, hi'⟩ := fz
      simp only [World.frozen?, hg, Bool.and_eq_false_iff, decide_eq_false_iff_not]
      rcases hfz with hfz | hfz
      · left; simp only at hfz; omega
      · right; simp only [Prod.mk.injEq] at hfz; omega
    have hst : (store ((⟨g, o, none⟩ : Addr).add i) v).run P w = .ok () (w.setRow g (cur.setIfInBounds (o + i) v)) := by
      rw [hadd, run_store P w _ v _ (h1 v (by simp)), hcell]
      simp [hfro, setCell_eq_setRow w g (o + i) cur t fz v hg]
    have ih := run_storeCells_marked P g o t fz rest (i + 1) (cur.setIfInBounds (o + i) v) (w.setRow g (cur.setIfInBounds (o + i) v)) (setRow_heap w g cur _ t _ hg) (by simpa using hfz) (by simp at hl ⊢; omega) (fun x hx => h1 x (by simp [hx]))
    simp only [storeCells, Sem.run_bind, hst, Result.andThen_ok, ih, setRow_setRow]
    congr 3
    have e := list_seg_step cur.toList (o + i) v rest (by simp at hl ⊢; omega)
    simpa [Array.toList_setIfInBounds, Nat.add_assoc] using e

/-- appending a text: some row holds both, and no other block has turned -/
theorem run_append_marked (w : World) (t u ty e : TypeId) (i : TypeInfo) (ht : P.underlying t = some (.slice e)) (hu : P.underlying u = some .string) (hi : P.info? e = some i) (hz : i.zero = some (.int .u8 0))
    (hsize : i.size = 1) (hby : i.bytes = 1) (g n cap : Nat) (xs : List Value) (hown : ownsN w e g n cap xs) (s : ByteArray) (hbytes : n + s.size ≤ 140737488355328) :
    ∃ g' cap' w', (Builtin.append_ #[t, u] ty #[.slice (some ⟨g, 0, none⟩) n cap, .string s]).run P w = .ok (.slice (some ⟨g', 0, none⟩) (n + s.size) cap') w' ∧
      ownsN w' e g' (n + s.size) cap' (xs ++ strCells s) ∧ w.grownBy w' (some g) ∧ (g' = g ∨ g' = w.heap.size) := by
  have h63 : n + s.size ≤ maxLen := by unfold maxLen; omega
  obtain ⟨cur, fz, hg, hfz, hnc, hcm, hcs, hxl, htake⟩ := hown
  have hlen : (xs ++ strCells s).length = n + s.size := by rw [List.length_append, hxl, strCells_length]
  by_cases hroom : n + s.size ≤ cap
  · have hf := run_firstCells_string (P := P) w 1 s
    have hst := run_storeCells_marked P g n e fz (strCells s) 0 cur w hg (by rw [hcs]; exact hfz) (by simp [strCells_length]; omega) (strCells_oneCell s)
    simp only [Nat.add_zero, strCells_length] at hst
    refine ⟨g, cap, w.setRow g (cur.toList.take n ++ strCells s ++ cur.toList.drop (n + s.size)).toArray, ?_, ⟨_, fz, setRow_heap w g cur _ e _ hg, hfz, hroom, hcm, ?_, hlen, ?_⟩, ⟨rfl, rfl, rfl, by simp, fun k _ hk => setRow_other w g k _ (fun e => hk (by rw [e]))⟩, Or.inl rfl⟩
    · simp [Builtin.append_, run_underlying ht, run_underlying hu, sizeOf, typeInfo, hi, hsize, Builtin.lenOf, hroom, hf, Addr.add_lit, hst]
    · simp only [List.size_toArray, List.length_append, List.length_take, List.length_drop, Array.length_toList, strCells_length]
      omega
    · rw [htake, ← hlen]
      exact List.take_left
  · have holds : ∀ j u, xs[j]? = some u → w.cell? ((⟨g, 0, none⟩ : Addr).add j) = some u := by
      intro j u hj
      have hjn : j < n := by rw [← hxl]; exact (List.getElem?_eq_some_iff.1 hj).1
      have := ownsN.cell ⟨cur, fz, hg, hfz, hnc, hcm, hcs, hxl, htake⟩ j hjn
      have hadd : (⟨g, 0, none⟩ : Addr).add j = ⟨g, j, none⟩ := by unfold Addr.add; split <;> simp_all
      rw [hadd, this, hj]
    have hr := run_append_grow_string (P := P) w t u ty e i (.int .u8 0) ht hu hi hz ⟨g, 0, none⟩ n cap xs (by rw [hsize]; simpa using hxl) holds s (by omega) (by omega) (by rw [hby]; exact growslice_fits (by omega) (by omega))
    have hge := grownCap_ge w (n + s.size) cap e
    have hcm2 := grownCap_le_maxLen w (n + s.size) cap e h63
    refine ⟨_, _, _, hr, ⟨_, (0, 0), heap_alloc_new w.drew _, Or.inr rfl, hge, hcm2, ?_, hlen, ?_⟩, ⟨rfl, rfl, rfl, by simp, fun k hk _ => by first | exact heap_alloc_old w.drew _ k hk | exact heap_alloc_old w.drew _ hk⟩, Or.inr rfl⟩
    · have hz1 : (Value.int IntKind.u8 0).cells.size = 1 := rfl
      simp only [Array.size_append, List.size_toArray, size_zeroCells, hz1, hxl, strCells_length]
      omega
    · simp only [Array.toList_append, List.append_assoc]
      rw [← List.append_assoc, ← hlen]
      exact List.take_left

theorem wpList_append_marked (w : World) {ops : Array Oper} {rest : List Oper} {o : Oper} {a : Act} {Q : Exit → Act → World → Prop} (hgd : o.guard = none) (sl x : Operand) (t u : TypeId)
    (ho : o.op = .call { callee := .builtin .append, args := #[sl, x], argTypes := #[t, u] })
    (e : TypeId) (i : TypeInfo) (ht : P.underlying t = some (.slice e)) (hu : P.underlying u = some .string) (hi : P.info? e = some i) (hz : i.zero = some (.int .u8 0))
    (hsize : i.size = 1) (hby : i.bytes = 1) (g n cap : Nat) (xs : List Value) (hs : a.eval sl = .slice (some ⟨g, 0, none⟩) n cap) (hown : ownsN w e g n cap xs) (s : ByteArray) (hx : a.eval x = .string s)
    (hbytes : n + s.size ≤ 140737488355328)
    (h : ∀ g' cap' w', ownsN w' e g' (n + s.size) cap' (xs ++ strCells s) → w.grownBy w' (some g) → (g' = g ∨ g' = w.heap.size) → wpList P ops Q rest (a.put o.dst (.slice (some ⟨g', 0, none⟩) (n + s.size) cap')) w') : wpList P ops Q (o :: rest) a w := by
  refine wpList_plain hgd fun K hK => ?_
  obtain ⟨g', cap', w', hr, h2, h3, h4⟩ := run_append_marked (P := P) w t u o.type e i ht hu hi hz hsize hby g n cap xs hown s hbytes
  unfold Oper.wp execOp
  simp only [ho, resolve, invoke, builtin, Sem.run_bind, Sem.run_pure, Result.andThen_ok, List.map_toArray, List.map_cons, List.map_nil, hs, hx, hr]
  exact hK _ _ (h g' cap' w' h2 h3 h4)

/-- what a conversion of a text makes -/
theorem ownsN_bytes (w : World) (e : TypeId) (s : ByteArray) (h : s.size ≤ maxLen) : ownsN (bytesWorld w e s) e w.heap.size s.size (grownCap w s.size 0 e) (strCells s) := by
  have hge := grownCap_ge w s.size 0 e
  have hsz : (bytesCells w e s).size = grownCap w s.size 0 e := by
    unfold bytesCells
    simp only [Array.size_append, Array.size_map, Array.size_replicate]
    have : s.data.size = s.size := rfl
    omega
  refine ⟨_, _, bytesWorld_at_new w e s, Or.inl (by simp only [hsz]; exact Nat.le_refl _), hge, grownCap_le_maxLen w _ 0 e h, hsz, strCells_length s, ?_⟩
  unfold bytesCells strCells
  simp only [Array.toList_append, Array.toList_map]
  rw [List.take_append_of_le_length (by simp)]
  rw [List.take_of_length_le]
  simp
end Go.Proofs.YtialeicpelehoaaDoor

/-
  Plain facts on bytes and characters: how a text is decoded, cut and put together. No program is named here.
-/
namespace Go.Proofs.YtialeicpelehoaaDoor
open Go.Lib

/-- a good character, by its number -/
def goodB (c : Int) : Bool :=
  decide (c < 32 ∧ (c = 9 ∨ c = 10 ∨ c = 12) ∨
    32 ≤ c ∧ ¬ (127 ≤ c ∧ c ≤ 159) ∧ ¬ (55296 ≤ c ∧ c ≤ 57343) ∧ ¬ (64976 ≤ c ∧ c ≤ 65007) ∧ c ≤ 1114111 ∧ c % 65536 < 65534)

/-- do n bytes that begin so hold a whole character, or none -/
def fullN (n b0 b1 b2 : Nat) : Bool :=
  decide (0 < n ∧ (firstT b0 % 8 ≤ n ∨ (1 < n ∧ (b1 < accLo (firstT b0 / 16) ∨ accHi (firstT b0 / 16) < b1)) ∨ (2 < n ∧ (b2 < 128 ∨ 191 < b2))))
def fullL (l : List UInt8) : Bool := fullN l.length (l.getD 0 0).toNat (l.getD 1 0).toNat (l.getD 2 0).toNat

set_option maxRecDepth 100000 in
set_option maxHeartbeats 4000000 in
/-- what is no beginning of a character stays what it is, whatever comes behind it -/
theorem stableN (n m b0 b1 b2 b3 c1 c2 c3 : Nat) (hn : 1 ≤ n) (hm : n ≤ m) (l0 : b0 < 256) (l1 : b1 < 256) (l2 : b2 < 256) (l3 : b3 < 256) (m1 : c1 < 256) (m2 : c2 < 256) (m3 : c3 < 256)
    (e1 : 1 < n → c1 = b1) (e2 : 2 < n → c2 = b2) (e3 : 3 < n → c3 = b3) (h : (decodeN n b0 b1 b2 b3).1 ≠ 65533 ∨ fullN n b0 b1 b2 = true) :
    decodeN m b0 c1 c2 c3 = decodeN n b0 b1 b2 b3 := by
  rcases firstT_cases b0 with hX | hX | hX | hX | hX | hX | hX | hX | hX
  · rw [ascii_eq _ _ _ _ _ hX, ascii_eq _ _ _ _ _ hX]
  · rw [bad_eq _ _ _ _ _ (by omega) hX, bad_eq _ _ _ _ _ (by omega) hX]
  all_goals
    have hs := (slow_eq n b0 b1 b2 b3 hn l1 l2 l3 (by omega)).symm
    have ht := (slow_eq m b0 c1 c2 c3 (by omega) m1 m2 m3 (by omega)).symm
    rw [hs] at h ⊢
    rw [ht]
    clear hs ht
    simp only [fullN, hX, decide_eq_true_eq] at h
    simp only [hX, accLo, accHi, Nat.reduceMod, Nat.reduceDiv, Nat.reduceEqDiff, if_true, if_false] at h ⊢
    unfold slowN at h ⊢
    repeat' split at h
    all_goals (repeat' split)
    all_goals first
      | rfl
      | (exfalso; omega)
      | (rw [e1 (by omega)]; done)
      | (rw [e1 (by omega), e2 (by omega)]; done)
      | (rw [e1 (by omega), e2 (by omega), e3 (by omega)]; done)
      | (exfalso; simp at h; omega)
end Go.Proofs.YtialeicpelehoaaDoor

/-
  Whether a character is good: what chars.isGood answers, as a plain function, and its walk.
-/
namespace Go.Proofs.YtialeicpelehoaaDoor
open Go.RowKit

theorem and65534 (a : Nat) : a &&& 65534 = 2 * (a / 2 % 32768) := by
  have h1 : (a &&& 65534) / 2 = a / 2 % 32768 := by
    rw [Nat.and_div_two]
    exact Nat.and_two_pow_sub_one_eq_mod (a / 2) 15
  have h2 : (a &&& 65534) % 2 = 0 := by
    have := @Nat.and_mod_two_pow a 65534 1
    simpa using this
  omega
theorem last_two (c : Int) (h0 : 0 ≤ c) (h1 : c ≤ 1114111) : (bits BinOp.and IntKind.i32 c 65534 != 65534) = decide (c % 65536 < 65534) := by
  obtain ⟨a, rfl⟩ := Int.eq_ofNat_of_zero_le h0
  have e : bits BinOp.and IntKind.i32 (a : Int) 65534 = ((a &&& 65534 : Nat) : Int) :=
    (bits_nat .i32 31 (by decide) wraps_i32 a 65534 (by omega) (by decide)).1
  rw [e, and65534]
  by_cases h : (a : Int) % 65536 < 65534
  · have : ¬ (((2 * (a / 2 % 32768) : Nat) : Int) = 65534) := by omega
    simp [h]; omega
  · have : (((2 * (a / 2 % 32768) : Nat) : Int) = 65534) := by omega
    simp [h, this]

theorem ret_bool {a b : Bool} (h : a = b) : Ending.returned (.bool a) = .returned (.bool b) := by rw [h]

set_option maxHeartbeats 400000 in
theorem good_any (c : Int) (h0 : 0 ≤ c) (h1 : c ≤ 1114112) (w : World) :
    Calls Tryd.prog 38 #[.int .i32 c] w fun e w' => e = .returned (.bool (goodB c)) ∧ w' = w := by
  go_enter Tryd.func38, Tryd.ntmps38
  go_wp2
  all_goals go_ret
  all_goals refine ⟨ret_bool ?_, rfl⟩
  all_goals first
    | (rw [last_two c (by omega) (by omega)]; unfold goodB; rw [decide_eq_decide]; omega)
    | (rw [Bool.eq_iff_iff]; simp only [goodB, decide_eq_true_iff, Bool.or_eq_true, beq_iff_eq, Bool.false_eq_true, false_iff, true_iff]; omega)
end Go.Proofs.YtialeicpelehoaaDoor

/-
  Rows of bytes that a call owns: what appending and converting them takes.
-/
namespace Go.Proofs.YtialeicpelehoaaDoor.Own
open Go.RowKit Go.Lib

theorem info_u8 : (Tryd.prog.info? 5).map (fun i => (i.zero, i.size, i.bytes)) = some (some (.int .u8 0), 1, 1) := by kernel_rfl
theorem nil_text (W : World) : (convert 27 9 (.slice none 0 0)).run Tryd.prog W = .ok (.string ⟨#[]⟩) W := by
  rw [run_convert_bytes_string W 27 9 5 none 0 0 Tryd.underlying27 Tryd.underlying5 Tryd.underlying9]
  rfl
/-- the text of bytes that the call owns -/
theorem own_text (W : World) (base : Nat) (v : Value) (l : List UInt8) (h : W.ownsRow base 5 1 v l.length (byteCells l)) :
    (convert 27 9 v).run Tryd.prog W = .ok (.string ⟨l.toArray⟩) W := by
  rcases h.2 with ⟨rfl, h0⟩ | ⟨g, cap, cur, rfl, _⟩
  · have : l = [] := List.eq_nil_of_length_eq_zero h0
    subst this
    exact nil_text W
  · exact run_convert_bytes_back W 27 9 5 ⟨g, 0, none⟩ cap l Tryd.underlying27 Tryd.underlying5 Tryd.underlying9 (fun j hj => by
      have hadd : (⟨g, 0, none⟩ : Addr).add j = ⟨g, j, none⟩ := by unfold Addr.add; split <;> simp_all
      rw [hadd, h.cellAt j (by omega)]
      simp [byteCells, hj])
theorem cells_len (L : List UInt8) : (byteCells L).length = L.length * 1 := by simp [byteCells]
theorem cells_new (L : List UInt8) (W : World) : ∀ j u, (byteCells L)[j]? = some u → (W.alloc (.cells (byteCells L).toArray 5)).cell? ((⟨W.heap.size, 0, none⟩ : Addr).add j) = some u := by
  intro j u hj
  have hadd : (⟨W.heap.size, 0, none⟩ : Addr).add j = ⟨W.heap.size, j, none⟩ := by unfold Addr.add; split <;> simp_all
  rw [hadd]
  have hb := heap_alloc_new W (.cells (byteCells L).toArray 5)
  unfold World.cell?
  rw [hb]
  simp [hj]
theorem own_cat {W : World} {base : Nat} {v : Value} {a L : List UInt8} (h : W.ownsRow base 5 1 v (a.length + L.length) (byteCells a ++ byteCells L)) : W.ownsRow base 5 1 v (a ++ L).length (byteCells (a ++ L)) := by
  rw [byteCells_append, List.length_append]; exact h
end Go.Proofs.YtialeicpelehoaaDoor.Own

/-
  A strings.Builder that lies inside another block, at some offset: its methods' walks.
-/
namespace Go.Proofs.YtialeicpelehoaaDoor
open Go.RowKit Go.Lib Own

/-- behind it block b holds cs', and nothing else has changed -/
structure Just (W W' : World) (b : Nat) (cs' : Array Value) (T : TypeId) : Prop where
  os : W'.os = W.os
  tape : W'.tape = W.tape
  output : W'.output = W.output
  size : W'.heap.size = W.heap.size
  at_ : W'.heap[b]? = some (.cells cs' T (0, 0))
  other : ∀ k, k ≠ b → W'.heap[k]? = W.heap[k]?
theorem just_set {W : World} {b j : Nat} {cs : Array Value} {T : TypeId} (h : W.heap[b]? = some (.cells cs T (0, 0))) (v : Value) : Just W (W.setCell ⟨b, j, none⟩ v) b (cs.setIfInBounds j v) T :=
  ⟨rfl, rfl, rfl, by simp, heap_setCell_same W b j cs T v h, fun k hk => heap_setCell_other W ⟨b, j, none⟩ k v (fun e => hk (by simp [e]))⟩
theorem just_same {W : World} {b : Nat} {cs : Array Value} {T : TypeId} (h : W.heap[b]? = some (.cells cs T (0, 0))) : Just W W b cs T := ⟨rfl, rfl, rfl, rfl, h, fun _ _ => rfl⟩
theorem cell_at {W : World} {b : Nat} {cs : Array Value} {T : TypeId} (h : W.heap[b]? = some (.cells cs T (0, 0))) {j : Nat} {v : Value} (hv : cs[j]? = some v) : W.cell? ⟨b, j, none⟩ = some v := by
  rw [cell_of_row W b j cs T (0, 0) h]; exact hv
theorem free_at {W : World} {b : Nat} {cs : Array Value} {T : TypeId} (h : W.heap[b]? = some (.cells cs T (0, 0))) (j : Nat) : W.frozen? ⟨b, j, none⟩ = false := frozen_of_row W b j cs T h
theorem shape_at {W : World} {b : Nat} {cs : Array Value} {T : TypeId} (h : W.heap[b]? = some (.cells cs T (0, 0))) : W.shape? b = some (T, cs.size) := by
  simp [World.shape?, h]
theorem set_same {cs : Array Value} {j : Nat} {v : Value} (h : cs[j]? = some v) : cs.setIfInBounds j v = cs := by
  obtain ⟨h1, h2⟩ := Array.getElem?_eq_some_iff.1 h
  subst h2
  simp [Array.setIfInBounds, h1]
theorem builder_info : ∃ j, Tryd.prog.info? 57 = some j ∧ j.size = 2 := by
  have h : (Tryd.prog.info? 57).map (·.size) = some 2 := by kernel_rfl
  obtain ⟨j, h1, h2⟩ := Option.map_eq_some_iff.1 h
  exact ⟨j, h1, h2⟩

set_option maxHeartbeats 1000000 in
set_option maxRecDepth 100000 in
theorem copy_in (b o : Nat) (cs : Array Value) (T : TypeId) (p : Value) (w : World) (hb : w.heap[b]? = some (.cells cs T (0, 0))) (hp : cs[o]? = some p) (hpp : p = .pointer none ∨ p = .pointer (some ⟨b, o, none⟩))
    (hl : liesAt Tryd.prog Tryd.prog.depth T (cs.size / Tryd.prog.cellsOf T) o 57 1 = true) :
    Calls Tryd.prog 45 #[.pointer (some ⟨b, o, none⟩)] w fun e w' => e = .returned (.tuple #[]) ∧ Just w w' b (cs.setIfInBounds o (.pointer (some ⟨b, o, none⟩))) T := by
  obtain ⟨j, hj, hjs⟩ := builder_info
  have h0 := cell_at hb hp
  have hfz := free_at hb o
  have hsh := shape_at hb
  have hoff := (Array.getElem?_eq_some_iff.1 hp).1
  rcases hpp with rfl | rfl
  · go_enter Tryd.func45, Tryd.ntmps45
    go_wp2
    rw [Lib.run_to_unsafe w ⟨b, o, none⟩ Tryd.underlying55 Tryd.underlying101 hj (by rw [hjs]; decide) hsh hoff]
    simp only [Result.andThen]
    rw [Oper.upon_value]
    go_wp2
    rw [run_callFunc_extern Tryd.func69 (by kernel_rfl) (by kernel_rfl) (by kernel_rfl) (e := Extern.AbiNoEscape.same) (by kernel_rfl)]
    rw [Lib.run_noEscape]
    simp only [Result.andThen]
    rw [Oper.upon_value]
    go_wp2
    rw [Lib.run_from_unsafe w ⟨b, o, none⟩ Tryd.underlying101 Tryd.underlying55 hj hsh hl]
    simp only [Result.andThen]
    rw [Oper.upon_value]
    go_wp2
    go_end0
    exact ⟨rfl, just_set hb _⟩
  · go_enter Tryd.func45, Tryd.ntmps45
    go_wp2
    rw [Lib.run_neq_ptr_same w _ Tryd.underlying55 hj]
    go_wp2
    go_end0
    exact ⟨rfl, by rw [set_same hp]; exact just_same hb⟩
/-- a builder at cell o of block b, whose bytes lie in a row of the call's own -/
structure InB (W : World) (base b o : Nat) (cs : Array Value) (T : TypeId) (p v : Value) (bs : List UInt8) : Prop where
  at_ : W.heap[b]? = some (.cells cs T (0, 0))
  lo : base ≤ b
  cp : cs[o]? = some p
  cv : cs[o + 1]? = some v
  hp : p = .pointer none ∨ p = .pointer (some ⟨b, o, none⟩)
  own : W.ownsRowF base 5 1 v bs.length (byteCells bs)
  ne : v.ownBlock ≠ some b
theorem Just.below {W W' : World} {b : Nat} {cs : Array Value} {T : TypeId} (h : Just W W' b cs T) {base : Nat} (hb : base ≤ b) : Below base W W' :=
  ⟨h.os, h.tape, h.output, by rw [h.size]; exact Nat.le_refl _, fun k hk => h.other k (by omega)⟩

set_option maxHeartbeats 2000000 in
set_option maxRecDepth 100000 in
theorem write_in (base b o : Nat) (cs : Array Value) (T : TypeId) (p v : Value) (bs : List UInt8) (s : ByteArray) (w : World) (h : InB w base b o cs T p v bs)
    (hl : liesAt Tryd.prog Tryd.prog.depth T (cs.size / Tryd.prog.cellsOf T) o 57 1 = true) (hT : T ≠ 5) (hlen : bs.length + s.size ≤ 140737488355328) :
    Calls Tryd.prog 29 #[.pointer (some ⟨b, o, none⟩), .string s] w fun e w' => e = .returned (.tuple #[.int .i64 s.size, .nilIface]) ∧
      ∃ v', InB w' base b o ((cs.setIfInBounds o (.pointer (some ⟨b, o, none⟩))).setIfInBounds (o + 1) v') T (.pointer (some ⟨b, o, none⟩)) v' (bs ++ s.data.toList) ∧ Below base w w' ∧
        ∀ k, k < w.heap.size → k ≠ b → v.ownBlock ≠ some k → w'.heap[k]? = w.heap[k]? := by
  obtain ⟨i0, hi, hz0, hz1, hz2⟩ := info_parts info_u8
  obtain ⟨hat, hlo, hcp, hcv, hpp, hown, hne⟩ := h
  have hcopy := copy_in b o cs T p w hat hcp hpp hl
  have hbs : b < w.heap.size := (Array.getElem?_eq_some_iff.1 hat).1
  have hsz := (Array.getElem?_eq_some_iff.1 hcv).1
  have HC := hid hcopy
  clear hcopy
  go_enter Tryd.func29, Tryd.ntmps29
  go_wp2_with fail
  refine HC.out.mono ?_
  rintro e w1 ⟨rfl, j1⟩
  obtain ⟨cs1, hcs1⟩ : ∃ cs1, cs.setIfInBounds o (.pointer (some ⟨b, o, none⟩)) = cs1 := ⟨_, rfl⟩
  have hv1 : cs1[o + 1]? = some v := by
    rw [← hcs1, Array.getElem?_setIfInBounds, if_neg (by omega)]
    exact hcv
  have hp1 : cs1[o]? = some (.pointer (some ⟨b, o, none⟩)) := by
    rw [← hcs1, Array.getElem?_setIfInBounds, if_pos rfl, if_pos (by omega)]
  rw [hcs1] at j1
  have c1 := cell_at j1.at_ hv1
  have hg1 : w.grownBy w1 (some b) := ⟨j1.os, j1.tape, j1.output, by rw [j1.size]; exact Nat.le_refl _, fun k _ hk => j1.other k (fun e => hk (by rw [e]))⟩
  have hown1 := hown.kept hg1 (.inr hne)
  have hbel1 := j1.below hlo
  have hb1 := j1.at_
  have hoth1 := j1.other
  have hbs1 : b < w1.heap.size := by rw [j1.size]; exact hbs
  have hle1 : w.heap.size ≤ w1.heap.size := by rw [j1.size]; exact Nat.le_refl _
  clear HC hown hg1 j1 hat
  go_wp2_with (at_builtin; refine Lib.wpList_append_own_stringF _ rfl _ _ 27 9 rfl base 5 i0 Tryd.underlying27 Tryd.underlying9 hi hz0 hz1 hz2 _ _ _ rfl hown1 s rfl ?c3 ?c4 ?c5 ?_)
  case c3 => unfold maxLen; omega
  case c4 => omega
  case c5 => omega
  intro v' w2 hown' hgrow _
  have hb2 : w2.heap[b]? = some (.cells cs1 T (0, 0)) := by
    rw [hgrow.block b hbs1 (fun e => hne e.symm)]
    exact hb1
  have hne' : v'.ownBlock ≠ some b := by
    intro he
    rcases hown'.2 with ⟨rfl, _⟩ | ⟨g, cap, cur, fz, rfl, _, hg, _⟩
    · cases he
    · simp only [Value.ownBlock, Option.some.injEq] at he
      subst he
      rw [hg] at hb2
      simp only [Option.some.injEq, Obj.cells.injEq] at hb2
      exact hT hb2.2.1.symm
  have d1 := cell_at hb2 hv1
  have f1 := free_at hb2 (o + 1)
  have hbw2 : Below base w w2 := hbel1.grown hgrow (by omega) (fun k hk => (hown1.lt k hk).1)
  have hsz2 : w1.heap.size ≤ w2.heap.size := hgrow.size
  have hkeep : ∀ k, k < w.heap.size → k ≠ b → v.ownBlock ≠ some k → w2.heap[k]? = w.heap[k]? := fun k hk h1 h2 => (hgrow.block k (by omega) (fun e => h2 e.symm)).trans (hoth1 k h1)
  obtain ⟨ao, n', cap, rfl⟩ : ∃ ao n' cap, v' = .slice ao n' cap := by
    rcases hown'.2 with ⟨hv, _⟩ | ⟨g, cap, cur, fz, hv, _⟩
    · exact ⟨_, _, _, hv⟩
    · exact ⟨_, _, _, hv⟩
  have hj2 := just_set (j := o + 1) hb2 (.slice ao n' cap)
  have hown2 := hown'.kept (w' := w2.setCell ⟨b, o + 1, none⟩ (.slice ao n' cap)) (row := some b) ⟨hj2.os, hj2.tape, hj2.output, by rw [hj2.size]; exact Nat.le_refl _, fun k _ hk => hj2.other k (fun e => hk (by rw [e]))⟩ (.inr hne')
  go_wp2
  go_ret2
  subst hcs1
  refine ⟨rfl, .slice ao n' cap, ⟨hj2.at_, hlo, ?_, ?_, .inr rfl, ?_, hne'⟩, hbw2.trans (hj2.below hlo), fun k hk h1 h2 => (hj2.other k h1).trans (hkeep k hk h1 h2)⟩
  · rw [Array.getElem?_setIfInBounds, if_neg (by omega)]; exact hp1
  · rw [Array.getElem?_setIfInBounds, if_pos rfl, if_pos (Array.getElem?_eq_some_iff.1 hv1).1]
  · rw [byteCells_append, List.length_append, ← size_eq]
    exact hown2

/-- a cell of a struct that a pointer leads to: Len, Reset, PutText -/
theorem len_in (base b o : Nat) (cs : Array Value) (T : TypeId) (p v : Value) (bs : List UInt8) (w : World) (h : InB w base b o cs T p v bs) :
    Calls Tryd.prog 62 #[.pointer (some ⟨b, o, none⟩)] w fun e w' => e = .returned (.int .i64 bs.length) ∧ w' = w := by
  have c1 := cell_at h.at_ h.cv
  obtain ⟨ao, cap, rfl⟩ : ∃ ao cap, v = .slice ao bs.length cap := by
    rcases h.own.2 with ⟨hv, h0⟩ | ⟨g, cap, cur, fz, hv, _⟩
    · exact ⟨none, 0, by rw [hv, h0]⟩
    · exact ⟨_, _, hv⟩
  go_enter Tryd.func62, Tryd.ntmps62
  go_wp2
  go_ret
  exact ⟨rfl, rfl⟩
theorem reset_in (base b o : Nat) (cs : Array Value) (T : TypeId) (p v : Value) (w : World) (hat : w.heap[b]? = some (.cells cs T (0, 0))) (hlo : base ≤ b) (hcp : cs[o]? = some p) (hcv : cs[o + 1]? = some v) :
    Calls Tryd.prog 63 #[.pointer (some ⟨b, o, none⟩)] w fun e w' => e = .returned (.tuple #[]) ∧
      InB w' base b o ((cs.setIfInBounds o (.pointer none)).setIfInBounds (o + 1) (.slice none 0 0)) T (.pointer none) (.slice none 0 0) [] ∧ Below base w w' ∧ ∀ k, k ≠ b → w'.heap[k]? = w.heap[k]? := by
  have c0 := cell_at hat hcp
  have f0 := free_at hat o
  have j1 := just_set (j := o) hat (.pointer none)
  have hv1 : (cs.setIfInBounds o (.pointer none))[o + 1]? = some v := by
    rw [Array.getElem?_setIfInBounds, if_neg (by omega)]; exact hcv
  have hp1 : (cs.setIfInBounds o (.pointer none))[o]? = some (.pointer none) := by
    rw [Array.getElem?_setIfInBounds, if_pos rfl, if_pos (Array.getElem?_eq_some_iff.1 hcp).1]
  have c1 := cell_at j1.at_ hv1
  have f1 := free_at j1.at_ (o + 1)
  have j2 := just_set (j := o + 1) j1.at_ (.slice none 0 0)
  have hb1 := j1.below hlo
  have hb2 := j2.below hlo
  have hfin : InB ((w.setCell ⟨b, o, none⟩ (.pointer none)).setCell ⟨b, o + 1, none⟩ (.slice none 0 0)) base b o ((cs.setIfInBounds o (.pointer none)).setIfInBounds (o + 1) (.slice none 0 0)) T (.pointer none) (.slice none 0 0) [] := by
    refine ⟨j2.at_, hlo, ?_, ?_, .inl rfl, ⟨rfl, .inl ⟨rfl, rfl⟩⟩, by simp [Value.ownBlock]⟩
    · rw [Array.getElem?_setIfInBounds, if_neg (by omega)]; exact hp1
    · rw [Array.getElem?_setIfInBounds, if_pos rfl, if_pos (Array.getElem?_eq_some_iff.1 hv1).1]
  have hkp : ∀ k, k ≠ b → ((w.setCell ⟨b, o, none⟩ (.pointer none)).setCell ⟨b, o + 1, none⟩ (.slice none 0 0)).heap[k]? = w.heap[k]? := fun k hk => (j2.other k hk).trans (j1.other k hk)
  have HF := hid hfin
  have HK := hid hkp
  clear hfin hkp j1 j2
  go_enter Tryd.func63, Tryd.ntmps63
  go_wp2
  go_end0
  exact ⟨rfl, HF.out, hb1.trans hb2, HK.out⟩

theorem freeze_other (w : World) (g n k : Nat) (hk : k ≠ g) : (w.freeze ⟨g, 0, none⟩ n).heap[k]? = w.heap[k]? := by
  unfold World.freeze
  split
  · rfl
  · simp only [Array.getElem?_modify]
    rw [if_neg (fun e => hk e.symm)]
set_option maxHeartbeats 2000000 in
set_option maxRecDepth 100000 in
theorem string_in (base b o : Nat) (cs : Array Value) (T : TypeId) (p v : Value) (bs : List UInt8) (w : World) (h : InB w base b o cs T p v bs) (h0 : bs ≠ []) :
    Calls Tryd.prog 30 #[.pointer (some ⟨b, o, none⟩)] w fun e w' => e = .returned (.string ⟨bs.toArray⟩) ∧ w'.heap[b]? = some (.cells cs T (0, 0)) ∧ Below base w w' ∧
      ∀ k, k ≠ b → v.ownBlock ≠ some k → w'.heap[k]? = w.heap[k]? := by
  obtain ⟨hat, hlo, hcp, hcv, hpp, hown, hne⟩ := h
  have hl0 : bs.length ≠ 0 := by simpa using h0
  obtain ⟨g, cap, cur, fz, rfl, hbg, hg, hfz, hnc, hcm, hcs, htake⟩ : ∃ g cap cur fz, v = .slice (some ⟨g, 0, none⟩) bs.length cap ∧ base ≤ g ∧ w.heap[g]? = some (.cells cur 5 fz) ∧ fz.2 ≤ bs.length * 1 ∧ bs.length ≤ cap ∧ cap ≤ maxLen ∧ cur.size = cap * 1 ∧ cur.toList.take (bs.length * 1) = byteCells bs := by
    rcases hown.2 with ⟨_, hz⟩ | ⟨g, cap, cur, fz, hv, r⟩
    · exact absurd hz hl0
    · exact ⟨g, cap, cur, fz, hv, r⟩
  have hgb : g ≠ b := fun e => hne (by simp [Value.ownBlock, e])
  have c1 : w.drew.cell? ⟨b, o + 1, none⟩ = some (.slice (some ⟨g, 0, none⟩) bs.length cap) := cell_at hat hcv
  have hSD : (Builtin.unsafeSliceData_ #[27] 85 #[.slice (some ⟨g, 0, none⟩) bs.length cap]).run Tryd.prog w.drew = .ok (.pointer (some ⟨g, 0, none⟩)) w.drew :=
    Lib.run_unsafeSliceData_row _ _ _ _ _ _ (by omega)
  have hUS : (Builtin.unsafeString_ #[85, 3] 9 #[.pointer (some ⟨g, 0, none⟩), .int .i64 bs.length]).run Tryd.prog w.drew = .ok (.string ⟨bs.toArray⟩) (w.drew.freeze ⟨g, 0, none⟩ bs.length) := by
    refine Lib.run_unsafeString_row w.drew 85 3 9 5 Tryd.underlying85 (by kernel_rfl) g cur.size (by have hg' : w.drew.heap[g]? = some (.cells cur 5 fz) := hg; simp [World.shape?, hg']) bs h0 (by omega) (by unfold maxLen at hcm; omega) ?_
    intro j x hx
    have := hown.cells (g := g) rfl j (.int .u8 x.toNat) (by simp [Lib.byteCells, hx])
    exact this
  have hb2 : (w.drew.freeze ⟨g, 0, none⟩ bs.length).heap[b]? = some (.cells cs T (0, 0)) := (freeze_other w.drew g bs.length b (fun e => hgb e.symm)).trans hat
  have hk2 : ∀ k, k ≠ b → (Value.slice (some ⟨g, 0, none⟩) bs.length cap).ownBlock ≠ some k → (w.drew.freeze ⟨g, 0, none⟩ bs.length).heap[k]? = w.heap[k]? := fun k _ hk => freeze_other w.drew g bs.length k (fun e => hk (by simp [Value.ownBlock, e]))
  have hbel : Below base w (w.drew.freeze ⟨g, 0, none⟩ bs.length) := Lib.below_freeze (Below.drew (Below.refl base w)) (p := ⟨g, 0, none⟩) hbg _
  have HB := hid hb2
  have HK := hid hk2
  clear hb2 hk2 hown htake
  go_enter Tryd.func30, Tryd.ntmps30
  go_wp2
  go_region
  all_goals (go_wp2; go_ret; exact ⟨rfl, HB.out, hbel, HK.out⟩)
end Go.Proofs.YtialeicpelehoaaDoor

/-
  Character references: as plain functions on lists of bytes. No program is named here.
-/
namespace Go.Proofs.YtialeicpelehoaaDoor

/-! ## names: two searches that find the same -/

def step1 (L : List UInt8) (a : Nat × Int) (t : List UInt8 × Int) : Nat × Int := if a.1 < t.1.length ∧ t.1 <+: L then (t.1.length, t.2) else a
def name1 (L : List UInt8) (T : List (List UInt8 × Int)) : Nat × Int := T.foldl (step1 L) (0, 0)
def shut1 (L : List UInt8) (a : Nat × Int) : Nat × Int := if 0 < a.1 ∧ L[a.1 - 1]? ≠ some 59 ∧ L[a.1]? = some 59 then (a.1 + 1, a.2) else a

def stepE (L : List UInt8) (a : List UInt8 × Int) (t : List UInt8 × Int) : List UInt8 × Int :=
  let n := if t.1 ++ [59] <+: L then t.1 ++ [59] else t.1
  if n <+: L ∧ a.1.length < n.length then (n, t.2) else a
def stepC (L : List UInt8) (a : List UInt8 × Int) (t : List UInt8 × Int) : List UInt8 × Int := if t.1 <+: L ∧ a.1.length < t.1.length then t else a
def name2 (L : List UInt8) (E C : List (List UInt8 × Int)) : List UInt8 × Int := C.foldl (stepC L) (E.foldl (stepE L) ([], 0))

/-- the two searches, side by side -/
def Side (L : List UInt8) (N : List (List UInt8)) (a : Nat × Int) (b : List UInt8 × Int) : Prop :=
  a.2 = b.2 ∧ ((a.1 = 0 ∧ b.1 = []) ∨ (0 < a.1 ∧ a.1 ≤ L.length ∧ b.1 = L.take a.1 ∧ (L[a.1 - 1]? = some 59 ∨ L[a.1]? ≠ some 59)) ∨
    (0 < a.1 ∧ a.1 < L.length ∧ L[a.1 - 1]? ≠ some 59 ∧ L[a.1]? = some 59 ∧ b.1 = L.take (a.1 + 1) ∧ L.take a.1 ∈ N))

theorem take_last (L : List UInt8) (m : Nat) (h0 : 0 < m) (h1 : m ≤ L.length) : (L.take m).getLast? = L[m - 1]? := by
  rw [List.getLast?_eq_getElem?, List.length_take, Nat.min_eq_left h1, List.getElem?_take_of_lt (by omega)]
theorem take_shut (L p : List UInt8) (hp : p <+: L) : p ++ [59] <+: L ↔ L[p.length]? = some 59 := by
  obtain ⟨r, rfl⟩ := hp
  rw [List.prefix_append_right_inj]
  cases r with
  | nil => simp
  | cons x r => simp [List.cons_prefix_cons, eq_comm]

theorem side_E {L : List UInt8} {N : List (List UInt8)} {a : Nat × Int} {b t : List UInt8 × Int} (h : Side L N a b) (hN : t.1 ∈ N) (h0 : t.1 ≠ []) (h1 : t.1.getLast? ≠ some 59) :
    Side L N (step1 L a t) (stepE L b t) := by
  obtain ⟨p, k⟩ := t
  obtain ⟨l, c⟩ := a
  obtain ⟨b, c'⟩ := b
  obtain ⟨hc, h⟩ := h
  simp only at hc h h0 h1 hN ⊢
  subst hc
  by_cases hp : p <+: L
  · have hle := hp.length_le
    have hpe := List.prefix_iff_eq_take.1 hp
    have hm : 0 < p.length := List.length_pos_iff.2 h0
    have hL1 : L[p.length - 1]? ≠ some 59 := by rw [← take_last L p.length hm hle, ← hpe]; exact h1
    have hs := take_shut L p hp
    by_cases hL : L[p.length]? = some 59
    · have hlt : p.length < L.length := (List.getElem?_eq_some_iff.1 hL).1
      have hpt : p ++ [59] = L.take (p.length + 1) := by
        have := List.prefix_iff_eq_take.1 (hs.2 hL)
        simpa using this
      have key : (l < p.length ↔ b.length < p.length + 1) := by
        rcases h with ⟨rfl, rfl⟩ | ⟨a0, a1, rfl, a2⟩ | ⟨a0, a1, a2, a3, rfl, a4⟩
        · simp; omega
        · rw [List.length_take, Nat.min_eq_left a1]
          constructor
          · intro; omega
          · intro hx
            rcases Nat.lt_or_ge l p.length with hy | hy
            · exact hy
            · have : l = p.length := by omega
              subst this
              rcases a2 with a2 | a2
              · exact absurd a2 hL1
              · exact absurd hL a2
        · rw [List.length_take, Nat.min_eq_left (by omega)]; omega
      simp only [step1, stepE, hp, hs.2 hL, if_true, and_true, true_and, List.length_append, List.length_singleton]
      by_cases hk : l < p.length
      · rw [if_pos hk, if_pos (key.1 hk)]
        exact ⟨rfl, .inr (.inr ⟨hm, hlt, hL1, hL, hpt, by rw [← hpe]; exact hN⟩)⟩
      · rw [if_neg hk, if_neg (fun x => hk (key.2 x))]
        exact ⟨rfl, h⟩
    · have key : (l < p.length ↔ b.length < p.length) := by
        rcases h with ⟨rfl, rfl⟩ | ⟨a0, a1, rfl, a2⟩ | ⟨a0, a1, a2, a3, rfl, a4⟩
        · simp
        · rw [List.length_take, Nat.min_eq_left a1]
        · rw [List.length_take, Nat.min_eq_left (by omega)]
          constructor
          · intro hx
            rcases Nat.lt_or_ge (l + 1) p.length with hy | hy
            · exact hy
            · exfalso
              have e : p.length - 1 = l := by omega
              rw [e] at hL1
              exact hL1 a3
          · intro; omega
      have hno : ¬ p ++ [59] <+: L := fun x => hL (hs.1 x)
      simp only [step1, stepE, hno, hp, if_false, and_true, true_and]
      by_cases hk : l < p.length
      · rw [if_pos hk, if_pos (key.1 hk)]
        exact ⟨rfl, .inr (.inl ⟨hm, hle, hpe, .inr hL⟩)⟩
      · rw [if_neg hk, if_neg (fun x => hk (key.2 x))]
        exact ⟨rfl, h⟩
  · have hp2 : ¬ p ++ [59] <+: L := fun x => hp ((List.prefix_append p [59]).trans x)
    simp only [step1, stepE, hp, hp2, if_false, and_false, false_and]
    exact ⟨rfl, h⟩

theorem side_C {L : List UInt8} {N : List (List UInt8)} {a : Nat × Int} {b t : List UInt8 × Int} (h : Side L N a b) (h0 : t.1 ≠ []) (h1 : t.1.getLast? = some 59) (h2 : ∀ n ∈ N, t.1 ≠ n ++ [59]) :
    Side L N (step1 L a t) (stepC L b t) := by
  obtain ⟨p, k⟩ := t
  obtain ⟨l, c⟩ := a
  obtain ⟨b, c'⟩ := b
  obtain ⟨hc, h⟩ := h
  simp only at hc h h0 h1 h2 ⊢
  subst hc
  by_cases hp : p <+: L
  · have hle := hp.length_le
    have hpe := List.prefix_iff_eq_take.1 hp
    have hm : 0 < p.length := List.length_pos_iff.2 h0
    have hL1 : L[p.length - 1]? = some 59 := by rw [← take_last L p.length hm hle, ← hpe]; exact h1
    have key : (l < p.length ↔ b.length < p.length) := by
      rcases h with ⟨rfl, rfl⟩ | ⟨a0, a1, rfl, a2⟩ | ⟨a0, a1, a2, a3, rfl, a4⟩
      · simp
      · rw [List.length_take, Nat.min_eq_left a1]
      · rw [List.length_take, Nat.min_eq_left (by omega)]
        constructor
        · intro hx
          rcases Nat.lt_or_ge (l + 1) p.length with hy | hy
          · exact hy
          · exfalso
            have e : p.length = l + 1 := by omega
            refine h2 _ a4 ?_
            rw [hpe, e]
            have := (take_shut L (L.take l) (List.take_prefix _ _)).2 (by rw [List.length_take, Nat.min_eq_left (by omega)]; exact a3)
            have := List.prefix_iff_eq_take.1 this
            rw [this, List.length_append, List.length_take, Nat.min_eq_left (by omega)]
            rfl
        · intro; omega
    simp only [step1, stepC, hp, and_true, true_and]
    by_cases hk : l < p.length
    · rw [if_pos hk, if_pos (key.1 hk)]
      exact ⟨rfl, .inr (.inl ⟨hm, hle, hpe, .inl hL1⟩)⟩
    · rw [if_neg hk, if_neg (fun x => hk (key.2 x))]
      exact ⟨rfl, h⟩
  · simp only [step1, stepC, hp, if_false, and_false, false_and]
    exact ⟨rfl, h⟩

theorem side_all (L : List UInt8) (E C : List (List UInt8 × Int)) (hE : ∀ t ∈ E, t.1 ≠ [] ∧ t.1.getLast? ≠ some 59) (hC : ∀ t ∈ C, t.1 ≠ [] ∧ t.1.getLast? = some 59 ∧ ∀ n ∈ E.map (·.1), t.1 ≠ n ++ [59]) :
    Side L (E.map (·.1)) (name1 L (E ++ C)) (name2 L E C) := by
  have h1 : ∀ (X : List (List UInt8 × Int)), (∀ t ∈ X, t ∈ E) → ∀ a b, Side L (E.map (·.1)) a b → Side L (E.map (·.1)) (X.foldl (step1 L) a) (X.foldl (stepE L) b) := by
    intro X
    induction X with
    | nil => intro _ a b h; exact h
    | cons t X ih =>
      intro hX a b h
      have ht := hX t (.head _)
      exact ih (fun u hu => hX u (.tail _ hu)) _ _ (side_E h (List.mem_map.2 ⟨t, ht, rfl⟩) (hE t ht).1 (hE t ht).2)
  have h2 : ∀ (X : List (List UInt8 × Int)), (∀ t ∈ X, t ∈ C) → ∀ a b, Side L (E.map (·.1)) a b → Side L (E.map (·.1)) (X.foldl (step1 L) a) (X.foldl (stepC L) b) := by
    intro X
    induction X with
    | nil => intro _ a b h; exact h
    | cons t X ih =>
      intro hX a b h
      have ht := hX t (.head _)
      exact ih (fun u hu => hX u (.tail _ hu)) _ _ (side_C h (hC t ht).1 (hC t ht).2.1 (hC t ht).2.2)
  unfold name1 name2
  rw [List.foldl_append]
  exact h2 C (fun _ h => h) _ _ (h1 E (fun _ h => h) _ _ ⟨rfl, .inl ⟨rfl, rfl⟩⟩)

theorem names_eq (L : List UInt8) (E C : List (List UInt8 × Int)) (hE : ∀ t ∈ E, t.1 ≠ [] ∧ t.1.getLast? ≠ some 59) (hC : ∀ t ∈ C, t.1 ≠ [] ∧ t.1.getLast? = some 59 ∧ ∀ n ∈ E.map (·.1), t.1 ≠ n ++ [59]) :
    (name2 L E C).1 = L.take (shut1 L (name1 L (E ++ C))).1 ∧ (name2 L E C).2 = (shut1 L (name1 L (E ++ C))).2 ∧ (shut1 L (name1 L (E ++ C))).1 ≤ L.length := by
  have h := side_all L E C hE hC
  generalize name1 L (E ++ C) = a at h ⊢
  generalize name2 L E C = b at h ⊢
  obtain ⟨hc, h⟩ := h
  unfold shut1
  rcases h with ⟨h0, h1⟩ | ⟨a0, a1, a2, a3⟩ | ⟨a0, a1, a2, a3, a4, _⟩
  · rw [if_neg (by omega)]; exact ⟨by rw [h1, h0]; rfl, hc.symm, by omega⟩
  · rw [if_neg (by rintro ⟨_, x, y⟩; rcases a3 with a3 | a3; exact x a3; exact a3 y)]
    exact ⟨a2, hc.symm, a1⟩
  · rw [if_pos ⟨a0, a2, a3⟩]; exact ⟨a4, hc.symm, a1⟩

/-! ## numbers -/

def digD (c : UInt8) : Bool := decide (48 ≤ c.toNat ∧ c.toNat ≤ 57)
def digX (c : UInt8) : Bool := decide (48 ≤ c.toNat ∧ c.toNat ≤ 57 ∨ 65 ≤ c.toNat ∧ c.toNat ≤ 70 ∨ 97 ≤ c.toNat ∧ c.toNat ≤ 102)
/-- what a digit counts -/
def digV (c : UInt8) : Nat := if c.toNat ≤ 57 then c.toNat - 48 else if c.toNat ≤ 70 then c.toNat - 55 else c.toNat - 87
def valS (b v : Nat) (l : List UInt8) : Nat := l.foldl (fun v c => if v < 1114112 then v * b + digV c else v) v
def valM (b v : Nat) (l : List UInt8) : Nat := l.foldl (fun v c => min (v * b + digV c) 1114112) v
theorem val_eq (b : Nat) (hb : 0 < b) : ∀ (l : List UInt8) (v : Nat), valM b (min v 1114112) l = min (valS b v l) 1114112
  | [], v => rfl
  | c :: l, v => by
    have h := val_eq b hb l (if v < 1114112 then v * b + digV c else v)
    unfold valM valS at h ⊢
    rw [List.foldl_cons, List.foldl_cons, ← h]
    congr 1
    split
    · rename_i hv
      rw [Nat.min_eq_left (a := v) (by omega)]
    · rename_i hv
      rw [Nat.min_eq_right (a := v) (by omega)]
      have : 1114112 * 1 ≤ 1114112 * b := Nat.mul_le_mul_left _ hb
      omega
end Go.Proofs.YtialeicpelehoaaDoor

/-
  Character references: the tables and the whole answer, as plain functions on lists of bytes.
-/
namespace Go.Proofs.YtialeicpelehoaaDoor
open Go.Lib

def eitherT : List (List UInt8 × Int) := [([65, 77, 80], 38), ([97, 109, 112], 38), ([99, 111, 112, 121], 169), ([100, 101, 103], 176), ([71, 84], 62), ([103, 116], 62),
  ([76, 84], 60), ([108, 116], 60), ([110, 98, 115, 112], 160), ([110, 111, 116], 172), ([112, 97, 114, 97], 182), ([81, 85, 79, 84], 34),
  ([113, 117, 111, 116], 34), ([114, 101, 103], 174), ([116, 105, 109, 101, 115], 215)]
def closedT : List (List UInt8 × Int) := [([97, 112, 111, 115, 59], 39), ([98, 117, 108, 108, 59], 8226), ([99, 111, 108, 111, 110, 59], 58), ([99, 111, 112, 121, 115, 114, 59], 8471), ([101, 117, 114, 111, 59], 8364), ([103, 116, 100, 111, 116, 59], 8919),
  ([104, 101, 108, 108, 105, 112, 59], 8230), ([108, 100, 113, 117, 111, 59], 8220), ([108, 112, 97, 114, 59], 40), ([108, 115, 113, 117, 111, 59], 8216), ([108, 116, 105, 109, 101, 115, 59], 8905), ([109, 100, 97, 115, 104, 59], 8212),
  ([110, 100, 97, 115, 104, 59], 8211), ([78, 101, 119, 76, 105, 110, 101, 59], 10), ([110, 111, 116, 105, 110, 59], 8713), ([110, 117, 109, 59], 35), ([112, 97, 114, 97, 108, 108, 101, 108, 59], 8741), ([114, 100, 113, 117, 111, 59], 8221),
  ([114, 112, 97, 114, 59], 41), ([114, 115, 113, 117, 111, 59], 8217), ([115, 111, 108, 59], 47), ([84, 97, 98, 59], 9), ([116, 105, 109, 101, 115, 98, 59], 8864), ([116, 114, 97, 100, 101, 59], 8482)]
def replT : List Int := [8364, 65533, 8218, 402, 8222, 8230, 8224, 8225, 710, 8240, 352, 8249, 338, 65533, 381, 65533, 65533, 8216, 8217, 8220, 8221, 8226, 8211, 8212, 732, 8482, 353, 8250, 339, 65533, 382, 376]
def remapT : List (Int × Int) := [(128, 8364), (130, 8218), (131, 402), (132, 8222), (133, 8230), (134, 8224), (135, 8225), (136, 710), (137, 8240), (138, 352), (139, 8249), (140, 338), (142, 381), (145, 8216), (146, 8217), (147, 8220), (148, 8221), (149, 8226), (150, 8211), (151, 8212), (152, 732), (153, 8482), (154, 353), (155, 8250), (156, 339), (158, 382), (159, 376)]

theorem eitherT_ok : ∀ t ∈ eitherT, t.1 ≠ [] ∧ t.1.getLast? ≠ some 59 := by decide +kernel
theorem closedT_ok : ∀ t ∈ closedT, t.1 ≠ [] ∧ t.1.getLast? = some 59 ∧ ∀ n ∈ eitherT.map (·.1), t.1 ≠ n ++ [59] := by decide +kernel

def remapL : List (Int × Int) → Int → Int
  | [], v => v
  | p :: l, v => if p.1 = v then p.2 else remapL l v
theorem remapL_big : ∀ (l : List (Int × Int)) (v : Int), (∀ p ∈ l, p.1 ≤ 159) → 159 < v → remapL l v = v
  | [], _, _, _ => rfl
  | p :: l, v, h, hv => by
    have := h p (.head _)
    rw [remapL, if_neg (by omega)]
    exact remapL_big l v (fun q hq => h q (.tail _ hq)) hv
/-- what a number stands for -/
def numb (v : Int) : Int := if 128 ≤ v ∧ v ≤ 159 then replT.getD (v - 128).toNat 0 else if goodB v then v else 65533
def numbR (v : Int) : Int := if goodB (remapL remapT v) then remapL remapT v else 65533
theorem numb_small : ∀ v : Fin 160, numbR (v.val : Int) = numb (v.val : Int) := by decide +kernel
theorem numb_over (z : Int) (h : 159 < z) : numb z = if goodB z then z else 65533 := by
  unfold numb
  rw [if_neg (by omega)]
theorem numb_eq (v : Nat) : numbR (v : Int) = numb ((min v 1114112 : Nat) : Int) := by
  rcases Nat.lt_or_ge v 160 with h | h
  · rw [Nat.min_eq_left (by omega)]; exact numb_small ⟨v, h⟩
  · unfold numbR
    rw [remapL_big remapT _ (by decide +kernel) (by omega), numb_over _ (by omega)]
    rcases Nat.lt_or_ge v 1114112 with h2 | h2
    · rw [Nat.min_eq_left (by omega)]
    · rw [Nat.min_eq_right (by omega)]
      have h3 : goodB (v : Int) = false := by simp [goodB]; omega
      have h4 : goodB ((1114112 : Nat) : Int) = false := by decide +kernel
      rw [h3, h4]; rfl
theorem numb_good (v : Int) (_h : 0 ≤ v) : 0 ≤ numb v ∧ numb v ≤ 1114111 ∧ ¬ (55296 ≤ numb v ∧ numb v ≤ 57343) := by
  have ht : ∀ z ∈ replT, 0 ≤ z ∧ z ≤ 1114111 ∧ ¬ (55296 ≤ z ∧ z ≤ 57343) := by decide +kernel
  unfold numb
  split
  · have hl : (v - 128).toNat < replT.length := by have : replT.length = 32 := rfl; omega
    rw [List.getD_eq_getElem?_getD, List.getElem?_eq_getElem hl]
    exact ht _ (List.getElem_mem hl)
  · split
    · rename_i _ h
      simp [goodB] at h
      omega
    · omega

def hexN (N : List UInt8) : Bool := N[1]? == some 120 || N[1]? == some 88
def fromN (N : List UInt8) : Nat := if hexN N then 2 else 1
def baseN (N : List UInt8) : Nat := if hexN N then 16 else 10
def digN (N : List UInt8) : UInt8 → Bool := if hexN N then digX else digD
def digsN (N : List UInt8) : List UInt8 := (N.drop (fromN N)).takeWhile (digN N)
/-- the numeric reference that the bytes begin with: its length and its character -/
def numL (N : List UInt8) : Nat × Int :=
  if digsN N = [] then (0, 0) else
    (fromN N + (digsN N).length + (if N[fromN N + (digsN N).length]? = some 59 then 1 else 0), numb ((min (valS (baseN N) 0 (digsN N)) 1114112 : Nat) : Int))
def goesB (c : UInt8) : Bool := decide (c.toNat = 61 ∨ 48 ≤ c.toNat ∧ c.toNat ≤ 57 ∨ 65 ≤ c.toNat ∧ c.toNat ≤ 90 ∨ 97 ≤ c.toNat ∧ c.toNat ≤ 122)
def goesL (L : List UInt8) : Bool := match L with | [] => false | c :: _ => goesB c
def nameL (L : List UInt8) : Nat × Int := shut1 L (name1 L (eitherT ++ closedT))
/-- the reference that the bytes behind an ampersand begin with: its length, 0 where there is none, and its character -/
def refL (attr : Bool) (L : List UInt8) : Nat × Int :=
  if L[0]? = some 35 then numL (L.take 31)
  else if attr = true ∧ 0 < (nameL L).1 ∧ L[(nameL L).1 - 1]? ≠ some 59 ∧ goesL (L.drop (nameL L).1) = true then (0, 0) else nameL L
def oneL (attr : Bool) (L : List UInt8) : List UInt8 := if (refL attr L).1 = 0 then [38] else encodeRune (refL attr L).2

def unrL (attr : Bool) : Nat → List UInt8 → List UInt8
  | 0, _ => []
  | _ + 1, [] => []
  | n + 1, c :: r => if c = 38 then oneL attr r ++ unrL attr n (r.drop (refL attr r).1) else c :: unrL attr n r
def unr (attr : Bool) (L : List UInt8) : List UInt8 := unrL attr L.length L
theorem unrL_fuel (attr : Bool) : ∀ (f g : Nat) (L : List UInt8), L.length ≤ f → L.length ≤ g → unrL attr f L = unrL attr g L
  | 0, 0, _, _, _ => rfl
  | 0, g + 1, L, h, _ => by obtain rfl := List.length_eq_zero_iff.1 (Nat.le_zero.1 h); rfl
  | f + 1, 0, L, _, h => by obtain rfl := List.length_eq_zero_iff.1 (Nat.le_zero.1 h); rfl
  | f + 1, g + 1, [], _, _ => rfl
  | f + 1, g + 1, c :: r, h1, h2 => by
    simp only [List.length_cons] at h1 h2
    simp only [unrL]
    rw [unrL_fuel attr f g r (by omega) (by omega), unrL_fuel attr f g (r.drop _) (by rw [List.length_drop]; omega) (by rw [List.length_drop]; omega)]
theorem unr_nil (attr : Bool) : unr attr [] = [] := rfl
theorem unr_amp (attr : Bool) (r : List UInt8) : unr attr (38 :: r) = oneL attr r ++ unr attr (r.drop (refL attr r).1) := by
  unfold unr
  rw [List.length_cons, unrL, if_pos rfl, unrL_fuel attr r.length (r.drop (refL attr r).1).length _ (by rw [List.length_drop]; omega) (Nat.le_refl _)]
theorem unr_other (attr : Bool) (c : UInt8) (r : List UInt8) (h : c ≠ 38) : unr attr (c :: r) = c :: unr attr r := by
  unfold unr
  rw [List.length_cons, unrL, if_neg h]
theorem unr_ahead (attr : Bool) : ∀ (a r : List UInt8), (∀ c ∈ a, c ≠ 38) → unr attr (a ++ r) = a ++ unr attr r
  | [], _, _ => rfl
  | c :: a, r, h => by
    rw [List.cons_append, unr_other attr c _ (h c (.head _)), unr_ahead attr a r (fun d hd => h d (.tail _ hd))]; rfl
theorem oneL_len (attr : Bool) (L : List UInt8) : (oneL attr L).length ≤ 4 := by
  unfold oneL
  split
  · simp
  · rw [← runeCells_length]; unfold runeCells; rw [List.length_map]; exact (encodeRuneZ_length _).2
theorem unr_len (attr : Bool) : ∀ (n : Nat) (L : List UInt8), L.length ≤ n → (unr attr L).length ≤ 4 * L.length
  | _, [], _ => by rw [unr_nil]; simp
  | 0, c :: r, h => by simp at h
  | n + 1, c :: r, h => by
    simp only [List.length_cons] at h
    by_cases hc : c = 38
    · subst hc
      have h1 := oneL_len attr r
      have h2 := unr_len attr n (r.drop (refL attr r).1) (by rw [List.length_drop]; omega)
      rw [List.length_drop] at h2
      rw [unr_amp, List.length_append, List.length_cons]
      omega
    · have h2 := unr_len attr n r (by omega)
      rw [unr_other attr c r hc, List.length_cons, List.length_cons]
      omega

/-! ## what the loops go by -/

theorem while_step {p : UInt8 → Bool} {N : List UInt8} {e : Nat} {c : UInt8} (h : N[e]? = some c) (hp : p c = true) : (N.drop e).takeWhile p = c :: (N.drop (e + 1)).takeWhile p := by
  obtain ⟨h1, h2⟩ := List.getElem?_eq_some_iff.1 h
  rw [List.drop_eq_getElem_cons h1, h2, List.takeWhile_cons, if_pos hp]
theorem while_stop {p : UInt8 → Bool} {N : List UInt8} {e : Nat} (h : ∀ c, N[e]? = some c → p c = false) : (N.drop e).takeWhile p = [] := by
  rcases Nat.lt_or_ge e N.length with h1 | h1
  · rw [List.drop_eq_getElem_cons h1, List.takeWhile_cons, if_neg (by rw [h _ (List.getElem?_eq_getElem h1)]; simp)]
  · rw [List.drop_of_length_le h1]; rfl
/-- what a byte counts as a digit; 16: it is none -/
def digK (c : UInt8) : Nat := if 48 ≤ c.toNat ∧ c.toNat ≤ 57 then c.toNat - 48 else if 65 ≤ c.toNat ∧ c.toNat ≤ 70 then c.toNat - 55 else if 97 ≤ c.toNat ∧ c.toNat ≤ 102 then c.toNat - 87 else 16
theorem digK_D (c : UInt8) : decide (digK c < 10) = digD c := by
  unfold digK digD
  apply decide_eq_decide.2
  repeat' split
  all_goals omega
theorem digK_X (c : UInt8) : decide (digK c < 16) = digX c := by
  unfold digK digX
  apply decide_eq_decide.2
  repeat' split
  all_goals omega
theorem digK_V (c : UInt8) (h : digX c = true) : digK c = digV c := by
  unfold digX at h
  rw [decide_eq_true_eq] at h
  unfold digK digV
  repeat' split
  all_goals omega
theorem digV_lt (c : UInt8) (h : digX c = true) : digV c < 16 := by
  unfold digX at h
  rw [decide_eq_true_eq] at h
  unfold digV
  repeat' split
  all_goals omega
theorem digD_X (c : UInt8) (h : digD c = true) : digX c = true := by
  unfold digD at h
  unfold digX
  rw [decide_eq_true_eq] at h ⊢
  omega
theorem digN_K (N : List UInt8) (c : UInt8) : decide (digK c < baseN N) = digN N c := by
  unfold baseN digN
  split
  · exact digK_X c
  · exact digK_D c
theorem digN_X (N : List UInt8) (c : UInt8) (h : digN N c = true) : digX c = true := by
  unfold digN at h
  split at h
  · exact h
  · exact digD_X c h
end Go.Proofs.YtialeicpelehoaaDoor

/-
  The lexer as a plain function on lists of bytes: a step, a run, and that a text may be cut anywhere. No program is named here.
-/
namespace Go.Proofs.YtialeicpelehoaaDoor

structure LS where
  mode : Nat
  scan : Nat
  eat : Bool

inductive Item where
  | unit (b : List UInt8)
  | start (name : List UInt8) (attrs : List (List UInt8 × List UInt8))
  | stop (name : List UInt8)

/-- what a step comes to: it needs more bytes, n of them being passed; or it has taken n bytes -/
inductive Res where
  | more (n : Nat) (st : LS)
  | done (n : Nat) (st : LS) (it : List Item)
def Res.shift (k : Nat) : Res → Res
  | .more n st => .more (k + n) st
  | .done n st it => .done (k + n) st it

def spaceC (c : UInt8) : Bool := c == 9 || c == 10 || c == 12 || c == 13 || c == 32
def letterC (c : UInt8) : Bool := decide (65 ≤ c.toNat ∧ c.toNat ≤ 90 ∨ 97 ≤ c.toNat ∧ c.toNat ≤ 122)
def lowC (c : UInt8) : UInt8 := if 65 ≤ c.toNat ∧ c.toNat ≤ 90 then c + 32 else c
def alnumC (c : UInt8) : Bool := letterC c || digD c
def endsC (c : UInt8) : Bool := spaceC c || c == 47 || c == 62
def colC (c : UInt8) : Nat := if c = 47 then 1 else if c = 62 then 2 else if c = 61 then 3 else if c = 34 then 4 else if c = 39 then 5 else if spaceC c then 0 else 6
def tagTab : List (List Nat) := [[4, 4, 0, 3, 3, 3, 3], [4, 4, 0, 5, 5, 5, 5], [6, 4, 0, 7, 5, 5, 5], [6, 4, 0, 7, 5, 5, 5], [7, 10, 0, 10, 8, 9, 10], [8, 8, 8, 8, 4, 8, 8], [9, 9, 9, 9, 9, 4, 9], [4, 10, 0, 10, 10, 10, 10]]
def nextT (s : Nat) (c : UInt8) : Nat := (tagTab.getD (s - 3) []).getD (colC c) 0

/-- on in a tag: how many bytes, and the state behind them -/
def passL : Nat → List UInt8 → Nat × Nat
  | s, [] => (0, s)
  | s, c :: r => if s = 0 then (0, 0) else ((passL (nextT s c) r).1 + 1, (passL (nextT s c) r).2)

def rawNames : List (List UInt8) := [[116, 101, 120, 116, 97, 114, 101, 97], [115, 99, 114, 105, 112, 116], [115, 116, 121, 108, 101], [120, 109, 112], [105, 102, 114, 97, 109, 101], [110, 111, 101, 109, 98, 101, 100],
  [110, 111, 102, 114, 97, 109, 101, 115], [110, 111, 115, 99, 114, 105, 112, 116], [116, 105, 116, 108, 101], [112, 108, 97, 105, 110, 116, 101, 120, 116]]
def rawL (m : Nat) : List UInt8 := rawNames.getD (m - 1) []
def insF (name : List UInt8) : Nat → List (List UInt8) → Nat
  | _, [] => 0
  | i, x :: r => if name = x then i else insF name (i + 1) r
def insideL (name : List UInt8) : Nat := insF name 1 rawNames
def eatsL (name : List UInt8) : Bool := name == [112, 114, 101] || name == [116, 101, 120, 116, 97, 114, 101, 97]

/-- the end tag of the mode's own element: 0 something else, 1 its beginning but not known yet, 2 it is -/
def ownL : List UInt8 → List UInt8 → Nat
  | _, [] => 1
  | [], c :: _ => if endsC c then 2 else 0
  | o :: os, c :: r => if lowC c = o then ownL os r else 0

def tagNameL (tag : List UInt8) : List UInt8 := (tag.takeWhile fun c => nextT 3 c == 3).map lowC
/-- the attributes of a tag: the state, what has been gathered of the part that is under way, the attributes -/
def attrsL : Nat → List UInt8 → List (List UInt8 × List UInt8) → List UInt8 → List (List UInt8 × List UInt8)
  | _, _, acc, [] => acc
  | s, part, acc, c :: r =>
    if nextT s c = s then attrsL s (part ++ [c]) acc r else
      let acc2 := if s = 5 then acc ++ [(part.map lowC, [])] else if s = 8 ∨ s = 9 ∨ s = 10 then acc.dropLast ++ [((acc.getLast?.getD ([], [])).1, unr true part)] else acc
      attrsL (nextT s c) (if nextT s c = 8 ∨ nextT s c = 9 then [] else [c]) acc2 r
/-- a tag at the front, whose name begins at k -/
def tagL (W k : Nat) (L : List UInt8) (st : LS) : Res :=
  let p := passL 3 (L.drop k)
  let tag := (L.drop k).take p.1
  if k + p.1 ≤ W ∧ p.2 ≠ 0 then .more 0 st
  else .done (k + p.1) ⟨if k = 1 then insideL (tagNameL tag) else 0, p.2, if k = 1 then eatsL (tagNameL tag) else false⟩
    (if k + p.1 ≤ W then (if k = 1 then [.start (tagNameL tag) (attrsL 3 [] [] tag)] else [.stop (tagNameL tag)]) else [])

def refEnd (L : List UInt8) : Option Nat :=
  let s := if L[1]? = some 35 then 2 else 1
  let e := s + (((L.drop s).take (32 - s)).takeWhile alnumC).length
  if e < 32 then (if e = L.length then none else some (if L[e]? = some 59 then e + 1 else e)) else some e
def unitL2 (st : LS) (b : List UInt8) : List Item := if st.eat = true ∧ b = [10] then [] else [.unit b]
def noEat (st : LS) : LS := { st with eat := false }
def byteRes (st : LS) (c : UInt8) : Res := .done 1 (noEat st) (unitL2 st [c])
def refRes (st : LS) (L : List UInt8) : Res :=
  match refEnd L with
  | none => .more 0 st
  | some e => .done e (noEat st) (unitL2 st (unr false (L.take e)))

/-- in a comment, d dashes standing ahead: how many bytes there are to its end, and the dashes at the end where it has none -/
def comL : Nat → List UInt8 → Option Nat × Nat
  | d, [] => (none, d)
  | d, c :: r => if c = 62 ∧ d = 2 then (some 1, 0) else
    ((comL (if c = 45 then min (d + 1) 2 else 0) r).1.map (· + 1), (comL (if c = 45 then min (d + 1) 2 else 0) r).2)
def commentRes (st : LS) (L : List UInt8) : Res :=
  match (comL 0 L).1 with
  | some n => .done n { st with scan := 0 } []
  | none => .more (L.length - (comL 0 L).2) st
def byteIdx (x : UInt8) : List UInt8 → Option Nat
  | [] => none
  | c :: r => if c = x then some 0 else (byteIdx x r).map (· + 1)
def bogusRes (st : LS) (L : List UInt8) : Res :=
  match byteIdx 62 L with
  | some i => .done (i + 1) { st with scan := 0 } []
  | none => .more L.length st
def skipTagRes (st : LS) (L : List UInt8) : Res := .done (passL st.scan L).1 { st with scan := (passL st.scan L).2 } []
def rawRes (W : Nat) (st : LS) (L : List UInt8) : Res :=
  match byteIdx 60 L with
  | none => .done L.length st []
  | some i =>
    if st.mode = 10 then .done L.length st [] else
    let o := ownL (60 :: 47 :: rawL st.mode) (L.drop i)
    if o = 1 then .more i st else if o = 2 then (tagL W 2 (L.drop i) st).shift i else .done (i + 1) st []
def markupRes (W : Nat) (st : LS) (L : List UInt8) : Res :=
  if L = [60] ∨ L = [60, 47] ∨ L = [60, 33] ∨ L = [60, 33, 45] then .more 0 st
  else if letterC (L.getD 1 0) then tagL W 1 L st
  else if L.getD 1 0 = 47 ∧ letterC (L.getD 2 0) = true then tagL W 2 L st
  else if [60, 33, 45, 45] <+: L then .done 2 ⟨st.mode, 1, false⟩ []
  else if L.getD 1 0 = 33 ∨ L.getD 1 0 = 63 ∨ L.getD 1 0 = 47 then .done 2 ⟨st.mode, 2, false⟩ []
  else byteRes st 60
def dataRes (W : Nat) (st : LS) (L : List UInt8) : Res :=
  if L.getD 0 0 = 60 then markupRes W st L else if L.getD 0 0 = 38 then refRes st L else byteRes st (L.getD 0 0)
def areaRes (W : Nat) (st : LS) (L : List UInt8) : Res :=
  if L.getD 0 0 = 60 then
    (let o := ownL (60 :: 47 :: rawL 1) L
    if o = 1 then .more 0 st else if o = 2 then tagL W 2 L st else byteRes st 60)
  else if L.getD 0 0 = 38 then refRes st L else byteRes st (L.getD 0 0)
/-- one step, at bytes that there are -/
def stepL (W : Nat) (st : LS) (L : List UInt8) : Res :=
  if st.scan = 1 then commentRes st L else if st.scan = 2 then bogusRes st L else if st.scan ≠ 0 then skipTagRes st L
  else if st.mode = 0 then dataRes W st L else if st.mode = 1 then areaRes W st L else rawRes W st L

def runF (W : Nat) : Nat → LS → List UInt8 → LS × List UInt8 × List Item
  | 0, st, L => (st, L, [])
  | f + 1, st, L =>
    if L = [] then (st, [], []) else
    match stepL W st L with
    | .more n st' => (st', L.drop n, [])
    | .done n st' it => ((runF W f st' (L.drop n)).1, (runF W f st' (L.drop n)).2.1, it ++ (runF W f st' (L.drop n)).2.2)
def runL (W : Nat) (st : LS) (L : List UInt8) : LS × List UInt8 × List Item := runF W L.length st L
end Go.Proofs.YtialeicpelehoaaDoor
