/-
  Parts of the walk, joined: Gen, MemW, Plain, Good.
-/
import Derived.WalkKit
import Derived.WalkLawsBesides
import Derived.WalkSpells
import Derived.Laws.BitsLemmas
import Derived.Lib.FrozenHead
import Derived.Lib.FrozenHead2
import Derived.Lib.OthersKept
import Derived.Lib.Builder
import Derived.Deep.MidRow
import Derived.Lib.ConvBytes
import Derived.Lib.Strings
import Derived.Laws.IdiomStrings
import Derived.Lib.TrimUEq
import Derived.Lib.DecodeNEq
import Derived.Shelf.Unicode.DecodeSlow
import Derived.Lib.RuneBytes
import Derived.Test.YtcncbhbdpcpkeaaGreatDoorProg
/-
  Small facts on worlds, blocks and rows. No program is named here.
-/
namespace Go.Proofs.YtcncbhbdpcpkeaaGreatDoor
open Go.RowKit Go.Lib

theorem ret_bool {a b : Bool} (h : a = b) : Ending.returned (.bool a) = .returned (.bool b) := by rw [h]
theorem hid {p : Prop} (h : p) : Hid p := h
theorem cell_block {w : World} {b o : Nat} {v : Value} (h : w.cell? ⟨b, o, none⟩ = some v) : b < w.heap.size := by
  unfold World.cell? at h
  rcases Nat.lt_or_ge b w.heap.size with h1 | h1
  · exact h1
  · simp [h1] at h
theorem rangeAt_below {w w' : World} {b o : Nat} {cs : List Value} (h : w.rangeAt b o cs) (hb : Below w.heap.size w w') : w'.rangeAt b o cs := by
  intro j v hv
  have hc := h j v hv
  have := hb.block b (cell_block hc)
  unfold World.cell? at hc ⊢
  rw [this]
  exact hc
def strV (L : List UInt8) : Value := .string ⟨L.toArray⟩
theorem cell_low {base : Nat} {w w' : World} {b o : Nat} {v : Value} (h : w.cell? ⟨b, o, none⟩ = some v) (hb : Below base w w') (hlt : b < base) : w'.cell? ⟨b, o, none⟩ = some v := by
  have := hb.block b hlt
  unfold World.cell? at h ⊢
  rw [this]
  exact h
/-- a row's values, where it lies -/
theorem row_at {W : World} {base : Nat} {e : TypeId} {size n : Nat} {v : Value} {xs : List Value} (h : W.ownsRow base e size v n xs) (hn : 0 < n) : ∃ g cap, v = .slice (some ⟨g, 0, none⟩) n cap ∧ base ≤ g ∧ g < W.heap.size ∧ ∀ j, j < n * size → W.cell? ⟨g, j, none⟩ = xs[j]? := by
  rcases h.2 with ⟨_, h0⟩ | ⟨g, cap, cur, rfl, hg, hb, _⟩
  · exact absurd h0 (by omega)
  · exact ⟨g, cap, rfl, hg, (Array.getElem?_eq_some_iff.1 hb).1, fun j hj => h.cellAt j hj⟩
theorem row_shape {W : World} {base : Nat} {e : TypeId} {size n : Nat} {v : Value} {xs : List Value} (h : W.ownsRow base e size v n xs) : ∃ p c, v = .slice p n c := by
  rcases h.2 with ⟨rfl, rfl⟩ | ⟨g, cap, cur, rfl, _⟩
  · exact ⟨none, 0, rfl⟩
  · exact ⟨_, _, rfl⟩
theorem rows_ne {W : World} {base : Nat} {e1 e2 : TypeId} {z1 z2 n1 n2 : Nat} {v1 v2 : Value} {xs1 xs2 : List Value} (h1 : W.ownsRow base e1 z1 v1 n1 xs1) (h2 : W.ownsRow base e2 z2 v2 n2 xs2) (hne : e1 ≠ e2) : v1.ownBlock = none ∨ v1.ownBlock ≠ v2.ownBlock := by
  rcases h1.2 with ⟨rfl, _⟩ | ⟨g, cap, cur, rfl, _, hg, _⟩
  · exact .inl rfl
  · refine .inr (fun h3 => ?_)
    rcases h2.2 with ⟨rfl, _⟩ | ⟨g2, cap2, cur2, rfl, _, hg2, _⟩
    · cases h3
    · simp only [Value.ownBlock, Option.some.injEq] at h3
      subst h3
      rw [hg] at hg2
      simp only [Option.some.injEq, Obj.cells.injEq] at hg2
      exact hne hg2.2.1
theorem row_ne {W : World} {base b : Nat} {e T : TypeId} {size n : Nat} {v : Value} {xs : List Value} {cs : Array Value} (h : W.ownsRow base e size v n xs) (hb : W.heap[b]? = some (.cells cs T (0, 0))) (hT : T ≠ e) : v.ownBlock ≠ some b := by
  rcases h.2 with ⟨rfl, _⟩ | ⟨g, cap, cur, rfl, _, hg, _⟩
  · simp [Value.ownBlock]
  · intro h3
    simp only [Value.ownBlock, Option.some.injEq] at h3
    subst h3
    rw [hg] at hb
    simp only [Option.some.injEq, Obj.cells.injEq] at hb
    exact hT hb.2.1.symm
theorem row_just {W W' : World} {base b : Nat} {e T : TypeId} {size n : Nat} {v : Value} {xs : List Value} {cs : Array Value} (h : W.ownsRow base e size v n xs) (hb : W.heap[b]? = some (.cells cs T (0, 0))) (hT : T ≠ e) (hk : ∀ k, k ≠ b → W'.heap[k]? = W.heap[k]?) : W'.ownsRow base e size v n xs := by
  have hne := row_ne h hb hT
  refine ⟨h.1, ?_⟩
  rcases h.2 with h2 | ⟨g, cap, cur, rfl, hg0, hg, rest⟩
  · exact .inl h2
  · refine .inr ⟨g, cap, cur, rfl, hg0, ?_, rest⟩
    rw [hk g (fun e => hne (by simp [Value.ownBlock, e]))]
    exact hg
/-- behind it block b holds cs', and nothing else has changed -/
structure Just (W W' : World) (b : Nat) (cs' : Array Value) (T : TypeId) : Prop where
  os : W'.os = W.os
  tape : W'.tape = W.tape
  output : W'.output = W.output
  size : W'.heap.size = W.heap.size
  at_ : W'.heap[b]? = some (.cells cs' T (0, 0))
  other : ∀ k, k ≠ b → W'.heap[k]? = W.heap[k]?
theorem just_set {W : World} {b j : Nat} {cs : Array Value} {T : TypeId} (h : W.heap[b]? = some (.cells cs T (0, 0))) (v : Value) : Just W (W.setCell ⟨b, j, none⟩ v) b (cs.setIfInBounds j v) T :=
  ⟨rfl, rfl, rfl, by simp, heap_setCell_same W b j cs T v h, fun k hk => heap_setCell_other W ⟨b, j, none⟩ k v (fun e => hk (by simp [e]))⟩
theorem free_at {W : World} {b : Nat} {cs : Array Value} {T : TypeId} (h : W.heap[b]? = some (.cells cs T (0, 0))) (j : Nat) : W.frozen? ⟨b, j, none⟩ = false := frozen_of_row W b j cs T h
theorem cell_at {W : World} {b : Nat} {cs : Array Value} {T : TypeId} (h : W.heap[b]? = some (.cells cs T (0, 0))) {j : Nat} {v : Value} (hv : cs[j]? = some v) : W.cell? ⟨b, j, none⟩ = some v := by
  rw [cell_of_row W b j cs T (0, 0) h]; exact hv
theorem row_low {W : World} {B base : Nat} {e : TypeId} {size n : Nat} {v : Value} {xs : List Value} (h : W.ownsRow B e size v n xs) (hb : base ≤ B) : W.ownsRow base e size v n xs := by
  refine ⟨h.1, ?_⟩
  rcases h.2 with h2 | ⟨g, cap, cur, rfl, hg0, rest⟩
  · exact .inl h2
  · exact .inr ⟨g, cap, cur, rfl, by omega, rest⟩
theorem row_max {W : World} {base : Nat} {e : TypeId} {size n : Nat} {v : Value} {xs : List Value} (h : W.ownsRow base e size v n xs) : n ≤ 9223372036854775807 := by
  rcases h.2 with ⟨_, rfl⟩ | ⟨g, cap, cur, _, _, _, h1, h2, _⟩
  · omega
  · unfold maxLen at h2
    omega
theorem below_drewN {n : Nat} {w w' : World} (h : Below n w w') (k : Nat) : Below n w (w'.drewN k) := ⟨h.os, h.tape, h.output, h.size, h.block⟩
theorem cells_newV (L : List Value) (t : TypeId) (W : World) : ∀ j u, L[j]? = some u → (W.alloc (.cells L.toArray t)).cell? ((⟨W.heap.size, 0, none⟩ : Addr).add j) = some u := by
  intro j u hj
  have hadd : (⟨W.heap.size, 0, none⟩ : Addr).add j = ⟨W.heap.size, j, none⟩ := by unfold Addr.add; split <;> simp_all
  rw [hadd]
  unfold World.cell?
  rw [heap_alloc_new W (.cells L.toArray t)]
  simpa using hj
theorem block_lt {W : World} {b : Nat} {o : Obj} (h : W.heap[b]? = some o) : b < W.heap.size := (Array.getElem?_eq_some_iff.1 h).1
theorem row_of_block {W W' : World} {base : Nat} {e : TypeId} {size n : Nat} {v : Value} {xs : List Value} (h : W.ownsRow base e size v n xs) (hk : ∀ g, v.ownBlock = some g → W'.heap[g]? = W.heap[g]?) : W'.ownsRow base e size v n xs := by
  refine ⟨h.1, ?_⟩
  rcases h.2 with h2 | ⟨g, cap, cur, rfl, hg0, hg, rest⟩
  · exact .inl h2
  · exact .inr ⟨g, cap, cur, rfl, hg0, by rw [hk g rfl]; exact hg, rest⟩
theorem row_below {W W' : World} {base : Nat} {e : TypeId} {size n : Nat} {v : Value} {xs : List Value} (h : W.ownsRow base e size v n xs) (hb : Below W.heap.size W W') : W'.ownsRow base e size v n xs :=
  row_of_block h (fun g hg => hb.block g (h.lt g hg).2)
theorem rows_ne2 {W : World} {B1 B2 : Nat} {e1 e2 : TypeId} {z1 z2 n1 n2 : Nat} {v1 v2 : Value} {xs1 xs2 : List Value} (h1 : W.ownsRow B1 e1 z1 v1 n1 xs1) (h2 : W.ownsRow B2 e2 z2 v2 n2 xs2) (hne : e1 ≠ e2) : ∀ g, v1.ownBlock = some g → v2.ownBlock ≠ some g := by
  intro g e
  rcases h1.2 with ⟨rfl, _⟩ | ⟨g1, cap, cur, rfl, _, hg, _⟩
  · cases e
  · have : g1 = g := Option.some.inj e
    subst this
    exact row_ne h2 hg hne
theorem cell_drew {w wr : World} (h : ∃ n, wr = w.drewN n) {b o : Nat} {v : Value} (hc : w.cell? ⟨b, o, none⟩ = some v) : wr.cell? ⟨b, o, none⟩ = some v := by
  obtain ⟨n, rfl⟩ := h
  exact hc
theorem getElem_list {s : ByteArray} {e : Nat} {x : UInt8} (h : e < s.size) (hx : s[e]'h = x) : s.data.toList[e]? = some x := by
  rw [List.getElem?_eq_getElem (by rw [← size_eq]; exact h), ← hx]
  rfl
end Go.Proofs.YtcncbhbdpcpkeaaGreatDoor

/-
  Lists of words, policies, attributes, events and nodes that can be read, whoever made them.
-/
namespace Go.Proofs.YtcncbhbdpcpkeaaGreatDoor
open Go.RowKit Go.Lib

/-- a text out of its bytes -/
def bs (L : List UInt8) : ByteArray := ⟨L.toArray⟩
theorem bs_toList (L : List UInt8) : (bs L).toList = L := by rw [Lib.toList_data]; rfl
theorem bs_data (L : List UInt8) : (bs L).data.toList = L := rfl
theorem bs_of (s : ByteArray) : bs s.data.toList = s := rfl
theorem bs_size (L : List UInt8) : (bs L).size = L.length := by rw [size_eq]; rfl
/-- a list of words that can be read -/
def Words (W : World) (v : Value) (ss : List (List UInt8)) : Prop :=
  ∃ p c, v = .slice p ss.length c ∧ ss.length ≤ c ∧ c ≤ 9223372036854775807 ∧ (∀ j s, ss[j]? = some s → ∃ b o, p = some ⟨b, o, none⟩ ∧ W.cell? ⟨b, o + j, none⟩ = some (.string (bs s))) ∧ (p = none → c = 0)
theorem cell_kept {W W' : World} {b o : Nat} {v : Value} (h : W.cell? ⟨b, o, none⟩ = some v) (hb : Below W.heap.size W W') : W'.cell? ⟨b, o, none⟩ = some v := cell_low h hb (cell_block h)
theorem Words.below {W W' : World} {v : Value} {ss : List (List UInt8)} (h : Words W v ss) (hb : Below W.heap.size W W') : Words W' v ss := by
  obtain ⟨p, c, rfl, h1, h2, h3, h4⟩ := h
  refine ⟨p, c, rfl, h1, h2, fun j s hj => ?_, h4⟩
  obtain ⟨b, o, rfl, hc⟩ := h3 j s hj
  exact ⟨b, o, rfl, cell_kept hc hb⟩
theorem Words.drewN {W : World} {v : Value} {ss : List (List UInt8)} (h : Words W v ss) (n : Nat) : Words (W.drewN n) v ss := h
theorem Words.nil (W : World) : Words W (.slice none 0 0) [] := ⟨none, 0, rfl, Nat.le_refl _, by omega, fun j s h => by simp at h, fun _ => rfl⟩
theorem Words.len {W : World} {v : Value} {ss : List (List UInt8)} (h : Words W v ss) : ∃ p c, v = .slice p ss.length c ∧ ss.length ≤ c := by
  obtain ⟨p, c, rfl, h1, _⟩ := h
  exact ⟨p, c, rfl, h1⟩
theorem Words.front {W : World} {p : Option Addr} {n c : Nat} {ss : List (List UInt8)} (h : Words W (.slice p n c) ss) (k : Nat) (hk : k ≤ ss.length) : Words W (.slice p k c) (ss.take k) := by
  obtain ⟨p', c', e, h1, h2, h3, h4⟩ := h
  cases e
  have hl : (ss.take k).length = k := by rw [List.length_take]; omega
  refine ⟨p, c, by rw [hl], by omega, h2, fun j s hj => ?_, h4⟩
  have hjk : j < k := by rw [← hl]; exact (List.getElem?_eq_some_iff.1 hj).1
  rw [List.getElem?_take_of_lt hjk] at hj
  exact h3 j s hj
/-- a row of words that a call owns can be read -/
theorem Words.row {W : World} {base : Nat} {v : Value} {ss : List (List UInt8)} (h : W.ownsRow base 9 1 v ss.length (ss.map fun s => .string (bs s))) : Words W v ss := by
  have hc : ∀ j s, ss[j]? = some s → ∃ b o, (∃ n c, v = .slice (some ⟨b, o, none⟩) n c) ∧ W.cell? ⟨b, o + j, none⟩ = some (.string (bs s)) := fun j s hj => by
    have hlt := (List.getElem?_eq_some_iff.1 hj).1
    obtain ⟨g, cap, rfl, _, _, hcell⟩ := row_at h (by omega)
    refine ⟨g, 0, ⟨_, _, rfl⟩, ?_⟩
    rw [Nat.zero_add, hcell j (by omega), List.getElem?_map, hj]
    rfl
  rcases h.2 with ⟨rfl, h0⟩ | ⟨g, cap, cur, rfl, _, _, h1, h2, _⟩
  · exact ⟨none, 0, by rw [h0], by omega, by omega, fun j s hj => by have := (List.getElem?_eq_some_iff.1 hj).1; omega, fun _ => rfl⟩
  · refine ⟨some ⟨g, 0, none⟩, cap, rfl, h1, by unfold maxLen at h2; omega, fun j s hj => ?_, fun e => by cases e⟩
    obtain ⟨b, o, ⟨n, c, e⟩, hcell⟩ := hc j s hj
    cases e
    exact ⟨g, 0, rfl, hcell⟩
theorem drop_at {α : Type} {l : List α} {k : Nat} {x : α} (h : l[k]? = some x) : l.drop k = x :: l.drop (k + 1) := by
  obtain ⟨h1, h2⟩ := List.getElem?_eq_some_iff.1 h
  rw [List.drop_eq_getElem_cons h1, h2]

theorem bs_cat (a b : List UInt8) : bs a ++ bs b = bs (a ++ b) := by
  apply ByteArray.ext
  apply Array.ext'
  rw [ByteArray.data_append, Array.toList_append]
  rfl
theorem of_bs (s : ByteArray) : bs s.data.toList = s := rfl
theorem cat_bs (a : List UInt8) (s : ByteArray) : bs a ++ s = bs (a ++ s.data.toList) := bs_cat a s.data.toList
/-! ## attributes, events, nodes -/

abbrev AttrP := List UInt8 × List UInt8
def AttrsR (W : World) (v : Value) (al : List AttrP) : Prop :=
  ∃ p c, v = .slice p al.length c ∧ al.length ≤ c ∧ c ≤ 9223372036854775807 ∧ (∀ j a, al[j]? = some a → ∃ b o, p = some ⟨b, o, none⟩ ∧ W.cell? ⟨b, o + j * 2, none⟩ = some (.string (bs a.1)) ∧ W.cell? ⟨b, o + j * 2 + 1, none⟩ = some (.string (bs a.2))) ∧ (p = none → c = 0)
theorem AttrsR.below {W W' : World} {v : Value} {al : List AttrP} (h : AttrsR W v al) (hb : Below W.heap.size W W') : AttrsR W' v al := by
  obtain ⟨p, c, rfl, h1, h2, h3, h4⟩ := h
  refine ⟨p, c, rfl, h1, h2, fun j s hj => ?_, h4⟩
  obtain ⟨b, o, rfl, hc, hd⟩ := h3 j s hj
  exact ⟨b, o, rfl, cell_kept hc hb, cell_kept hd hb⟩
theorem AttrsR.nil (W : World) : AttrsR W (.slice none 0 0) [] := ⟨none, 0, rfl, Nat.le_refl _, by omega, fun j s h => by simp at h, fun _ => rfl⟩
theorem AttrsR.len {W : World} {v : Value} {al : List AttrP} (h : AttrsR W v al) : ∃ p c, v = .slice p al.length c := by
  obtain ⟨p, c, rfl, h1, _⟩ := h
  exact ⟨p, c, rfl⟩
theorem AttrsR.front {W : World} {p : Option Addr} {n c : Nat} {al : List AttrP} (h : AttrsR W (.slice p n c) al) (k : Nat) (hk : k ≤ al.length) : AttrsR W (.slice p k c) (al.take k) := by
  obtain ⟨p', c', e, h1, h2, h3, h4⟩ := h
  cases e
  have hl : (al.take k).length = k := by rw [List.length_take]; omega
  refine ⟨p, c, by rw [hl], by omega, h2, fun j s hj => ?_, h4⟩
  have hjk : j < k := by rw [← hl]; exact (List.getElem?_eq_some_iff.1 hj).1
  rw [List.getElem?_take_of_lt hjk] at hj
  exact h3 j s hj
/-- an event or a node: a kind or a depth, a name, attributes, a text -/
structure EvP where
  k : Int
  n : List UInt8
  a : List AttrP
  t : List UInt8
def EvsR (W : World) (v : Value) (es : List EvP) : Prop :=
  ∃ p c, v = .slice p es.length c ∧ es.length ≤ c ∧ c ≤ 9223372036854775807 ∧ ∀ j e, es[j]? = some e → ∃ b o u, p = some ⟨b, o, none⟩ ∧ W.cell? ⟨b, o + j * 4, none⟩ = some (.int .i64 e.k) ∧ W.cell? ⟨b, o + j * 4 + 1, none⟩ = some (.string (bs e.n)) ∧
    W.cell? ⟨b, o + j * 4 + 2, none⟩ = some u ∧ W.cell? ⟨b, o + j * 4 + 3, none⟩ = some (.string (bs e.t)) ∧ AttrsR W u e.a
theorem EvsR.below {W W' : World} {v : Value} {es : List EvP} (h : EvsR W v es) (hb : Below W.heap.size W W') : EvsR W' v es := by
  obtain ⟨p, c, rfl, h1, h2, h3⟩ := h
  refine ⟨p, c, rfl, h1, h2, fun j s hj => ?_⟩
  obtain ⟨b, o, u, rfl, q0, q1, q2, q3, q4⟩ := h3 j s hj
  exact ⟨b, o, u, rfl, cell_kept q0 hb, cell_kept q1 hb, cell_kept q2 hb, cell_kept q3 hb, q4.below hb⟩
theorem EvsR.nil (W : World) : EvsR W (.slice none 0 0) [] := ⟨none, 0, rfl, Nat.le_refl _, by omega, fun j s h => by simp at h⟩
theorem EvsR.len {W : World} {v : Value} {es : List EvP} (h : EvsR W v es) : ∃ p c, v = .slice p es.length c := by
  obtain ⟨p, c, rfl, h1, _⟩ := h
  exact ⟨p, c, rfl⟩
theorem EvsR.front {W : World} {p : Option Addr} {n c : Nat} {es : List EvP} (h : EvsR W (.slice p n c) es) (k : Nat) (hk : k ≤ es.length) : EvsR W (.slice p k c) (es.take k) := by
  obtain ⟨p', c', e, h1, h2, h3⟩ := h
  cases e
  have hl : (es.take k).length = k := by rw [List.length_take]; omega
  refine ⟨p, c, by rw [hl], by omega, h2, fun j s hj => ?_⟩
  have hjk : j < k := by rw [← hl]; exact (List.getElem?_eq_some_iff.1 hj).1
  rw [List.getElem?_take_of_lt hjk] at hj
  exact h3 j s hj
/-- one event's four cells, al a value -/
def evC (e : EvP) (u : Value) : Array Value := #[.int .i64 e.k, .string (bs e.n), u, .string (bs e.t)]
theorem evC_at {W : World} {b : Nat} {u : Value} {e : EvP} {T : TypeId} (h : W.heap[b]? = some (.cells (evC e u) T (0, 0))) :
    W.cell? ⟨b, 0, none⟩ = some (.int .i64 e.k) ∧ W.cell? ⟨b, 1, none⟩ = some (.string (bs e.n)) ∧ W.cell? ⟨b, 2, none⟩ = some u ∧ W.cell? ⟨b, 3, none⟩ = some (.string (bs e.t)) :=
  ⟨cell_at h rfl, cell_at h rfl, cell_at h rfl, cell_at h rfl⟩
/-- how much attributes and events hold -/
def bulkA (al : List AttrP) : Nat := (al.map fun a => a.1.length + a.2.length + 1).sum
def bulkE (es : List EvP) : Nat := (es.map fun e => e.n.length + e.t.length + bulkA e.a + 1).sum
theorem sum_get {α : Type} (f : α → Nat) : ∀ (l : List α) (j : Nat) (x : α), l[j]? = some x → f x ≤ (l.map f).sum
  | [], j, x, h => by simp at h
  | y :: l, 0, x, h => by
    simp only [List.getElem?_cons_zero, Option.some.injEq] at h
    subst h
    simp
  | y :: l, j + 1, x, h => by
    rw [List.getElem?_cons_succ] at h
    have := sum_get f l j x h
    simp only [List.map_cons, List.sum_cons]
    omega
theorem sum_len {α : Type} (f : α → Nat) (h1 : ∀ x, 1 ≤ f x) : ∀ l : List α, l.length ≤ (l.map f).sum
  | [] => by simp
  | y :: l => by
    have := sum_len f h1 l
    have := h1 y
    simp only [List.map_cons, List.sum_cons, List.length_cons]
    omega
theorem bulkA_get {al : List AttrP} {j : Nat} {a : AttrP} (h : al[j]? = some a) : a.1.length + a.2.length + 1 ≤ bulkA al := sum_get (fun a : AttrP => a.1.length + a.2.length + 1) al j a h
theorem bulkA_len (al : List AttrP) : al.length ≤ bulkA al := sum_len (fun a : AttrP => a.1.length + a.2.length + 1) (fun x => by omega) al
theorem bulkE_get {es : List EvP} {j : Nat} {e : EvP} (h : es[j]? = some e) : e.n.length + e.t.length + bulkA e.a + 1 ≤ bulkE es := sum_get (fun e : EvP => e.n.length + e.t.length + bulkA e.a + 1) es j e h
theorem bulkE_len (es : List EvP) : es.length ≤ bulkE es := sum_len (fun e : EvP => e.n.length + e.t.length + bulkA e.a + 1) (fun x => by omega) es
theorem bulkA_cons (a : AttrP) (r : List AttrP) : bulkA (a :: r) = a.1.length + a.2.length + 1 + bulkA r := rfl
theorem bulkE_cons (e : EvP) (r : List EvP) : bulkE (e :: r) = e.n.length + e.t.length + bulkA e.a + 1 + bulkE r := rfl
end Go.Proofs.YtcncbhbdpcpkeaaGreatDoor

/-
  Plain facts on bytes and characters: how a text is decoded, cut and put together. No program is named here.
-/
namespace Go.Proofs.YtcncbhbdpcpkeaaGreatDoor
open Go.Lib

/-- a good character, by its number -/
def goodB (c : Int) : Bool :=
  decide (c < 32 ∧ (c = 9 ∨ c = 10 ∨ c = 12) ∨
    32 ≤ c ∧ ¬ (127 ≤ c ∧ c ≤ 159) ∧ ¬ (55296 ≤ c ∧ c ≤ 57343) ∧ ¬ (64976 ≤ c ∧ c ≤ 65007) ∧ c ≤ 1114111 ∧ c % 65536 < 65534)

/-- do n bytes that begin so hold a whole character, or none -/
def fullN (n b0 b1 b2 : Nat) : Bool :=
  decide (0 < n ∧ (firstT b0 % 8 ≤ n ∨ (1 < n ∧ (b1 < accLo (firstT b0 / 16) ∨ accHi (firstT b0 / 16) < b1)) ∨ (2 < n ∧ (b2 < 128 ∨ 191 < b2))))
def fullL (l : List UInt8) : Bool := fullN l.length (l.getD 0 0).toNat (l.getD 1 0).toNat (l.getD 2 0).toNat

end Go.Proofs.YtcncbhbdpcpkeaaGreatDoor

/-
  Whether a character is good: what chars.isGood answers, as a plain function, and its walk.
-/
namespace Go.Proofs.YtcncbhbdpcpkeaaGreatDoor
open Go.RowKit

theorem and65534 (a : Nat) : a &&& 65534 = 2 * (a / 2 % 32768) := by
  have h1 : (a &&& 65534) / 2 = a / 2 % 32768 := by
    rw [Nat.and_div_two]
    exact Nat.and_two_pow_sub_one_eq_mod (a / 2) 15
  have h2 : (a &&& 65534) % 2 = 0 := by
    have := @Nat.and_mod_two_pow a 65534 1
    simpa using this
  omega
theorem last_two (c : Int) (h0 : 0 ≤ c) (h1 : c ≤ 1114111) : (bits BinOp.and IntKind.i32 c 65534 != 65534) = decide (c % 65536 < 65534) := by
  obtain ⟨a, rfl⟩ := Int.eq_ofNat_of_zero_le h0
  have e : bits BinOp.and IntKind.i32 (a : Int) 65534 = ((a &&& 65534 : Nat) : Int) :=
    (bits_nat .i32 31 (by decide) wraps_i32 a 65534 (by omega) (by decide)).1
  rw [e, and65534]
  by_cases h : (a : Int) % 65536 < 65534
  · have : ¬ (((2 * (a / 2 % 32768) : Nat) : Int) = 65534) := by omega
    simp [h]; omega
  · have : (((2 * (a / 2 % 32768) : Nat) : Int) = 65534) := by omega
    simp [h, this]

set_option maxHeartbeats 400000 in
theorem good_any (c : Int) (h0 : 0 ≤ c) (h1 : c ≤ 1114112) (w : World) :
    Calls Tryz.prog 261 #[.int .i32 c] w fun e w' => e = .returned (.bool (goodB c)) ∧ w' = w := by
  go_enter Tryz.func261, Tryz.ntmps261
  go_wp2
  all_goals go_ret
  all_goals refine ⟨ret_bool ?_, rfl⟩
  all_goals first
    | (rw [last_two c (by omega) (by omega)]; unfold goodB; rw [decide_eq_decide]; omega)
    | (rw [Bool.eq_iff_iff]; simp only [goodB, decide_eq_true_iff, Bool.or_eq_true, beq_iff_eq, Bool.false_eq_true, false_iff, true_iff]; omega)
end Go.Proofs.YtcncbhbdpcpkeaaGreatDoor
