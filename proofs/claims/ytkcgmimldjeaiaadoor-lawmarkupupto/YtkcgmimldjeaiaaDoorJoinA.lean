/-
  Parts of the walk, joined: MemW, EvGet, SameEv, PolMem, AppendTwo, StepB, InStr.
-/
import Derived.Test.YtkcgmimldjeaiaaDoorGen
import Derived.Test.YtkcgmimldjeaiaaDoorPutEv
import Derived.BigQuiet
import Derived.Test.YtkcgmimldjeaiaaDoorRefSet
import Derived.Deep.RegionLaw
import Derived.Maps.AppendAt
import Derived.Laws.AppendOwnNone
import Derived.Test.YtkcgmimldjeaiaaDoorSkipTag
import Derived.Test.YtkcgmimldjeaiaaDoorLexFind
import Derived.Test.YtkcgmimldjeaiaaDoorInBuilder
import Derived.Lib.UnsafeStr
/-
  Lists of words, policies, attributes, events and nodes that can be read, whoever made them.
-/
namespace Go.Proofs.YtkcgmimldjeaiaaDoor
open Go.RowKit Go.Lib

/-- a text out of its bytes -/
def bs (L : List UInt8) : ByteArray := ⟨L.toArray⟩
theorem bs_toList (L : List UInt8) : (bs L).toList = L := by rw [Lib.toList_data]; rfl
theorem bs_data (L : List UInt8) : (bs L).data.toList = L := rfl
theorem bs_of (s : ByteArray) : bs s.data.toList = s := rfl
theorem bs_size (L : List UInt8) : (bs L).size = L.length := by rw [size_eq]; rfl
/-- a list of words that can be read -/
def Words (W : World) (v : Value) (ss : List (List UInt8)) : Prop :=
  ∃ p c, v = .slice p ss.length c ∧ ss.length ≤ c ∧ c ≤ 9223372036854775807 ∧ (∀ j s, ss[j]? = some s → ∃ b o, p = some ⟨b, o, none⟩ ∧ W.cell? ⟨b, o + j, none⟩ = some (.string (bs s))) ∧ (p = none → c = 0)
theorem cell_kept {W W' : World} {b o : Nat} {v : Value} (h : W.cell? ⟨b, o, none⟩ = some v) (hb : Below W.heap.size W W') : W'.cell? ⟨b, o, none⟩ = some v := cell_low h hb (cell_block h)
theorem Words.below {W W' : World} {v : Value} {ss : List (List UInt8)} (h : Words W v ss) (hb : Below W.heap.size W W') : Words W' v ss := by
  obtain ⟨p, c, rfl, h1, h2, h3, h4⟩ := h
  refine ⟨p, c, rfl, h1, h2, fun j s hj => ?_, h4⟩
  obtain ⟨b, o, rfl, hc⟩ := h3 j s hj
  exact ⟨b, o, rfl, cell_kept hc hb⟩
theorem Words.drewN {W : World} {v : Value} {ss : List (List UInt8)} (h : Words W v ss) (n : Nat) : Words (W.drewN n) v ss := h
theorem Words.nil (W : World) : Words W (.slice none 0 0) [] := ⟨none, 0, rfl, Nat.le_refl _, by omega, fun j s h => by simp at h, fun _ => rfl⟩
theorem Words.len {W : World} {v : Value} {ss : List (List UInt8)} (h : Words W v ss) : ∃ p c, v = .slice p ss.length c ∧ ss.length ≤ c := by
  obtain ⟨p, c, rfl, h1, _⟩ := h
  exact ⟨p, c, rfl, h1⟩
theorem Words.front {W : World} {p : Option Addr} {n c : Nat} {ss : List (List UInt8)} (h : Words W (.slice p n c) ss) (k : Nat) (hk : k ≤ ss.length) : Words W (.slice p k c) (ss.take k) := by
  obtain ⟨p', c', e, h1, h2, h3, h4⟩ := h
  cases e
  have hl : (ss.take k).length = k := by rw [List.length_take]; omega
  refine ⟨p, c, by rw [hl], by omega, h2, fun j s hj => ?_, h4⟩
  have hjk : j < k := by rw [← hl]; exact (List.getElem?_eq_some_iff.1 hj).1
  rw [List.getElem?_take_of_lt hjk] at hj
  exact h3 j s hj
/-- a row of words that a call owns can be read -/
theorem Words.row {W : World} {base : Nat} {v : Value} {ss : List (List UInt8)} (h : W.ownsRow base 9 1 v ss.length (ss.map fun s => .string (bs s))) : Words W v ss := by
  have hc : ∀ j s, ss[j]? = some s → ∃ b o, (∃ n c, v = .slice (some ⟨b, o, none⟩) n c) ∧ W.cell? ⟨b, o + j, none⟩ = some (.string (bs s)) := fun j s hj => by
    have hlt := (List.getElem?_eq_some_iff.1 hj).1
    obtain ⟨g, cap, rfl, _, _, hcell⟩ := row_at h (by omega)
    refine ⟨g, 0, ⟨_, _, rfl⟩, ?_⟩
    rw [Nat.zero_add, hcell j (by omega), List.getElem?_map, hj]
    rfl
  rcases h.2 with ⟨rfl, h0⟩ | ⟨g, cap, cur, rfl, _, _, h1, h2, _⟩
  · exact ⟨none, 0, by rw [h0], by omega, by omega, fun j s hj => by have := (List.getElem?_eq_some_iff.1 hj).1; omega, fun _ => rfl⟩
  · refine ⟨some ⟨g, 0, none⟩, cap, rfl, h1, by unfold maxLen at h2; omega, fun j s hj => ?_, fun e => by cases e⟩
    obtain ⟨b, o, ⟨n, c, e⟩, hcell⟩ := hc j s hj
    cases e
    exact ⟨g, 0, rfl, hcell⟩
/-- a rule: a name and words -/
abbrev RuleP := List UInt8 × List (List UInt8)
def RuleR (W : World) (nm u : Value) (r : RuleP) : Prop := nm = .string (bs r.1) ∧ Words W u r.2
theorem RuleR.below {W W' : World} {nm u : Value} {r : RuleP} (h : RuleR W nm u r) (hb : Below W.heap.size W W') : RuleR W' nm u r := ⟨h.1, h.2.below hb⟩
def RulesR (W : World) (v : Value) (rs : List RuleP) : Prop :=
  ∃ p c, v = .slice p rs.length c ∧ rs.length ≤ c ∧ c ≤ 9223372036854775807 ∧ ∀ j r, rs[j]? = some r → ∃ b o u, p = some ⟨b, o, none⟩ ∧ W.cell? ⟨b, o + j * 2, none⟩ = some (.string (bs r.1)) ∧ W.cell? ⟨b, o + j * 2 + 1, none⟩ = some u ∧ Words W u r.2
theorem RulesR.below {W W' : World} {v : Value} {rs : List RuleP} (h : RulesR W v rs) (hb : Below W.heap.size W W') : RulesR W' v rs := by
  obtain ⟨p, c, rfl, h1, h2, h3⟩ := h
  refine ⟨p, c, rfl, h1, h2, fun j r hj => ?_⟩
  obtain ⟨b, o, u, rfl, hc, hd, hw⟩ := h3 j r hj
  exact ⟨b, o, u, rfl, cell_kept hc hb, cell_kept hd hb, hw.below hb⟩
/-- a policy -/
structure PolP where
  rules : List RuleP
  schemes : List (List UInt8)
  drop : List (List UInt8)
  depth : Int
  window : Int
structure PolR (W : World) (vr vs vd : Value) (P : PolP) : Prop where
  rules : RulesR W vr P.rules
  schemes : Words W vs P.schemes
  drop : Words W vd P.drop
theorem PolR.below {W W' : World} {vr vs vd : Value} {P : PolP} (h : PolR W vr vs vd P) (hb : Below W.heap.size W W') : PolR W' vr vs vd P := ⟨h.rules.below hb, h.schemes.below hb, h.drop.below hb⟩
/-- how many words and rules a policy holds, and how long they are -/
structure PolP.Few (P : PolP) : Prop where
  rules : P.rules.length ≤ 2000000
  schemes : P.schemes.length ≤ 2000000
  drop : P.drop.length ≤ 2000000
  attrs : ∀ r ∈ P.rules, r.2.length ≤ 2000000
  names : ∀ r ∈ P.rules, r.1.length ≤ 2000000 ∧ ∀ a ∈ r.2, a.length ≤ 2000000
  slen : ∀ s ∈ P.schemes, s.length ≤ 2000000
  dlen : ∀ s ∈ P.drop, s.length ≤ 2000000
  d0 : -9223372036854775808 ≤ P.depth
  d1 : P.depth ≤ 9223372036854775807
  w0 : -9223372036854775808 ≤ P.window
  w1 : P.window ≤ 9223372036854775807

theorem drop_at {α : Type} {l : List α} {k : Nat} {x : α} (h : l[k]? = some x) : l.drop k = x :: l.drop (k + 1) := by
  obtain ⟨h1, h2⟩ := List.getElem?_eq_some_iff.1 h
  rw [List.drop_eq_getElem_cons h1, h2]

theorem bs_cat (a b : List UInt8) : bs a ++ bs b = bs (a ++ b) := by
  apply ByteArray.ext
  apply Array.ext'
  rw [ByteArray.data_append, Array.toList_append]
  rfl
theorem of_bs (s : ByteArray) : bs s.data.toList = s := rfl
theorem cat_bs (a : List UInt8) (s : ByteArray) : bs a ++ s = bs (a ++ s.data.toList) := bs_cat a s.data.toList
theorem bs_cat_r (s : ByteArray) (a : List UInt8) : s ++ bs a = bs (s.data.toList ++ a) := bs_cat s.data.toList a

/-! ## attributes, events, nodes -/

abbrev AttrP := List UInt8 × List UInt8
def AttrsR (W : World) (v : Value) (al : List AttrP) : Prop :=
  ∃ p c, v = .slice p al.length c ∧ al.length ≤ c ∧ c ≤ 9223372036854775807 ∧ (∀ j a, al[j]? = some a → ∃ b o, p = some ⟨b, o, none⟩ ∧ W.cell? ⟨b, o + j * 2, none⟩ = some (.string (bs a.1)) ∧ W.cell? ⟨b, o + j * 2 + 1, none⟩ = some (.string (bs a.2))) ∧ (p = none → c = 0)
theorem AttrsR.below {W W' : World} {v : Value} {al : List AttrP} (h : AttrsR W v al) (hb : Below W.heap.size W W') : AttrsR W' v al := by
  obtain ⟨p, c, rfl, h1, h2, h3, h4⟩ := h
  refine ⟨p, c, rfl, h1, h2, fun j s hj => ?_, h4⟩
  obtain ⟨b, o, rfl, hc, hd⟩ := h3 j s hj
  exact ⟨b, o, rfl, cell_kept hc hb, cell_kept hd hb⟩
theorem AttrsR.nil (W : World) : AttrsR W (.slice none 0 0) [] := ⟨none, 0, rfl, Nat.le_refl _, by omega, fun j s h => by simp at h, fun _ => rfl⟩
theorem AttrsR.len {W : World} {v : Value} {al : List AttrP} (h : AttrsR W v al) : ∃ p c, v = .slice p al.length c := by
  obtain ⟨p, c, rfl, h1, _⟩ := h
  exact ⟨p, c, rfl⟩
theorem AttrsR.front {W : World} {p : Option Addr} {n c : Nat} {al : List AttrP} (h : AttrsR W (.slice p n c) al) (k : Nat) (hk : k ≤ al.length) : AttrsR W (.slice p k c) (al.take k) := by
  obtain ⟨p', c', e, h1, h2, h3, h4⟩ := h
  cases e
  have hl : (al.take k).length = k := by rw [List.length_take]; omega
  refine ⟨p, c, by rw [hl], by omega, h2, fun j s hj => ?_, h4⟩
  have hjk : j < k := by rw [← hl]; exact (List.getElem?_eq_some_iff.1 hj).1
  rw [List.getElem?_take_of_lt hjk] at hj
  exact h3 j s hj
/-- an event or a node: a kind or a depth, a name, attributes, a text -/
structure EvP where
  k : Int
  n : List UInt8
  a : List AttrP
  t : List UInt8
def EvsR (W : World) (v : Value) (es : List EvP) : Prop :=
  ∃ p c, v = .slice p es.length c ∧ es.length ≤ c ∧ c ≤ 9223372036854775807 ∧ ∀ j e, es[j]? = some e → ∃ b o u, p = some ⟨b, o, none⟩ ∧ W.cell? ⟨b, o + j * 4, none⟩ = some (.int .i64 e.k) ∧ W.cell? ⟨b, o + j * 4 + 1, none⟩ = some (.string (bs e.n)) ∧
    W.cell? ⟨b, o + j * 4 + 2, none⟩ = some u ∧ W.cell? ⟨b, o + j * 4 + 3, none⟩ = some (.string (bs e.t)) ∧ AttrsR W u e.a
theorem EvsR.below {W W' : World} {v : Value} {es : List EvP} (h : EvsR W v es) (hb : Below W.heap.size W W') : EvsR W' v es := by
  obtain ⟨p, c, rfl, h1, h2, h3⟩ := h
  refine ⟨p, c, rfl, h1, h2, fun j s hj => ?_⟩
  obtain ⟨b, o, u, rfl, q0, q1, q2, q3, q4⟩ := h3 j s hj
  exact ⟨b, o, u, rfl, cell_kept q0 hb, cell_kept q1 hb, cell_kept q2 hb, cell_kept q3 hb, q4.below hb⟩
theorem EvsR.nil (W : World) : EvsR W (.slice none 0 0) [] := ⟨none, 0, rfl, Nat.le_refl _, by omega, fun j s h => by simp at h⟩
theorem EvsR.len {W : World} {v : Value} {es : List EvP} (h : EvsR W v es) : ∃ p c, v = .slice p es.length c := by
  obtain ⟨p, c, rfl, h1, _⟩ := h
  exact ⟨p, c, rfl⟩
theorem EvsR.front {W : World} {p : Option Addr} {n c : Nat} {es : List EvP} (h : EvsR W (.slice p n c) es) (k : Nat) (hk : k ≤ es.length) : EvsR W (.slice p k c) (es.take k) := by
  obtain ⟨p', c', e, h1, h2, h3⟩ := h
  cases e
  have hl : (es.take k).length = k := by rw [List.length_take]; omega
  refine ⟨p, c, by rw [hl], by omega, h2, fun j s hj => ?_⟩
  have hjk : j < k := by rw [← hl]; exact (List.getElem?_eq_some_iff.1 hj).1
  rw [List.getElem?_take_of_lt hjk] at hj
  exact h3 j s hj
/-- one event's four cells, al a value -/
def evC (e : EvP) (u : Value) : Array Value := #[.int .i64 e.k, .string (bs e.n), u, .string (bs e.t)]
theorem evC_at {W : World} {b : Nat} {u : Value} {e : EvP} {T : TypeId} (h : W.heap[b]? = some (.cells (evC e u) T (0, 0))) :
    W.cell? ⟨b, 0, none⟩ = some (.int .i64 e.k) ∧ W.cell? ⟨b, 1, none⟩ = some (.string (bs e.n)) ∧ W.cell? ⟨b, 2, none⟩ = some u ∧ W.cell? ⟨b, 3, none⟩ = some (.string (bs e.t)) :=
  ⟨cell_at h rfl, cell_at h rfl, cell_at h rfl, cell_at h rfl⟩
/-- how much attributes and events hold -/
def bulkA (al : List AttrP) : Nat := (al.map fun a => a.1.length + a.2.length + 1).sum
def bulkE (es : List EvP) : Nat := (es.map fun e => e.n.length + e.t.length + bulkA e.a + 1).sum
theorem sum_get {α : Type} (f : α → Nat) : ∀ (l : List α) (j : Nat) (x : α), l[j]? = some x → f x ≤ (l.map f).sum
  | [], j, x, h => by simp at h
  | y :: l, 0, x, h => by
    simp only [List.getElem?_cons_zero, Option.some.injEq] at h
    subst h
    simp
  | y :: l, j + 1, x, h => by
    rw [List.getElem?_cons_succ] at h
    have := sum_get f l j x h
    simp only [List.map_cons, List.sum_cons]
    omega
theorem sum_len {α : Type} (f : α → Nat) (h1 : ∀ x, 1 ≤ f x) : ∀ l : List α, l.length ≤ (l.map f).sum
  | [] => by simp
  | y :: l => by
    have := sum_len f h1 l
    have := h1 y
    simp only [List.map_cons, List.sum_cons, List.length_cons]
    omega
theorem bulkA_get {al : List AttrP} {j : Nat} {a : AttrP} (h : al[j]? = some a) : a.1.length + a.2.length + 1 ≤ bulkA al := sum_get (fun a : AttrP => a.1.length + a.2.length + 1) al j a h
theorem bulkA_len (al : List AttrP) : al.length ≤ bulkA al := sum_len (fun a : AttrP => a.1.length + a.2.length + 1) (fun x => by omega) al
theorem bulkE_get {es : List EvP} {j : Nat} {e : EvP} (h : es[j]? = some e) : e.n.length + e.t.length + bulkA e.a + 1 ≤ bulkE es := sum_get (fun e : EvP => e.n.length + e.t.length + bulkA e.a + 1) es j e h
theorem bulkE_len (es : List EvP) : es.length ≤ bulkE es := sum_len (fun e : EvP => e.n.length + e.t.length + bulkA e.a + 1) (fun x => by omega) es
theorem bulkA_cons (a : AttrP) (r : List AttrP) : bulkA (a :: r) = a.1.length + a.2.length + 1 + bulkA r := rfl
theorem bulkE_cons (e : EvP) (r : List EvP) : bulkE (e :: r) = e.n.length + e.t.length + bulkA e.a + 1 + bulkE r := rfl
end Go.Proofs.YtkcgmimldjeaiaaDoor

/-
  The cells of one event among a list's.
-/
namespace Go.Proofs.YtkcgmimldjeaiaaDoor
open Go.RowKit Go.Lib Own

def evK : Ev → Nat
  | .text _ => 3
  | .start _ _ => 1
  | .stop _ => 2
def evN : Ev → List UInt8
  | .text _ => []
  | .start n _ => n
  | .stop n => n
def evA : Ev → List (List UInt8 × List UInt8)
  | .start _ a => a
  | _ => []
def evT : Ev → List UInt8
  | .text b => b
  | _ => []
theorem strV_nil : strV [] = .string ⟨#[]⟩ := rfl
theorem evs_get {W : World} {base : Nat} : ∀ (xs : List Value) (l : List Ev) (k : Nat) (e : Ev), EvsAt W base xs l → l[k]? = some e →
    ∃ a, xs[k * 4]? = some (.int .i64 (evK e : Nat)) ∧ xs[k * 4 + 1]? = some (strV (evN e)) ∧ xs[k * 4 + 2]? = some a ∧ xs[k * 4 + 3]? = some (strV (evT e)) ∧ W.ownsRow base 101 2 a (evA e).length (attrsV (evA e)) ∧ EvsAt W base [.int .i64 (evK e : Nat), strV (evN e), a, strV (evT e)] [e]
  | [], [], k, e, _, h => by simp at h
  | k' :: n :: a :: t :: r, e' :: l, 0, e, ⟨h1, h2⟩, h => by
    simp only [List.getElem?_cons_zero, Option.some.injEq] at h
    subst h
    cases e' with
    | text b =>
      obtain ⟨rfl, rfl, rfl, rfl⟩ := h1
      exact ⟨_, rfl, rfl, rfl, rfl, World.ownsRow_nil _ _ _ _, ⟨⟨rfl, rfl, rfl, rfl⟩, trivial⟩⟩
    | start m at_ =>
      obtain ⟨rfl, rfl, h3, rfl⟩ := h1
      exact ⟨_, rfl, rfl, rfl, rfl, h3, ⟨⟨rfl, rfl, h3, rfl⟩, trivial⟩⟩
    | stop m =>
      obtain ⟨rfl, rfl, rfl, rfl⟩ := h1
      exact ⟨_, rfl, rfl, rfl, rfl, World.ownsRow_nil _ _ _ _, ⟨⟨rfl, rfl, rfl, rfl⟩, trivial⟩⟩
  | k' :: n :: a :: t :: r, e' :: l, k + 1, e, ⟨h1, h2⟩, h => by
    rw [List.getElem?_cons_succ] at h
    obtain ⟨a', g1, g2, g3, g4, g5⟩ := evs_get r l k e h2 h
    refine ⟨a', ?_, ?_, ?_, ?_, g5⟩
    · rw [show (k + 1) * 4 = k * 4 + 4 by omega]; exact g1
    · rw [show (k + 1) * 4 + 1 = k * 4 + 1 + 4 by omega]; exact g2
    · rw [show (k + 1) * 4 + 2 = k * 4 + 2 + 4 by omega]; exact g3
    · rw [show (k + 1) * 4 + 3 = k * 4 + 3 + 4 by omega]; exact g4
  | [], _ :: _, _, _, h, _ => h.elim
  | [_], _, _, _, h, _ => by cases ‹List Ev› <;> exact h.elim
  | [_, _], _, _, _, h, _ => by cases ‹List Ev› <;> exact h.elim
  | [_, _, _], _, _, _, h, _ => by cases ‹List Ev› <;> exact h.elim
  | _ :: _ :: _ :: _ :: _, [], _, _, h, _ => h.elim
theorem evs_len {W : World} {base : Nat} : ∀ (xs : List Value) (l : List Ev), EvsAt W base xs l → xs.length = l.length * 4
  | [], [], _ => rfl
  | k' :: n :: a :: t :: r, e' :: l, ⟨h1, h2⟩ => by
    have := evs_len r l h2
    simp only [List.length_cons]
    omega
  | [], _ :: _, h => h.elim
  | [_], _, h => by cases ‹List Ev› <;> exact h.elim
  | [_, _], _, h => by cases ‹List Ev› <;> exact h.elim
  | [_, _, _], _, h => by cases ‹List Ev› <;> exact h.elim
  | _ :: _ :: _ :: _ :: _, [], h => h.elim
theorem evs_app {W : World} {base : Nat} : ∀ (xs : List Value) (l : List Ev) (ys : List Value) (m : List Ev), EvsAt W base xs l → EvsAt W base ys m → EvsAt W base (xs ++ ys) (l ++ m)
  | [], [], _, _, _, h => h
  | k' :: n :: a :: t :: r, e' :: l, ys, m, ⟨h1, h2⟩, h => ⟨h1, evs_app r l ys m h2 h⟩
  | [], _ :: _, _, _, h, _ => h.elim
  | [_], _, _, _, h, _ => by cases ‹List Ev› <;> exact h.elim
  | [_, _], _, _, _, h, _ => by cases ‹List Ev› <;> exact h.elim
  | [_, _, _], _, _, _, h, _ => by cases ‹List Ev› <;> exact h.elim
  | _ :: _ :: _ :: _ :: _, [], _, _, h, _ => h.elim
end Go.Proofs.YtkcgmimldjeaiaaDoor

/-
  The statement's comparing of events: its walk, where both hold the same.
-/
namespace Go.Proofs.YtkcgmimldjeaiaaDoor
open Go.RowKit Go.Lib Own

theorem attrs_at (l : List (List UInt8 × List UInt8)) (k : Nat) (a : List UInt8 × List UInt8) (h : l[k]? = some a) : (attrsV l)[k * 2]? = some (strV a.1) ∧ (attrsV l)[k * 2 + 1]? = some (strV a.2) := by
  induction l generalizing k with
  | nil => simp at h
  | cons b l ih =>
    cases k with
    | zero =>
      simp only [List.getElem?_cons_zero, Option.some.injEq] at h
      subst h
      exact ⟨rfl, rfl⟩
    | succ k =>
      rw [List.getElem?_cons_succ] at h
      obtain ⟨h1, h2⟩ := ih k h
      refine ⟨?_, ?_⟩
      · rw [show (k + 1) * 2 = k * 2 + 1 + 1 by omega]; exact h1
      · rw [show (k + 1) * 2 + 1 = k * 2 + 1 + 1 + 1 by omega]; exact h2
set_option maxHeartbeats 2000000 in
set_option maxRecDepth 10000 in
theorem sameAttrs_any (B1 B2 : Nat) (v1 v2 : Value) (l : List (List UInt8 × List UInt8)) (w : World) (h1 : w.ownsRow B1 101 2 v1 l.length (attrsV l)) (h2 : w.ownsRow B2 101 2 v2 l.length (attrsV l)) :
    Calls Tryd.prog 32 #[v1, v2] w fun e w' => e = .returned (.bool true) ∧ ∃ n, w' = w.drewN n := by
  have hl := row_max h1
  obtain ⟨p1, k1, rfl⟩ := row_shape h1
  obtain ⟨p2, k2, rfl⟩ := row_shape h2
  have hlen : (attrsV l).length = l.length * 2 := attrsV_len l
  have H1 := hid h1
  have H2 := hid h2
  clear h1 h2
  go_enter Tryd.func32, Tryd.ntmps32
  have q0 : ((l.length : Int) != (l.length : Int)) = false := by simp
  go_wp2
  go_loopw [13] (fun iv wr => ∃ k n : Nat, iv = .int .i64 k ∧ k ≤ l.length ∧ wr = w.drewN n) (fun iv _ => l.length - (RowKit.intOf iv).toNat)
  case atStart => exact ⟨0, 0, rfl, Nat.zero_le _, rfl⟩
  case round =>
    obtain ⟨k, n, rfl, hk, rfl⟩ := hrel
    by_cases hkl : k < l.length
    · obtain ⟨g1, ca1, e1, _, _, hc1⟩ := row_at H1.out (by omega)
      obtain ⟨g2, ca2, e2, _, _, hc2⟩ := row_at H2.out (by omega)
      cases e1
      cases e2
      obtain ⟨x1, x2⟩ := attrs_at l k l[k] (List.getElem?_eq_getElem hkl)
      have a1 := (hc1 (k * 2) (by omega)).trans x1
      have a2 := (hc1 (k * 2 + 1) (by omega)).trans x2
      have b1 := (hc2 (k * 2) (by omega)).trans x1
      have b2 := (hc2 (k * 2 + 1) (by omega)).trans x2
      obtain ⟨u1, hu1⟩ : ∃ u1, (⟨l[k].1.toArray⟩ : ByteArray) = u1 := ⟨_, rfl⟩
      obtain ⟨u2, hu2⟩ : ∃ u2, (⟨l[k].2.toArray⟩ : ByteArray) = u2 := ⟨_, rfl⟩
      unfold strV at a1 a2 b1 b2
      rw [hu1] at a1 b1
      rw [hu2] at a2 b2
      clear hc1 hc2 x1 x2 hu1 hu2 H1 H2
      go_wp2_with fail
      go_quiet (fail)
      go_wp2
      go_roundw
      case rel => exact ⟨k + 1, n + nq, rfl, by omega, by first | rfl | simp⟩
      case measure => simp [RowKit.intOf]; omega
    · go_wp2
      go_ret
      exact ⟨rfl, n, rfl⟩

/-- the four cells of an event in a row -/
theorem ev_cells {W : World} {base : Nat} {v : Value} {xs : List Value} {l : List Ev} (h : W.ownsRow base 39 4 v l.length xs) (he : EvsAt W base xs l) (k : Nat) (hk : k < l.length) :
    ∃ g cap a, v = .slice (some ⟨g, 0, none⟩) l.length cap ∧ base ≤ g ∧ g < W.heap.size ∧ W.cell? ⟨g, k * 4, none⟩ = some (.int .i64 (evK l[k] : Nat)) ∧ W.cell? ⟨g, k * 4 + 1, none⟩ = some (strV (evN l[k])) ∧ W.cell? ⟨g, k * 4 + 2, none⟩ = some a ∧
      W.cell? ⟨g, k * 4 + 3, none⟩ = some (strV (evT l[k])) ∧ W.ownsRow base 101 2 a (evA l[k]).length (attrsV (evA l[k])) ∧ EvsAt W base [.int .i64 (evK l[k] : Nat), strV (evN l[k]), a, strV (evT l[k])] [l[k]] := by
  obtain ⟨g, cap, hv, hg1, hg2, hc⟩ := row_at h (by omega)
  obtain ⟨a, a0, a1, a2, a3, a4, a5⟩ := evs_get xs l k l[k] he (List.getElem?_eq_getElem hk)
  exact ⟨g, cap, a, hv, hg1, hg2, (hc _ (by omega)).trans a0, (hc _ (by omega)).trans a1, (hc _ (by omega)).trans a2, (hc _ (by omega)).trans a3, a4, a5⟩

set_option maxHeartbeats 4000000 in
set_option maxRecDepth 10000 in
theorem sameEvents_any (B1 B2 : Nat) (v1 v2 : Value) (xs1 xs2 : List Value) (l : List Ev) (w : World) (h1 : w.ownsRow B1 39 4 v1 l.length xs1) (e1 : EvsAt w B1 xs1 l) (h2 : w.ownsRow B2 39 4 v2 l.length xs2) (e2 : EvsAt w B2 xs2 l) :
    Calls Tryd.prog 11 #[v1, v2] w fun e w' => e = .returned (.bool true) ∧ ∃ n, w' = w.drewN n := by
  have hl := row_max h1
  obtain ⟨p1, k1, rfl⟩ := row_shape h1
  obtain ⟨p2, k2, rfl⟩ := row_shape h2
  have H1 := hid (And.intro h1 e1)
  have H2 := hid (And.intro h2 e2)
  clear h1 h2 e1 e2
  go_enter Tryd.func11, Tryd.ntmps11
  have q0 : ((l.length : Int) != (l.length : Int)) = false := by simp
  go_wp2
  go_loopw [13] (fun iv wr => ∃ k : Nat, iv = .int .i64 k ∧ k ≤ l.length ∧ Hid (True → ∃ n, wr = w.drewN n)) (fun iv _ => l.length - (RowKit.intOf iv).toNat)
  case atStart => exact ⟨0, rfl, Nat.zero_le _, hid (fun _ => ⟨0, rfl⟩)⟩
  case round =>
    obtain ⟨k, rfl, hk, HQ⟩ := hrel
    by_cases hkl : k < l.length
    · obtain ⟨g1, ca1, a1, ex1, _, _, b0, b1, b2, b3, b4, _⟩ := ev_cells H1.out.1 H1.out.2 k hkl
      obtain ⟨g2, ca2, a2, ex2, _, _, d0, d1, d2, d3, d4, _⟩ := ev_cells H2.out.1 H2.out.2 k hkl
      cases ex1
      cases ex2
      obtain ⟨sp1, sc1, rfl⟩ := row_shape b4
      obtain ⟨sp2, sc2, rfl⟩ := row_shape d4
      have hq := HQ.out trivial
      replace b0 := cell_drew hq b0
      replace b1 := cell_drew hq b1
      replace b2 := cell_drew hq b2
      replace b3 := cell_drew hq b3
      replace d0 := cell_drew hq d0
      replace d1 := cell_drew hq d1
      replace d2 := cell_drew hq d2
      replace d3 := cell_drew hq d3
      have hsame := fun n => sameAttrs_any B1 B2 _ _ (evA l[k]) (wr.drewN n) (by obtain ⟨n', rfl⟩ := hq; exact b4) (by obtain ⟨n', rfl⟩ := hq; exact d4)
      have HS := hid hsame
      clear hsame b4 d4 hq H1 H2
      obtain ⟨u1, hu1⟩ : ∃ u1, (⟨(evN l[k]).toArray⟩ : ByteArray) = u1 := ⟨_, rfl⟩
      obtain ⟨u2, hu2⟩ : ∃ u2, (⟨(evT l[k]).toArray⟩ : ByteArray) = u2 := ⟨_, rfl⟩
      unfold strV at b1 b3 d1 d3
      rw [hu1] at b1 d1
      rw [hu2] at b3 d3
      have q1 : (((evK l[k] : Nat) : Int) != ((evK l[k] : Nat) : Int)) = false := by simp
      generalize ((evK l[k] : Nat) : Int) = z at *
      clear hu1 hu2
      go_wp2_with fail
      go_quiet (first | (go_at_call 32; refine Calls.quiet_of (HS.out _)))
      go_wp2
      go_roundw
      case rel =>
        obtain ⟨n, hn⟩ := HQ.out trivial
        exact ⟨k + 1, rfl, by omega, hid (fun _ => ⟨n + nq, by rw [hn]; simp⟩)⟩
      case measure => simp [RowKit.intOf]; omega
    · go_wp2
      go_ret
      exact ⟨rfl, HQ.out trivial⟩
end Go.Proofs.YtkcgmimldjeaiaaDoor

/-
  Lists of words and policies that can be read, whoever made them.
-/
namespace Go.Proofs.YtkcgmimldjeaiaaDoor
open Go.RowKit Go.Lib Own

/-- does a word stand twice? -/
def twiceL (ss : List (List UInt8)) : Bool := decide (¬ ss.Nodup)
theorem twice_yes {ss : List (List UInt8)} {k : Nat} {s : List UInt8} (hs : ss[k]? = some s) (h : (ss.take k).contains s = true) : twiceL ss = true := by
  have hm : s ∈ ss.take k := by simpa using h
  refine decide_eq_true (fun hn => ?_)
  have hd := drop_at hs
  have hsp := List.take_append_drop k ss
  rw [← hsp, hd, List.nodup_append] at hn
  exact hn.2.2 s hm s (List.mem_cons_self ..) rfl
theorem twice_no {ss : List (List UInt8)} (h : ∀ k s, ss[k]? = some s → (ss.take k).contains s = false) : twiceL ss = false := by
  refine decide_eq_false (fun hn => hn ?_)
  rw [List.nodup_iff_pairwise_ne, List.pairwise_iff_getElem]
  intro i j hi hj hij e
  have := h j ss[j] (List.getElem?_eq_getElem hj)
  rw [List.contains_eq_mem, decide_eq_false_iff_not] at this
  apply this
  rw [← e]
  rw [List.mem_take_iff_getElem]
  exact ⟨i, by omega, rfl⟩

end Go.Proofs.YtkcgmimldjeaiaaDoor

/-
  Appending to a row that a call owns: where it grows into a new block, the old blocks stay as they were.
-/
namespace Go.Proofs.YtkcgmimldjeaiaaDoor
open Go.RowKit Go.Lib

theorem ok_inj {P : Program} {m : Sem Value} {w : World} {v v' : Value} {w1 w2 : World} (h : m.run P w = .ok v w1) (h' : m.run P w = .ok v' w2) : v = v' ∧ w1 = w2 := by
  rw [h] at h'
  cases h'
  exact ⟨rfl, rfl⟩
theorem run_append_two {P : Program} (w : World) (t ty : TypeId) (base : Nat) (e : TypeId) (i : TypeInfo) (z : Value) (size bytes : Nat) (ht : P.underlying t = some (.slice e)) (hi : P.info? e = some i) (hz : i.zero = some z)
    (hsize : i.size = size) (hby : i.bytes = bytes) (hzs : z.cells.size = size) (hsz : 0 < size)
    (v : Value) (n : Nat) (xs : List Value) (hown : w.ownsRow base e size v n xs)
    (ad : Addr) (m c : Nat) (news : List Value) (hl : news.length = m * size) (hnews : ∀ j u, news[j]? = some u → w.cell? (ad.add j) = some u) (h1 : ∀ u ∈ news, u.oneCell' = true)
    (hm : 0 < m) (h63 : n + m ≤ maxLen) (hbytes : (n + m) * bytes ≤ 140737488355328) (hbase : base ≤ w.heap.size) :
    ∃ g cap w', (Builtin.append_ #[t, t] ty #[v, .slice (some ad) m c]).run P w = .ok (.slice (some ⟨g, 0, none⟩) (n + m) cap) w' ∧ w'.ownsRow base e size (.slice (some ⟨g, 0, none⟩) (n + m) cap) (n + m) (xs ++ news) ∧ w.grownBy w' v.ownBlock ∧
      (v.ownBlock = some g ∨ g = w.heap.size ∧ ∀ k, k < w.heap.size → w'.heap[k]? = w.heap[k]?) := by
  obtain ⟨v', w', hr, h2, h3, _, _⟩ := run_append_own_at (P := P) w base t ty e i z size bytes ht hi hz hsize hby hzs hsz v n xs hown ad m c news hl hnews h1 h63 hbytes hbase
  have hsmall : n + m ≤ 9223372036854775807 := by simp only [maxLen] at h63; omega
  have hold : ∀ (o : Obj) (k : Nat), k < w.heap.size → (w.drew.alloc o).heap[k]? = w.heap[k]? := fun o k hk => Go.Lib.alloc_old w.drew o k hk
  subst hsize hby
  rcases hown.2 with ⟨rfl, rfl⟩ | ⟨g, cap, cur, rfl, hbg, hg, hnc, hcm, hcs, htake⟩
  · have hr2 := run_append_nil (P := P) w t ty e i z ht hi hz ad m c news hl hnews (by omega) (by omega) (by have hb := hbytes; simp only [Nat.zero_add] at hb; omega)
    obtain ⟨rfl, rfl⟩ := ok_inj hr hr2
    rw [Nat.zero_add] at h2 ⊢
    exact ⟨_, _, _, hr2, h2, h3, .inr ⟨rfl, hold _⟩⟩
  · by_cases hroom : n + m ≤ cap
    · obtain ⟨w2, hr2, _⟩ := run_append_fits (P := P) w base t ty e i i.size ht hi rfl g n cap xs hown ad m c news hl hnews h1 hroom
      obtain ⟨rfl, rfl⟩ := ok_inj hr hr2
      exact ⟨_, _, _, hr2, h2, h3, .inl rfl⟩
    · have holds : ∀ j u, xs[j]? = some u → w.cell? ((⟨g, 0, none⟩ : Addr).add j) = some u := hown.cells (g := g) rfl
      have hr2 := run_append_grow (P := P) w t ty e i z ht hi hz ⟨g, 0, none⟩ n cap xs hown.1 holds ad m c news hl hnews (by omega) (by omega) (growslice_fits (by omega) hbytes)
      obtain ⟨rfl, rfl⟩ := ok_inj hr hr2
      exact ⟨_, _, _, hr2, h2, h3, .inr ⟨rfl, hold _⟩⟩
theorem wpList_append_two {P : Program} (w : World) {ops : Array Oper} {rest : List Oper} {o : Oper} {a : Act} {Q : Exit → Act → World → Prop} (hgd : o.guard = none) (s x : Operand) (t : TypeId)
    (ho : o.op = .call { callee := .builtin .append, args := #[s, x], argTypes := #[t, t] })
    (base : Nat) (e : TypeId) (i : TypeInfo) (z : Value) (size bytes : Nat) (ht : P.underlying t = some (.slice e)) (hi : P.info? e = some i) (hz : i.zero = some z)
    (hsize : i.size = size) (hby : i.bytes = bytes) (hzs : z.cells.size = size) (hsz : 0 < size)
    (v : Value) (n : Nat) (xs : List Value) (hs : a.eval s = v) (hown : w.ownsRow base e size v n xs)
    (ad : Addr) (m c : Nat) (news : List Value) (hx : a.eval x = .slice (some ad) m c) (hl : news.length = m * size) (hnews : ∀ j u, news[j]? = some u → w.cell? (ad.add j) = some u) (h1 : ∀ u ∈ news, u.oneCell' = true)
    (hm : 0 < m) (h63 : n + m ≤ maxLen) (hbytes : (n + m) * bytes ≤ 140737488355328) (hbase : base ≤ w.heap.size)
    (h : ∀ g cap w', w'.ownsRow base e size (.slice (some ⟨g, 0, none⟩) (n + m) cap) (n + m) (xs ++ news) → w.grownBy w' v.ownBlock → (v.ownBlock = some g ∨ g = w.heap.size ∧ ∀ k, k < w.heap.size → w'.heap[k]? = w.heap[k]?) → wpList P ops Q rest (a.put o.dst (.slice (some ⟨g, 0, none⟩) (n + m) cap)) w') :
    wpList P ops Q (o :: rest) a w := by
  refine wpList_plain hgd fun K hK => ?_
  obtain ⟨g, cap, w', hr, h2, h3, h4⟩ := run_append_two (P := P) w t o.type base e i z size bytes ht hi hz hsize hby hzs hsz v n xs hown ad m c news hl hnews h1 hm h63 hbytes hbase
  unfold Oper.wp execOp
  simp only [ho, resolve, invoke, builtin, Sem.run_bind, Sem.run_pure, Result.andThen_ok, List.map_toArray, List.map_cons, List.map_nil, hs, hx, hr]
  exact hK _ _ (h g cap w' h2 h3 h4)
end Go.Proofs.YtkcgmimldjeaiaaDoor

/-
  A step of the reader, in the plain lexer's words; skipBogus, skipComment: their walks.
-/
namespace Go.Proofs.YtkcgmimldjeaiaaDoor
open Go.RowKit Go.Lib Own

theorem StreamAt.below {W W' : World} {base b o : Nat} {cs : Array Value} {T : TypeId} {evs : List Ev} {pend : List UInt8} (h : StreamAt W base b o cs T evs pend) (hb : Below W.heap.size W W') : StreamAt W' base b o cs T evs pend := by
  obtain ⟨ev, p, v, xs, hev, hin, hrow, hevs, hap⟩ := h.it
  have hg : W.grownBy W' none := ⟨hb.os, hb.tape, hb.output, hb.size, fun k hk _ => hb.block k hk⟩
  exact ⟨ev, p, v, xs, hev, ⟨(hb.block b (Array.getElem?_eq_some_iff.1 hin.at_).1).trans hin.at_, hin.lo, hin.cp, hin.cv, hin.hp, hin.own.kept hg (by cases hv : v.ownBlock <;> simp), hin.ne⟩, hrow.kept hg (Classical.em _), evs_mono (fun a n ys hr => hr.kept hg (Classical.em _)) xs evs hevs, hap⟩
theorem below_low {A B : Nat} {w w' : World} (h : Below B w w') (hAB : A ≤ B) : Below A w w' := Below.mono h hAB

end Go.Proofs.YtkcgmimldjeaiaaDoor

/-
  String of a strings.Builder that lies inside another block, an empty one too: its walk.
-/
namespace Go.Proofs.YtkcgmimldjeaiaaDoor
open Go.RowKit Go.Lib Own

theorem us_none (p : Option Addr) (W : World) : (Builtin.unsafeString_ #[129, 3] 9 #[.pointer p, .int .i64 0]).run Tryd.prog W = .ok (.string ⟨#[]⟩) W := Lib.run_unsafeString_none W _ _ _ p
set_option maxHeartbeats 2000000 in
set_option maxRecDepth 100000 in
theorem string_nil_in (b o : Nat) (cs : Array Value) (T : TypeId) (n : Nat) (hn : n = 0) (w : World) (hat : w.heap[b]? = some (.cells cs T (0, 0))) (hcv : cs[o + 1]? = some (.slice none n 0)) :
    Calls Tryd.prog 45 #[.pointer (some ⟨b, o, none⟩)] w fun e w' => e = .returned (.string ⟨#[]⟩) ∧ w' = w.drew := by
  subst hn
  have hUS := us_none
  have c1 : w.drew.cell? ⟨b, o + 1, none⟩ = some (.slice none 0 0) := cell_at hat hcv
  have hSD : (Builtin.unsafeSliceData_ #[50] 129 #[.slice none 0 0]).run Tryd.prog w.drew = .ok (.pointer none) w.drew := rfl
  go_enter Tryd.func45, Tryd.ntmps45
  go_wp2
  go_region
  all_goals (go_wp2; go_ret; exact ⟨rfl, rfl⟩)
set_option maxHeartbeats 2000000 in
set_option maxRecDepth 100000 in
theorem string_room_in (b o : Nat) (cs : Array Value) (T : TypeId) (g cap : Nat) (hc0 : cap ≠ 0) (w : World) (hat : w.heap[b]? = some (.cells cs T (0, 0))) (hcv : cs[o + 1]? = some (.slice (some ⟨g, 0, none⟩) 0 cap)) :
    Calls Tryd.prog 45 #[.pointer (some ⟨b, o, none⟩)] w fun e w' => e = .returned (.string ⟨#[]⟩) ∧ w' = w.drew := by
  have hUS := us_none
  have c1 : w.drew.cell? ⟨b, o + 1, none⟩ = some (.slice (some ⟨g, 0, none⟩) 0 cap) := cell_at hat hcv
  have hSD : (Builtin.unsafeSliceData_ #[50] 129 #[.slice (some ⟨g, 0, none⟩) 0 cap]).run Tryd.prog w.drew = .ok (.pointer (some ⟨g, 0, none⟩)) w.drew := Lib.run_unsafeSliceData_row _ _ _ _ _ _ hc0
  clear hc0
  go_enter Tryd.func45, Tryd.ntmps45
  go_wp2
  go_region
  all_goals (go_wp2; go_ret; exact ⟨rfl, rfl⟩)
set_option maxHeartbeats 2000000 in
set_option maxRecDepth 100000 in
theorem string_noroom_in (b o : Nat) (cs : Array Value) (T : TypeId) (g : Nat) (cur : Array Value) (fz : Nat × Nat) (w : World) (hat : w.heap[b]? = some (.cells cs T (0, 0))) (hcv : cs[o + 1]? = some (.slice (some ⟨g, 0, none⟩) 0 0)) (hg : w.heap[g]? = some (.cells cur 5 fz)) :
    Calls Tryd.prog 45 #[.pointer (some ⟨b, o, none⟩)] w fun e w' => e = .returned (.string ⟨#[]⟩) ∧ Below w.heap.size w w' := by
  have hUS := us_none
  have hlt := block_lt hat
  have c1 : w.drew.cell? ⟨b, o + 1, none⟩ = some (.slice (some ⟨g, 0, none⟩) 0 0) := cell_at hat hcv
  have hSD : (Builtin.unsafeSliceData_ #[50] 129 #[.slice (some ⟨g, 0, none⟩) 0 0]).run Tryd.prog w.drew = .ok (.pointer (some ⟨w.drew.heap.size, 0, none⟩)) (w.drew.alloc (.view ⟨g, 0, none⟩ 5)) :=
    Lib.run_unsafeSliceData_zero w.drew _ _ 5 Tryd.underlying129 ⟨g, 0, none⟩ 0 (5, cur.size) (by have hg' : w.drew.heap[g]? = some (.cells cur 5 fz) := hg; simp [World.shape?, hg'])
  have c2 : (w.drew.alloc (.view ⟨g, 0, none⟩ 5)).cell? ⟨b, o + 1, none⟩ = some (.slice (some ⟨g, 0, none⟩) 0 0) := by
    have : (w.drew.alloc (.view ⟨g, 0, none⟩ 5)).heap[b]? = _ := (Lib.alloc_old w.drew _ b hlt).trans hat
    exact cell_at this hcv
  have c3 : (w.alloc (.view ⟨g, 0, none⟩ 5)).drew.cell? ⟨b, o + 1, none⟩ = some (.slice (some ⟨g, 0, none⟩) 0 0) := c2
  have c0 : w.cell? ⟨b, o + 1, none⟩ = some (.slice (some ⟨g, 0, none⟩) 0 0) := c1
  go_enter Tryd.func45, Tryd.ntmps45
  go_wp2
  go_region
  all_goals (go_wp2; go_ret; exact ⟨rfl, (Below.drew (Below.refl _ w)).alloc (Nat.le_refl _) _⟩)
theorem string_any_in (base b o : Nat) (cs : Array Value) (T : TypeId) (p v : Value) (l : List UInt8) (w : World) (h : InB w base b o cs T p v l) :
    Calls Tryd.prog 45 #[.pointer (some ⟨b, o, none⟩)] w fun e w' => e = .returned (.string (bs l)) ∧ w'.heap[b]? = some (.cells cs T (0, 0)) ∧ Below base w w' ∧
      ∀ k, k < w.heap.size → k ≠ b → v.ownBlock ≠ some k → w'.heap[k]? = w.heap[k]? := by
  have hlt := block_lt h.at_
  have hbase : base ≤ w.heap.size := by have := h.lo; omega
  cases l with
  | cons x r => exact (string_in base b o cs T p v (x :: r) w h (by simp)).mono (fun e w' ⟨h1, h2, h3, h4⟩ => ⟨h1, h2, h3, fun k _ h5 h6 => h4 k h5 h6⟩)
  | nil =>
    have fin : ∀ e w', (e = Ending.returned (.string ⟨#[]⟩) ∧ Below w.heap.size w w') → (e = .returned (.string (bs [])) ∧ w'.heap[b]? = some (.cells cs T (0, 0)) ∧ Below base w w' ∧ ∀ k, k < w.heap.size → k ≠ b → v.ownBlock ≠ some k → w'.heap[k]? = w.heap[k]?) := by
      rintro e w' ⟨rfl, hb⟩
      exact ⟨rfl, (hb.block b hlt).trans h.at_, hb.mono hbase, fun k hk _ _ => hb.block k hk⟩
    have hcv := h.cv
    rcases h.own.2 with ⟨hv, h0⟩ | ⟨g, cap, cur, fz, hv, _, hg, _⟩
    · rw [hv] at hcv
      exact (string_nil_in b o cs T 0 rfl w h.at_ hcv).mono (fun e w' ⟨h1, h2⟩ => fin e w' ⟨h1, by rw [h2]; exact (Below.refl _ w).drew⟩)
    · rw [hv] at hcv
      by_cases hc0 : cap = 0
      · subst hc0
        exact (string_noroom_in b o cs T g cur fz w h.at_ hcv hg).mono (fun e w' h1 => fin e w' h1)
      · exact (string_room_in b o cs T g cap hc0 w h.at_ hcv).mono (fun e w' ⟨h1, h2⟩ => fin e w' ⟨h1, by rw [h2]; exact (Below.refl _ w).drew⟩)
end Go.Proofs.YtkcgmimldjeaiaaDoor
