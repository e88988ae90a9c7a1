/-
  Parts of the walk, joined: MemW.
-/
import Derived.Test.YtcncbhbdpcpkeaaGreatDoorPJAA
/-
  Lists of words, policies, attributes, events and nodes that can be read, whoever made them.
-/
namespace Go.Proofs.YtcncbhbdpcpkeaaGreatDoor
open Go.RowKit Go.Lib

/-- a text out of its bytes -/
def bs (L : List UInt8) : ByteArray := ⟨L.toArray⟩
theorem bs_toList (L : List UInt8) : (bs L).toList = L := by rw [Lib.toList_data]; rfl
theorem bs_data (L : List UInt8) : (bs L).data.toList = L := rfl
theorem bs_of (s : ByteArray) : bs s.data.toList = s := rfl
theorem bs_size (L : List UInt8) : (bs L).size = L.length := by rw [size_eq]; rfl
/-- a list of words that can be read -/
def Words (W : World) (v : Value) (ss : List (List UInt8)) : Prop :=
  ∃ p c, v = .slice p ss.length c ∧ ss.length ≤ c ∧ c ≤ 9223372036854775807 ∧ (∀ j s, ss[j]? = some s → ∃ b o, p = some ⟨b, o, none⟩ ∧ W.cell? ⟨b, o + j, none⟩ = some (.string (bs s))) ∧ (p = none → c = 0)
theorem cell_kept {W W' : World} {b o : Nat} {v : Value} (h : W.cell? ⟨b, o, none⟩ = some v) (hb : Below W.heap.size W W') : W'.cell? ⟨b, o, none⟩ = some v := cell_low h hb (cell_block h)
theorem Words.below {W W' : World} {v : Value} {ss : List (List UInt8)} (h : Words W v ss) (hb : Below W.heap.size W W') : Words W' v ss := by
  obtain ⟨p, c, rfl, h1, h2, h3, h4⟩ := h
  refine ⟨p, c, rfl, h1, h2, fun j s hj => ?_, h4⟩
  obtain ⟨b, o, rfl, hc⟩ := h3 j s hj
  exact ⟨b, o, rfl, cell_kept hc hb⟩
theorem Words.drewN {W : World} {v : Value} {ss : List (List UInt8)} (h : Words W v ss) (n : Nat) : Words (W.drewN n) v ss := h
theorem Words.nil (W : World) : Words W (.slice none 0 0) [] := ⟨none, 0, rfl, Nat.le_refl _, by omega, fun j s h => by simp at h, fun _ => rfl⟩
theorem Words.len {W : World} {v : Value} {ss : List (List UInt8)} (h : Words W v ss) : ∃ p c, v = .slice p ss.length c ∧ ss.length ≤ c := by
  obtain ⟨p, c, rfl, h1, _⟩ := h
  exact ⟨p, c, rfl, h1⟩
theorem Words.front {W : World} {p : Option Addr} {n c : Nat} {ss : List (List UInt8)} (h : Words W (.slice p n c) ss) (k : Nat) (hk : k ≤ ss.length) : Words W (.slice p k c) (ss.take k) := by
  obtain ⟨p', c', e, h1, h2, h3, h4⟩ := h
  cases e
  have hl : (ss.take k).length = k := by rw [List.length_take]; omega
  refine ⟨p, c, by rw [hl], by omega, h2, fun j s hj => ?_, h4⟩
  have hjk : j < k := by rw [← hl]; exact (List.getElem?_eq_some_iff.1 hj).1
  rw [List.getElem?_take_of_lt hjk] at hj
  exact h3 j s hj
/-- a row of words that a call owns can be read -/
theorem Words.row {W : World} {base : Nat} {v : Value} {ss : List (List UInt8)} (h : W.ownsRow base 9 1 v ss.length (ss.map fun s => .string (bs s))) : Words W v ss := by
  have hc : ∀ j s, ss[j]? = some s → ∃ b o, (∃ n c, v = .slice (some ⟨b, o, none⟩) n c) ∧ W.cell? ⟨b, o + j, none⟩ = some (.string (bs s)) := fun j s hj => by
    have hlt := (List.getElem?_eq_some_iff.1 hj).1
    obtain ⟨g, cap, rfl, _, _, hcell⟩ := row_at h (by omega)
    refine ⟨g, 0, ⟨_, _, rfl⟩, ?_⟩
    rw [Nat.zero_add, hcell j (by omega), List.getElem?_map, hj]
    rfl
  rcases h.2 with ⟨rfl, h0⟩ | ⟨g, cap, cur, rfl, _, _, h1, h2, _⟩
  · exact ⟨none, 0, by rw [h0], by omega, by omega, fun j s hj => by have := (List.getElem?_eq_some_iff.1 hj).1; omega, fun _ => rfl⟩
  · refine ⟨some ⟨g, 0, none⟩, cap, rfl, h1, by unfold maxLen at h2; omega, fun j s hj => ?_, fun e => by cases e⟩
    obtain ⟨b, o, ⟨n, c, e⟩, hcell⟩ := hc j s hj
    cases e
    exact ⟨g, 0, rfl, hcell⟩
/-- a rule: a name and words -/
abbrev RuleP := List UInt8 × List (List UInt8)
def RulesR (W : World) (v : Value) (rs : List RuleP) : Prop :=
  ∃ p c, v = .slice p rs.length c ∧ rs.length ≤ c ∧ c ≤ 9223372036854775807 ∧ ∀ j r, rs[j]? = some r → ∃ b o u, p = some ⟨b, o, none⟩ ∧ W.cell? ⟨b, o + j * 2, none⟩ = some (.string (bs r.1)) ∧ W.cell? ⟨b, o + j * 2 + 1, none⟩ = some u ∧ Words W u r.2
theorem RulesR.below {W W' : World} {v : Value} {rs : List RuleP} (h : RulesR W v rs) (hb : Below W.heap.size W W') : RulesR W' v rs := by
  obtain ⟨p, c, rfl, h1, h2, h3⟩ := h
  refine ⟨p, c, rfl, h1, h2, fun j r hj => ?_⟩
  obtain ⟨b, o, u, rfl, hc, hd, hw⟩ := h3 j r hj
  exact ⟨b, o, u, rfl, cell_kept hc hb, cell_kept hd hb, hw.below hb⟩
/-- a policy -/
structure PolP where
  rules : List RuleP
  schemes : List (List UInt8)
  drop : List (List UInt8)
  depth : Int
  window : Int
structure PolR (W : World) (vr vs vd : Value) (P : PolP) : Prop where
  rules : RulesR W vr P.rules
  schemes : Words W vs P.schemes
  drop : Words W vd P.drop
theorem PolR.below {W W' : World} {vr vs vd : Value} {P : PolP} (h : PolR W vr vs vd P) (hb : Below W.heap.size W W') : PolR W' vr vs vd P := ⟨h.rules.below hb, h.schemes.below hb, h.drop.below hb⟩
/-- how many words and rules a policy holds, and how long they are -/
structure PolP.Few (P : PolP) : Prop where
  rules : P.rules.length ≤ 2000000
  schemes : P.schemes.length ≤ 2000000
  drop : P.drop.length ≤ 2000000
  attrs : ∀ r ∈ P.rules, r.2.length ≤ 2000000
  names : ∀ r ∈ P.rules, r.1.length ≤ 2000000 ∧ ∀ a ∈ r.2, a.length ≤ 2000000
  slen : ∀ s ∈ P.schemes, s.length ≤ 2000000
  dlen : ∀ s ∈ P.drop, s.length ≤ 2000000
  d0 : -9223372036854775808 ≤ P.depth
  d1 : P.depth ≤ 9223372036854775807
  w0 : -9223372036854775808 ≤ P.window
  w1 : P.window ≤ 9223372036854775807

theorem drop_at {α : Type} {l : List α} {k : Nat} {x : α} (h : l[k]? = some x) : l.drop k = x :: l.drop (k + 1) := by
  obtain ⟨h1, h2⟩ := List.getElem?_eq_some_iff.1 h
  rw [List.drop_eq_getElem_cons h1, h2]

theorem bs_cat (a b : List UInt8) : bs a ++ bs b = bs (a ++ b) := by
  apply ByteArray.ext
  apply Array.ext'
  rw [ByteArray.data_append, Array.toList_append]
  rfl
theorem of_bs (s : ByteArray) : bs s.data.toList = s := rfl
theorem cat_bs (a : List UInt8) (s : ByteArray) : bs a ++ s = bs (a ++ s.data.toList) := bs_cat a s.data.toList
/-! ## attributes, events, nodes -/

abbrev AttrP := List UInt8 × List UInt8
def AttrsR (W : World) (v : Value) (al : List AttrP) : Prop :=
  ∃ p c, v = .slice p al.length c ∧ al.length ≤ c ∧ c ≤ 9223372036854775807 ∧ (∀ j a, al[j]? = some a → ∃ b o, p = some ⟨b, o, none⟩ ∧ W.cell? ⟨b, o + j * 2, none⟩ = some (.string (bs a.1)) ∧ W.cell? ⟨b, o + j * 2 + 1, none⟩ = some (.string (bs a.2))) ∧ (p = none → c = 0)
theorem AttrsR.below {W W' : World} {v : Value} {al : List AttrP} (h : AttrsR W v al) (hb : Below W.heap.size W W') : AttrsR W' v al := by
  obtain ⟨p, c, rfl, h1, h2, h3, h4⟩ := h
  refine ⟨p, c, rfl, h1, h2, fun j s hj => ?_, h4⟩
  obtain ⟨b, o, rfl, hc, hd⟩ := h3 j s hj
  exact ⟨b, o, rfl, cell_kept hc hb, cell_kept hd hb⟩
theorem AttrsR.nil (W : World) : AttrsR W (.slice none 0 0) [] := ⟨none, 0, rfl, Nat.le_refl _, by omega, fun j s h => by simp at h, fun _ => rfl⟩
theorem AttrsR.len {W : World} {v : Value} {al : List AttrP} (h : AttrsR W v al) : ∃ p c, v = .slice p al.length c := by
  obtain ⟨p, c, rfl, h1, _⟩ := h
  exact ⟨p, c, rfl⟩
theorem AttrsR.front {W : World} {p : Option Addr} {n c : Nat} {al : List AttrP} (h : AttrsR W (.slice p n c) al) (k : Nat) (hk : k ≤ al.length) : AttrsR W (.slice p k c) (al.take k) := by
  obtain ⟨p', c', e, h1, h2, h3, h4⟩ := h
  cases e
  have hl : (al.take k).length = k := by rw [List.length_take]; omega
  refine ⟨p, c, by rw [hl], by omega, h2, fun j s hj => ?_, h4⟩
  have hjk : j < k := by rw [← hl]; exact (List.getElem?_eq_some_iff.1 hj).1
  rw [List.getElem?_take_of_lt hjk] at hj
  exact h3 j s hj
/-- an event or a node: a kind or a depth, a name, attributes, a text -/
structure EvP where
  k : Int
  n : List UInt8
  a : List AttrP
  t : List UInt8
def EvsR (W : World) (v : Value) (es : List EvP) : Prop :=
  ∃ p c, v = .slice p es.length c ∧ es.length ≤ c ∧ c ≤ 9223372036854775807 ∧ ∀ j e, es[j]? = some e → ∃ b o u, p = some ⟨b, o, none⟩ ∧ W.cell? ⟨b, o + j * 4, none⟩ = some (.int .i64 e.k) ∧ W.cell? ⟨b, o + j * 4 + 1, none⟩ = some (.string (bs e.n)) ∧
    W.cell? ⟨b, o + j * 4 + 2, none⟩ = some u ∧ W.cell? ⟨b, o + j * 4 + 3, none⟩ = some (.string (bs e.t)) ∧ AttrsR W u e.a
theorem EvsR.below {W W' : World} {v : Value} {es : List EvP} (h : EvsR W v es) (hb : Below W.heap.size W W') : EvsR W' v es := by
  obtain ⟨p, c, rfl, h1, h2, h3⟩ := h
  refine ⟨p, c, rfl, h1, h2, fun j s hj => ?_⟩
  obtain ⟨b, o, u, rfl, q0, q1, q2, q3, q4⟩ := h3 j s hj
  exact ⟨b, o, u, rfl, cell_kept q0 hb, cell_kept q1 hb, cell_kept q2 hb, cell_kept q3 hb, q4.below hb⟩
theorem EvsR.nil (W : World) : EvsR W (.slice none 0 0) [] := ⟨none, 0, rfl, Nat.le_refl _, by omega, fun j s h => by simp at h⟩
theorem EvsR.len {W : World} {v : Value} {es : List EvP} (h : EvsR W v es) : ∃ p c, v = .slice p es.length c := by
  obtain ⟨p, c, rfl, h1, _⟩ := h
  exact ⟨p, c, rfl⟩
theorem EvsR.front {W : World} {p : Option Addr} {n c : Nat} {es : List EvP} (h : EvsR W (.slice p n c) es) (k : Nat) (hk : k ≤ es.length) : EvsR W (.slice p k c) (es.take k) := by
  obtain ⟨p', c', e, h1, h2, h3⟩ := h
  cases e
  have hl : (es.take k).length = k := by rw [List.length_take]; omega
  refine ⟨p, c, by rw [hl], by omega, h2, fun j s hj => ?_⟩
  have hjk : j < k := by rw [← hl]; exact (List.getElem?_eq_some_iff.1 hj).1
  rw [List.getElem?_take_of_lt hjk] at hj
  exact h3 j s hj
/-- one event's four cells, al a value -/
def evC (e : EvP) (u : Value) : Array Value := #[.int .i64 e.k, .string (bs e.n), u, .string (bs e.t)]
theorem evC_at {W : World} {b : Nat} {u : Value} {e : EvP} {T : TypeId} (h : W.heap[b]? = some (.cells (evC e u) T (0, 0))) :
    W.cell? ⟨b, 0, none⟩ = some (.int .i64 e.k) ∧ W.cell? ⟨b, 1, none⟩ = some (.string (bs e.n)) ∧ W.cell? ⟨b, 2, none⟩ = some u ∧ W.cell? ⟨b, 3, none⟩ = some (.string (bs e.t)) :=
  ⟨cell_at h rfl, cell_at h rfl, cell_at h rfl, cell_at h rfl⟩
/-- how much attributes and events hold -/
def bulkA (al : List AttrP) : Nat := (al.map fun a => a.1.length + a.2.length + 1).sum
def bulkE (es : List EvP) : Nat := (es.map fun e => e.n.length + e.t.length + bulkA e.a + 1).sum
theorem sum_get {α : Type} (f : α → Nat) : ∀ (l : List α) (j : Nat) (x : α), l[j]? = some x → f x ≤ (l.map f).sum
  | [], j, x, h => by simp at h
  | y :: l, 0, x, h => by
    simp only [List.getElem?_cons_zero, Option.some.injEq] at h
    subst h
    simp
  | y :: l, j + 1, x, h => by
    rw [List.getElem?_cons_succ] at h
    have := sum_get f l j x h
    simp only [List.map_cons, List.sum_cons]
    omega
theorem sum_len {α : Type} (f : α → Nat) (h1 : ∀ x, 1 ≤ f x) : ∀ l : List α, l.length ≤ (l.map f).sum
  | [] => by simp
  | y :: l => by
    have := sum_len f h1 l
    have := h1 y
    simp only [List.map_cons, List.sum_cons, List.length_cons]
    omega
theorem bulkA_get {al : List AttrP} {j : Nat} {a : AttrP} (h : al[j]? = some a) : a.1.length + a.2.length + 1 ≤ bulkA al := sum_get (fun a : AttrP => a.1.length + a.2.length + 1) al j a h
theorem bulkA_len (al : List AttrP) : al.length ≤ bulkA al := sum_len (fun a : AttrP => a.1.length + a.2.length + 1) (fun x => by omega) al
theorem bulkE_get {es : List EvP} {j : Nat} {e : EvP} (h : es[j]? = some e) : e.n.length + e.t.length + bulkA e.a + 1 ≤ bulkE es := sum_get (fun e : EvP => e.n.length + e.t.length + bulkA e.a + 1) es j e h
theorem bulkE_len (es : List EvP) : es.length ≤ bulkE es := sum_len (fun e : EvP => e.n.length + e.t.length + bulkA e.a + 1) (fun x => by omega) es
theorem bulkA_cons (a : AttrP) (r : List AttrP) : bulkA (a :: r) = a.1.length + a.2.length + 1 + bulkA r := rfl
theorem bulkE_cons (e : EvP) (r : List EvP) : bulkE (e :: r) = e.n.length + e.t.length + bulkA e.a + 1 + bulkE r := rfl
end Go.Proofs.YtcncbhbdpcpkeaaGreatDoor
