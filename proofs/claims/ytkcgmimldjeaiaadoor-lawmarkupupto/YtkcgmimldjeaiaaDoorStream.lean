/-
  The stream of events inside another block: what it holds, and PutText: its walk.
-/
import Derived.Test.YtkcgmimldjeaiaaDoorInBuilder
import Derived.Test.YtkcgmimldjeaiaaDoorTagAttrs
namespace Go.Proofs.YtkcgmimldjeaiaaDoor
open Go.RowKit Go.Lib Own

/-- the cells of a list of events: each an event's four -/
def EvsAt (W : World) (base : Nat) : List Value → List Ev → Prop
  | [], [] => True
  | k :: n :: a :: t :: r, e :: l => (match e with
    | .text b => k = .int .i64 3 ∧ n = .string ⟨#[]⟩ ∧ a = .slice none 0 0 ∧ t = strV b
    | .start m at_ => k = .int .i64 1 ∧ n = strV m ∧ W.ownsRow base 101 2 a at_.length (attrsV at_) ∧ t = .string ⟨#[]⟩
    | .stop m => k = .int .i64 2 ∧ n = strV m ∧ a = .slice none 0 0 ∧ t = .string ⟨#[]⟩) ∧ EvsAt W base r l
  | _, _ => False
/-- rows of another kind than the one that is written stay what they are -/
theorem row_keep {W W' : World} {base b : Nat} {e T : TypeId} {size n n0 : Nat} {v v0 : Value} {xs xs0 : List Value} {cs : Array Value} (h : W.ownsRow base e size v n xs) (hb : W.heap[b]? = some (.cells cs T (0, 0))) (hT : T ≠ e)
    (h0 : W.ownsRowF base 5 1 v0 n0 xs0) (he : e ≠ 5) (hk : ∀ k, k < W.heap.size → k ≠ b → v0.ownBlock ≠ some k → W'.heap[k]? = W.heap[k]?) : W'.ownsRow base e size v n xs := by
  refine ⟨h.1, ?_⟩
  rcases h.2 with h2 | ⟨g, cap, cur, rfl, hg0, hg, rest⟩
  · exact .inl h2
  · refine .inr ⟨g, cap, cur, rfl, hg0, ?_, rest⟩
    rw [hk g (Array.getElem?_eq_some_iff.1 hg).1 ?_ ?_]
    · exact hg
    · rintro rfl
      rw [hg] at hb
      simp only [Option.some.injEq, Obj.cells.injEq] at hb
      exact hT hb.2.1.symm
    · intro h3
      rcases h0.2 with ⟨rfl, _⟩ | ⟨g', cap', cur', fz, rfl, _, hg', _⟩
      · cases h3
      · simp only [Value.ownBlock, Option.some.injEq] at h3
        subst h3
        rw [hg] at hg'
        simp only [Option.some.injEq, Obj.cells.injEq] at hg'
        exact he hg'.2.1
theorem evs_keep {W W' : World} {base b : Nat} {T : TypeId} {n0 : Nat} {v0 : Value} {xs0 : List Value} {cs : Array Value} (hb : W.heap[b]? = some (.cells cs T (0, 0))) (hT : T ≠ 101)
    (h0 : W.ownsRowF base 5 1 v0 n0 xs0) (hk : ∀ k, k < W.heap.size → k ≠ b → v0.ownBlock ≠ some k → W'.heap[k]? = W.heap[k]?) : ∀ (xs : List Value) (l : List Ev), EvsAt W base xs l → EvsAt W' base xs l
  | [], [], _ => trivial
  | k :: n :: a :: t :: r, e :: l, ⟨h1, h2⟩ => by
    refine ⟨?_, evs_keep hb hT h0 hk r l h2⟩
    cases e with
    | text b => exact h1
    | start m at_ => exact ⟨h1.1, h1.2.1, row_keep h1.2.2.1 hb hT h0 (by decide) hk, h1.2.2.2⟩
    | stop m => exact h1
  | [], _ :: _, h => h.elim
  | [_], _, h => by cases ‹List Ev› <;> exact h.elim
  | [_, _], _, h => by cases ‹List Ev› <;> exact h.elim
  | [_, _, _], _, h => by cases ‹List Ev› <;> exact h.elim
  | _ :: _ :: _ :: _ :: _, [], h => h.elim
/-- no list of attributes of these events lies in block g -/
def NotIn (g : Nat) : List Value → Prop
  | _ :: _ :: a :: _ :: r => a.ownBlock ≠ some g ∧ NotIn g r
  | _ => True
/-- the lists of attributes lie in blocks of their own -/
def Apart : List Value → Prop
  | _ :: _ :: a :: _ :: r => (∀ g, a.ownBlock = some g → NotIn g r) ∧ Apart r
  | _ => True
theorem notIn_snoc {W : World} {base g : Nat} {k n a t : Value} (ha : a.ownBlock ≠ some g) : ∀ (xs : List Value) (l : List Ev), EvsAt W base xs l → NotIn g xs → NotIn g (xs ++ [k, n, a, t])
  | [], [], _, _ => ⟨ha, trivial⟩
  | k' :: n' :: a' :: t' :: r, e' :: l, ⟨_, h2⟩, hn => ⟨hn.1, notIn_snoc ha r l h2 hn.2⟩
  | [], _ :: _, h, _ => h.elim
  | [_], _, h, _ => by cases ‹List Ev› <;> exact h.elim
  | [_, _], _, h, _ => by cases ‹List Ev› <;> exact h.elim
  | [_, _, _], _, h, _ => by cases ‹List Ev› <;> exact h.elim
  | _ :: _ :: _ :: _ :: _, [], h, _ => h.elim
theorem apart_snoc {W : World} {base : Nat} {k n a t : Value} : ∀ (xs : List Value) (l : List Ev), EvsAt W base xs l → Apart xs → (∀ g, a.ownBlock = some g → NotIn g xs) → Apart (xs ++ [k, n, a, t])
  | [], [], _, _, _ => ⟨fun _ _ => trivial, trivial⟩
  | k' :: n' :: a' :: t' :: r, e' :: l, ⟨_, h2⟩, hp, hg => by
    refine ⟨fun g e => notIn_snoc (fun e2 => (hg g e2).1 e) r l h2 (hp.1 g e), apart_snoc r l h2 hp.2 (fun g e => (hg g e).2)⟩
  | [], _ :: _, h, _, _ => h.elim
  | [_], _, h, _, _ => by cases ‹List Ev› <;> exact h.elim
  | [_, _], _, h, _, _ => by cases ‹List Ev› <;> exact h.elim
  | [_, _, _], _, h, _, _ => by cases ‹List Ev› <;> exact h.elim
  | _ :: _ :: _ :: _ :: _, [], h, _, _ => h.elim
theorem notIn_new {W : World} {base g : Nat} (hg : W.heap.size ≤ g) : ∀ (xs : List Value) (l : List Ev), EvsAt W base xs l → NotIn g xs
  | [], [], _ => trivial
  | k' :: n' :: a' :: t' :: r, e' :: l, ⟨h1, h2⟩ => by
    refine ⟨fun e => ?_, notIn_new hg r l h2⟩
    cases e' with
    | text b => rw [h1.2.2.1] at e; cases e
    | start m at_ => have := (h1.2.2.1.lt g e).2; omega
    | stop m => rw [h1.2.2.1] at e; cases e
  | [], _ :: _, h => h.elim
  | [_], _, h => by cases ‹List Ev› <;> exact h.elim
  | [_, _], _, h => by cases ‹List Ev› <;> exact h.elim
  | [_, _, _], _, h => by cases ‹List Ev› <;> exact h.elim
  | _ :: _ :: _ :: _ :: _, [], h => h.elim
/-- a stream at cell o of block b, its events' cells told -/
structure StreamX (W : World) (base b o : Nat) (cs : Array Value) (T : TypeId) (evs : List Ev) (pend : List UInt8) (xs : List Value) : Prop where
  itx : ∃ ev p v, cs[o]? = some ev ∧ InB W base b (o + 1) cs T p v pend ∧ W.ownsRow base 39 4 ev evs.length xs ∧ EvsAt W base xs evs ∧ Apart xs
/-- a stream at cell o of block b -/
structure StreamAt (W : World) (base b o : Nat) (cs : Array Value) (T : TypeId) (evs : List Ev) (pend : List UInt8) : Prop where
  it : ∃ ev p v xs, cs[o]? = some ev ∧ InB W base b (o + 1) cs T p v pend ∧ W.ownsRow base 39 4 ev evs.length xs ∧ EvsAt W base xs evs ∧ Apart xs
theorem StreamAt.x {W : World} {base b o : Nat} {cs : Array Value} {T : TypeId} {evs : List Ev} {pend : List UInt8} (h : StreamAt W base b o cs T evs pend) : ∃ xs, StreamX W base b o cs T evs pend xs := by
  obtain ⟨ev, p, v, xs, h1⟩ := h.it
  exact ⟨xs, ⟨ev, p, v, h1⟩⟩
theorem StreamX.at {W : World} {base b o : Nat} {cs : Array Value} {T : TypeId} {evs : List Ev} {pend : List UInt8} {xs : List Value} (h : StreamX W base b o cs T evs pend xs) : StreamAt W base b o cs T evs pend := by
  obtain ⟨ev, p, v, h1⟩ := h.itx
  exact ⟨ev, p, v, xs, h1⟩
structure StreamT (T : TypeId) (cs : Array Value) (o : Nat) : Prop where
  lies : liesAt Tryd.prog Tryd.prog.depth T (cs.size / Tryd.prog.cellsOf T) (o + 1) 59 1 = true
  n0 : T ≠ 5
  n1 : T ≠ 101
  n2 : T ≠ 39

set_option maxHeartbeats 1000000 in
theorem putText_any (base b o : Nat) (cs : Array Value) (T : TypeId) (evs : List Ev) (pend : List UInt8) (s : ByteArray) (w : World) (h : StreamAt w base b o cs T evs pend) (hT : StreamT T cs o) (hlen : pend.length + s.size ≤ 140737488355328) :
    Calls Tryd.prog 52 #[.pointer (some ⟨b, o, none⟩), .string s] w fun e w' => e = .returned (.tuple #[]) ∧
      ∃ p v, StreamAt w' base b o ((cs.setIfInBounds (o + 1) p).setIfInBounds (o + 2) v) T evs (pend ++ s.data.toList) ∧ Below base w w' := by
  obtain ⟨ev, p, v, xs, hev, hin, hrow, hevs, hap⟩ := h.it
  have hw := write_in base b (o + 1) cs T p v pend s w hin hT.lies hT.n0 hlen
  have HW := hid hw
  clear hw
  go_enter Tryd.func52, Tryd.ntmps52
  go_wp2_with (go_at_call 76; refine HW.out.mono ?_; rintro e w1 ⟨rfl, v', hin', hbel, hk⟩)
  go_end0
  refine ⟨rfl, .pointer (some ⟨b, o + 1, none⟩), v', ⟨ev, _, v', xs, ?_, hin', row_keep hrow hin.at_ hT.n2 hin.own (by decide) hk, evs_keep hin.at_ hT.n1 hin.own hk xs evs hevs, hap⟩, hbel⟩
  rw [Array.getElem?_setIfInBounds, if_neg (by omega), Array.getElem?_setIfInBounds, if_neg (by omega)]
  exact hev
end Go.Proofs.YtkcgmimldjeaiaaDoor
