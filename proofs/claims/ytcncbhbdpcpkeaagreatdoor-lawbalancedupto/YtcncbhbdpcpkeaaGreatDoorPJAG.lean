/-
  Parts of the walk, joined: TagAttrs, Stream, Pour, Code, Clean.
-/
import Derived.Laws.Tables
import Derived.LoopN
import Derived.Test.YtcncbhbdpcpkeaaGreatDoorPJAA
import Derived.Test.YtcncbhbdpcpkeaaGreatDoorPJAE
import Derived.Test.YtcncbhbdpcpkeaaGreatDoorPJAD
import Derived.Test.YtcncbhbdpcpkeaaGreatDoorPJAC
import Derived.Test.YtcncbhbdpcpkeaaGreatDoorPJAB
/-
  lexer.tagAttrs: its walk.
-/
namespace Go.Proofs.YtcncbhbdpcpkeaaGreatDoor
open Go.RowKit Go.Lib Own

def attrsV (l : List (List UInt8 × List UInt8)) : List Value := l.flatMap fun a => [strV a.1, strV a.2]
theorem attrsV_len : ∀ l : List (List UInt8 × List UInt8), (attrsV l).length = l.length * 2
  | [] => rfl
  | a :: l => by
    have := attrsV_len l
    unfold attrsV at this ⊢
    simp only [List.flatMap_cons, List.length_append, List.length_cons, List.length_nil, this]
    omega
theorem attrsV_app (a b : List (List UInt8 × List UInt8)) : attrsV (a ++ b) = attrsV a ++ attrsV b := by
  unfold attrsV
  rw [List.flatMap_append]
theorem info_attr : (Tryz.prog.info? 122).map (fun i => (i.zero, i.size, i.bytes)) = some (some (.agg #[.string ⟨#[]⟩, .string ⟨#[]⟩]), 2, 32) := by kernel_rfl
end Go.Proofs.YtcncbhbdpcpkeaaGreatDoor

/-
  The stream of events inside another block: what it holds, and PutText: its walk.
-/
namespace Go.Proofs.YtcncbhbdpcpkeaaGreatDoor
open Go.RowKit Go.Lib Own

/-- the cells of a list of events: each an event's four -/
def EvsAt (W : World) (base : Nat) : List Value → List Ev → Prop
  | [], [] => True
  | k :: n :: a :: t :: r, e :: l => (match e with
    | .text b => k = .int .i64 3 ∧ n = .string ⟨#[]⟩ ∧ a = .slice none 0 0 ∧ t = strV b
    | .start m at_ => k = .int .i64 1 ∧ n = strV m ∧ W.ownsRow base 122 2 a at_.length (attrsV at_) ∧ t = .string ⟨#[]⟩
    | .stop m => k = .int .i64 2 ∧ n = strV m ∧ a = .slice none 0 0 ∧ t = .string ⟨#[]⟩) ∧ EvsAt W base r l
  | _, _ => False
/-- rows of another kind than the one that is written stay what they are -/
theorem row_keep {W W' : World} {base b : Nat} {e T : TypeId} {size n n0 : Nat} {v v0 : Value} {xs xs0 : List Value} {cs : Array Value} (h : W.ownsRow base e size v n xs) (hb : W.heap[b]? = some (.cells cs T (0, 0))) (hT : T ≠ e)
    (h0 : W.ownsRowF base 5 1 v0 n0 xs0) (he : e ≠ 5) (hk : ∀ k, k < W.heap.size → k ≠ b → v0.ownBlock ≠ some k → W'.heap[k]? = W.heap[k]?) : W'.ownsRow base e size v n xs := by
  refine ⟨h.1, ?_⟩
  rcases h.2 with h2 | ⟨g, cap, cur, rfl, hg0, hg, rest⟩
  · exact .inl h2
  · refine .inr ⟨g, cap, cur, rfl, hg0, ?_, rest⟩
    rw [hk g (Array.getElem?_eq_some_iff.1 hg).1 ?_ ?_]
    · exact hg
    · rintro rfl
      rw [hg] at hb
      simp only [Option.some.injEq, Obj.cells.injEq] at hb
      exact hT hb.2.1.symm
    · intro h3
      rcases h0.2 with ⟨rfl, _⟩ | ⟨g', cap', cur', fz, rfl, _, hg', _⟩
      · cases h3
      · simp only [Value.ownBlock, Option.some.injEq] at h3
        subst h3
        rw [hg] at hg'
        simp only [Option.some.injEq, Obj.cells.injEq] at hg'
        exact he hg'.2.1
theorem evs_keep {W W' : World} {base b : Nat} {T : TypeId} {n0 : Nat} {v0 : Value} {xs0 : List Value} {cs : Array Value} (hb : W.heap[b]? = some (.cells cs T (0, 0))) (hT : T ≠ 122)
    (h0 : W.ownsRowF base 5 1 v0 n0 xs0) (hk : ∀ k, k < W.heap.size → k ≠ b → v0.ownBlock ≠ some k → W'.heap[k]? = W.heap[k]?) : ∀ (xs : List Value) (l : List Ev), EvsAt W base xs l → EvsAt W' base xs l
  | [], [], _ => trivial
  | k :: n :: a :: t :: r, e :: l, ⟨h1, h2⟩ => by
    refine ⟨?_, evs_keep hb hT h0 hk r l h2⟩
    cases e with
    | text b => exact h1
    | start m at_ => exact ⟨h1.1, h1.2.1, row_keep h1.2.2.1 hb hT h0 (by decide) hk, h1.2.2.2⟩
    | stop m => exact h1
  | [], _ :: _, h => h.elim
  | [_], _, h => by cases ‹List Ev› <;> exact h.elim
  | [_, _], _, h => by cases ‹List Ev› <;> exact h.elim
  | [_, _, _], _, h => by cases ‹List Ev› <;> exact h.elim
  | _ :: _ :: _ :: _ :: _, [], h => h.elim
/-- no list of attributes of these events lies in block g -/
def NotIn (g : Nat) : List Value → Prop
  | _ :: _ :: a :: _ :: r => a.ownBlock ≠ some g ∧ NotIn g r
  | _ => True
/-- the lists of attributes lie in blocks of their own -/
def Apart : List Value → Prop
  | _ :: _ :: a :: _ :: r => (∀ g, a.ownBlock = some g → NotIn g r) ∧ Apart r
  | _ => True
theorem notIn_snoc {W : World} {base g : Nat} {k n a t : Value} (ha : a.ownBlock ≠ some g) : ∀ (xs : List Value) (l : List Ev), EvsAt W base xs l → NotIn g xs → NotIn g (xs ++ [k, n, a, t])
  | [], [], _, _ => ⟨ha, trivial⟩
  | k' :: n' :: a' :: t' :: r, e' :: l, ⟨_, h2⟩, hn => ⟨hn.1, notIn_snoc ha r l h2 hn.2⟩
  | [], _ :: _, h, _ => h.elim
  | [_], _, h, _ => by cases ‹List Ev› <;> exact h.elim
  | [_, _], _, h, _ => by cases ‹List Ev› <;> exact h.elim
  | [_, _, _], _, h, _ => by cases ‹List Ev› <;> exact h.elim
  | _ :: _ :: _ :: _ :: _, [], h, _ => h.elim
theorem apart_snoc {W : World} {base : Nat} {k n a t : Value} : ∀ (xs : List Value) (l : List Ev), EvsAt W base xs l → Apart xs → (∀ g, a.ownBlock = some g → NotIn g xs) → Apart (xs ++ [k, n, a, t])
  | [], [], _, _, _ => ⟨fun _ _ => trivial, trivial⟩
  | k' :: n' :: a' :: t' :: r, e' :: l, ⟨_, h2⟩, hp, hg => by
    refine ⟨fun g e => notIn_snoc (fun e2 => (hg g e2).1 e) r l h2 (hp.1 g e), apart_snoc r l h2 hp.2 (fun g e => (hg g e).2)⟩
  | [], _ :: _, h, _, _ => h.elim
  | [_], _, h, _, _ => by cases ‹List Ev› <;> exact h.elim
  | [_, _], _, h, _, _ => by cases ‹List Ev› <;> exact h.elim
  | [_, _, _], _, h, _, _ => by cases ‹List Ev› <;> exact h.elim
  | _ :: _ :: _ :: _ :: _, [], h, _, _ => h.elim
theorem notIn_new {W : World} {base g : Nat} (hg : W.heap.size ≤ g) : ∀ (xs : List Value) (l : List Ev), EvsAt W base xs l → NotIn g xs
  | [], [], _ => trivial
  | k' :: n' :: a' :: t' :: r, e' :: l, ⟨h1, h2⟩ => by
    refine ⟨fun e => ?_, notIn_new hg r l h2⟩
    cases e' with
    | text b => rw [h1.2.2.1] at e; cases e
    | start m at_ => have := (h1.2.2.1.lt g e).2; omega
    | stop m => rw [h1.2.2.1] at e; cases e
  | [], _ :: _, h => h.elim
  | [_], _, h => by cases ‹List Ev› <;> exact h.elim
  | [_, _], _, h => by cases ‹List Ev› <;> exact h.elim
  | [_, _, _], _, h => by cases ‹List Ev› <;> exact h.elim
  | _ :: _ :: _ :: _ :: _, [], h => h.elim
/-- a stream at cell o of block b, its events' cells told -/
structure StreamX (W : World) (base b o : Nat) (cs : Array Value) (T : TypeId) (evs : List Ev) (pend : List UInt8) (xs : List Value) : Prop where
  itx : ∃ ev p v, cs[o]? = some ev ∧ InB W base b (o + 1) cs T p v pend ∧ W.ownsRow base 60 4 ev evs.length xs ∧ EvsAt W base xs evs ∧ Apart xs
/-- a stream at cell o of block b -/
structure StreamAt (W : World) (base b o : Nat) (cs : Array Value) (T : TypeId) (evs : List Ev) (pend : List UInt8) : Prop where
  it : ∃ ev p v xs, cs[o]? = some ev ∧ InB W base b (o + 1) cs T p v pend ∧ W.ownsRow base 60 4 ev evs.length xs ∧ EvsAt W base xs evs ∧ Apart xs
theorem StreamAt.x {W : World} {base b o : Nat} {cs : Array Value} {T : TypeId} {evs : List Ev} {pend : List UInt8} (h : StreamAt W base b o cs T evs pend) : ∃ xs, StreamX W base b o cs T evs pend xs := by
  obtain ⟨ev, p, v, xs, h1⟩ := h.it
  exact ⟨xs, ⟨ev, p, v, h1⟩⟩
theorem StreamX.at {W : World} {base b o : Nat} {cs : Array Value} {T : TypeId} {evs : List Ev} {pend : List UInt8} {xs : List Value} (h : StreamX W base b o cs T evs pend xs) : StreamAt W base b o cs T evs pend := by
  obtain ⟨ev, p, v, h1⟩ := h.itx
  exact ⟨ev, p, v, xs, h1⟩
structure StreamT (T : TypeId) (cs : Array Value) (o : Nat) : Prop where
  lies : liesAt Tryz.prog Tryz.prog.depth T (cs.size / Tryz.prog.cellsOf T) (o + 1) 67 1 = true
  n0 : T ≠ 5
  n1 : T ≠ 122
  n2 : T ≠ 60

end Go.Proofs.YtcncbhbdpcpkeaaGreatDoor

/-
  chars.Pour, Drain and Normal: their walks.
-/
namespace Go.Proofs.YtcncbhbdpcpkeaaGreatDoor
open Go.RowKit Go.Lib

theorem normal_any (s : ByteArray) (w : World) (hs : s.size ≤ 35184372088832) :
    Calls Tryz.prog 193 #[.string s] w fun e w' =>
      e = .returned (.string ⟨(rd false false s.data.toList).1.toArray⟩) ∧ Below w.heap.size w w' := by
  go_enter Tryz.func193, Tryz.ntmps193
  go_wp2_with (go_at_call 225; refine (decode_false s false _ hs).mono ?_)
  rintro e W1 ⟨rfl, hbw⟩
  go_wp2
  go_ret
  exact ⟨rfl, hbw.alloc hbw.size _⟩
end Go.Proofs.YtcncbhbdpcpkeaaGreatDoor

/-
  scrublaw.begun and codeAt: their walks.
-/
namespace Go.Proofs.YtcncbhbdpcpkeaaGreatDoor
open Go.RowKit Go.Lib

/-- the character at the front of n bytes that begin so, and its length; none: length 0 -/
def codeN (n b0 b1 b2 b3 : Nat) : Nat × Nat :=
  if b0 < 128 then (b0, 1)
  else if b0 < 192 then (0, 0)
  else if b0 < 224 then
    (if 2 ≤ n ∧ (128 ≤ b1 ∧ b1 ≤ 191) ∧ 128 ≤ (b0 - 192) * 64 + (b1 - 128) then ((b0 - 192) * 64 + (b1 - 128), 2) else (0, 0))
  else if b0 < 240 then
    (if 3 ≤ n ∧ (128 ≤ b1 ∧ b1 ≤ 191) ∧ (128 ≤ b2 ∧ b2 ≤ 191) ∧ 2048 ≤ ((b0 - 224) * 64 + (b1 - 128)) * 64 + (b2 - 128)
     then (((b0 - 224) * 64 + (b1 - 128)) * 64 + (b2 - 128), 3) else (0, 0))
  else
    (if 4 ≤ n ∧ (128 ≤ b1 ∧ b1 ≤ 191) ∧ (128 ≤ b2 ∧ b2 ≤ 191) ∧ (128 ≤ b3 ∧ b3 ≤ 191) ∧ 65536 ≤ (((b0 - 240) * 64 + (b1 - 128)) * 64 + (b2 - 128)) * 64 + (b3 - 128) ∧
        (((b0 - 240) * 64 + (b1 - 128)) * 64 + (b2 - 128)) * 64 + (b3 - 128) ≤ 1114111
     then ((((b0 - 240) * 64 + (b1 - 128)) * 64 + (b2 - 128)) * 64 + (b3 - 128), 4) else (0, 0))
def codeL (l : List UInt8) : Nat × Nat := codeN l.length (l.getD 0 0).toNat (l.getD 1 0).toNat (l.getD 2 0).toNat (l.getD 3 0).toNat

theorem begun_any (s : ByteArray) (w : World) (hm : s.size ≤ 9223372036854775807) :
    Calls Tryz.prog 12 #[.string s] w fun e w' => e = .returned (.bool (s.data.toList.head? == some 120)) ∧ w' = w := by
  obtain ⟨b, hb⟩ : ∃ b, (s.data.toList.head? == some 120) = b := ⟨_, rfl⟩
  rw [hb]
  have HB := hid hb
  clear hb
  by_cases h0 : s.size = 0
  · have hz : ¬ ((0 : Int) < (s.size : Int)) := by omega
    go_enter Tryz.func12, Tryz.ntmps12
    go_wp2
    go_ret
    refine ⟨ret_bool ?_, rfl⟩
    rw [← HB.out]
    have : s.data.toList = [] := List.eq_nil_of_length_eq_zero (by rw [← size_eq]; exact h0)
    rw [this]; rfl
  · have hz : (0 : Int) < (s.size : Int) := by omega
    have hs0 : s[0]'(by omega) = s.get! 0 := (Utf8W.get!_of_lt s 0 (by omega)).symm
    generalize hx : s.get! 0 = x at hs0
    go_enter Tryz.func12, Tryz.ntmps12
    go_wp2
    go_ret
    refine ⟨ret_bool ?_, rfl⟩
    rw [← HB.out]
    have e : s.data.toList.head? = some x := by
      rw [← hx, ← getD_get!']
      cases hl : s.data.toList with
      | nil => rw [size_eq, hl] at h0; exact absurd rfl h0
      | cons a r => rfl
    rw [e]
    simp only [Option.some_beq_some]
    rw [Bool.eq_iff_iff, beq_iff_eq, beq_iff_eq, ← UInt8.toNat_inj]
    show _ ↔ x.toNat = 120
    omega

end Go.Proofs.YtcncbhbdpcpkeaaGreatDoor

/-
  scrublaw.codeAt at every place, and goodText: their walks.
-/
namespace Go.Proofs.YtcncbhbdpcpkeaaGreatDoor
open Go.RowKit Go.Lib

theorem codeL_le (l : List UInt8) (h : l ≠ []) : (codeL l).1 ≤ 1114111 ∧ (codeL l).2 ≤ l.length ∧ (codeL l).2 ≤ 4 := by
  have hl : 1 ≤ l.length := by cases l with | nil => exact absurd rfl h | cons a r => simp
  unfold codeL codeN
  have h0 := byte_lt l 0
  repeat' split
  all_goals (simp only; omega)

/-- is it all good characters -/
def goodTextL : Nat → List UInt8 → Bool
  | 0, _ => true
  | f + 1, l => if l = [] then true else if (codeL l).2 = 0 ∨ goodB (codeL l).1 = false then false else goodTextL f (l.drop (codeL l).2)
def gt (l : List UInt8) : Bool := goodTextL l.length l
theorem goodTextL_fuel : ∀ (f g : Nat) (l : List UInt8), l.length ≤ f → l.length ≤ g → goodTextL f l = goodTextL g l
  | 0, 0, _, _, _ => rfl
  | 0, g + 1, l, hf, _ => by
    have : l = [] := List.eq_nil_of_length_eq_zero (by omega)
    simp [goodTextL, this]
  | f + 1, 0, l, _, hg => by
    have : l = [] := List.eq_nil_of_length_eq_zero (by omega)
    simp [goodTextL, this]
  | f + 1, g + 1, l, hf, hg => by
    by_cases h0 : l = []
    · simp [goodTextL, h0]
    · by_cases h1 : (codeL l).2 = 0 ∨ goodB (codeL l).1 = false
      · simp only [goodTextL, h0, if_false, h1, if_true]
      · have hw := codeL_le l h0
        have ih := goodTextL_fuel f g (l.drop (codeL l).2) (by simp; omega) (by simp; omega)
        simp only [goodTextL, h0, if_false, h1, ih]
theorem gt_bad (l : List UInt8) (h0 : l ≠ []) (h : (codeL l).2 = 0 ∨ goodB (codeL l).1 = false) : gt l = false := by
  unfold gt
  cases l with
  | nil => exact absurd rfl h0
  | cons a r => simp only [List.length_cons, goodTextL, h, if_true]; simp
theorem gt_step (l : List UInt8) (h0 : l ≠ []) (h1 : (codeL l).2 ≠ 0) (h2 : goodB (codeL l).1 = true) : gt l = gt (l.drop (codeL l).2) := by
  have hw := codeL_le l h0
  have e : goodTextL (l.length - 1) (l.drop (codeL l).2) = gt (l.drop (codeL l).2) := goodTextL_fuel _ _ _ (by simp; omega) (Nat.le_refl _)
  have e1 : l.length = (l.length - 1) + 1 := by omega
  have h3 : ¬ ((codeL l).2 = 0 ∨ goodB (codeL l).1 = false) := by rw [h2]; simp [h1]
  conv => lhs; unfold gt; rw [e1]
  simp only [goodTextL, h0, if_false, h3, e]

end Go.Proofs.YtcncbhbdpcpkeaaGreatDoor
