/-
  Parts of the walk, joined: Gen, Plain, RefText, Text.
-/
import Derived.WalkKit
import Derived.WalkLawsBesides
import Derived.WalkSpells
import Derived.Laws.BitsLemmas
import Derived.Lib.FrozenHead
import Derived.Lib.FrozenHead2
import Derived.Lib.OthersKept
import Derived.Lib.Builder
import Derived.Deep.MidRow
import Derived.Lib.ConvBytes
import Derived.Lib.Strings
import Derived.Laws.IdiomStrings
import Derived.Lib.TrimUEq
import Derived.Lib.DecodeNEq
import Derived.Shelf.Unicode.DecodeSlow
import Derived.Lib.RuneBytes
/-
  Small facts on worlds, blocks and rows. No program is named here.
-/
namespace Go.Proofs.YtcncbhbdpcpkeaaGreatDoor
open Go.RowKit Go.Lib

theorem ret_bool {a b : Bool} (h : a = b) : Ending.returned (.bool a) = .returned (.bool b) := by rw [h]
theorem ret_i64 {a b : Int} (h : a = b) : Ending.returned (.int .i64 a) = .returned (.int .i64 b) := by rw [h]
theorem hid {p : Prop} (h : p) : Hid p := h
theorem cell_block {w : World} {b o : Nat} {v : Value} (h : w.cell? ⟨b, o, none⟩ = some v) : b < w.heap.size := by
  unfold World.cell? at h
  rcases Nat.lt_or_ge b w.heap.size with h1 | h1
  · exact h1
  · simp [h1] at h
theorem rangeAt_below {w w' : World} {b o : Nat} {cs : List Value} (h : w.rangeAt b o cs) (hb : Below w.heap.size w w') : w'.rangeAt b o cs := by
  intro j v hv
  have hc := h j v hv
  have := hb.block b (cell_block hc)
  unfold World.cell? at hc ⊢
  rw [this]
  exact hc
def strV (L : List UInt8) : Value := .string ⟨L.toArray⟩
theorem cell_low {base : Nat} {w w' : World} {b o : Nat} {v : Value} (h : w.cell? ⟨b, o, none⟩ = some v) (hb : Below base w w') (hlt : b < base) : w'.cell? ⟨b, o, none⟩ = some v := by
  have := hb.block b hlt
  unfold World.cell? at h ⊢
  rw [this]
  exact h
/-- a row's values, where it lies -/
theorem row_at {W : World} {base : Nat} {e : TypeId} {size n : Nat} {v : Value} {xs : List Value} (h : W.ownsRow base e size v n xs) (hn : 0 < n) : ∃ g cap, v = .slice (some ⟨g, 0, none⟩) n cap ∧ base ≤ g ∧ g < W.heap.size ∧ ∀ j, j < n * size → W.cell? ⟨g, j, none⟩ = xs[j]? := by
  rcases h.2 with ⟨_, h0⟩ | ⟨g, cap, cur, rfl, hg, hb, _⟩
  · exact absurd h0 (by omega)
  · exact ⟨g, cap, rfl, hg, (Array.getElem?_eq_some_iff.1 hb).1, fun j hj => h.cellAt j hj⟩
theorem row_shape {W : World} {base : Nat} {e : TypeId} {size n : Nat} {v : Value} {xs : List Value} (h : W.ownsRow base e size v n xs) : ∃ p c, v = .slice p n c := by
  rcases h.2 with ⟨rfl, rfl⟩ | ⟨g, cap, cur, rfl, _⟩
  · exact ⟨none, 0, rfl⟩
  · exact ⟨_, _, rfl⟩
theorem rows_ne {W : World} {base : Nat} {e1 e2 : TypeId} {z1 z2 n1 n2 : Nat} {v1 v2 : Value} {xs1 xs2 : List Value} (h1 : W.ownsRow base e1 z1 v1 n1 xs1) (h2 : W.ownsRow base e2 z2 v2 n2 xs2) (hne : e1 ≠ e2) : v1.ownBlock = none ∨ v1.ownBlock ≠ v2.ownBlock := by
  rcases h1.2 with ⟨rfl, _⟩ | ⟨g, cap, cur, rfl, _, hg, _⟩
  · exact .inl rfl
  · refine .inr (fun h3 => ?_)
    rcases h2.2 with ⟨rfl, _⟩ | ⟨g2, cap2, cur2, rfl, _, hg2, _⟩
    · cases h3
    · simp only [Value.ownBlock, Option.some.injEq] at h3
      subst h3
      rw [hg] at hg2
      simp only [Option.some.injEq, Obj.cells.injEq] at hg2
      exact hne hg2.2.1
theorem row_ne {W : World} {base b : Nat} {e T : TypeId} {size n : Nat} {v : Value} {xs : List Value} {cs : Array Value} (h : W.ownsRow base e size v n xs) (hb : W.heap[b]? = some (.cells cs T (0, 0))) (hT : T ≠ e) : v.ownBlock ≠ some b := by
  rcases h.2 with ⟨rfl, _⟩ | ⟨g, cap, cur, rfl, _, hg, _⟩
  · simp [Value.ownBlock]
  · intro h3
    simp only [Value.ownBlock, Option.some.injEq] at h3
    subst h3
    rw [hg] at hb
    simp only [Option.some.injEq, Obj.cells.injEq] at hb
    exact hT hb.2.1.symm
theorem row_just {W W' : World} {base b : Nat} {e T : TypeId} {size n : Nat} {v : Value} {xs : List Value} {cs : Array Value} (h : W.ownsRow base e size v n xs) (hb : W.heap[b]? = some (.cells cs T (0, 0))) (hT : T ≠ e) (hk : ∀ k, k ≠ b → W'.heap[k]? = W.heap[k]?) : W'.ownsRow base e size v n xs := by
  have hne := row_ne h hb hT
  refine ⟨h.1, ?_⟩
  rcases h.2 with h2 | ⟨g, cap, cur, rfl, hg0, hg, rest⟩
  · exact .inl h2
  · refine .inr ⟨g, cap, cur, rfl, hg0, ?_, rest⟩
    rw [hk g (fun e => hne (by simp [Value.ownBlock, e]))]
    exact hg
/-- behind it block b holds cs', and nothing else has changed -/
structure Just (W W' : World) (b : Nat) (cs' : Array Value) (T : TypeId) : Prop where
  os : W'.os = W.os
  tape : W'.tape = W.tape
  output : W'.output = W.output
  size : W'.heap.size = W.heap.size
  at_ : W'.heap[b]? = some (.cells cs' T (0, 0))
  other : ∀ k, k ≠ b → W'.heap[k]? = W.heap[k]?
theorem just_set {W : World} {b j : Nat} {cs : Array Value} {T : TypeId} (h : W.heap[b]? = some (.cells cs T (0, 0))) (v : Value) : Just W (W.setCell ⟨b, j, none⟩ v) b (cs.setIfInBounds j v) T :=
  ⟨rfl, rfl, rfl, by simp, heap_setCell_same W b j cs T v h, fun k hk => heap_setCell_other W ⟨b, j, none⟩ k v (fun e => hk (by simp [e]))⟩
theorem free_at {W : World} {b : Nat} {cs : Array Value} {T : TypeId} (h : W.heap[b]? = some (.cells cs T (0, 0))) (j : Nat) : W.frozen? ⟨b, j, none⟩ = false := frozen_of_row W b j cs T h
theorem cell_at {W : World} {b : Nat} {cs : Array Value} {T : TypeId} (h : W.heap[b]? = some (.cells cs T (0, 0))) {j : Nat} {v : Value} (hv : cs[j]? = some v) : W.cell? ⟨b, j, none⟩ = some v := by
  rw [cell_of_row W b j cs T (0, 0) h]; exact hv
theorem row_low {W : World} {B base : Nat} {e : TypeId} {size n : Nat} {v : Value} {xs : List Value} (h : W.ownsRow B e size v n xs) (hb : base ≤ B) : W.ownsRow base e size v n xs := by
  refine ⟨h.1, ?_⟩
  rcases h.2 with h2 | ⟨g, cap, cur, rfl, hg0, rest⟩
  · exact .inl h2
  · exact .inr ⟨g, cap, cur, rfl, by omega, rest⟩
theorem below_drewN {n : Nat} {w w' : World} (h : Below n w w') (k : Nat) : Below n w (w'.drewN k) := ⟨h.os, h.tape, h.output, h.size, h.block⟩
theorem cells_newV (L : List Value) (t : TypeId) (W : World) : ∀ j u, L[j]? = some u → (W.alloc (.cells L.toArray t)).cell? ((⟨W.heap.size, 0, none⟩ : Addr).add j) = some u := by
  intro j u hj
  have hadd : (⟨W.heap.size, 0, none⟩ : Addr).add j = ⟨W.heap.size, j, none⟩ := by unfold Addr.add; split <;> simp_all
  rw [hadd]
  unfold World.cell?
  rw [heap_alloc_new W (.cells L.toArray t)]
  simpa using hj
theorem block_lt {W : World} {b : Nat} {o : Obj} (h : W.heap[b]? = some o) : b < W.heap.size := (Array.getElem?_eq_some_iff.1 h).1
theorem row_of_block {W W' : World} {base : Nat} {e : TypeId} {size n : Nat} {v : Value} {xs : List Value} (h : W.ownsRow base e size v n xs) (hk : ∀ g, v.ownBlock = some g → W'.heap[g]? = W.heap[g]?) : W'.ownsRow base e size v n xs := by
  refine ⟨h.1, ?_⟩
  rcases h.2 with h2 | ⟨g, cap, cur, rfl, hg0, hg, rest⟩
  · exact .inl h2
  · exact .inr ⟨g, cap, cur, rfl, hg0, by rw [hk g rfl]; exact hg, rest⟩
theorem row_below {W W' : World} {base : Nat} {e : TypeId} {size n : Nat} {v : Value} {xs : List Value} (h : W.ownsRow base e size v n xs) (hb : Below W.heap.size W W') : W'.ownsRow base e size v n xs :=
  row_of_block h (fun g hg => hb.block g (h.lt g hg).2)
theorem cell_drew {w wr : World} (h : ∃ n, wr = w.drewN n) {b o : Nat} {v : Value} (hc : w.cell? ⟨b, o, none⟩ = some v) : wr.cell? ⟨b, o, none⟩ = some v := by
  obtain ⟨n, rfl⟩ := h
  exact hc
theorem getElem_list {s : ByteArray} {e : Nat} {x : UInt8} (h : e < s.size) (hx : s[e]'h = x) : s.data.toList[e]? = some x := by
  rw [List.getElem?_eq_getElem (by rw [← size_eq]; exact h), ← hx]
  rfl
end Go.Proofs.YtcncbhbdpcpkeaaGreatDoor

/-
  Plain facts on bytes and characters: how a text is decoded, cut and put together. No program is named here.
-/
namespace Go.Proofs.YtcncbhbdpcpkeaaGreatDoor
open Go.Lib

/-- a good character, by its number -/
def goodB (c : Int) : Bool :=
  decide (c < 32 ∧ (c = 9 ∨ c = 10 ∨ c = 12) ∨
    32 ≤ c ∧ ¬ (127 ≤ c ∧ c ≤ 159) ∧ ¬ (55296 ≤ c ∧ c ≤ 57343) ∧ ¬ (64976 ≤ c ∧ c ≤ 65007) ∧ c ≤ 1114111 ∧ c % 65536 < 65534)

/-- do n bytes that begin so hold a whole character, or none -/
def fullN (n b0 b1 b2 : Nat) : Bool :=
  decide (0 < n ∧ (firstT b0 % 8 ≤ n ∨ (1 < n ∧ (b1 < accLo (firstT b0 / 16) ∨ accHi (firstT b0 / 16) < b1)) ∨ (2 < n ∧ (b2 < 128 ∨ 191 < b2))))
def fullL (l : List UInt8) : Bool := fullN l.length (l.getD 0 0).toNat (l.getD 1 0).toNat (l.getD 2 0).toNat

end Go.Proofs.YtcncbhbdpcpkeaaGreatDoor

/-
  Character references: the tables and the whole answer, as plain functions on lists of bytes.
-/
namespace Go.Proofs.YtcncbhbdpcpkeaaGreatDoor
open Go.Lib

/-! ## what the loops go by -/

theorem while_step {p : UInt8 → Bool} {N : List UInt8} {e : Nat} {c : UInt8} (h : N[e]? = some c) (hp : p c = true) : (N.drop e).takeWhile p = c :: (N.drop (e + 1)).takeWhile p := by
  obtain ⟨h1, h2⟩ := List.getElem?_eq_some_iff.1 h
  rw [List.drop_eq_getElem_cons h1, h2, List.takeWhile_cons, if_pos hp]
theorem while_stop {p : UInt8 → Bool} {N : List UInt8} {e : Nat} (h : ∀ c, N[e]? = some c → p c = false) : (N.drop e).takeWhile p = [] := by
  rcases Nat.lt_or_ge e N.length with h1 | h1
  · rw [List.drop_eq_getElem_cons h1, List.takeWhile_cons, if_neg (by rw [h _ (List.getElem?_eq_getElem h1)]; simp)]
  · rw [List.drop_of_length_le h1]; rfl
end Go.Proofs.YtcncbhbdpcpkeaaGreatDoor

/-
  The decoder as a plain function on bytes, that it may be cut anywhere, and what its texts are. No program is named here.
-/
namespace Go.Proofs.YtcncbhbdpcpkeaaGreatDoor
open Go.Lib

theorem byte_lt (l : List UInt8) (j : Nat) : (l.getD j 0).toNat < 256 := (l.getD j 0).toNat_lt
theorem width_le (l : List UInt8) (h : l ≠ []) : 1 ≤ (decodeL l).2 ∧ (decodeL l).2 ≤ l.length := by
  rw [decodeL_N]
  have : 1 ≤ l.length := by cases l with | nil => exact absurd rfl h | cons a r => simp
  unfold decodeN
  repeat' split
  all_goals simp only
  all_goals omega
theorem rune_le (l : List UInt8) : (decodeL l).1 ≤ 1114111 := by
  rw [decodeL_N]
  have h0 := byte_lt l 0
  unfold decodeN
  repeat' split
  all_goals simp only
  all_goals omega

/-- what one character gives -/
def unitL (cr : Bool) (c : Nat) : List UInt8 :=
  if c = 13 then [10] else if c = 10 ∧ cr = true then [] else if goodB c = true then encodeRune c else encodeRune 65533
/-- the rest is an unfinished character, and more may come -/
def stopL (more : Bool) (l : List UInt8) : Bool := more && ((decodeL l).1 == 65533 && !fullL l)
/-- the text, what is left over, and whether the last character was a CR -/
def readL (more : Bool) : Nat → Bool → List UInt8 → List UInt8 × List UInt8 × Bool
  | 0, cr, _ => ([], [], cr)
  | f + 1, cr, l =>
    if l = [] then ([], [], cr)
    else if stopL more l = true then ([], l, cr)
    else (unitL cr (decodeL l).1 ++ (readL more f ((decodeL l).1 == 13) (l.drop (decodeL l).2)).1, (readL more f ((decodeL l).1 == 13) (l.drop (decodeL l).2)).2)
def rd (more : Bool) (cr : Bool) (l : List UInt8) : List UInt8 × List UInt8 × Bool := readL more l.length cr l

theorem readL_fuel (more : Bool) : ∀ (f g : Nat) (cr : Bool) (l : List UInt8), l.length ≤ f → l.length ≤ g → readL more f cr l = readL more g cr l
  | 0, 0, _, _, _, _ => rfl
  | 0, g + 1, cr, l, hf, _ => by
    have : l = [] := List.eq_nil_of_length_eq_zero (by omega)
    simp [readL, this]
  | f + 1, 0, cr, l, _, hg => by
    have : l = [] := List.eq_nil_of_length_eq_zero (by omega)
    simp [readL, this]
  | f + 1, g + 1, cr, l, hf, hg => by
    by_cases h0 : l = []
    · simp [readL, h0]
    · have hw := width_le l h0
      have ih := readL_fuel more f g ((decodeL l).1 == 13) (l.drop (decodeL l).2) (by simp; omega) (by simp; omega)
      simp only [readL, h0, if_false, ih]
theorem rd_nil (more cr : Bool) : rd more cr [] = ([], [], cr) := rfl
theorem rd_stop (more cr : Bool) (l : List UInt8) (h0 : l ≠ []) (h : stopL more l = true) : rd more cr l = ([], l, cr) := by
  unfold rd
  cases l with
  | nil => exact absurd rfl h0
  | cons a r => simp [readL, h]
theorem rd_step (more cr : Bool) (l : List UInt8) (h0 : l ≠ []) (h : stopL more l = false) :
    rd more cr l = (unitL cr (decodeL l).1 ++ (rd more ((decodeL l).1 == 13) (l.drop (decodeL l).2)).1, (rd more ((decodeL l).1 == 13) (l.drop (decodeL l).2)).2) := by
  have hw := width_le l h0
  have e : ∀ c, readL more (l.length - 1) c (l.drop (decodeL l).2) = rd more c (l.drop (decodeL l).2) :=
    fun c => readL_fuel more _ _ c _ (by simp; omega) (Nat.le_refl _)
  have e1 : l.length = (l.length - 1) + 1 := by omega
  conv => lhs; unfold rd; rw [e1]
  simp only [readL, h0, if_false, h, e, Bool.false_eq_true]

end Go.Proofs.YtcncbhbdpcpkeaaGreatDoor
