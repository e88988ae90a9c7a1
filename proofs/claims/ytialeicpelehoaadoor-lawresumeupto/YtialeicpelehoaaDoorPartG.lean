/-
  Parts of the walk, joined: PutEv, EvGet, SameEv, OwnEnd, Reader, ReadByte, SkipTag, LexFind.
-/
import Derived.Test.YtialeicpelehoaaDoorPartF
import Derived.BigQuiet
import Derived.Lib.Index
import Derived.Lib.Strings
import Derived.Test.YtialeicpelehoaaDoorPartC
/-
  The stream's Put: its walk.
-/
namespace Go.Proofs.YtialeicpelehoaaDoor
open Go.RowKit Go.Lib Own

theorem evs_snoc2 {W : World} {base : Nat} {k n a t : Value} {e : Ev} : ∀ (xs : List Value) (l : List Ev), EvsAt W base xs l → EvsAt W base [k, n, a, t] [e] → EvsAt W base (xs ++ [k, n, a, t]) (l ++ [e])
  | [], [], _, h => h
  | k' :: n' :: a' :: t' :: r, e' :: l, ⟨h1, h2⟩, h => ⟨h1, evs_snoc2 r l h2 h⟩
  | [], _ :: _, h, _ => h.elim
  | [_], _, h, _ => by cases ‹List Ev› <;> exact h.elim
  | [_, _], _, h, _ => by cases ‹List Ev› <;> exact h.elim
  | [_, _, _], _, h, _ => by cases ‹List Ev› <;> exact h.elim
  | _ :: _ :: _ :: _ :: _, [], h, _ => h.elim
theorem StreamAt.alloc {W : World} {base b o : Nat} {cs : Array Value} {T : TypeId} {evs : List Ev} {pend : List UInt8} (h : StreamAt W base b o cs T evs pend) (X : Obj) : StreamAt (W.alloc X) base b o cs T evs pend := by
  obtain ⟨ev, p, v, xs, hev, hin, hrow, hevs⟩ := h.it
  refine ⟨ev, p, v, xs, hev, ⟨(alloc_old _ _ b (Array.getElem?_eq_some_iff.1 hin.at_).1).trans hin.at_, hin.lo, hin.cp, hin.cv, hin.hp, ?_, hin.ne⟩, hrow.alloc _, evs_mono (fun a n ys hr => hr.alloc _) xs evs hevs⟩
  exact hin.own.kept (World.grownBy_alloc W X none) (by cases hv : v.ownBlock <;> simp)

theorem set_three (cs : Array Value) (o : Nat) (e1 e2 p v : Value) : (((cs.setIfInBounds o e1).setIfInBounds (o + 1) p).setIfInBounds (o + 2) v).setIfInBounds o e2 = ((cs.setIfInBounds o e2).setIfInBounds (o + 1) p).setIfInBounds (o + 2) v := by
  apply Array.ext_getElem?
  intro i
  simp only [Array.getElem?_setIfInBounds, Array.size_setIfInBounds]
  repeat' split
  all_goals first | rfl | omega
theorem rowF_ne {W : World} {base : Nat} {e2 : TypeId} {z2 n1 n2 : Nat} {v1 v2 : Value} {xs1 xs2 : List Value} (h1 : W.ownsRowF base 5 1 v1 n1 xs1) (h2 : W.ownsRow base e2 z2 v2 n2 xs2) (hne : e2 ≠ 5) : v1.ownBlock = none ∨ v1.ownBlock ≠ v2.ownBlock := by
  rcases h1.2 with ⟨rfl, _⟩ | ⟨g, cap, cur, fz, rfl, _, hg, _⟩
  · exact .inl rfl
  · refine .inr (fun h3 => ?_)
    rcases h2.2 with ⟨rfl, _⟩ | ⟨g2, cap2, cur2, rfl, _, hg2, _⟩
    · cases h3
    · simp only [Value.ownBlock, Option.some.injEq] at h3
      subst h3
      rw [hg] at hg2
      simp only [Option.some.injEq, Obj.cells.injEq] at hg2
      exact hne hg2.2.1.symm
set_option maxHeartbeats 4000000 in
set_option maxRecDepth 100000 in
theorem put_any (base b o : Nat) (cs : Array Value) (T : TypeId) (evs : List Ev) (pend : List UInt8) (k n a t : Value) (e0 : Ev) (w : World) (h : StreamAt w base b o cs T evs pend) (hT : StreamT T cs o) (hlen : evs.length ≤ 9000000) (h1 : EvsAt w base [k, n, a, t] [e0])
    (hone : ∀ u ∈ [k, n, a, t], u.oneCell' = true) :
    Calls Tryd.prog 99 #[.pointer (some ⟨b, o, none⟩), .agg #[k, n, a, t]] w fun e w' => e = .returned (.tuple #[]) ∧
      ∃ e1 p1 v1, StreamAt w' base b o (((cs.setIfInBounds o e1).setIfInBounds (o + 1) p1).setIfInBounds (o + 2) v1) T (flushE (evs, pend) ++ [e0]) [] ∧ Below base w w' := by
  obtain ⟨i0, hi, hz0, hz1, hz2⟩ := info_parts info_event
  have hend := fun W hW => endText_any base b o cs T evs pend W hW hT (by omega)
  obtain ⟨ev0, p0, v0, xs0, hev0, hin0, hrow0, _⟩ := h.it
  have hbs : b < w.heap.size := (Array.getElem?_eq_some_iff.1 hin0.at_).1
  have hlo := hin0.lo
  have hevlt : ev0.ownBlock ≠ some w.heap.size := fun hh => by have := (hrow0.lt _ hh).2; omega
  have hvlt : v0.ownBlock ≠ some w.heap.size := fun hh => by have := (hin0.own.lt _ hh).2; omega
  have hcv0 := hin0.cv
  have HE := hid hend
  clear hend hin0 hrow0
  go_enter Tryd.func99, Tryd.ntmps99
  go_wp2_with fail
  refine (HE.out _ (h.alloc _)).mono ?_
  rintro e w1 ⟨rfl, e1, p1, v1, hs, hbel, hrows, hkeep⟩
  have hpb : w1.heap[w.heap.size]? = some (.cells #[k, n, a, t] 44 (0, 0)) := (hkeep ev0 v0 hev0 hcv0 w.heap.size (by simp) (by omega) hevlt hvlt).trans (heap_alloc_new w _)
  have p0 := cell_at hpb (j := 0) rfl
  have p1' := cell_at hpb (j := 1) rfl
  have p2 := cell_at hpb (j := 2) rfl
  have p3 := cell_at hpb (j := 3) rfl
  obtain ⟨cs2, hcs2⟩ : ∃ cs2, ((cs.setIfInBounds o e1).setIfInBounds (o + 1) p1).setIfInBounds (o + 2) v1 = cs2 := ⟨_, rfl⟩
  rw [hcs2] at hs
  have hs2 := hs
  obtain ⟨ev, p, v, xs, hev, hin, hrow, hevs⟩ := hs.it
  have hb1 := hin.at_
  have ce := cell_at hb1 hev
  have fe := free_at hb1 o
  have hneb : ev.ownBlock ≠ some b := row_ne hrow hb1 hT.n2
  have hbl : base ≤ w1.heap.size := by have := (Array.getElem?_eq_some_iff.1 hb1).1; omega
  have hbs1 := (Array.getElem?_eq_some_iff.1 hb1).1
  have hfl : (flushE (evs, pend)).length ≤ 9000001 := by
    unfold flushE
    split
    · simp only; omega
    · simp only [List.length_append, List.length_singleton]; omega
  have h11 : EvsAt w1 base [k, n, a, t] [e0] := evs_mono (fun a n ys hr => hrows a n ys (hr.alloc _)) _ _ h1
  have HV := hid (And.intro hevs (And.intro h11 hin))
  have HK := hid hrows
  clear hevs h11 hin hs HE hkeep hrows
  go_wp2_with fail
  go_region_law (refine step_append_lies _ rfl (.tmp 10) (.tmp 12) 35 rfl base 44 i0 (.agg #[.int .i64 0, .string ⟨#[]⟩, .slice none 0 0, .string ⟨#[]⟩]) 4 64 Tryd.underlying35 hi hz0 hz1 hz2 rfl (by decide) ev (flushE (evs, pend)).length xs (by simp [Act.eval]) (by exact hrow.alloc _) ⟨_, 0, none⟩ 1 1 [k, n, a, t] (by simp [Act.eval]) rfl (cells_newV _ _ _) hone (by omega) (by unfold maxLen; omega) (by omega) (by simp; omega) _ rfl ?_; rintro g cap w10 hrow10 hgrow10 - -; have hb10 : w10.heap[b]? = some (.cells cs2 T (0, 0)) := ((hgrow10.block b (by simp; omega) (fun e => hneb e.symm)).trans (alloc_old _ _ b (by exact hbs1))).trans (by exact hb1); have ce10 := cell_at hb10 hev; have fe10 := free_at hb10 o)
  all_goals
    have j1 := just_set (j := o) hb10 (.slice (some ⟨g, 0, none⟩) ((flushE (evs, pend)).length + 1) cap)
    obtain ⟨hevs, h11, hin⟩ := HV.out
    have hg10 : (w1.alloc (.cells #[k, n, a, t] 44)).grownBy w10 ev.ownBlock := ⟨hgrow10.os, hgrow10.tape, hgrow10.output, hgrow10.size, hgrow10.block⟩
    have e10 : EvsAt w10 base (xs ++ [k, n, a, t]) (flushE (evs, pend) ++ [e0]) := evs_mono (fun a' n' ys hr => (hr.alloc _).kept hg10 (rows_ne hr hrow (by decide))) _ _ (evs_snoc2 xs _ hevs h11)
    have e11 := evs_mono (W' := w10.setCell ⟨b, o, none⟩ (.slice (some ⟨g, 0, none⟩) ((flushE (evs, pend)).length + 1) cap)) (fun a' n' ys hr => row_just hr hb10 hT.n1 j1.other) _ _ e10
    have r11 := row_just hrow10 hb10 hT.n2 j1.other
    have o10 : w10.ownsRowF base 5 1 v 0 (byteCells []) := (hin.own.kept (World.grownBy_alloc w1 _ none) (by cases hv : v.ownBlock <;> simp)).kept hg10 (rowF_ne hin.own hrow (by decide))
    have o11 := o10.kept (w' := w10.setCell ⟨b, o, none⟩ (.slice (some ⟨g, 0, none⟩) ((flushE (evs, pend)).length + 1) cap)) (row := some b) ⟨j1.os, j1.tape, j1.output, by rw [j1.size]; exact Nat.le_refl _, fun k _ hk => j1.other k (fun e => hk (by rw [e]))⟩ (.inr hin.ne)
    have b10 : Below base w1 w10 := ((Below.refl base w1).alloc (by omega) _).grown hg10 (by simp; omega) (fun k hk => (hrow.lt k hk).1)
    have bw : Below base w (w.alloc (.cells #[k, n, a, t] 44)) := (Below.refl base w).alloc (by omega) _
    have bfin := (bw.trans hbel).trans (b10.trans (j1.below hlo))
    have hat := j1.at_
    rw [← hcs2, set_three] at hat
    have hcp2 : (((cs.setIfInBounds o (.slice (some ⟨g, 0, none⟩) ((flushE (evs, pend)).length + 1) cap)).setIfInBounds (o + 1) p1).setIfInBounds (o + 2) v1)[o + 1]? = some p := by
      rw [← set_three cs o e1, hcs2, Array.getElem?_setIfInBounds, if_neg (by omega)]; exact hin.cp
    have hcv2 : (((cs.setIfInBounds o (.slice (some ⟨g, 0, none⟩) ((flushE (evs, pend)).length + 1) cap)).setIfInBounds (o + 1) p1).setIfInBounds (o + 2) v1)[o + 1 + 1]? = some v := by
      rw [← set_three cs o e1, hcs2, Array.getElem?_setIfInBounds, if_neg (by omega)]; exact hin.cv
    have hev2 : (((cs.setIfInBounds o (.slice (some ⟨g, 0, none⟩) ((flushE (evs, pend)).length + 1) cap)).setIfInBounds (o + 1) p1).setIfInBounds (o + 2) v1)[o]? = some (.slice (some ⟨g, 0, none⟩) ((flushE (evs, pend)).length + 1) cap) := by
      rw [← set_three cs o e1, hcs2, Array.getElem?_setIfInBounds, if_pos rfl, if_pos (Array.getElem?_eq_some_iff.1 hev).1]
    have hS : StreamAt (w10.setCell ⟨b, o, none⟩ (.slice (some ⟨g, 0, none⟩) ((flushE (evs, pend)).length + 1) cap)) base b o (((cs.setIfInBounds o (.slice (some ⟨g, 0, none⟩) ((flushE (evs, pend)).length + 1) cap)).setIfInBounds (o + 1) p1).setIfInBounds (o + 2) v1) T (flushE (evs, pend) ++ [e0]) [] :=
      ⟨_, p, v, _, hev2, ⟨hat, hlo, hcp2, hcv2, hin.hp, o11, hin.ne⟩, by rw [List.length_append]; exact r11, e11⟩
    have HS := hid hS
    have HB := hid bfin
    clear hS bfin e10 e11 r11 o10 o11 hat hcp2 hcv2 hev2 j1
    go_wp2
    go_end0
    exact ⟨rfl, _, _, _, HS.out, HB.out⟩
end Go.Proofs.YtialeicpelehoaaDoor

/-
  The cells of one event among a list's.
-/
namespace Go.Proofs.YtialeicpelehoaaDoor
open Go.RowKit Go.Lib Own

def evK : Ev → Nat
  | .text _ => 3
  | .start _ _ => 1
  | .stop _ => 2
def evN : Ev → List UInt8
  | .text _ => []
  | .start n _ => n
  | .stop n => n
def evA : Ev → List (List UInt8 × List UInt8)
  | .start _ a => a
  | _ => []
def evT : Ev → List UInt8
  | .text b => b
  | _ => []
theorem strV_nil : strV [] = .string ⟨#[]⟩ := rfl
theorem evs_get {W : World} {base : Nat} : ∀ (xs : List Value) (l : List Ev) (k : Nat) (e : Ev), EvsAt W base xs l → l[k]? = some e →
    ∃ a, xs[k * 4]? = some (.int .i64 (evK e : Nat)) ∧ xs[k * 4 + 1]? = some (strV (evN e)) ∧ xs[k * 4 + 2]? = some a ∧ xs[k * 4 + 3]? = some (strV (evT e)) ∧ W.ownsRow base 84 2 a (evA e).length (attrsV (evA e)) ∧ EvsAt W base [.int .i64 (evK e : Nat), strV (evN e), a, strV (evT e)] [e]
  | [], [], k, e, _, h => by simp at h
  | k' :: n :: a :: t :: r, e' :: l, 0, e, ⟨h1, h2⟩, h => by
    simp only [List.getElem?_cons_zero, Option.some.injEq] at h
    subst h
    cases e' with
    | text b =>
      obtain ⟨rfl, rfl, rfl, rfl⟩ := h1
      exact ⟨_, rfl, rfl, rfl, rfl, World.ownsRow_nil _ _ _ _, ⟨⟨rfl, rfl, rfl, rfl⟩, trivial⟩⟩
    | start m at_ =>
      obtain ⟨rfl, rfl, h3, rfl⟩ := h1
      exact ⟨_, rfl, rfl, rfl, rfl, h3, ⟨⟨rfl, rfl, h3, rfl⟩, trivial⟩⟩
    | stop m =>
      obtain ⟨rfl, rfl, rfl, rfl⟩ := h1
      exact ⟨_, rfl, rfl, rfl, rfl, World.ownsRow_nil _ _ _ _, ⟨⟨rfl, rfl, rfl, rfl⟩, trivial⟩⟩
  | k' :: n :: a :: t :: r, e' :: l, k + 1, e, ⟨h1, h2⟩, h => by
    rw [List.getElem?_cons_succ] at h
    obtain ⟨a', g1, g2, g3, g4, g5⟩ := evs_get r l k e h2 h
    refine ⟨a', ?_, ?_, ?_, ?_, g5⟩
    · rw [show (k + 1) * 4 = k * 4 + 4 by omega]; exact g1
    · rw [show (k + 1) * 4 + 1 = k * 4 + 1 + 4 by omega]; exact g2
    · rw [show (k + 1) * 4 + 2 = k * 4 + 2 + 4 by omega]; exact g3
    · rw [show (k + 1) * 4 + 3 = k * 4 + 3 + 4 by omega]; exact g4
  | [], _ :: _, _, _, h, _ => h.elim
  | [_], _, _, _, h, _ => by cases ‹List Ev› <;> exact h.elim
  | [_, _], _, _, _, h, _ => by cases ‹List Ev› <;> exact h.elim
  | [_, _, _], _, _, _, h, _ => by cases ‹List Ev› <;> exact h.elim
  | _ :: _ :: _ :: _ :: _, [], _, _, h, _ => h.elim
theorem evs_len {W : World} {base : Nat} : ∀ (xs : List Value) (l : List Ev), EvsAt W base xs l → xs.length = l.length * 4
  | [], [], _ => rfl
  | k' :: n :: a :: t :: r, e' :: l, ⟨h1, h2⟩ => by
    have := evs_len r l h2
    simp only [List.length_cons]
    omega
  | [], _ :: _, h => h.elim
  | [_], _, h => by cases ‹List Ev› <;> exact h.elim
  | [_, _], _, h => by cases ‹List Ev› <;> exact h.elim
  | [_, _, _], _, h => by cases ‹List Ev› <;> exact h.elim
  | _ :: _ :: _ :: _ :: _, [], h => h.elim
theorem evs_app {W : World} {base : Nat} : ∀ (xs : List Value) (l : List Ev) (ys : List Value) (m : List Ev), EvsAt W base xs l → EvsAt W base ys m → EvsAt W base (xs ++ ys) (l ++ m)
  | [], [], _, _, _, h => h
  | k' :: n :: a :: t :: r, e' :: l, ys, m, ⟨h1, h2⟩, h => ⟨h1, evs_app r l ys m h2 h⟩
  | [], _ :: _, _, _, h, _ => h.elim
  | [_], _, _, _, h, _ => by cases ‹List Ev› <;> exact h.elim
  | [_, _], _, _, _, h, _ => by cases ‹List Ev› <;> exact h.elim
  | [_, _, _], _, _, _, h, _ => by cases ‹List Ev› <;> exact h.elim
  | _ :: _ :: _ :: _ :: _, [], _, _, h, _ => h.elim
/-- a row's values, where it lies -/
theorem row_at {W : World} {base : Nat} {e : TypeId} {size n : Nat} {v : Value} {xs : List Value} (h : W.ownsRow base e size v n xs) (hn : 0 < n) : ∃ g cap, v = .slice (some ⟨g, 0, none⟩) n cap ∧ base ≤ g ∧ g < W.heap.size ∧ ∀ j, j < n * size → W.cell? ⟨g, j, none⟩ = xs[j]? := by
  rcases h.2 with ⟨_, h0⟩ | ⟨g, cap, cur, rfl, hg, hb, _⟩
  · exact absurd h0 (by omega)
  · exact ⟨g, cap, rfl, hg, (Array.getElem?_eq_some_iff.1 hb).1, fun j hj => h.cellAt j hj⟩

theorem row_shape {W : World} {base : Nat} {e : TypeId} {size n : Nat} {v : Value} {xs : List Value} (h : W.ownsRow base e size v n xs) : ∃ p c, v = .slice p n c := by
  rcases h.2 with ⟨rfl, rfl⟩ | ⟨g, cap, cur, rfl, _⟩
  · exact ⟨none, 0, rfl⟩
  · exact ⟨_, _, rfl⟩

end Go.Proofs.YtialeicpelehoaaDoor

/-
  The statement's comparing of events: its walk, where both hold the same.
-/
namespace Go.Proofs.YtialeicpelehoaaDoor
open Go.RowKit Go.Lib Own

theorem attrs_at (l : List (List UInt8 × List UInt8)) (k : Nat) (a : List UInt8 × List UInt8) (h : l[k]? = some a) : (attrsV l)[k * 2]? = some (strV a.1) ∧ (attrsV l)[k * 2 + 1]? = some (strV a.2) := by
  induction l generalizing k with
  | nil => simp at h
  | cons b l ih =>
    cases k with
    | zero =>
      simp only [List.getElem?_cons_zero, Option.some.injEq] at h
      subst h
      exact ⟨rfl, rfl⟩
    | succ k =>
      rw [List.getElem?_cons_succ] at h
      obtain ⟨h1, h2⟩ := ih k h
      refine ⟨?_, ?_⟩
      · rw [show (k + 1) * 2 = k * 2 + 1 + 1 by omega]; exact h1
      · rw [show (k + 1) * 2 + 1 = k * 2 + 1 + 1 + 1 by omega]; exact h2
theorem row_max {W : World} {base : Nat} {e : TypeId} {size n : Nat} {v : Value} {xs : List Value} (h : W.ownsRow base e size v n xs) : n ≤ 9223372036854775807 := by
  rcases h.2 with ⟨_, rfl⟩ | ⟨g, cap, cur, _, _, _, h1, h2, _⟩
  · omega
  · unfold maxLen at h2
    omega
set_option maxHeartbeats 2000000 in
set_option maxRecDepth 10000 in
theorem sameAttrs_any (B1 B2 : Nat) (v1 v2 : Value) (l : List (List UInt8 × List UInt8)) (w : World) (h1 : w.ownsRow B1 84 2 v1 l.length (attrsV l)) (h2 : w.ownsRow B2 84 2 v2 l.length (attrsV l)) :
    Calls Tryd.prog 27 #[v1, v2] w fun e w' => e = .returned (.bool true) ∧ ∃ n, w' = w.drewN n := by
  have hl := row_max h1
  obtain ⟨p1, k1, rfl⟩ := row_shape h1
  obtain ⟨p2, k2, rfl⟩ := row_shape h2
  have hlen : (attrsV l).length = l.length * 2 := attrsV_len l
  have H1 := hid h1
  have H2 := hid h2
  clear h1 h2
  go_enter Tryd.func27, Tryd.ntmps27
  have q0 : ((l.length : Int) != (l.length : Int)) = false := by simp
  go_wp2
  go_loopw [13] (fun iv wr => ∃ k n : Nat, iv = .int .i64 k ∧ k ≤ l.length ∧ wr = w.drewN n) (fun iv _ => l.length - (RowKit.intOf iv).toNat)
  case atStart => exact ⟨0, 0, rfl, Nat.zero_le _, rfl⟩
  case round =>
    obtain ⟨k, n, rfl, hk, rfl⟩ := hrel
    by_cases hkl : k < l.length
    · obtain ⟨g1, ca1, e1, _, _, hc1⟩ := row_at H1.out (by omega)
      obtain ⟨g2, ca2, e2, _, _, hc2⟩ := row_at H2.out (by omega)
      cases e1
      cases e2
      obtain ⟨x1, x2⟩ := attrs_at l k l[k] (List.getElem?_eq_getElem hkl)
      have a1 := (hc1 (k * 2) (by omega)).trans x1
      have a2 := (hc1 (k * 2 + 1) (by omega)).trans x2
      have b1 := (hc2 (k * 2) (by omega)).trans x1
      have b2 := (hc2 (k * 2 + 1) (by omega)).trans x2
      obtain ⟨u1, hu1⟩ : ∃ u1, (⟨l[k].1.toArray⟩ : ByteArray) = u1 := ⟨_, rfl⟩
      obtain ⟨u2, hu2⟩ : ∃ u2, (⟨l[k].2.toArray⟩ : ByteArray) = u2 := ⟨_, rfl⟩
      unfold strV at a1 a2 b1 b2
      rw [hu1] at a1 b1
      rw [hu2] at a2 b2
      clear hc1 hc2 x1 x2 hu1 hu2 H1 H2
      go_wp2_with fail
      go_quiet (fail)
      go_wp2
      go_roundw
      case rel => exact ⟨k + 1, n + nq, rfl, by omega, by first | rfl | simp⟩
      case measure => simp [RowKit.intOf]; omega
    · go_wp2
      go_ret
      exact ⟨rfl, n, rfl⟩

theorem cell_drew {w wr : World} (h : ∃ n, wr = w.drewN n) {b o : Nat} {v : Value} (hc : w.cell? ⟨b, o, none⟩ = some v) : wr.cell? ⟨b, o, none⟩ = some v := by
  obtain ⟨n, rfl⟩ := h
  exact hc
/-- the four cells of an event in a row -/
theorem ev_cells {W : World} {base : Nat} {v : Value} {xs : List Value} {l : List Ev} (h : W.ownsRow base 44 4 v l.length xs) (he : EvsAt W base xs l) (k : Nat) (hk : k < l.length) :
    ∃ g cap a, v = .slice (some ⟨g, 0, none⟩) l.length cap ∧ base ≤ g ∧ g < W.heap.size ∧ W.cell? ⟨g, k * 4, none⟩ = some (.int .i64 (evK l[k] : Nat)) ∧ W.cell? ⟨g, k * 4 + 1, none⟩ = some (strV (evN l[k])) ∧ W.cell? ⟨g, k * 4 + 2, none⟩ = some a ∧
      W.cell? ⟨g, k * 4 + 3, none⟩ = some (strV (evT l[k])) ∧ W.ownsRow base 84 2 a (evA l[k]).length (attrsV (evA l[k])) ∧ EvsAt W base [.int .i64 (evK l[k] : Nat), strV (evN l[k]), a, strV (evT l[k])] [l[k]] := by
  obtain ⟨g, cap, hv, hg1, hg2, hc⟩ := row_at h (by omega)
  obtain ⟨a, a0, a1, a2, a3, a4, a5⟩ := evs_get xs l k l[k] he (List.getElem?_eq_getElem hk)
  exact ⟨g, cap, a, hv, hg1, hg2, (hc _ (by omega)).trans a0, (hc _ (by omega)).trans a1, (hc _ (by omega)).trans a2, (hc _ (by omega)).trans a3, a4, a5⟩

set_option maxHeartbeats 4000000 in
set_option maxRecDepth 10000 in
theorem sameEvents_any (B1 B2 : Nat) (v1 v2 : Value) (xs1 xs2 : List Value) (l : List Ev) (w : World) (h1 : w.ownsRow B1 44 4 v1 l.length xs1) (e1 : EvsAt w B1 xs1 l) (h2 : w.ownsRow B2 44 4 v2 l.length xs2) (e2 : EvsAt w B2 xs2 l) :
    Calls Tryd.prog 16 #[v1, v2] w fun e w' => e = .returned (.bool true) ∧ ∃ n, w' = w.drewN n := by
  have hl := row_max h1
  obtain ⟨p1, k1, rfl⟩ := row_shape h1
  obtain ⟨p2, k2, rfl⟩ := row_shape h2
  have H1 := hid (And.intro h1 e1)
  have H2 := hid (And.intro h2 e2)
  clear h1 h2 e1 e2
  go_enter Tryd.func16, Tryd.ntmps16
  have q0 : ((l.length : Int) != (l.length : Int)) = false := by simp
  go_wp2
  go_loopw [13] (fun iv wr => ∃ k : Nat, iv = .int .i64 k ∧ k ≤ l.length ∧ Hid (True → ∃ n, wr = w.drewN n)) (fun iv _ => l.length - (RowKit.intOf iv).toNat)
  case atStart => exact ⟨0, rfl, Nat.zero_le _, hid (fun _ => ⟨0, rfl⟩)⟩
  case round =>
    obtain ⟨k, rfl, hk, HQ⟩ := hrel
    by_cases hkl : k < l.length
    · obtain ⟨g1, ca1, a1, ex1, _, _, b0, b1, b2, b3, b4, _⟩ := ev_cells H1.out.1 H1.out.2 k hkl
      obtain ⟨g2, ca2, a2, ex2, _, _, d0, d1, d2, d3, d4, _⟩ := ev_cells H2.out.1 H2.out.2 k hkl
      cases ex1
      cases ex2
      obtain ⟨sp1, sc1, rfl⟩ := row_shape b4
      obtain ⟨sp2, sc2, rfl⟩ := row_shape d4
      have hq := HQ.out trivial
      replace b0 := cell_drew hq b0
      replace b1 := cell_drew hq b1
      replace b2 := cell_drew hq b2
      replace b3 := cell_drew hq b3
      replace d0 := cell_drew hq d0
      replace d1 := cell_drew hq d1
      replace d2 := cell_drew hq d2
      replace d3 := cell_drew hq d3
      have hsame := fun n => sameAttrs_any B1 B2 _ _ (evA l[k]) (wr.drewN n) (by obtain ⟨n', rfl⟩ := hq; exact b4) (by obtain ⟨n', rfl⟩ := hq; exact d4)
      have HS := hid hsame
      clear hsame b4 d4 hq H1 H2
      obtain ⟨u1, hu1⟩ : ∃ u1, (⟨(evN l[k]).toArray⟩ : ByteArray) = u1 := ⟨_, rfl⟩
      obtain ⟨u2, hu2⟩ : ∃ u2, (⟨(evT l[k]).toArray⟩ : ByteArray) = u2 := ⟨_, rfl⟩
      unfold strV at b1 b3 d1 d3
      rw [hu1] at b1 d1
      rw [hu2] at b3 d3
      have q1 : (((evK l[k] : Nat) : Int) != ((evK l[k] : Nat) : Int)) = false := by simp
      generalize ((evK l[k] : Nat) : Int) = z at *
      clear hu1 hu2
      go_wp2_with fail
      go_quiet (first | (go_at_call 27; refine Calls.quiet_of (HS.out _)))
      go_wp2
      go_roundw
      case rel =>
        obtain ⟨n, hn⟩ := HQ.out trivial
        exact ⟨k + 1, rfl, by omega, hid (fun _ => ⟨n + nq, by rw [hn]; simp⟩)⟩
      case measure => simp [RowKit.intOf]; omega
    · go_wp2
      go_ret
      exact ⟨rfl, HQ.out trivial⟩
end Go.Proofs.YtialeicpelehoaaDoor

/-
  The reader's ownEnd: its walk.
-/
namespace Go.Proofs.YtialeicpelehoaaDoor
open Go.RowKit Go.Lib Own

/-- the reader's own six cells, ahead of its stream's three -/
structure RdAt (W : World) (b : Nat) (win : Int) (data : ByteArray) (pos mode scan : Int) (eat : Bool) : Prop where
  c0 : W.cell? ⟨b, 0, none⟩ = some (.int .i64 win)
  c1 : W.cell? ⟨b, 1, none⟩ = some (.string data)
  c2 : W.cell? ⟨b, 2, none⟩ = some (.int .i64 pos)
  c3 : W.cell? ⟨b, 3, none⟩ = some (.int .i64 mode)
  c4 : W.cell? ⟨b, 4, none⟩ = some (.int .i64 scan)
  c5 : W.cell? ⟨b, 5, none⟩ = some (.bool eat)

theorem own_go {o r : List UInt8} {k R : Nat} {x y : UInt8} (hx : r[k]? = some x) (hy : o[k]? = some y) (he : lowC x = y) (h : ownL (o.drop k) (r.drop k) = R) : ownL (o.drop (k + 1)) (r.drop (k + 1)) = R := by
  obtain ⟨h1, h2⟩ := List.getElem?_eq_some_iff.1 hx
  obtain ⟨h3, h4⟩ := List.getElem?_eq_some_iff.1 hy
  rw [List.drop_eq_getElem_cons h1, h2, List.drop_eq_getElem_cons h3, h4, ownL, if_pos he] at h
  exact h
theorem own_no {o r : List UInt8} {k R : Nat} {x y : UInt8} (hx : r[k]? = some x) (hy : o[k]? = some y) (he : lowC x ≠ y) (h : ownL (o.drop k) (r.drop k) = R) : R = 0 := by
  obtain ⟨h1, h2⟩ := List.getElem?_eq_some_iff.1 hx
  obtain ⟨h3, h4⟩ := List.getElem?_eq_some_iff.1 hy
  rw [List.drop_eq_getElem_cons h1, h2, List.drop_eq_getElem_cons h3, h4, ownL, if_neg he] at h
  exact h.symm
theorem own_short {o r : List UInt8} {k R : Nat} (hk : r.length ≤ k) (h : ownL (o.drop k) (r.drop k) = R) : R = 1 := by
  rw [List.drop_of_length_le hk] at h
  rw [← h]
  unfold ownL
  rfl
theorem own_told {o r : List UInt8} {k R : Nat} {x : UInt8} (hx : r[k]? = some x) (hk : o.length ≤ k) (h : ownL (o.drop k) (r.drop k) = R) : R = if endsC x then 2 else 0 := by
  obtain ⟨h1, h2⟩ := List.getElem?_eq_some_iff.1 hx
  rw [List.drop_of_length_le hk, List.drop_eq_getElem_cons h1, h2] at h
  exact h.symm

set_option maxHeartbeats 4000000 in
set_option maxRecDepth 10000 in
theorem ownEnd_any (b : Nat) (win : Int) (data : ByteArray) (pos mode : Nat) (scan : Int) (eat : Bool) (w : World) (hrd : RdAt w b win data pos mode scan eat) (hm1 : 1 ≤ mode) (hm2 : mode ≤ 10) (hd : data.size ≤ 10000000) (hp : pos ≤ data.size) :
    Calls Tryd.prog 42 #[.pointer (some ⟨b, 0, none⟩)] w fun e w' => e = .returned (.int .i64 (ownL (60 :: 47 :: rawL mode) (data.data.toList.drop pos) : Int)) ∧ ∃ n, w' = w.drewN n := by
  obtain ⟨c0, c1, c2, c3, c4, c5⟩ := hrd
  have hraw := fun W => raw_any mode hm1 hm2 W
  have hrl := raw_len mode
  obtain ⟨ob, hob⟩ : ∃ ob : ByteArray, (⟨#[60, 47]⟩ : ByteArray) ++ ⟨(rawL mode).toArray⟩ = ob := ⟨_, rfl⟩
  have hol : ob.data.toList = 60 :: 47 :: rawL mode := by rw [← hob, ByteArray.data_append, Array.toList_append]; rfl
  have hoz : ob.size ≤ 12 := by rw [size_eq, hol]; simp only [List.length_cons]; omega
  obtain ⟨t, ht⟩ : ∃ t : ByteArray, data.extract pos data.size = t := ⟨_, rfl⟩
  have htl : t.data.toList = data.data.toList.drop pos := by rw [← ht]; exact extract_to_end data pos
  have htz : t.size ≤ 10000000 := by rw [← ht, ByteArray.size_extract]; omega
  rw [← htl, ← hol]
  obtain ⟨R, hR⟩ : ∃ R, ownL ob.data.toList t.data.toList = R := ⟨_, rfl⟩
  rw [hR]
  obtain ⟨rb, hrb⟩ : ∃ rb : ByteArray, (⟨(rawL mode).toArray⟩ : ByteArray) = rb := ⟨_, rfl⟩
  rw [hrb] at hraw hob
  have hrz : rb.size ≤ 10 := by rw [← hrb, size_eq]; exact hrl
  obtain ⟨mn, hmn⟩ : ∃ mn, min t.size ob.size = mn := ⟨_, rfl⟩
  have hmin : min (t.size : Int) (ob.size : Int) = (mn : Int) := by omega
  have hmt : mn ≤ t.size := by omega
  have hmo : mn ≤ ob.size := by omega
  have hmc : mn = t.size ∨ mn = ob.size := by omega
  have HR := hid (fun (_ : True) => hR)
  have HW := hid hraw
  clear hR hraw hol htl hrb hrl hmn
  go_enter Tryd.func42, Tryd.ntmps42
  go_wp2_with (go_at_call 65; refine (HW.out _).mono ?_; rintro e w' ⟨rfl, rfl⟩)
  go_quiet (fail)
  go_wp2
  go_loopw [5] (fun iv wr => ∃ k : Nat, iv = .int .i64 k ∧ k ≤ mn ∧ Hid (True → ∃ n, wr = w'.drewN n) ∧ Hid (True → ownL (ob.data.toList.drop k) (t.data.toList.drop k) = R)) (fun iv _ => mn - (RowKit.intOf iv).toNat)
  case atStart => exact ⟨0, rfl, Nat.zero_le _, hid (fun _ => ⟨_, rfl⟩), HR.out⟩
  case round =>
    obtain ⟨k, rfl, hk, HQ, HA⟩ := hrel
    by_cases hkm : k < mn
    · have hkt : k < t.size := by omega
      have hko : k < ob.size := by omega
      obtain ⟨x, hx⟩ : ∃ x, t[k]'hkt = x := ⟨_, rfl⟩
      obtain ⟨y, hy⟩ : ∃ y, ob[k]'hko = y := ⟨_, rfl⟩
      have hlx := getElem_list hkt hx
      have hly := getElem_list hko hy
      have hlt := x.toNat_lt
      have hlow := fun W => low_any (x.toNat : Int) (by omega) (by omega) W
      rw [lowZ_C] at hlow
      have hib := int_beq (lowC x) y
      by_cases he : lowC x = y
      · have HB := hid (fun (_ : True) => own_go hlx hly he (HA.out trivial))
        rw [beq_iff_eq.2 he] at hib
        clear he hlx hly HA
        generalize ((lowC x).toNat : Int) = z at hlow hib
        go_wp2_with fail
        go_quiet (first | (go_at_call 66; refine Calls.quiet_of_same (hlow _)))
        go_wp2
        go_roundw
        case rel =>
          obtain ⟨n, hn⟩ := HQ.out trivial
          exact ⟨k + 1, rfl, by omega, hid (fun _ => ⟨n + nq, by rw [hn]; simp⟩), HB.out⟩
        case measure => simp [RowKit.intOf]; omega
      · have h0 := own_no hlx hly he (HA.out trivial)
        subst h0
        rw [beq_eq_false_iff_ne.2 he] at hib
        have q1 : ((k : Int) == (t.size : Int)) = false := beq_eq_false_iff_ne.2 (by omega)
        have q2 : ((k : Int) == (ob.size : Int)) = false := beq_eq_false_iff_ne.2 (by omega)
        clear he hlx hly HA HR
        generalize ((lowC x).toNat : Int) = z at hlow hib
        go_wp2_with fail
        go_quiet (first | (go_at_call 66; refine Calls.quiet_of_same (hlow _)))
        go_wp2
        go_ret
        obtain ⟨n, hn⟩ := HQ.out trivial
        exact ⟨rfl, n + nq, by rw [hn]; simp⟩
    · have hk' : k = mn := by omega
      subst hk'
      by_cases hkt : k = t.size
      · have h1 := own_short (by rw [← size_eq]; omega) (HA.out trivial)
        subst h1
        have q1 : ((k : Int) == (t.size : Int)) = true := beq_iff_eq.2 (by omega)
        have q0 : ¬ (k : Int) < (k : Int) := by omega
        clear HA HR hkt
        go_wp2_with fail
        go_quiet (fail)
        go_wp2
        go_ret
        obtain ⟨n, hn⟩ := HQ.out trivial
        exact ⟨rfl, n + nq, by rw [hn]; simp⟩
      · have hko : k = ob.size := hmc.resolve_left hkt
        have hkl : k < t.size := by omega
        obtain ⟨x, hx⟩ : ∃ x, t[k]'hkl = x := ⟨_, rfl⟩
        have h1 := own_told (getElem_list hkl hx) (by rw [← size_eq]; omega) (HA.out trivial)
        have hen := fun W => ends_any x W
        generalize endsC x = c at h1 hen
        have q1 : ((k : Int) == (t.size : Int)) = false := beq_eq_false_iff_ne.2 (by omega)
        have q2 : ((k : Int) == (ob.size : Int)) = true := beq_iff_eq.2 (by omega)
        clear HA HR hkt hko
        subst h1
        cases c
        all_goals
          go_wp2_with fail
          go_quiet (fail)
          go_wp2_with (go_at_call 67; refine (hen _).mono ?_; rintro e W9 ⟨rfl, rfl⟩)
          go_ret
          obtain ⟨n, hn⟩ := HQ.out trivial
          exact ⟨rfl, n + nq, by rw [hn]; simp⟩
end Go.Proofs.YtialeicpelehoaaDoor

/-
  The reader's state; unit, beginSkip: their walks.
-/
namespace Go.Proofs.YtialeicpelehoaaDoor
open Go.RowKit Go.Lib Own

/-- the reader's nine cells -/
def rdC (win : Int) (data : ByteArray) (pos mode scan : Int) (eat : Bool) (ev p v : Value) : Array Value :=
  #[.int .i64 win, .string data, .int .i64 pos, .int .i64 mode, .int .i64 scan, .bool eat, ev, p, v]
structure Rdr (W : World) (base b : Nat) (win : Int) (data : ByteArray) (pos mode scan : Int) (eat : Bool) (evs : List Ev) (pend : List UInt8) : Prop where
  it : ∃ ev p v, StreamAt W base b 6 (rdC win data pos mode scan eat ev p v) 61 evs pend
theorem rd_T (win : Int) (data : ByteArray) (pos mode scan : Int) (eat : Bool) (ev p v : Value) : StreamT 61 (rdC win data pos mode scan eat ev p v) 6 :=
  ⟨by show liesAt Tryd.prog Tryd.prog.depth 61 (9 / Tryd.prog.cellsOf 61) 7 57 1 = true; kernel_rfl, by decide, by decide, by decide⟩
theorem StreamAt.heap {W : World} {base b o : Nat} {cs : Array Value} {T : TypeId} {evs : List Ev} {pend : List UInt8} (h : StreamAt W base b o cs T evs pend) : W.heap[b]? = some (.cells cs T (0, 0)) ∧ base ≤ b := by
  obtain ⟨ev, p, v, xs, hev, hin, hrow, hevs⟩ := h.it
  exact ⟨hin.at_, hin.lo⟩
/-- a cell that is none of the stream's three is stored -/
theorem StreamAt.stored {W : World} {base b o : Nat} {cs : Array Value} {T : TypeId} {evs : List Ev} {pend : List UInt8} (h : StreamAt W base b o cs T evs pend) (hT : StreamT T cs o) (j : Nat) (hj : j < o) (u : Value) : StreamAt (W.setCell ⟨b, j, none⟩ u) base b o (cs.setIfInBounds j u) T evs pend := by
  obtain ⟨ev, p, v, xs, hev, hin, hrow, hevs⟩ := h.it
  have j1 := just_set (j := j) hin.at_ u
  refine ⟨ev, p, v, xs, ?_, ⟨j1.at_, hin.lo, ?_, ?_, hin.hp, ?_, hin.ne⟩, row_just hrow hin.at_ hT.n2 j1.other, evs_mono (fun a n ys hr => row_just hr hin.at_ hT.n1 j1.other) xs evs hevs⟩
  · rw [Array.getElem?_setIfInBounds, if_neg (by omega)]; exact hev
  · rw [Array.getElem?_setIfInBounds, if_neg (by omega)]; exact hin.cp
  · rw [Array.getElem?_setIfInBounds, if_neg (by omega)]; exact hin.cv
  · exact hin.own.kept (row := some b) ⟨j1.os, j1.tape, j1.output, by rw [j1.size]; exact Nat.le_refl _, fun k _ hk => j1.other k (fun e => hk (by rw [e]))⟩ (.inr hin.ne)

set_option maxHeartbeats 1000000 in
theorem unit_any (base b : Nat) (win : Int) (data : ByteArray) (pos mode scan : Int) (eat : Bool) (evs : List Ev) (pend : List UInt8) (s : ByteArray) (w : World) (h : Rdr w base b win data pos mode scan eat evs pend) (hlen : pend.length + s.size ≤ 140737488355328) :
    Calls Tryd.prog 41 #[.pointer (some ⟨b, 0, none⟩), .string s] w fun e w' => e = .returned (.tuple #[]) ∧
      Rdr w' base b win data pos mode scan false evs (if eat = true ∧ s.data.toList = [10] then pend else pend ++ s.data.toList) ∧ Below base w w' := by
  obtain ⟨ev, p, v, hS⟩ := h.it
  obtain ⟨hat, hlo⟩ := hS.heap
  have c5 : w.cell? ⟨b, 5, none⟩ = some (.bool eat) := cell_at hat rfl
  have f5 := free_at hat 5
  have hput := putText_any base b 6 _ _ evs pend s w hS (rd_T _ _ _ _ _ _ _ _ _) hlen
  have hskip := hS.stored (rd_T _ _ _ _ _ _ _ _ _) 5 (by omega) (.bool false)
  have jb := (just_set (j := 5) hat (.bool false)).below hlo
  have HP := hid hput
  have HK := hid hskip
  have HB := hid jb
  clear hput hskip jb hS hat h
  by_cases hs : eat = true ∧ s.toList = [10]
  · obtain ⟨rfl, h10⟩ := hs
    have q : (s.toList != [10]) = false := by rw [h10]; rfl
    have h10' : s.data.toList = [10] := by rw [← Lib.toList_data]; exact h10
    rw [if_pos ⟨rfl, h10'⟩]
    clear h10'
    go_enter Tryd.func41, Tryd.ntmps41
    go_wp2
    go_end0
    exact ⟨rfl, ⟨ev, p, v, HK.out⟩, HB.out⟩
  · have hs' : ¬ (eat = true ∧ s.data.toList = [10]) := by rw [← Lib.toList_data]; exact hs
    rw [if_neg hs']
    have go : eat = false ∨ (eat = true ∧ (s.toList == [10]) = false) := by
      cases eat
      · exact .inl rfl
      · exact .inr ⟨rfl, beq_eq_false_iff_ne.2 (fun h => hs ⟨rfl, h⟩)⟩
    clear hs hs' HK HB
    rcases go with rfl | ⟨rfl, q⟩
    all_goals
      try have q2 : (s.toList != [10]) = true := by rw [bne, q]; rfl
      go_enter Tryd.func41, Tryd.ntmps41
      go_wp2_with fail
      refine HP.out.mono ?_
      rintro e w1 ⟨rfl, p', v', hS1, b1⟩
      obtain ⟨hat1, hlo1⟩ := hS1.heap
      have hskip := hS1.stored (rd_T _ _ _ _ _ _ ev p' v') 5 (by omega) (.bool false)
      have jb := (just_set (j := 5) hat1 (.bool false)).below hlo1
      have f51 := free_at hat1 5
      have HK := hid hskip
      have HB := hid (b1.trans jb)
      clear hskip jb hS1 b1
      first
        | (have c51 : w1.cell? ⟨b, 5, none⟩ = some (.bool false) := cell_at hat1 rfl; clear hat1; go_wp2; go_end0; exact ⟨rfl, ⟨ev, p', v', HK.out⟩, HB.out⟩)
        | (have c51 : w1.cell? ⟨b, 5, none⟩ = some (.bool true) := cell_at hat1 rfl; clear hat1; go_wp2; go_end0; exact ⟨rfl, ⟨ev, p', v', HK.out⟩, HB.out⟩)
end Go.Proofs.YtialeicpelehoaaDoor

/-
  The reader's readByte: its walk.
-/
namespace Go.Proofs.YtialeicpelehoaaDoor
open Go.RowKit Go.Lib Own

theorem StreamAt.drew {W : World} {base b o : Nat} {cs : Array Value} {T : TypeId} {evs : List Ev} {pend : List UInt8} (h : StreamAt W base b o cs T evs pend) : StreamAt W.drew base b o cs T evs pend := by
  obtain ⟨ev, p, v, xs, hev, hin, hrow, hevs⟩ := h.it
  exact ⟨ev, p, v, xs, hev, ⟨hin.at_, hin.lo, hin.cp, hin.cv, hin.hp, hin.own, hin.ne⟩, hrow, evs_mono (W := W) (W' := W.drew) (fun _ _ _ h => h) xs evs hevs⟩
theorem Rdr.drew {W : World} {base b : Nat} {win : Int} {data : ByteArray} {pos mode scan : Int} {eat : Bool} {evs : List Ev} {pend : List UInt8} (h : Rdr W base b win data pos mode scan eat evs pend) : Rdr W.drew base b win data pos mode scan eat evs pend := by
  obtain ⟨ev, p, v, hS⟩ := h.it
  exact ⟨ev, p, v, hS.drew⟩
theorem Rdr.cells {W : World} {base b : Nat} {win : Int} {data : ByteArray} {pos mode scan : Int} {eat : Bool} {evs : List Ev} {pend : List UInt8} (h : Rdr W base b win data pos mode scan eat evs pend) : RdAt W b win data pos mode scan eat ∧ (∀ j, W.frozen? ⟨b, j, none⟩ = false) ∧ base ≤ b := by
  obtain ⟨ev, p, v, hS⟩ := h.it
  obtain ⟨hat, hlo⟩ := hS.heap
  exact ⟨⟨cell_at hat rfl, cell_at hat rfl, cell_at hat rfl, cell_at hat rfl, cell_at hat rfl, cell_at hat rfl⟩, fun j => free_at hat j, hlo⟩
theorem Rdr.setPos {W : World} {base b : Nat} {win : Int} {data : ByteArray} {pos mode scan : Int} {eat : Bool} {evs : List Ev} {pend : List UInt8} (h : Rdr W base b win data pos mode scan eat evs pend) (q : Int) :
    Rdr (W.setCell ⟨b, 2, none⟩ (.int .i64 q)) base b win data q mode scan eat evs pend ∧ Below base W (W.setCell ⟨b, 2, none⟩ (.int .i64 q)) := by
  obtain ⟨ev, p, v, hS⟩ := h.it
  obtain ⟨hat, hlo⟩ := hS.heap
  exact ⟨⟨ev, p, v, hS.stored (rd_T _ _ _ _ _ _ _ _ _) 2 (by omega) (.int .i64 q)⟩, (just_set (j := 2) hat (.int .i64 q)).below hlo⟩

set_option maxHeartbeats 1000000 in
set_option maxRecDepth 10000 in
theorem readByte_any (base b : Nat) (win : Int) (data : ByteArray) (pos : Nat) (mode scan : Int) (eat : Bool) (evs : List Ev) (pend : List UInt8) (w : World) (h : Rdr w base b win data pos mode scan eat evs pend) (hlen : pend.length + 1 ≤ 140737488355328) (hd : data.size ≤ 10000000)
    (hp : pos < data.size) (x : UInt8) (hx : data.data.toList[pos]? = some x) :
    Calls Tryd.prog 43 #[.pointer (some ⟨b, 0, none⟩)] w fun e w' => e = .returned (.tuple #[]) ∧
      Rdr w' base b win data ((pos : Int) + 1) mode scan false evs (if eat = true ∧ [x] = [10] then pend else pend ++ [x]) ∧ Below base w w' := by
  obtain ⟨⟨c0, c1, c2, c3, c4, c5⟩, _, _⟩ := h.cells
  obtain ⟨s, hs⟩ : ∃ s, data.extract pos (pos + 1) = s := ⟨_, rfl⟩
  have hsl : s.data.toList = [x] := by
    rw [← hs, part_slice, part_more _ pos pos x (Nat.le_refl _) hx, List.drop_of_length_le (by rw [List.length_take]; omega)]
    rfl
  have hsz : s.size = 1 := by rw [size_eq, hsl]; rfl
  have hu := fun W hW => unit_any base b win data pos mode scan eat evs pend s W hW (by omega)
  rw [hsl] at hu
  generalize (if eat = true ∧ [x] = [10] then pend else pend ++ [x]) = P at hu ⊢
  have hwr : IntKind.i64.wrap ((pos : Int) + 1) = (pos : Int) + 1 := by rw [IntKind.wrap_i64]; omega
  have hq0 : 0 ≤ (pos : Int) + 1 := by omega
  have hq1 : (pos : Int) + 1 ≤ (data.size : Int) := by omega
  have hq2 : (pos : Int) ≤ (pos : Int) + 1 := by omega
  have HU := hid hu
  have HR := hid h
  clear hu h hsl hsz hx
  go_enter Tryd.func43, Tryd.ntmps43
  go_wp2_with fail
  go_region_law (go_simp; go_at_call 41; refine (HU.out _ (by exact HR.out.drew)).mono ?_; rintro e w1 ⟨rfl, hr1, b1⟩; obtain ⟨⟨k0, k1, k2, k3, k4, k5⟩, kf, _⟩ := hr1.cells; have kf2 := kf 2; clear kf)
  all_goals
    obtain ⟨r2, b2⟩ := hr1.setPos ((pos : Int) + 1)
    have bb : Below base w w1 := ⟨b1.os, b1.tape, b1.output, b1.size, b1.block⟩
    have H2 := hid r2
    have HB := hid (bb.trans b2)
    clear hr1 r2 b1 b2 bb
    go_wp2
    go_end0
    exact ⟨rfl, H2.out, HB.out⟩
end Go.Proofs.YtialeicpelehoaaDoor

/-
  The reader's skipTag, beginSkip: their walks.
-/
namespace Go.Proofs.YtialeicpelehoaaDoor
open Go.RowKit Go.Lib Own

theorem Rdr.drewN {W : World} {base b : Nat} {win : Int} {data : ByteArray} {pos mode scan : Int} {eat : Bool} {evs : List Ev} {pend : List UInt8} (h : Rdr W base b win data pos mode scan eat evs pend) (n : Nat) : Rdr (W.drewN n) base b win data pos mode scan eat evs pend := by
  obtain ⟨ev, p, v, hS⟩ := h.it
  obtain ⟨ev', p', v', xs, hev, hin, hrow, hevs⟩ := hS.it
  exact ⟨ev, p, v, ⟨ev', p', v', xs, hev, ⟨hin.at_, hin.lo, hin.cp, hin.cv, hin.hp, hin.own, hin.ne⟩, hrow, evs_mono (W := W) (W' := W.drewN n) (fun _ _ _ h => h) xs evs hevs⟩⟩
theorem Rdr.setScan {W : World} {base b : Nat} {win : Int} {data : ByteArray} {pos mode scan : Int} {eat : Bool} {evs : List Ev} {pend : List UInt8} (h : Rdr W base b win data pos mode scan eat evs pend) (q : Int) :
    Rdr (W.setCell ⟨b, 4, none⟩ (.int .i64 q)) base b win data pos mode q eat evs pend ∧ Below base W (W.setCell ⟨b, 4, none⟩ (.int .i64 q)) := by
  obtain ⟨ev, p, v, hS⟩ := h.it
  obtain ⟨hat, hlo⟩ := hS.heap
  exact ⟨⟨ev, p, v, hS.stored (rd_T _ _ _ _ _ _ _ _ _) 4 (by omega) (.int .i64 q)⟩, (just_set (j := 4) hat (.int .i64 q)).below hlo⟩
theorem Rdr.setEat {W : World} {base b : Nat} {win : Int} {data : ByteArray} {pos mode scan : Int} {eat : Bool} {evs : List Ev} {pend : List UInt8} (h : Rdr W base b win data pos mode scan eat evs pend) (q : Bool) :
    Rdr (W.setCell ⟨b, 5, none⟩ (.bool q)) base b win data pos mode scan q evs pend ∧ Below base W (W.setCell ⟨b, 5, none⟩ (.bool q)) := by
  obtain ⟨ev, p, v, hS⟩ := h.it
  obtain ⟨hat, hlo⟩ := hS.heap
  exact ⟨⟨ev, p, v, hS.stored (rd_T _ _ _ _ _ _ _ _ _) 5 (by omega) (.bool q)⟩, (just_set (j := 5) hat (.bool q)).below hlo⟩

set_option maxHeartbeats 1000000 in
set_option maxRecDepth 10000 in
theorem beginSkip_any (base b : Nat) (win : Int) (data : ByteArray) (pos : Nat) (mode scan : Int) (eat : Bool) (evs : List Ev) (pend : List UInt8) (w : World) (h : Rdr w base b win data pos mode scan eat evs pend) (hd : data.size ≤ 10000000) (hp : pos ≤ data.size) (q : Int) :
    Calls Tryd.prog 97 #[.pointer (some ⟨b, 0, none⟩), .int .i64 q] w fun e w' => e = .returned (.tuple #[]) ∧
      Rdr w' base b win data ((pos : Int) + 2) mode q false evs pend ∧ Below base w w' := by
  obtain ⟨⟨c0, c1, c2, c3, c4, c5⟩, hf, _⟩ := h.cells
  have f2 := hf 2
  have f4 := hf 4
  have f5 := hf 5
  have hwr : IntKind.i64.wrap ((pos : Int) + 2) = (pos : Int) + 2 := by rw [IntKind.wrap_i64]; omega
  obtain ⟨r1, b1⟩ := h.setPos ((pos : Int) + 2)
  obtain ⟨r2, b2⟩ := r1.setScan q
  obtain ⟨r3, b3⟩ := r2.setEat false
  obtain ⟨_, hf1, _⟩ := r1.cells
  obtain ⟨_, hf2, _⟩ := r2.cells
  have g4 := hf1 4
  have g5 := hf2 5
  have HR := hid r3
  have HB := hid ((b1.trans b2).trans b3)
  clear r1 r2 r3 b1 b2 b3 hf hf1 hf2 h
  go_enter Tryd.func97, Tryd.ntmps97
  go_wp2
  go_end0
  exact ⟨rfl, HR.out, HB.out⟩

set_option maxHeartbeats 2000000 in
set_option maxRecDepth 10000 in
theorem skipTag_any (base b : Nat) (win : Int) (data : ByteArray) (pos s : Nat) (mode : Int) (eat : Bool) (evs : List Ev) (pend : List UInt8) (w : World) (h : Rdr w base b win data pos mode s eat evs pend) (hT : TagTabs w) (hd : data.size ≤ 10000000) (hp : pos ≤ data.size) (hs : 3 ≤ s ∧ s ≤ 10) :
    Calls Tryd.prog 58 #[.pointer (some ⟨b, 0, none⟩)] w fun e w' => e = .returned (.bool true) ∧
      Rdr w' base b win data ((pos + (passL s (data.data.toList.drop pos)).1 : Nat) : Int) mode ((passL s (data.data.toList.drop pos)).2 : Int) eat evs pend ∧ Below base w w' := by
  obtain ⟨⟨c0, c1, c2, c3, c4, c5⟩, hf, _⟩ := h.cells
  have f2 := hf 2
  have f4 := hf 4
  have hpass := fun W hTW => pass_any data pos s W (by omega) hp (.inr hs) hTW
  generalize pos + (passL s (data.data.toList.drop pos)).1 = E at hpass ⊢
  generalize (passL s (data.data.toList.drop pos)).2 = S at hpass ⊢
  have HP := hid hpass
  have HT := hid hT
  have HR := hid h
  clear hpass hT h hf
  go_enter Tryd.func58, Tryd.ntmps58
  go_wp2_with fail
  go_region_law (go_simp; go_at_call 84; refine (HP.out _ (by exact HT.out)).mono ?_; rintro e w1 ⟨rfl, nd, rfl⟩)
  all_goals
    go_wp2
    go_ret
    exact ⟨rfl, (((HR.out.drewN _).setPos _).1.setScan _).1, ((below_drewN (Below.refl base w) _).trans ((HR.out.drewN _).setPos _).2).trans (((HR.out.drewN _).setPos _).1.setScan _).2⟩
end Go.Proofs.YtialeicpelehoaaDoor

/-
  What the library's searches find, in the words of the plain lexer; how much a step puts out.
-/
namespace Go.Proofs.YtialeicpelehoaaDoor

theorem indexByte_idx (x : UInt8) : ∀ L : List UInt8, Go.Lib.indexByte L x = match byteIdx x L with | some i => (i : Int) | none => -1
  | [] => rfl
  | c :: r => by
    have ih := indexByte_idx x r
    unfold Go.Lib.indexByte byteIdx
    by_cases hc : c = x
    · rw [if_pos (by rw [beq_iff_eq]; exact hc), if_pos hc]
      rfl
    · rw [if_neg (by rw [beq_iff_eq]; exact hc), if_neg hc, ih]
      cases byteIdx x r with
      | none => rfl
      | some i =>
        show (if ((i : Int) == -1) = true then (-1 : Int) else (i : Int) + 1) = ((i + 1 : Nat) : Int)
        rw [if_neg (by rw [beq_iff_eq]; omega)]
        omega
def comI (d : Nat) (o : Option Nat) : Int := match o with | some n => (n : Int) + d - 3 | none => -1
theorem index_cons (c : UInt8) (r sub : List UInt8) (h : sub.isPrefixOf (c :: r) = false) : Go.Lib.index (c :: r) sub = if Go.Lib.index r sub = -1 then -1 else Go.Lib.index r sub + 1 := by
  conv => lhs; unfold Go.Lib.index
  rw [h]
  by_cases hh : Go.Lib.index r sub = -1 <;> simp [hh]
theorem comI_succ (d : Nat) (o : Option Nat) (hd : ∀ n, o = some n → 3 ≤ n + d) : (if comI d o = -1 then (-1 : Int) else comI d o + 1) = comI (d + 1) o := by
  cases o with
  | none => rfl
  | some n =>
    have := hd n rfl
    unfold comI
    simp only
    rw [if_neg (by omega)]
    omega
theorem com_ge : ∀ (L : List UInt8) (d n : Nat), d ≤ 2 → (comL d L).1 = some n → 3 ≤ n + d
  | [], d, n, _, h => by simp [comL] at h
  | c :: r, d, n, hd, h => by
    unfold comL at h
    split at h
    · rename_i hc
      simp only [Option.some.injEq] at h
      omega
    · simp only [Option.map_eq_some_iff] at h
      obtain ⟨m, hm, rfl⟩ := h
      have := com_ge r _ m (by split <;> omega) hm
      split at this <;> omega
theorem index_com : ∀ (L : List UInt8) (d : Nat), d ≤ 2 → Go.Lib.index (List.replicate d 45 ++ L) [45, 45, 62] = comI d (comL d L).1
  | [], d, hd => by
    rcases (show d = 0 ∨ d = 1 ∨ d = 2 by omega) with rfl | rfl | rfl <;> rfl
  | c :: r, d, hd => by
    unfold comL
    by_cases hc : c = 62 ∧ d = 2
    · obtain ⟨rfl, rfl⟩ := hc
      rw [if_pos ⟨rfl, rfl⟩]
      rfl
    · rw [if_neg hc]
      by_cases h45 : c = 45
      · subst h45
        rw [if_pos rfl]
        have ih := index_com r (min (d + 1) 2) (by omega)
        have hg := fun n => com_ge r (min (d + 1) 2) n (by omega)
        rcases (show d = 0 ∨ d = 1 ∨ d = 2 by omega) with rfl | rfl | rfl
        · show Go.Lib.index (45 :: r) _ = _
          rw [show (45 :: r : List UInt8) = List.replicate (min (0 + 1) 2) 45 ++ r from rfl, ih]
          cases (comL (min (0 + 1) 2) r).1 with
          | none => rfl
          | some n => show (n : Int) + _ - 3 = ((n + 1 : Nat) : Int) + _ - 3; omega
        · show Go.Lib.index (45 :: 45 :: r) _ = _
          rw [show (45 :: 45 :: r : List UInt8) = List.replicate (min (1 + 1) 2) 45 ++ r from rfl, ih]
          cases (comL (min (1 + 1) 2) r).1 with
          | none => rfl
          | some n => show (n : Int) + _ - 3 = ((n + 1 : Nat) : Int) + _ - 3; omega
        · show Go.Lib.index (45 :: 45 :: 45 :: r) _ = _
          rw [index_cons _ _ _ (by simp [List.isPrefixOf]), show (45 :: 45 :: r : List UInt8) = List.replicate (min (2 + 1) 2) 45 ++ r from rfl, ih, comI_succ _ _ hg]
          cases (comL (min (2 + 1) 2) r).1 with
          | none => rfl
          | some n => show (n : Int) + _ - 3 = ((n + 1 : Nat) : Int) + _ - 3; omega
      · rw [if_neg h45]
        have ih := index_com r 0 (by omega)
        have hg := fun n => com_ge r 0 n (by omega)
        have h45' : (45 == c) = false := by rw [beq_eq_false_iff_ne]; exact fun h => h45 h.symm
        have e0 : Go.Lib.index (c :: r) [45, 45, 62] = comI 1 (comL 0 r).1 := by
          rw [index_cons _ _ _ (by simp [List.isPrefixOf, h45']), show r = List.replicate 0 45 ++ r from rfl, ih, comI_succ _ _ hg]
          rfl
        have g1 : ∀ n, (comL 0 r).1 = some n → 3 ≤ n + 1 := fun n h => by have := hg n h; omega
        have e1 : Go.Lib.index (45 :: c :: r) [45, 45, 62] = comI 2 (comL 0 r).1 := by
          rw [index_cons _ _ _ (by simp [List.isPrefixOf, h45']), e0, comI_succ _ _ g1]
        rcases (show d = 0 ∨ d = 1 ∨ d = 2 by omega) with rfl | rfl | rfl
        · show Go.Lib.index (c :: r) _ = _
          rw [e0]
          cases (comL 0 r).1 with
          | none => rfl
          | some n => show (n : Int) + _ - 3 = ((n + 1 : Nat) : Int) + _ - 3; omega
        · show Go.Lib.index (45 :: c :: r) _ = _
          rw [e1]
          cases (comL 0 r).1 with
          | none => rfl
          | some n => show (n : Int) + _ - 3 = ((n + 1 : Nat) : Int) + _ - 3; omega
        · show Go.Lib.index (45 :: 45 :: c :: r) _ = _
          have h62 : (62 == c) = false := by rw [beq_eq_false_iff_ne]; exact fun h => hc ⟨h.symm, rfl⟩
          have g2 : ∀ n, (comL 0 r).1 = some n → 3 ≤ n + 2 := fun n h => by have := hg n h; omega
          rw [index_cons _ _ _ (by simp [List.isPrefixOf, h62]), e1, comI_succ _ _ g2]
          cases (comL 0 r).1 with
          | none => rfl
          | some n => show (n : Int) + _ - 3 = ((n + 1 : Nat) : Int) + _ - 3; omega
/-- the dashes at the end, two at most -/
def dashes (X : List UInt8) : Nat := if [45, 45] <:+ X then 2 else if [45] <:+ X then 1 else 0
theorem dashes_cons (c : UInt8) (r : List UInt8) (h : [45, 45] ≠ c :: r) (h1 : [45] ≠ c :: r) : dashes (c :: r) = dashes r := by
  unfold dashes
  simp only [List.suffix_cons_iff, h, h1, false_or]
theorem com_dash : ∀ (L : List UInt8) (d : Nat), d ≤ 2 → (comL d L).1 = none → (comL d L).2 = dashes (List.replicate d 45 ++ L)
  | [], d, hd, _ => by
    rcases (show d = 0 ∨ d = 1 ∨ d = 2 by omega) with rfl | rfl | rfl <;> decide
  | c :: r, d, hd, h => by
    unfold comL at h ⊢
    by_cases hc : c = 62 ∧ d = 2
    · rw [if_pos hc] at h
      cases h
    · rw [if_neg hc] at h ⊢
      simp only [Option.map_eq_none_iff] at h
      have ih := com_dash r _ (by split <;> omega) h
      show (comL (if c = 45 then min (d + 1) 2 else 0) r).2 = _
      rw [ih]
      by_cases h45 : c = 45
      · subst h45
        rw [if_pos rfl]
        rcases (show d = 0 ∨ d = 1 ∨ d = 2 by omega) with rfl | rfl | rfl
        · rfl
        · rfl
        · show dashes (45 :: 45 :: r) = dashes (45 :: 45 :: 45 :: r)
          rw [dashes_cons 45 (45 :: 45 :: r) (by simp) (by simp)]
      · rw [if_neg h45]
        have h45' : (45 : UInt8) ≠ c := fun h => h45 h.symm
        have e0 : dashes (c :: r) = dashes r := dashes_cons c r (by simp [h45']) (by simp [h45'])
        have e1 : dashes (45 :: c :: r) = dashes r := by rw [dashes_cons 45 (c :: r) (by simp [h45']) (by simp), e0]
        rcases (show d = 0 ∨ d = 1 ∨ d = 2 by omega) with rfl | rfl | rfl
        · exact e0.symm
        · exact e1.symm
        · show dashes r = dashes (45 :: 45 :: c :: r)
          rw [dashes_cons 45 (45 :: c :: r) (by simp) (by simp), e1]

/-! ## how much a step puts out -/

def Small (n : Nat) (it : List Item) : Prop := it = [] ∨ (∃ b, it = [.unit b] ∧ b.length ≤ 4 * n) ∨ (∃ x a, it = [.start x a]) ∨ ∃ x, it = [.stop x]
theorem small_unit {n : Nat} (st : LS) {b : List UInt8} (h : b.length ≤ 4 * n) : Small n (unitL2 st b) := by
  unfold unitL2
  split
  · exact .inl rfl
  · exact .inr (.inl ⟨b, rfl, h⟩)
theorem tag_small {W k : Nat} {L : List UInt8} {st st' : LS} {n : Nat} {it : List Item} (h : tagL W k L st = .done n st' it) (m : Nat) : Small m it := by
  unfold tagL at h
  simp only at h
  split at h
  · cases h
  · simp only [Res.done.injEq] at h
    rw [← h.2.2]
    split
    · split
      · exact .inr (.inr (.inl ⟨_, _, rfl⟩))
      · exact .inr (.inr (.inr ⟨_, rfl⟩))
    · exact .inl rfl
theorem ref_small {st st' : LS} {L : List UInt8} {n : Nat} {it : List Item} (h : refRes st L = .done n st' it) : Small n it := by
  unfold refRes at h
  split at h
  · cases h
  · rename_i e he
    simp only [Res.done.injEq] at h
    obtain ⟨rfl, -, h3⟩ := h
    rw [← h3]
    have := unr_len false _ (L.take e) (Nat.le_refl _)
    exact small_unit st (Nat.le_trans this (by rw [List.length_take]; omega))
theorem byte_small {st st' : LS} {c : UInt8} {n : Nat} {it : List Item} (h : byteRes st c = .done n st' it) : Small n it := by
  unfold byteRes at h
  cases h
  exact small_unit st (by simp)
theorem step_small {W : Nat} {st st' : LS} {L : List UInt8} {n : Nat} {it : List Item} (h : stepL W st L = .done n st' it) : Small n it := by
  unfold stepL at h
  split at h
  · unfold commentRes at h
    split at h <;> cases h
    exact .inl rfl
  · split at h
    · unfold bogusRes at h
      split at h <;> cases h
      exact .inl rfl
    · split at h
      · unfold skipTagRes at h; cases h; exact .inl rfl
      · split at h
        · unfold dataRes at h
          split at h
          · unfold markupRes at h
            split at h
            · cases h
            · split at h
              · exact tag_small h _
              · split at h
                · exact tag_small h _
                · split at h
                  · cases h; exact .inl rfl
                  · split at h
                    · cases h; exact .inl rfl
                    · exact byte_small h
          · split at h
            · exact ref_small h
            · exact byte_small h
        · split at h
          · unfold areaRes at h
            split at h
            · simp only at h
              split at h
              · cases h
              · split at h
                · exact tag_small h _
                · exact byte_small h
            · split at h
              · exact ref_small h
              · exact byte_small h
          · unfold rawRes at h
            split at h
            · cases h; exact .inl rfl
            · rename_i i hi
              split at h
              · cases h; exact .inl rfl
              · simp only at h
                split at h
                · cases h
                · split at h
                  · cases ht : tagL W 2 (L.drop i) st with
                    | more m s => rw [ht] at h; cases h
                    | done m s it2 =>
                      rw [ht] at h
                      simp only [Res.shift, Res.done.injEq] at h
                      rw [← h.2.2]
                      exact tag_small ht _
                  · cases h; exact .inl rfl
def putAll (s : List Ev × List UInt8) (l : List Item) : List Ev × List UInt8 := l.foldl putI s
theorem putAll_app (s : List Ev × List UInt8) (a b : List Item) : putAll s (a ++ b) = putAll (putAll s a) b := List.foldl_append ..
theorem flush_len (s : List Ev × List UInt8) : (flushE s).length ≤ s.1.length + 1 := by
  unfold flushE
  split
  · omega
  · simp
theorem small_put {n : Nat} {it : List Item} (h : Small n it) (h0 : 0 < n) (s : List Ev × List UInt8) : (putAll s it).1.length ≤ s.1.length + 2 * n ∧ (putAll s it).2.length ≤ s.2.length + 4 * n := by
  have hf := flush_len s
  rcases h with rfl | ⟨b, rfl, hb⟩ | ⟨x, a, rfl⟩ | ⟨x, rfl⟩
  · exact ⟨by show s.1.length ≤ _; omega, by show s.2.length ≤ _; omega⟩
  · refine ⟨by show s.1.length ≤ _; omega, ?_⟩
    show (s.2 ++ b).length ≤ _
    rw [List.length_append]
    omega
  · refine ⟨?_, by show ([] : List UInt8).length ≤ _; simp⟩
    show (flushE s ++ [_]).length ≤ _
    rw [List.length_append]
    simp
    omega
  · refine ⟨?_, by show ([] : List UInt8).length ≤ _; simp⟩
    show (flushE s ++ [_]).length ≤ _
    rw [List.length_append]
    simp
    omega
end Go.Proofs.YtialeicpelehoaaDoor
