/-
  The stream's Put: its walk.
-/
import Derived.Test.YtkcgmimldjeaiaaDoorEndText
namespace Go.Proofs.YtkcgmimldjeaiaaDoor
open Go.RowKit Go.Lib Own

theorem evs_snoc2 {W : World} {base : Nat} {k n a t : Value} {e : Ev} : ∀ (xs : List Value) (l : List Ev), EvsAt W base xs l → EvsAt W base [k, n, a, t] [e] → EvsAt W base (xs ++ [k, n, a, t]) (l ++ [e])
  | [], [], _, h => h
  | k' :: n' :: a' :: t' :: r, e' :: l, ⟨h1, h2⟩, h => ⟨h1, evs_snoc2 r l h2 h⟩
  | [], _ :: _, h, _ => h.elim
  | [_], _, h, _ => by cases ‹List Ev› <;> exact h.elim
  | [_, _], _, h, _ => by cases ‹List Ev› <;> exact h.elim
  | [_, _, _], _, h, _ => by cases ‹List Ev› <;> exact h.elim
  | _ :: _ :: _ :: _ :: _, [], h, _ => h.elim
theorem StreamX.below {W W' : World} {base b o : Nat} {cs : Array Value} {T : TypeId} {evs : List Ev} {pend : List UInt8} {xs : List Value} (h : StreamX W base b o cs T evs pend xs) (hb : Below W.heap.size W W') : StreamX W' base b o cs T evs pend xs := by
  obtain ⟨ev, p, v, hev, hin, hrow, hevs, hap⟩ := h.itx
  have hg : W.grownBy W' none := ⟨hb.os, hb.tape, hb.output, hb.size, fun k hk _ => hb.block k hk⟩
  exact ⟨ev, p, v, hev, ⟨(hb.block b (Array.getElem?_eq_some_iff.1 hin.at_).1).trans hin.at_, hin.lo, hin.cp, hin.cv, hin.hp, hin.own.kept hg (by cases hv : v.ownBlock <;> simp), hin.ne⟩, hrow.kept hg (Classical.em _), evs_mono (fun a n ys hr => hr.kept hg (Classical.em _)) xs evs hevs, hap⟩
theorem StreamX.new {W : World} {base b o g : Nat} {cs : Array Value} {T : TypeId} {evs : List Ev} {pend : List UInt8} {xs : List Value} (h : StreamX W base b o cs T evs pend xs) (hg : W.heap.size ≤ g) : NotIn g xs := by
  obtain ⟨ev, p, v, hev, hin, hrow, hevs, hap⟩ := h.itx
  exact notIn_new hg xs evs hevs
theorem StreamAt.alloc {W : World} {base b o : Nat} {cs : Array Value} {T : TypeId} {evs : List Ev} {pend : List UInt8} (h : StreamAt W base b o cs T evs pend) (X : Obj) : StreamAt (W.alloc X) base b o cs T evs pend := by
  obtain ⟨ev, p, v, xs, hev, hin, hrow, hevs, hap⟩ := h.it
  refine ⟨ev, p, v, xs, hev, ⟨(alloc_old _ _ b (Array.getElem?_eq_some_iff.1 hin.at_).1).trans hin.at_, hin.lo, hin.cp, hin.cv, hin.hp, ?_, hin.ne⟩, hrow.alloc _, evs_mono (fun a n ys hr => hr.alloc _) xs evs hevs, hap⟩
  exact hin.own.kept (World.grownBy_alloc W X none) (by cases hv : v.ownBlock <;> simp)

theorem set_three (cs : Array Value) (o : Nat) (e1 e2 p v : Value) : (((cs.setIfInBounds o e1).setIfInBounds (o + 1) p).setIfInBounds (o + 2) v).setIfInBounds o e2 = ((cs.setIfInBounds o e2).setIfInBounds (o + 1) p).setIfInBounds (o + 2) v := by
  apply Array.ext_getElem?
  intro i
  simp only [Array.getElem?_setIfInBounds, Array.size_setIfInBounds]
  repeat' split
  all_goals first | rfl | omega
theorem rowF_ne {W : World} {base : Nat} {e2 : TypeId} {z2 n1 n2 : Nat} {v1 v2 : Value} {xs1 xs2 : List Value} (h1 : W.ownsRowF base 5 1 v1 n1 xs1) (h2 : W.ownsRow base e2 z2 v2 n2 xs2) (hne : e2 ≠ 5) : v1.ownBlock = none ∨ v1.ownBlock ≠ v2.ownBlock := by
  rcases h1.2 with ⟨rfl, _⟩ | ⟨g, cap, cur, fz, rfl, _, hg, _⟩
  · exact .inl rfl
  · refine .inr (fun h3 => ?_)
    rcases h2.2 with ⟨rfl, _⟩ | ⟨g2, cap2, cur2, rfl, _, hg2, _⟩
    · cases h3
    · simp only [Value.ownBlock, Option.some.injEq] at h3
      subst h3
      rw [hg] at hg2
      simp only [Option.some.injEq, Obj.cells.injEq] at hg2
      exact hne hg2.2.1.symm
set_option maxHeartbeats 4000000 in
set_option maxRecDepth 100000 in
theorem put_any (base b o : Nat) (cs : Array Value) (T : TypeId) (evs : List Ev) (pend : List UInt8) (g0 : Nat) (kk : Int) (nb tb : ByteArray) (ap : Option Addr) (an ac : Nat) (e0 : Ev) (w0 w : World) (hsl : w.heap[g0]? = some (.cells #[.int .i64 kk, .string nb, .slice ap an ac, .string tb] 39 (0, 0))) (hkk : (kk == 3) = false) (h0 : StreamAt w0 base b o cs T evs pend) (hw0 : Below w0.heap.size w0 w) (hfr : ∀ g, (Value.slice ap an ac).ownBlock = some g → w0.heap.size ≤ g) (hT : StreamT T cs o) (hlen : evs.length ≤ 9000000) (h1 : EvsAt w base [.int .i64 kk, .string nb, .slice ap an ac, .string tb] [e0])
    (hone : ∀ u ∈ [Value.int .i64 kk, .string nb, .slice ap an ac, .string tb], u.oneCell' = true) :
    Calls Tryd.prog 26 #[.pointer (some ⟨b, o, none⟩), .slice (some ⟨g0, 0, none⟩) 1 1] w fun e w' => e = .returned (.tuple #[]) ∧
      ∃ e1 p1 v1, StreamAt w' base b o (((cs.setIfInBounds o e1).setIfInBounds (o + 1) p1).setIfInBounds (o + 2) v1) T (flushE (evs, pend) ++ [e0]) [] ∧ Below base w w' := by
  obtain ⟨i0, hi, hz0, hz1, hz2⟩ := info_parts info_event
  obtain ⟨xs0, hx0⟩ := h0.x
  have hnew : ∀ g, (Value.slice ap an ac).ownBlock = some g → NotIn g xs0 := fun g e => hx0.new (hfr g e)
  have hxa : StreamX (w.alloc (.cells #[.int .i64 kk, .string nb, .slice ap an ac, .string tb] 39)) base b o cs T evs pend xs0 := (hx0.below hw0).below ((Below.refl w.heap.size w).alloc (Nat.le_refl _) _)
  have hend := endText_x base b o cs T evs pend xs0 _ hxa hT (by omega)
  obtain ⟨ev0, p0, v0, hev0, hin0, hrow0, hevs0, _⟩ := (hx0.below hw0).itx
  have hbs : b < w.heap.size := (Array.getElem?_eq_some_iff.1 hin0.at_).1
  have hlo := hin0.lo
  have hevlt : ev0.ownBlock ≠ some w.heap.size := fun hh => by have := (hrow0.lt _ hh).2; omega
  have hvlt : v0.ownBlock ≠ some w.heap.size := fun hh => by have := (hin0.own.lt _ hh).2; omega
  have hcv0 := hin0.cv
  have HE := hid hend
  clear hend hin0 hrow0 hx0 h0 hw0 hfr hxa
  go_enter Tryd.func26, Tryd.ntmps26
  have hs0 := cell_at hsl (j := 0) rfl
  have hs1 := cell_at hsl (j := 1) rfl
  have hs2 := cell_at hsl (j := 2) rfl
  have hs3 := cell_at hsl (j := 3) rfl
  clear hsl
  go_wp2_with fail
  go_loopw [8] (fun iv wr => (iv = .int .i64 0 ∧ w = wr) ∨ (iv = .int .i64 1 ∧ Hid (∃ e1 p1 v1, StreamAt wr base b o (((cs.setIfInBounds o e1).setIfInBounds (o + 1) p1).setIfInBounds (o + 2) v1) T (flushE (evs, pend) ++ [e0]) [] ∧ Below base w wr))) (fun iv _ => 1 - (RowKit.intOf iv).toNat)
  case atStart => exact .inl ⟨rfl, rfl⟩
  case round =>
  rcases hrel with ⟨rfl, rfl⟩ | ⟨rfl, HZ⟩
  case inr =>
    go_wp2
    go_end0
    exact ⟨rfl, HZ.out⟩
  go_wp2_with fail
  refine HE.out.mono ?_
  rintro e w1 ⟨rfl, e1, p1, v1, xs, hs, hxs, hbel, hrows, hkeep⟩
  have hpb : w1.heap[w.heap.size]? = some (.cells #[.int .i64 kk, .string nb, .slice ap an ac, .string tb] 39 (0, 0)) := (hkeep ev0 v0 hev0 hcv0 w.heap.size (by simp) (by omega) hevlt hvlt).trans (heap_alloc_new w _)
  have p0 := cell_at hpb (j := 0) rfl
  have p1' := cell_at hpb (j := 1) rfl
  have p2 := cell_at hpb (j := 2) rfl
  have p3 := cell_at hpb (j := 3) rfl
  obtain ⟨cs2, hcs2⟩ : ∃ cs2, ((cs.setIfInBounds o e1).setIfInBounds (o + 1) p1).setIfInBounds (o + 2) v1 = cs2 := ⟨_, rfl⟩
  rw [hcs2] at hs
  obtain ⟨ev, p, v, hev, hin, hrow, hevs, hap⟩ := hs.itx
  have hap2 : Apart (xs ++ [.int .i64 kk, .string nb, .slice ap an ac, .string tb]) := by
    refine apart_snoc xs _ hevs hap (fun g e => ?_)
    rcases hxs with rfl | rfl
    · exact hnew g e
    · exact notIn_snoc (by simp [Value.ownBlock]) _ _ hevs0 (hnew g e)
  clear hap hxs hnew hevs0
  have hb1 := hin.at_
  have ce := cell_at hb1 hev
  have fe := free_at hb1 o
  have hneb : ev.ownBlock ≠ some b := row_ne hrow hb1 hT.n2
  have hbl : base ≤ w1.heap.size := by have := (Array.getElem?_eq_some_iff.1 hb1).1; omega
  have hbs1 := (Array.getElem?_eq_some_iff.1 hb1).1
  have hfl : (flushE (evs, pend)).length ≤ 9000001 := by
    unfold flushE
    split
    · simp only; omega
    · simp only [List.length_append, List.length_singleton]; omega
  have h11 : EvsAt w1 base [.int .i64 kk, .string nb, .slice ap an ac, .string tb] [e0] := evs_mono (fun a n ys hr => hrows a n ys (hr.alloc _)) _ _ h1
  have HV := hid (And.intro hevs (And.intro h11 hin))
  have HK := hid hrows
  clear hevs h11 hin hs HE hkeep hrows
  go_wp2_with fail
  go_region_law (refine step_append_lies _ rfl (.tmp 25) (.tmp 27) 22 rfl base 39 i0 (.agg #[.int .i64 0, .string ⟨#[]⟩, .slice none 0 0, .string ⟨#[]⟩]) 4 64 Tryd.underlying22 hi hz0 hz1 hz2 rfl (by decide) ev (flushE (evs, pend)).length xs (by simp [Act.eval]) (by exact hrow.alloc _) ⟨_, 0, none⟩ 1 1 [.int .i64 kk, .string nb, .slice ap an ac, .string tb] (by simp [Act.eval]) rfl (cells_newV _ _ _) hone (by omega) (by unfold maxLen; omega) (by omega) (by simp; omega) _ rfl ?_; rintro g cap w10 hrow10 hgrow10 - -; have hb10 : w10.heap[b]? = some (.cells cs2 T (0, 0)) := ((hgrow10.block b (by simp; omega) (fun e => hneb e.symm)).trans (alloc_old _ _ b (by exact hbs1))).trans (by exact hb1); have ce10 := cell_at hb10 hev; have fe10 := free_at hb10 o)
  all_goals
    have j1 := just_set (j := o) hb10 (.slice (some ⟨g, 0, none⟩) ((flushE (evs, pend)).length + 1) cap)
    obtain ⟨hevs, h11, hin⟩ := HV.out
    have hg10 : (w1.alloc (.cells #[.int .i64 kk, .string nb, .slice ap an ac, .string tb] 39)).grownBy w10 ev.ownBlock := ⟨hgrow10.os, hgrow10.tape, hgrow10.output, hgrow10.size, hgrow10.block⟩
    have e10 : EvsAt w10 base (xs ++ [.int .i64 kk, .string nb, .slice ap an ac, .string tb]) (flushE (evs, pend) ++ [e0]) := evs_mono (fun a' n' ys hr => (hr.alloc _).kept hg10 (rows_ne hr hrow (by decide))) _ _ (evs_snoc2 xs _ hevs h11)
    have e11 := evs_mono (W' := w10.setCell ⟨b, o, none⟩ (.slice (some ⟨g, 0, none⟩) ((flushE (evs, pend)).length + 1) cap)) (fun a' n' ys hr => row_just hr hb10 hT.n1 j1.other) _ _ e10
    have r11 := row_just hrow10 hb10 hT.n2 j1.other
    have o10 : w10.ownsRowF base 5 1 v 0 (byteCells []) := (hin.own.kept (World.grownBy_alloc w1 _ none) (by cases hv : v.ownBlock <;> simp)).kept hg10 (rowF_ne hin.own hrow (by decide))
    have o11 := o10.kept (w' := w10.setCell ⟨b, o, none⟩ (.slice (some ⟨g, 0, none⟩) ((flushE (evs, pend)).length + 1) cap)) (row := some b) ⟨j1.os, j1.tape, j1.output, by rw [j1.size]; exact Nat.le_refl _, fun k _ hk => j1.other k (fun e => hk (by rw [e]))⟩ (.inr hin.ne)
    have b10 : Below base w1 w10 := ((Below.refl base w1).alloc (by omega) _).grown hg10 (by simp; omega) (fun k hk => (hrow.lt k hk).1)
    have bw : Below base w (w.alloc (.cells #[.int .i64 kk, .string nb, .slice ap an ac, .string tb] 39)) := (Below.refl base w).alloc (by omega) _
    have bfin := (bw.trans hbel).trans (b10.trans (j1.below hlo))
    have hat := j1.at_
    rw [← hcs2, set_three] at hat
    have hcp2 : (((cs.setIfInBounds o (.slice (some ⟨g, 0, none⟩) ((flushE (evs, pend)).length + 1) cap)).setIfInBounds (o + 1) p1).setIfInBounds (o + 2) v1)[o + 1]? = some p := by
      rw [← set_three cs o e1, hcs2, Array.getElem?_setIfInBounds, if_neg (by omega)]; exact hin.cp
    have hcv2 : (((cs.setIfInBounds o (.slice (some ⟨g, 0, none⟩) ((flushE (evs, pend)).length + 1) cap)).setIfInBounds (o + 1) p1).setIfInBounds (o + 2) v1)[o + 1 + 1]? = some v := by
      rw [← set_three cs o e1, hcs2, Array.getElem?_setIfInBounds, if_neg (by omega)]; exact hin.cv
    have hev2 : (((cs.setIfInBounds o (.slice (some ⟨g, 0, none⟩) ((flushE (evs, pend)).length + 1) cap)).setIfInBounds (o + 1) p1).setIfInBounds (o + 2) v1)[o]? = some (.slice (some ⟨g, 0, none⟩) ((flushE (evs, pend)).length + 1) cap) := by
      rw [← set_three cs o e1, hcs2, Array.getElem?_setIfInBounds, if_pos rfl, if_pos (Array.getElem?_eq_some_iff.1 hev).1]
    have hS : StreamAt (w10.setCell ⟨b, o, none⟩ (.slice (some ⟨g, 0, none⟩) ((flushE (evs, pend)).length + 1) cap)) base b o (((cs.setIfInBounds o (.slice (some ⟨g, 0, none⟩) ((flushE (evs, pend)).length + 1) cap)).setIfInBounds (o + 1) p1).setIfInBounds (o + 2) v1) T (flushE (evs, pend) ++ [e0]) [] :=
      ⟨_, p, v, _, hev2, ⟨hat, hlo, hcp2, hcv2, hin.hp, o11, hin.ne⟩, by rw [List.length_append]; exact r11, e11, hap2⟩
    have HS := hid hS
    have HB := hid bfin
    clear hS bfin e10 e11 r11 o10 o11 hat hcp2 hcv2 hev2 j1
    go_wp2
    go_roundw
    case rel => exact .inr ⟨rfl, hid ⟨_, _, _, HS.out, HB.out⟩⟩
    case measure => simp [RowKit.intOf]
end Go.Proofs.YtkcgmimldjeaiaaDoor
