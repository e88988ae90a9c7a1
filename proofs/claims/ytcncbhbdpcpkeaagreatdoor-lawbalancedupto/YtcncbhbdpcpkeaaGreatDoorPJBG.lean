/-
  Parts of the walk, joined: FiltC, EndTextG, WithinG.
-/
import Derived.Laws.RangeAny
import Derived.Laws.RangeString
import Derived.Lib.OthersKept
import Derived.Lib.QuoteLoop
import Derived.Lib.TrimU
import Derived.Shelf.Strings.IndexAny
import Derived.WalkMore
import Derived.Deep.QuietTactic
import Derived.BigQuiet
import Derived.BigCall
import Derived.Lib.RuneCountTail
import Derived.Shelf.Strings.IndexAnyAll
import Derived.Laws.Tables
import Derived.Test.YtcncbhbdpcpkeaaGreatDoorPJAF
import Derived.Test.YtcncbhbdpcpkeaaGreatDoorPJAJ
import Derived.Test.YtcncbhbdpcpkeaaGreatDoorPJAH
import Derived.Test.YtcncbhbdpcpkeaaGreatDoorPJAV
import Derived.Test.YtcncbhbdpcpkeaaGreatDoorPJAO
import Derived.Test.YtcncbhbdpcpkeaaGreatDoorPJAN
import Derived.Test.YtcncbhbdpcpkeaaGreatDoorPJAE
import Derived.Test.YtcncbhbdpcpkeaaGreatDoorPJAD
import Derived.Test.YtcncbhbdpcpkeaaGreatDoorPJBA
import Derived.Test.YtcncbhbdpcpkeaaGreatDoorPJAQ
import Derived.Test.YtcncbhbdpcpkeaaGreatDoorPJAA
/-
  policy.Filter: its walk.
-/
namespace Go.Proofs.YtcncbhbdpcpkeaaGreatDoor
open Go.RowKit Go.Lib Own

/-- a list of events that a call made: its row, the events, and that their lists of attributes stand apart -/
structure MadeE (W : World) (base : Nat) (v : Value) (J : List Ev) (xs : List Value) : Prop where
  row : W.ownsRow base 60 4 v J.length xs
  evs : EvsAt W base xs J
  ap : Apart xs
theorem MadeE.nil (W : World) (base : Nat) : MadeE W base (.slice none 0 0) [] [] := ⟨World.ownsRow_nil _ _ _ _, trivial, trivial⟩
theorem MadeE.grown {W W' : World} {base : Nat} {v : Value} {J : List Ev} {xs : List Value} {r : Option Nat} (h : MadeE W base v J xs) (g : W.grownBy W' r) (h1 : v.ownBlock = none ∨ v.ownBlock ≠ r) (h2 : ∀ a n ys, W.ownsRow base 122 2 a n ys → a.ownBlock = none ∨ a.ownBlock ≠ r) : MadeE W' base v J xs :=
  ⟨h.row.kept g h1, evs_mono (fun _ _ _ hr => hr.kept g (h2 _ _ _ hr)) xs J h.evs, h.ap⟩
theorem MadeE.below {W W' : World} {base : Nat} {v : Value} {J : List Ev} {xs : List Value} (h : MadeE W base v J xs) (hb : Below W.heap.size W W') : MadeE W' base v J xs :=
  ⟨row_below h.row hb, evs_mono (fun _ _ _ hr => row_below hr hb) xs J h.evs, h.ap⟩
theorem evsAll_low {W : World} {B base : Nat} (hb : base ≤ B) : ∀ (xs : List Value) (l : List Ev), EvsAt W B xs l → EvsAt W base xs l
  | [], [], _ => trivial
  | k :: n :: a :: t :: r, e :: l, ⟨h1, h2⟩ => by
    refine ⟨?_, evsAll_low hb r l h2⟩
    cases e with
    | text b => exact h1
    | start m at_ => exact ⟨h1.1, h1.2.1, row_low h1.2.2.1 hb, h1.2.2.2⟩
    | stop m => exact h1
  | [], _ :: _, h => h.elim
  | [_], _, h => by cases ‹List Ev› <;> exact h.elim
  | [_, _], _, h => by cases ‹List Ev› <;> exact h.elim
  | [_, _, _], _, h => by cases ‹List Ev› <;> exact h.elim
  | _ :: _ :: _ :: _ :: _, [], h => h.elim
theorem MadeE.low {W : World} {B base : Nat} {v : Value} {J : List Ev} {xs : List Value} (h : MadeE W B v J xs) (hb : base ≤ B) : MadeE W base v J xs :=
  ⟨row_low h.row hb, evsAll_low hb xs J h.evs, h.ap⟩
/-- one more event -/
theorem MadeE.more {W W2 : World} {base : Nat} {v v' : Value} {J : List Ev} {xs : List Value} {k n a t : Value} {ev : Ev} {X : Obj} (h : MadeE W base v J xs) (he : EvsAt W base [k, n, a, t] [ev]) (hn : ∀ g, a.ownBlock = some g → NotIn g xs)
    (hg : (W.alloc X).grownBy W2 v.ownBlock) (hv : W2.ownsRow base 60 4 v' (J.length + 1) (xs ++ [k, n, a, t])) : MadeE W2 base v' (J ++ [ev]) (xs ++ [k, n, a, t]) := by
  have hra := h.row.alloc X
  have mono : ∀ a n ys, W.ownsRow base 122 2 a n ys → W2.ownsRow base 122 2 a n ys := fun a n ys hr => (hr.alloc X).kept hg (rows_ne (hr.alloc X) hra (by decide))
  refine ⟨by rw [List.length_append]; exact hv, evs_mono mono _ _ (evs_snoc2 xs J h.evs he), apart_snoc xs J h.evs h.ap hn⟩

end Go.Proofs.YtcncbhbdpcpkeaaGreatDoor

/-
  The stream's endText once more: in which block its list lies behind it.
-/
namespace Go.Proofs.YtcncbhbdpcpkeaaGreatDoor
open Go.RowKit Go.Lib Own

set_option maxHeartbeats 4000000 in
set_option maxRecDepth 100000 in
theorem endText_g (base b o : Nat) (cs : Array Value) (T : TypeId) (evs : List Ev) (pend : List UInt8) (xs : List Value) (w : World) (h : StreamX w base b o cs T evs pend xs) (hT : StreamT T cs o) (h0 : pend ≠ []) (hlen : evs.length ≤ 600000000) :
    Calls Tryz.prog 64 #[.pointer (some ⟨b, o, none⟩)] w fun e w' => e = .returned (.tuple #[]) ∧
      ∃ ev, StreamX w' base b o (((cs.setIfInBounds o ev).setIfInBounds (o + 1) (.pointer none)).setIfInBounds (o + 2) (.slice none 0 0)) T (evs ++ [.text pend]) [] (xs ++ [.int .i64 3, .string ⟨#[]⟩, .slice none 0 0, strV pend]) ∧ Below base w w' ∧ (∀ a n ys, w.ownsRow base 122 2 a n ys → w'.ownsRow base 122 2 a n ys) ∧ KeepF w w' b o cs ∧ (∀ g, ev.ownBlock = some g → (∃ ev0, cs[o]? = some ev0 ∧ ev0.ownBlock = some g) ∨ w.heap.size ≤ g) := by
  obtain ⟨i0, hi, hz0, hz1, hz2⟩ := info_parts info_event
  obtain ⟨ev, p, v, hev, hin, hrow, hevs, hap⟩ := h.itx
  have hlen0 := fun W hW => len_in base b (o + 1) cs T p v pend W hW
  have hn0 : ((pend.length : Int) == 0) = false := beq_eq_false_iff_ne.2 (by have := List.length_pos_iff.2 h0; omega)
  have hstr := fun W hW => string_in base b (o + 1) cs T p v pend W hW h0
  have ce := cell_at hin.at_ hev
  have fe := free_at hin.at_ o
  have HL := hid hlen0
  have HS := hid hstr
  have HI := hid hin
  clear hlen0 hstr hin
  go_enter Tryz.func64, Tryz.ntmps64
  go_wp2_with (go_at_call 83; refine (HL.out _ HI.out).mono ?_; rintro e w1 ⟨rfl, rfl⟩)
  have hbs : base ≤ w1.heap.size := by have := (Array.getElem?_eq_some_iff.1 HI.out.at_).1; have := HI.out.lo; omega
  have hneb : ev.ownBlock ≠ some b := row_ne hrow HI.out.at_ hT.n2
  go_region_law (first
    | (go_simp; go_at_call 33; refine (HS.out _ (by exact ⟨HI.out.at_, HI.out.lo, HI.out.cp, HI.out.cv, HI.out.hp, HI.out.own, HI.out.ne⟩)).mono ?_; rintro e w9 ⟨rfl, hb9, bel9, k9⟩; have hbs9 := (Array.getElem?_eq_some_iff.1 hb9).1; have hsz9 := bel9.size; have hsz9' : w1.heap.size ≤ w9.heap.size := (by exact hsz9); have ce9 := cell_at hb9 hev; have fe9 := free_at hb9 o; have hrow9 := row_keep hrow HI.out.at_ hT.n2 HI.out.own (by decide) (fun k _ h1 h2 => k9 k h1 h2))
    | (refine step_append_lies _ rfl (.tmp 11) (.tmp 17) 22 rfl base 60 i0 (.agg #[.int .i64 0, .string ⟨#[]⟩, .slice none 0 0, .string ⟨#[]⟩]) 4 64 Tryz.underlying22 hi hz0 hz1 hz2 rfl (by decide) ev evs.length xs (by simp [Act.eval]) (by exact hrow9.alloc _) ⟨_, 0, none⟩ 1 1 [.int .i64 3, .string ⟨#[]⟩, .slice none 0 0, strV pend] (by simp [Act.eval]) rfl (cells_newV _ _ _) (by simp [Value.oneCell', strV]) (by omega) (by unfold maxLen; omega) (by omega) (by simp; omega) _ rfl ?_; rintro g cap w10 hrow10 hgrow10 hnew10 -; have hb10 : w10.heap[b]? = some (.cells cs T (0, 0)) := ((hgrow10.block b (by simp; omega) (fun e => hneb e.symm)).trans (alloc_old _ _ b (by exact hbs9))).trans (by exact hb9); have ce10 := cell_at hb10 hev; have fe10 := free_at hb10 o))
  all_goals
    have j1 := just_set (j := o) hb10 (.slice (some ⟨g, 0, none⟩) (evs.length + 1) cap)
    have hlo := HI.out.lo
    have hcp1 : (cs.setIfInBounds o (.slice (some ⟨g, 0, none⟩) (evs.length + 1) cap))[o + 1]? = some p := by
      rw [Array.getElem?_setIfInBounds, if_neg (by omega)]; exact HI.out.cp
    have hcv1 : (cs.setIfInBounds o (.slice (some ⟨g, 0, none⟩) (evs.length + 1) cap))[o + 1 + 1]? = some v := by
      rw [Array.getElem?_setIfInBounds, if_neg (by omega)]; exact HI.out.cv
    have hres := reset_in base b (o + 1) _ T p v _ j1.at_ hlo hcp1 hcv1
    have HR := hid hres
    clear hres
    have hkx := j1.other
    have hbx := j1.below hlo
    clear j1
    go_wp2_with (go_at_call 84; refine HR.out.mono ?_; rintro e w11 ⟨rfl, hin11, bel11, k11⟩)
    go_end0
    have hk : ∀ k, k ≠ b → w11.heap[k]? = w10.heap[k]? := fun k h => (k11 k h).trans (hkx k h)
    have b9 : Below base w1 w9 := ⟨bel9.os, bel9.tape, bel9.output, bel9.size, bel9.block⟩
    have b10 : Below base w1 w10 := (b9.alloc (by omega) _).grown hgrow10 (by simp; omega) (fun k hk => (hrow9.lt k hk).1)
    have e9 : EvsAt w9 base xs evs := evs_keep HI.out.at_ hT.n1 HI.out.own (fun k _ h1 h2 => k9 k h1 h2) xs evs hevs
    have e10 : EvsAt w10 base xs evs := evs_mono (fun a n ys hr => (hr.alloc _).kept hgrow10 (rows_ne hr hrow9 (by decide))) xs evs e9
    have e11 : EvsAt w11 base xs evs := evs_mono (fun a n ys hr => row_just hr hb10 hT.n1 hk) xs evs e10
    refine ⟨rfl, .slice (some ⟨g, 0, none⟩) (evs.length + 1) cap, ⟨.slice (some ⟨g, 0, none⟩) (evs.length + 1) cap, .pointer none, .slice none 0 0, ?_, hin11, ?_, evs_snoc xs evs e11, apart_snoc xs evs e11 hap (fun g e => by cases e)⟩, b10.trans (hbx.trans bel11), fun a n ys hr => row_just (((row_keep hr HI.out.at_ hT.n1 HI.out.own (by decide) (fun k _ h1 h2 => k9 k h1 h2)).alloc _).kept hgrow10 (rows_ne (row_keep hr HI.out.at_ hT.n1 HI.out.own (by decide) (fun k _ h1 h2 => k9 k h1 h2)) hrow9 (by decide))) hb10 hT.n1 hk, ?_, fun g' e' => by
      obtain rfl := Option.some.inj e'
      rcases hnew10 with e2 | e2
      · exact .inl ⟨ev, hev, e2⟩
      · exact .inr (by rw [e2]; simp; omega)⟩
    · rw [Array.getElem?_setIfInBounds, if_neg (by omega), Array.getElem?_setIfInBounds, if_neg (by omega), Array.getElem?_setIfInBounds, if_pos rfl, if_pos (Array.getElem?_eq_some_iff.1 hev).1]
    · have := row_just hrow10 hb10 hT.n2 hk
      rw [List.length_append]
      exact this
    · intro ev' v' hev' hv' k hks hkb hke hkv
      rw [hev] at hev'
      obtain rfl := Option.some.inj hev'
      rw [HI.out.cv] at hv'
      obtain rfl := Option.some.inj hv'
      have hk9 : k < w9.heap.size := by omega
      exact (((hk k hkb).trans (hgrow10.block k (by simp; omega) (fun e => hke e.symm))).trans (alloc_old _ _ k (by exact hk9))).trans (k9 k hkb hkv)

end Go.Proofs.YtcncbhbdpcpkeaaGreatDoor

/-
  The statements' within at any bounds: its walk.
-/
namespace Go.Proofs.YtcncbhbdpcpkeaaGreatDoor
open Go.RowKit Go.Lib Own

theorem withinP_in {n lo hi : Int} (h : lo ≤ n ∧ n ≤ hi) : withinP n lo hi = n := if_pos h
theorem withinP_neg {n lo hi : Int} (h : ¬ (lo ≤ n ∧ n ≤ hi)) (h2 : Int.tmod n (hi - lo + 1) < 0) : withinP n lo hi = lo + (Int.tmod n (hi - lo + 1) + (hi - lo + 1)) := by unfold withinP; rw [if_neg h, if_pos h2]
theorem withinP_pos {n lo hi : Int} (h : ¬ (lo ≤ n ∧ n ≤ hi)) (h2 : ¬ Int.tmod n (hi - lo + 1) < 0) : withinP n lo hi = lo + Int.tmod n (hi - lo + 1) := by unfold withinP; rw [if_neg h, if_neg h2]

set_option maxHeartbeats 2000000 in
theorem withinG_any (n lo hi : Int) (h0 : -9223372036854775808 ≤ n) (h1 : n ≤ 9223372036854775807) (b0 : 0 ≤ lo) (b1 : lo ≤ hi) (b2 : hi ≤ 1000000000000) (w : World) :
    Calls Tryz.prog 6 #[.int .i64 n, .int .i64 lo, .int .i64 hi] w fun e w' => e = .returned (.int .i64 (withinP n lo hi)) ∧ w' = w := by
  obtain ⟨S, hS⟩ : ∃ S, hi - lo + 1 = S := ⟨_, rfl⟩
  have hs : IntKind.i64.wrap (hi - lo) = hi - lo := by rw [IntKind.wrap_i64]; omega
  have hs2 : IntKind.i64.wrap (hi - lo + 1) = S := by rw [IntKind.wrap_i64]; omega
  have hz : (S == 0) = false := by rw [Bool.eq_false_iff]; intro h; rw [beq_iff_eq] at h; omega
  have hz2 : ¬ S = 0 := by omega
  by_cases hin : lo ≤ n ∧ n ≤ hi
  · rw [withinP_in hin]
    obtain ⟨a, b⟩ := hin
    go_enter Tryz.func6, Tryz.ntmps6
    go_wp2
    all_goals go_ret
    all_goals exact ⟨rfl, rfl⟩
  · have hm : n.tmod S < S := Int.tmod_lt_of_pos n (show (0 : Int) < S by omega)
    have hm2 : -S < n.tmod S := by
      have h3 := Int.tmod_lt_of_pos (-n) (show (0 : Int) < S by omega)
      rw [Int.neg_tmod] at h3
      omega
    have hin2 : (lo ≤ n ∧ ¬ n ≤ hi) ∨ ¬ lo ≤ n := by omega
    have e1 := fun h2 => withinP_neg hin (hi := hi) h2
    have e2 := fun h2 => withinP_pos hin (hi := hi) h2
    rw [hS] at e1 e2
    generalize hr : n.tmod S = r at hm hm2 e1 e2
    have hor : r < 0 ∨ ¬ r < 0 := by omega
    have hw1 : IntKind.i64.wrap (r + S) = r + S := by rw [IntKind.wrap_i64]; omega
    rcases hor with h | h
    · rw [e1 h]
      have hw3 : IntKind.i64.wrap (lo + (r + S)) = lo + (r + S) := by rw [IntKind.wrap_i64]; omega
      clear e1 e2
      rcases hin2 with ⟨i1, i2⟩ | i1
      all_goals
        go_enter Tryz.func6, Tryz.ntmps6
        go_wp2
        all_goals go_ret
        all_goals exact ⟨rfl, rfl⟩
    · rw [e2 h]
      have hw2 : IntKind.i64.wrap (lo + r) = lo + r := by rw [IntKind.wrap_i64]; omega
      clear e1 e2
      rcases hin2 with ⟨i1, i2⟩ | i1
      all_goals
        go_enter Tryz.func6, Tryz.ntmps6
        go_wp2
        all_goals go_ret
        all_goals exact ⟨rfl, rfl⟩
end Go.Proofs.YtcncbhbdpcpkeaaGreatDoor
