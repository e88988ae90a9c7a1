/-
  Parts of the walk, joined: SieveE, FiltC, FiltR, FiltS, FiltT, FiltLaw.
-/
import Derived.Test.YtkcgmimldjeaiaaGreatDoorJoinL
import Derived.Test.YtkcgmimldjeaiaaGreatDoorJoinK
import Derived.Test.YtkcgmimldjeaiaaGreatDoorJoinM
import Derived.Test.YtkcgmimldjeaiaaGreatDoorJoinG
/-
  Package sieve: Take, New: their walks.
-/
namespace Go.Proofs.YtkcgmimldjeaiaaGreatDoor
open Go.RowKit Go.Lib Own

theorem StA.grown {w W W' : World} {b : Nat} {e : EvP} {u : Value} {cs cs' : Array Value} (h : StA w W b e u cs) (g : W.grownBy W' (some b)) (s : W'.heap[b]? = some (.cells cs' 77 (0, 0))) : StA w W' b e u cs' :=
  have hb := h.bb
  ⟨h.g.trans g, s, (g.block _ (block_lt h.b0) (fun e => by cases e; omega)).trans h.b0, (g.block _ (block_lt h.b1) (fun e => by cases e; omega)).trans h.b1, hb⟩
theorem evs1_low {W : World} {B base : Nat} (hb : base ≤ B) {k n a t : Value} {ev : Ev} (h : EvsAt W B [k, n, a, t] [ev]) : EvsAt W base [k, n, a, t] [ev] := by
  cases ev with
  | text x => exact h
  | start n x => exact ⟨⟨h.1.1, h.1.2.1, row_low h.1.2.2.1 hb, h.1.2.2.2⟩, trivial⟩
  | stop x => exact h
/-- the answer's box is another block -/
theorem evs1_just {W W' : World} {base b : Nat} {cs cs' : Array Value} (hb : W.heap[b]? = some (.cells cs 44 (0, 0))) (j : Just W W' b cs' 44) {k n a t : Value} {ev : Ev} (h : EvsAt W base [k, n, a, t] [ev]) : EvsAt W' base [k, n, a, t] [ev] := by
  cases ev with
  | text x => exact h
  | start n x => exact ⟨⟨h.1.1, h.1.2.1, row_just h.1.2.2.1 hb (by decide) j.other, h.1.2.2.2⟩, trivial⟩
  | stop x => exact h

set_option maxHeartbeats 8000000 in
set_option maxRecDepth 100000 in
theorem take_any (w0 : World) (b : Nat) (vr vs vd : Value) (P : PolP) (sk : List UInt8) (cnt : Nat) (e : EvP) (u : Value) (m : Int) (w : World) (h : SvAt w0 w b vr vs vd P sk cnt) (hF : P.Few) (hu : AttrsR w u e.a) (hs : e.n.length + e.t.length + bulkA e.a ≤ 4000000) (hc : cnt ≤ 1000000000)
    (hm : w.cell? ⟨4, 0, none⟩ = some (.int .i64 m)) :
    Calls Tryz.prog 22 #[.pointer (some ⟨b, 0, none⟩), .agg (evC e u)] w fun r w' => ∃ v, r = .returned v ∧ TakeV w' w.heap.size (sieveL P (sk, cnt) e).2 v ∧ w'.heap[b]? = some (.cells (sieveC vr vs vd P (sieveL P (sk, cnt) e).1.1 (sieveL P (sk, cnt) e).1.2) 77 (0, 0)) ∧ w.grownBy w' (some b) := by
  obtain ⟨up, uc, rfl⟩ := hu.len
  obtain ⟨W1, hW1⟩ : ∃ W1, (w.alloc (.cells (evC e (.slice up e.a.length uc)) 44)).alloc (.cells zeroEv 44) = W1 := ⟨_, rfl⟩
  have hB : Below w.heap.size w W1 := by rw [← hW1]; exact ((Below.refl w.heap.size w).alloc (Nat.le_refl _) _).alloc (by simp) _
  have hA : StA w W1 b e (.slice up e.a.length uc) (sieveC vr vs vd P sk cnt) := by
    refine ⟨grown_below hB _, (hB.block b (block_lt h.at_)).trans h.at_, ?_, ?_, block_lt h.at_⟩
    · rw [← hW1]; exact (Go.Lib.alloc_old _ _ _ (by simp)).trans (heap_alloc_new w _)
    · rw [← hW1]; exact heap_two_new w _ _ _
  have hS1 := h.below hB
  have hu1 := hu.below hB
  have hm1 := cell_low hm hB (cell_block hm)
  obtain ⟨c2, c4, c5, c6, f5, f6⟩ := sieve_cells hA.s
  obtain ⟨d0, d1, d2, d3⟩ := evC_at hA.b0
  obtain ⟨z0, z1, z2, z3, y0, y1, y2, y3⟩ := hA.cells
  have HA := hid hA
  have hsz : w.heap.size ≤ W1.heap.size := hB.size
  by_cases hcz : 0 < cnt
  · have hsk := sieveSkip_any w0 b vr vs vd P sk cnt e (.slice up e.a.length uc) W1 hS1 ⟨_, _, _, rfl⟩ hcz hc
    have es : sieveL P (sk, cnt) e = ((sk, skipF (sk, cnt) e), none) := by unfold sieveL; rw [if_pos hcz]
    rw [es]
    simp only
    generalize skipF (sk, cnt) e = cnt2 at hsk ⊢
    have HSK := hid hsk
    unfold evC at hW1 HSK ⊢
    unfold zeroEv at hW1
    clear hsk es hS1 hu1 hm1 hA hB h hu hm hF
    go_enter Tryz.func22, Tryz.ntmps22
    go_upto_region 1 with fail
    clear hW1
    go_wp2_with fail
    refine HSK.out.mono ?_
    rintro r W2 ⟨rfl, s2, g2⟩
    have hA2 := HA.out.grown g2 s2
    clear z0 z1 z2 z3 y0 y1 y2 y3
    obtain ⟨z0, z1, z2, z3, y0, y1, y2, y3⟩ := hA2.cells
    have HD := hA2.done (.int .i64 0) (.string ⟨#[]⟩) (.slice none 0 0) (.string ⟨#[]⟩)
    clear hA2 s2 g2 HA HSK c2 c4 c5 c6 f5 f6
    go_wp2_with fail
    refine bodyPost_ret (v := .tuple #[.agg zeroEv, .bool false]) (results_two rfl _ _ _ _ _ _ _ rfl HD.out.1 Tryz.underlying44 rfl (by kernel_rfl) _ rfl) rfl ⟨_, rfl, rfl, HD.out.2⟩
  obtain rfl : cnt = 0 := by omega
  by_cases k1 : e.k = 1
  · have hst := start_any w0 b vr vs vd P sk e (.slice up e.a.length uc) m W1 hS1 hF hu1 (by omega) k1 hm1
    generalize sieveL P (sk, 0) e = q at hst ⊢
    obtain ⟨⟨q1, q2⟩, q3⟩ := q
    simp only at hst ⊢
    have HST := hid hst
    unfold evC at hW1 HST ⊢
    unfold zeroEv at hW1
    rw [k1] at d0
    simp only [k1] at hW1 HST ⊢
    clear hst hS1 hu1 hm1 hA hB h hu hm hF k1
    go_enter Tryz.func22, Tryz.ntmps22
    go_upto_region 1 with fail
    clear hW1
    go_wp2_with fail
    refine HST.out.mono ?_
    rintro r W2 ⟨rv, rfl, hrv, s2, g2⟩
    have hA2 := HA.out.grown g2 s2
    clear z0 z1 z2 z3 y0 y1 y2 y3
    obtain ⟨z0, z1, z2, z3, y0, y1, y2, y3⟩ := hA2.cells
    cases q3 with
    | none =>
      obtain rfl : rv = _ := hrv
      unfold zeroEv
      have HD := hA2.done (.int .i64 0) (.string ⟨#[]⟩) (.slice none 0 0) (.string ⟨#[]⟩)
      clear hA2 s2 g2 HA HST c2 c4 c5 c6 f5 f6
      go_wp2_with fail
      refine bodyPost_ret (v := .tuple #[.agg zeroEv, .bool false]) (results_two rfl _ _ _ _ _ _ _ rfl HD.out.1 Tryz.underlying44 rfl (by kernel_rfl) _ rfl) rfl ⟨_, rfl, rfl, HD.out.2⟩
    | some ev =>
      obtain ⟨ek, en, ap, am, ac, et, rfl, hev⟩ := hrv
      have HD := hA2.done (.int .i64 ek) (.string en) (.slice ap am ac) (.string et)
      have hj := zero_just (p0 := .int .i64 ek) (p1 := .string en) (p2 := .slice ap am ac) (p3 := .string et) (by have := hA2.b1; unfold zeroEv at this; exact this)
      have hev2 := hid (evs1_low hsz (evs1_just hA2.b1 hj hev))
      clear hA2 s2 g2 HA HST c2 c4 c5 c6 f5 f6 hj hev
      go_wp2_with fail
      refine bodyPost_ret (v := .tuple #[.agg #[.int .i64 ek, .string en, .slice ap am ac, .string et], .bool true]) (results_two rfl _ _ _ _ _ _ _ rfl HD.out.1 Tryz.underlying44 rfl (by kernel_rfl) _ rfl) rfl ⟨_, rfl, ⟨ek, en, ap, am, ac, et, rfl, hev2.out⟩, HD.out.2⟩
  have n1 := int_ne' k1
  have es : sieveL P (sk, 0) e = ((sk, 0), outL P e) := by unfold sieveL; rw [if_neg hcz, if_neg (fun h => k1 h.1)]
  rw [es]
  simp only
  by_cases k2 : e.k = 2
  · have eo : outL P e = if (ruleL P.rules e.n).isSome = true then some (.stop e.n) else none := by unfold outL; rw [if_neg k1, if_pos k2]
    rw [eo]
    have hru := rule_any w0 b vr vs vd P sk 0 (bs e.n) W1 hS1 hF
    rw [bs_toList] at hru
    obtain ⟨ro, hro⟩ : ∃ ro, ruleL P.rules e.n = ro := ⟨_, rfl⟩
    rw [hro] at hru ⊢
    obtain ⟨N, hN⟩ : ∃ N, bs e.n = N := ⟨_, rfl⟩
    rw [hN] at hru d1
    have HRU := hid hru
    unfold evC at hW1 ⊢
    unfold zeroEv at hW1
    rw [k2] at d0 n1
    simp only [k2, hN] at hW1 ⊢
    have HNN := hid hN
    clear hru hro eo es hS1 hu1 hm1 hA hB h hu hm hF hN k1 k2
    go_enter Tryz.func22, Tryz.ntmps22
    go_upto_region 1 with fail
    clear hW1
    go_wp2_with fail
    refine HRU.out.mono ?_
    rintro r W2 ⟨rv, rfl, hrv, b2⟩
    have hA2 := HA.out.below b2
    clear z0 z1 z2 z3 y0 y1 y2 y3 d0 d1 d2 d3
    cases ro with
    | none =>
      obtain rfl : rv = _ := hrv
      have hA3 : StA w (W2.alloc (.cells #[.string ⟨#[]⟩, .slice none 0 0] 53)) b e (.slice up e.a.length uc) (sieveC vr vs vd P sk 0) := hA2.below ((Below.refl _ _).alloc (Nat.le_refl _) _)
      obtain ⟨z0, z1, z2, z3, y0, y1, y2, y3⟩ := hA3.cells
      have HD := hA3.done (.int .i64 0) (.string ⟨#[]⟩) (.slice none 0 0) (.string ⟨#[]⟩)
      clear hA2 hA3 HA HRU b2 c2 c4 c5 c6 f5 f6
      go_wp2_with fail
      refine bodyPost_ret (v := .tuple #[.agg zeroEv, .bool false]) (results_two rfl _ _ _ _ _ _ _ rfl HD.out.1 Tryz.underlying44 rfl (by kernel_rfl) _ rfl) rfl ⟨_, rfl, rfl, HD.out.2⟩
    | some l =>
      obtain ⟨ru, rfl, hwr⟩ := hrv
      obtain ⟨rp, rc, rfl, _⟩ := hwr.len
      obtain ⟨W3, hW3⟩ : ∃ W3, W2.alloc (.cells #[.string N, .slice rp l.length rc] 53) = W3 := ⟨_, rfl⟩
      have hA3 := hA2.below (W' := W3) (by rw [← hW3]; exact (Below.refl _ _).alloc (Nat.le_refl _) _)
      rw [HNN.out]
      obtain ⟨d0, d1, d2, -⟩ := evC_at hA3.b0
      rw [HNN.out] at d1
      obtain ⟨z0, z1, z2, z3, y0, y1, y2, y3⟩ := hA3.cells
      have HD := hA3.done (.int .i64 2) (.string N) (.slice none 0 0) (.string ⟨#[]⟩)
      clear hA2 hA3 HA HRU b2 hwr c2 c4 c5 c6 f5 f6
      go_wp2_with fail
      refine bodyPost_ret (v := .tuple #[.agg #[.int .i64 2, .string N, .slice none 0 0, .string ⟨#[]⟩], .bool true]) (results_two rfl _ _ _ _ _ _ _ rfl HD.out.1 Tryz.underlying44 rfl (by kernel_rfl) _ rfl) rfl ⟨_, rfl, ⟨2, N, none, 0, 0, ⟨#[]⟩, rfl, ⟨rfl, by rw [← HNN.out]; rfl, rfl, rfl⟩, trivial⟩, HD.out.2⟩
  have n2 := int_ne' k2
  by_cases k3 : e.k = 3
  · have eo : outL P e = if e.t = [] then none else some (.text e.t) := by unfold outL; rw [if_neg k1, if_neg k2, if_pos k3]
    rw [eo]
    obtain ⟨T, hT⟩ : ∃ T, bs e.t = T := ⟨_, rfl⟩
    have hTL : T.toList = e.t := by rw [← hT, bs_toList]
    rw [hT] at d3
    unfold evC at hW1 ⊢
    unfold zeroEv at hW1
    rw [k3] at d0 n1 n2
    simp only [k3, hT] at hW1 ⊢
    have HTT := hid hT
    by_cases h4 : e.t = []
    · rw [if_pos h4]
      have q : (T.toList != []) = false := by rw [hTL, h4]; rfl
      have qe : T.toList.isEmpty = true := by rw [hTL, h4]; rfl
      have HD := HA.out.done (.int .i64 0) (.string ⟨#[]⟩) (.slice none 0 0) (.string ⟨#[]⟩)
      clear eo es hS1 hu1 hm1 hA hB h hu hm hF hT k1 k2 k3 hTL h4 HA
      go_enter Tryz.func22, Tryz.ntmps22
      go_upto_region 1 with fail
      clear hW1
      go_wp2_with fail
      refine bodyPost_ret (v := .tuple #[.agg zeroEv, .bool false]) (results_two rfl _ _ _ _ _ _ _ rfl HD.out.1 Tryz.underlying44 rfl (by kernel_rfl) _ rfl) rfl ⟨_, rfl, rfl, HD.out.2⟩
    · rw [if_neg h4]
      have q : (T.toList != []) = true := by rw [hTL]; exact bne_iff_ne.2 h4
      have qe : T.toList.isEmpty = false := by rw [hTL]; cases hh : e.t with | nil => exact absurd hh h4 | cons x y => rfl
      have HD := HA.out.done (.int .i64 3) (.string ⟨#[]⟩) (.slice none 0 0) (.string T)
      clear eo es hS1 hu1 hm1 hA hB h hu hm hF hT k1 k2 k3 hTL h4 HA
      go_enter Tryz.func22, Tryz.ntmps22
      go_upto_region 1 with fail
      clear hW1
      go_wp2_with fail
      refine bodyPost_ret (v := .tuple #[.agg #[.int .i64 3, .string ⟨#[]⟩, .slice none 0 0, .string T], .bool true]) (results_two rfl _ _ _ _ _ _ _ rfl HD.out.1 Tryz.underlying44 rfl (by kernel_rfl) _ rfl) rfl ⟨_, rfl, ⟨3, ⟨#[]⟩, none, 0, 0, T, rfl, ⟨rfl, rfl, rfl, by rw [← HTT.out]; rfl⟩, trivial⟩, HD.out.2⟩
  have n3 := int_ne' k3
  have eo : outL P e = none := by unfold outL; rw [if_neg k1, if_neg k2, if_neg k3]
  rw [eo]
  have HD := HA.out.done (.int .i64 0) (.string ⟨#[]⟩) (.slice none 0 0) (.string ⟨#[]⟩)
  unfold evC at hW1 ⊢
  unfold zeroEv at hW1
  clear eo es hS1 hu1 hm1 hA hB h hu hm hF k1 k2 k3 HA
  go_enter Tryz.func22, Tryz.ntmps22
  go_upto_region 1 with fail
  clear hW1
  go_wp2_with fail
  refine bodyPost_ret (v := .tuple #[.agg zeroEv, .bool false]) (results_two rfl _ _ _ _ _ _ _ rfl HD.out.1 Tryz.underlying44 rfl (by kernel_rfl) _ rfl) rfl ⟨_, rfl, rfl, HD.out.2⟩

set_option maxHeartbeats 2000000 in
theorem sieveNew_any (vr vs vd : Value) (P : PolP) (w : World) (h : PolR w vr vs vd P) :
    Calls Tryz.prog 21 #[.agg (polC vr vs vd P)] w fun r w' => r = .returned (.pointer (some ⟨w.heap.size + 1, 0, none⟩)) ∧ SvAt w w' (w.heap.size + 1) vr vs vd P [] 0 ∧ w'.heap.size = w.heap.size + 2 := by
  obtain ⟨r1, r2, r3, rfl⟩ := h.rules.shape
  obtain ⟨s1, s2, s3, rfl⟩ := h.schemes.shape
  obtain ⟨d1, d2, d3, rfl⟩ := h.drop.shape
  have hX : SvAt w ((w.alloc (.cells (polC (.slice r1 r2 r3) (.slice s1 s2 s3) (.slice d1 d2 d3) P) 25)).alloc (.cells (sieveC (.slice r1 r2 r3) (.slice s1 s2 s3) (.slice d1 d2 d3) P [] 0) 77)) (w.heap.size + 1) (.slice r1 r2 r3) (.slice s1 s2 s3) (.slice d1 d2 d3) P [] 0 :=
    ⟨heap_two_new w _ _ _, h, ((Below.refl w.heap.size w).alloc (Nat.le_refl _) _).alloc (by simp) _, by omega⟩
  have HX := hid hX
  unfold polC sieveC at HX
  unfold polC
  clear hX h
  go_enter Tryz.func21, Tryz.ntmps21
  go_wp2
  go_ret
  exact ⟨rfl, HX.out, by simp⟩
end Go.Proofs.YtkcgmimldjeaiaaGreatDoor

/-
  policy.Filter: its walk.
-/
namespace Go.Proofs.YtkcgmimldjeaiaaGreatDoor
open Go.RowKit Go.Lib Own

/-- a list of events that a call made: its row, the events, and that their lists of attributes stand apart -/
structure MadeE (W : World) (base : Nat) (v : Value) (J : List Ev) (xs : List Value) : Prop where
  row : W.ownsRow base 44 4 v J.length xs
  evs : EvsAt W base xs J
  ap : Apart xs
theorem MadeE.nil (W : World) (base : Nat) : MadeE W base (.slice none 0 0) [] [] := ⟨World.ownsRow_nil _ _ _ _, trivial, trivial⟩
theorem MadeE.grown {W W' : World} {base : Nat} {v : Value} {J : List Ev} {xs : List Value} {r : Option Nat} (h : MadeE W base v J xs) (g : W.grownBy W' r) (h1 : v.ownBlock = none ∨ v.ownBlock ≠ r) (h2 : ∀ a n ys, W.ownsRow base 66 2 a n ys → a.ownBlock = none ∨ a.ownBlock ≠ r) : MadeE W' base v J xs :=
  ⟨h.row.kept g h1, evs_mono (fun _ _ _ hr => hr.kept g (h2 _ _ _ hr)) xs J h.evs, h.ap⟩
theorem MadeE.below {W W' : World} {base : Nat} {v : Value} {J : List Ev} {xs : List Value} (h : MadeE W base v J xs) (hb : Below W.heap.size W W') : MadeE W' base v J xs :=
  ⟨row_below h.row hb, evs_mono (fun _ _ _ hr => row_below hr hb) xs J h.evs, h.ap⟩
theorem evsAll_low {W : World} {B base : Nat} (hb : base ≤ B) : ∀ (xs : List Value) (l : List Ev), EvsAt W B xs l → EvsAt W base xs l
  | [], [], _ => trivial
  | k :: n :: a :: t :: r, e :: l, ⟨h1, h2⟩ => by
    refine ⟨?_, evsAll_low hb r l h2⟩
    cases e with
    | text b => exact h1
    | start m at_ => exact ⟨h1.1, h1.2.1, row_low h1.2.2.1 hb, h1.2.2.2⟩
    | stop m => exact h1
  | [], _ :: _, h => h.elim
  | [_], _, h => by cases ‹List Ev› <;> exact h.elim
  | [_, _], _, h => by cases ‹List Ev› <;> exact h.elim
  | [_, _, _], _, h => by cases ‹List Ev› <;> exact h.elim
  | _ :: _ :: _ :: _ :: _, [], h => h.elim
theorem MadeE.low {W : World} {B base : Nat} {v : Value} {J : List Ev} {xs : List Value} (h : MadeE W B v J xs) (hb : base ≤ B) : MadeE W base v J xs :=
  ⟨row_low h.row hb, evsAll_low hb xs J h.evs, h.ap⟩
/-- one more event -/
theorem MadeE.more {W W2 : World} {base : Nat} {v v' : Value} {J : List Ev} {xs : List Value} {k n a t : Value} {ev : Ev} {X : Obj} (h : MadeE W base v J xs) (he : EvsAt W base [k, n, a, t] [ev]) (hn : ∀ g, a.ownBlock = some g → NotIn g xs)
    (hg : (W.alloc X).grownBy W2 v.ownBlock) (hv : W2.ownsRow base 44 4 v' (J.length + 1) (xs ++ [k, n, a, t])) : MadeE W2 base v' (J ++ [ev]) (xs ++ [k, n, a, t]) := by
  have hra := h.row.alloc X
  have mono : ∀ a n ys, W.ownsRow base 66 2 a n ys → W2.ownsRow base 66 2 a n ys := fun a n ys hr => (hr.alloc X).kept hg (rows_ne (hr.alloc X) hra (by decide))
  refine ⟨by rw [List.length_append]; exact hv, evs_mono mono _ _ (evs_snoc2 xs J h.evs he), apart_snoc xs J h.evs h.ap hn⟩

set_option maxHeartbeats 8000000 in
set_option maxRecDepth 100000 in
theorem filter_any (vr vs vd : Value) (P : PolP) (ev : Value) (es : List EvP) (m : Int) (w : World) (h : PolR w vr vs vd P) (hF : P.Few) (hK : KindsTab w) (hV : VAttrTab w) (he : EvsR w ev es) (hs : bulkE es ≤ 4000000)
    (hm : w.cell? ⟨4, 0, none⟩ = some (.int .i64 m)) :
    Calls Tryz.prog 7 #[.agg (polC vr vs vd P), ev] w fun r w' => ∃ v xs, r = .returned v ∧ MadeE w' w.heap.size v (if checkC P = 0 then filterP P es else []) xs ∧ Below w.heap.size w w' := by
  obtain ⟨ep, ec, rfl, _, hem, hcell⟩ := he
  have hlen := bulkE_len es
  -- the policy's box
  obtain ⟨W1, hW1⟩ : ∃ W1, w.alloc (.cells (polC vr vs vd P) 25) = W1 := ⟨_, rfl⟩
  have hB : Below w.heap.size w W1 := by rw [← hW1]; exact (Below.refl w.heap.size w).alloc (Nat.le_refl _) _
  have b0 : W1.heap[w.heap.size]? = some (.cells (polC vr vs vd P) 25 (0, 0)) := by rw [← hW1]; exact heap_alloc_new w _
  have hck := check_any vr vs vd P W1 (h.below hB) hF (hK.below hB) (hV.below hB)
  have hnew := fun W (hb : Below W1.heap.size W1 W) => sieveNew_any vr vs vd P W ((h.below hB).below hb)
  obtain ⟨rp, rc, hvr, _⟩ := h.rules
  obtain ⟨sp, sc, hvs, _⟩ := h.schemes
  obtain ⟨dp, dc, hvd, _⟩ := h.drop
  subst hvr hvs hvd
  obtain ⟨R, hR⟩ : ∃ R, filterP P es = R := ⟨_, rfl⟩
  have hRl : R.length ≤ es.length := by rw [← hR]; exact filt_len P es _
  rw [hR]
  have hRR : [] ++ filtL P ([], 0) (es.drop 0) = R := hR
  obtain ⟨c0, c1, c2, c3, c4⟩ := polC_at (P := P) b0
  have HC := hid hcell
  have HFW := hid hF
  have HB := hid (And.intro hB b0)
  have HCK := hid hck
  have HNW := hid hnew
  have HM := hid hm
  have HS := hid hs
  have HR := hid (fun (_ : True) => hRR)
  have HRL := hid hRl
  have hln : es.length ≤ 4000000 := by omega
  obtain ⟨ei, hei, he0, he1, he2⟩ := info_parts info_event
  unfold polC at hW1 HCK HNW ⊢
  generalize checkC P = ck at HCK ⊢
  clear hcell hlen hck hnew hR hRl hRR hF h hK hV hs hm hB b0
  go_enter Tryz.func7, Tryz.ntmps7
  go_upto_region 1 with fail
  clear hW1
  go_wp2_with fail
  refine HCK.out.mono ?_
  rintro r W2 ⟨rfl, b2⟩
  have hbox2 := (b2.block _ (block_lt HB.out.2)).trans HB.out.2
  clear c0 c1 c2 c3 c4
  by_cases hc : ck = 0
  · subst hc
    obtain ⟨c0, c1, c2, c3, c4⟩ := polC_at (P := P) hbox2
    have hbw2 := HB.out.1.trans (b2.mono HB.out.1.size)
    have HB2 := hid hbw2
    have hnw := HNW.out W2 b2
    have HNW2 := hid hnw
    clear HNW hnw b2 hbox2 hbw2 HCK
    go_wp2_with fail
    refine HNW2.out.mono ?_
    rintro r W3 ⟨rfl, sv3, sz3⟩
    obtain ⟨bS, hbS⟩ : ∃ bS, W2.heap.size + 1 = bS := ⟨_, rfl⟩
    rw [hbS] at sv3
    simp only [hbS]
    have hlo : w.heap.size ≤ bS := by have := HB2.out.size; omega
    have H3 := hid (And.intro sv3 (HB2.out.trans (sv3.be.mono HB2.out.size)))
    clear sv3 sz3 hbS HNW2 c0 c1 c2 c3 c4
    go_wp2_with fail
    go_loopw [5, 18] (fun av iv wr => ∃ (k : Nat) (J : List Ev) (sk : List UInt8) (cnt : Nat) (xs : List Value), iv = .int .i64 k ∧ k ≤ es.length ∧ Hid (MadeE wr W2.heap.size av J xs ∧ Below w.heap.size w wr ∧ SvAt W2 wr bS (.slice rp P.rules.length rc) (.slice sp P.schemes.length sc) (.slice dp P.drop.length dc) P sk cnt ∧ cnt ≤ k ∧ J.length ≤ k) ∧ Hid (True → J ++ filtL P (sk, cnt) (es.drop k) = R)) (fun _ iv _ => es.length - (RowKit.intOf iv).toNat)
    case atStart => exact ⟨0, [], [], 0, [], rfl, Nat.zero_le _, hid ⟨MadeE.nil _ _, H3.out.2, H3.out.1, Nat.le_refl _, Nat.le_refl _⟩, HR⟩
    case round =>
      obtain ⟨k, J, sk, cnt, xs, rfl, hk, HX, HK⟩ := hrel
      obtain ⟨jp, jc, rfl⟩ := row_shape HX.out.1.row
      clear H3 HR
      by_cases hkl : k < es.length
      · obtain ⟨e, hek⟩ : ∃ e, es[k]? = some e := ⟨_, List.getElem?_eq_getElem hkl⟩
        obtain ⟨b, o, u, rfl, q0, q1, q2, q3, q4⟩ := HC.out k e hek
        obtain ⟨hmade, hbw, hsv, hcn, hjn⟩ := HX.out
        have hab := bulkE_get hek
        have hSS := HS.out
        have hq4 := q4.below hbw
        replace q0 := cell_low q0 hbw (cell_block q0)
        replace q1 := cell_low q1 hbw (cell_block q1)
        replace q2 := cell_low q2 hbw (cell_block q2)
        replace q3 := cell_low q3 hbw (cell_block q3)
        obtain ⟨up, uc, rfl⟩ := q4.len
        have hd := HK.out trivial
        rw [drop_at hek, filt_step] at hd
        obtain ⟨W4, hW4⟩ : ∃ W4, wr.alloc (.cells (evC e (.slice up e.a.length uc)) 44) = W4 := ⟨_, rfl⟩
        have hb4 : Below wr.heap.size wr W4 := by rw [← hW4]; exact (Below.refl _ _).alloc (Nat.le_refl _) _
        have hbw4 := hbw.trans (hb4.mono hbw.size)
        have hn4 : W4.heap[wr.heap.size]? = some (.cells (evC e (.slice up e.a.length uc)) 44 (0, 0)) := by rw [← hW4]; exact heap_alloc_new _ _
        obtain ⟨d0, d1, d2, d3⟩ := evC_at hn4
        have htk := take_any W2 bS _ _ _ P sk cnt e (.slice up e.a.length uc) m W4 (hsv.below hb4) HFW.out (hq4.below hb4) (by omega) (by omega) (cell_low HM.out hbw4 (cell_block HM.out))
        have hl1 := sieve_opt P (sk, cnt) e
        have hc1 : (sieveL P (sk, cnt) e).1.2 ≤ cnt + 1 := by
          unfold sieveL
          split
          · simp only; unfold skipF; split
            · omega
            · split <;> omega
          · split
            · simp only; omega
            · simp only; omega
        generalize sieveL P (sk, cnt) e = q at htk hd hl1 hc1
        obtain ⟨⟨sk2, cnt2⟩, o2⟩ := q
        simp only at htk hd hl1 hc1
        have HTK := hid htk
        have HD := hid (fun (_ : True) => (by rw [List.append_assoc]; exact hd : (J ++ o2.toList) ++ filtL P (sk2, cnt2) (es.drop (k + 1)) = R))
        have hmd4 := hmade.below hb4
        have hsv4 := hsv.below hb4
        have H4 := hid (And.intro hmd4 (And.intro hbw4 hsv4))
        have hxlt : ∀ g, W4.heap.size ≤ g → NotIn g xs := fun g hg => notIn_new hg xs J hmd4.evs
        have HXL := hid hxlt
        unfold evC at hW4 HTK
        clear htk hd hl1 hmade hbw hsv hb4 hbw4 hmd4 hsv4 hxlt hek hab hSS hq4 q4 hn4 HX HK HC
        go_upto_region 8 with fail
        clear hW4 q0 q1 q2 q3
        go_wp2_with fail
        refine HTK.out.mono ?_
        rintro r W5 ⟨rv, rfl, hrv, s5, g5⟩
        obtain ⟨hmd4, hbw4, hsv4⟩ := H4.out
        have hmd5 := hmd4.grown g5 (.inr (row_ne hmd4.row hsv4.at_ (by decide))) (fun _ _ _ hr => .inr (row_ne hr hsv4.at_ (by decide)))
        have hbw5 := hbw4.grown g5 hbw4.size (fun k hk => by cases hk; exact hlo)
        have hsv5 : SvAt W2 W5 bS (.slice rp P.rules.length rc) (.slice sp P.schemes.length sc) (.slice dp P.drop.length dc) P sk2 cnt2 := ⟨s5, hsv4.pol, hsv4.be.grown g5 hsv4.be.size (fun k hk => by cases hk; exact hsv4.lo), hsv4.lo⟩
        have hsz4 : W2.heap.size ≤ W4.heap.size := hsv4.be.size
        have hww := HB2.out.size
        cases o2 with
        | none =>
          obtain rfl : rv = _ := hrv
          have hb6 : Below W5.heap.size W5 (W5.alloc (.cells zeroEv 44)) := (Below.refl _ _).alloc (Nat.le_refl _) _
          have HZ := hid (And.intro (hmd5.below hb6) (And.intro (hbw5.trans (hb6.mono hbw5.size)) (And.intro (hsv5.below hb6) (And.intro (show cnt2 ≤ k + 1 by omega) (show J.length ≤ k + 1 by omega)))))
          have HD2 := hid (fun (_ : True) => (by have := HD.out trivial; rwa [show J ++ (none : Option Ev).toList = J from List.append_nil J] at this : J ++ filtL P (sk2, cnt2) (es.drop (k + 1)) = R))
          unfold zeroEv at HZ ⊢
          clear hmd4 hbw4 hsv4 hmd5 hbw5 hsv5 hb6 s5 g5 H4 HTK HXL HD
          go_wp2_with fail
          go_roundw
          case rel => exact ⟨k + 1, J, sk2, cnt2, xs, rfl, by omega, HZ, HD2⟩
          case measure => simp [RowKit.intOf]; omega
        | some ev =>
          obtain ⟨ek, en, ap, am, ac, et, rfl, hev⟩ := hrv
          obtain ⟨W6, hW6⟩ : ∃ W6, W5.alloc (.cells #[.int .i64 ek, .string en, .slice ap am ac, .string et] 44) = W6 := ⟨_, rfl⟩
          have hb6 : Below W5.heap.size W5 W6 := by rw [← hW6]; exact (Below.refl _ _).alloc (Nat.le_refl _) _
          have hn6 : W6.heap[W5.heap.size]? = some (.cells #[.int .i64 ek, .string en, .slice ap am ac, .string et] 44 (0, 0)) := by rw [← hW6]; exact heap_alloc_new _ _
          have hev5 : EvsAt W5 W2.heap.size [.int .i64 ek, .string en, .slice ap am ac, .string et] [ev] := evs1_low hsz4 hev
          have hnot : ∀ g, (Value.slice ap am ac).ownBlock = some g → NotIn g xs := fun g hg => by
            cases ev with
            | text b => have := hev.1.2.2.1; rw [this] at hg; cases hg
            | start n x => exact HXL.out g (hev.1.2.2.1.lt g hg).1
            | stop n => have := hev.1.2.2.1; rw [this] at hg; cases hg
          have hev6 : EvsAt W6 W2.heap.size [.int .i64 ek, .string en, .slice ap am ac, .string et] [ev] := evs_mono (fun _ _ _ hr => row_below hr hb6) _ _ hev5
          have hmd6 := hmd5.below hb6
          have hbw6 := hbw5.trans (hb6.mono hbw5.size)
          have hsv6 := hsv5.below hb6
          have hown := hmd6.row
          have hbs6 := hsv6.be.size
          have hbs6w := hbw6.size
          obtain ⟨x0, x1, x2, x3⟩ := (⟨cell_at hn6 rfl, cell_at hn6 rfl, cell_at hn6 rfl, cell_at hn6 rfl⟩ : W6.cell? ⟨W5.heap.size, 0, none⟩ = some (.int .i64 ek) ∧ W6.cell? ⟨W5.heap.size, 1, none⟩ = some (.string en) ∧ W6.cell? ⟨W5.heap.size, 2, none⟩ = some (.slice ap am ac) ∧ W6.cell? ⟨W5.heap.size, 3, none⟩ = some (.string et))
          have hone : ∀ u ∈ [Value.int .i64 ek, .string en, .slice ap am ac, .string et], u.oneCell' = true := by simp [Value.oneCell']
          have HO := hid hone
          have H6 := hid (And.intro hmd6 (And.intro hev6 (And.intro hbw6 (And.intro hsv6 hnot))))
          clear hmd4 hbw4 hsv4 hmd5 hbw5 hsv5 hb6 s5 g5 H4 HTK HXL hev hev5 hev6 hnot hmd6 hbw6 hsv6 hn6 hone d0 d1 d2 d3
          go_wp2_with (at_builtin; refine wpList_append_own _ rfl (.tmp 29) (.tmp 31) 26 rfl W2.heap.size 44 ei (.agg #[.int .i64 0, .string ⟨#[]⟩, .slice none 0 0, .string ⟨#[]⟩]) 4 64 Tryz.underlying26 hei he0 he1 he2 rfl (by decide) _ _ _ rfl (hown.alloc _) ⟨_, 0, none⟩ 1 1 [.int .i64 ek, .string en, .slice ap am ac, .string et] rfl rfl (cells_newV _ _ _) HO.out (by unfold maxLen; omega) (by omega) (by simp; omega) ?_)
          intro v7 W7 hown7 hgrow7 _
          obtain ⟨hmd6, hev6, hbw6, hsv6, hnot⟩ := H6.out
          have hra := hown.alloc (.cells #[.int .i64 ek, .string en, .slice ap am ac, .string et] 44)
          have hmd7 := hmd6.more hev6 hnot hgrow7 hown7
          have hbw7 := (hbw6.alloc hbs6w (.cells #[.int .i64 ek, .string en, .slice ap am ac, .string et] 44)).grown hgrow7 (by simp; omega) (fun k hk => Nat.le_trans hww (hra.lt k hk).1)
          have hsv7 : SvAt W2 W7 bS (.slice rp P.rules.length rc) (.slice sp P.schemes.length sc) (.slice dp P.drop.length dc) P sk2 cnt2 :=
            ⟨grown_at hgrow7 ((Go.Lib.alloc_old _ _ _ (block_lt hsv6.at_)).trans hsv6.at_) (row_ne hra ((Go.Lib.alloc_old _ _ _ (block_lt hsv6.at_)).trans hsv6.at_) (by decide)), hsv6.pol, (hsv6.be.alloc hsv6.be.size _).grown hgrow7 (by have := hsv6.be.size; simp; omega) (fun k hk => (hra.lt k hk).1), hsv6.lo⟩
          have HZ := hid (And.intro hmd7 (And.intro hbw7 (And.intro hsv7 (And.intro (show cnt2 ≤ k + 1 by omega) (show (J ++ [ev]).length ≤ k + 1 by rw [List.length_append]; simp; omega)))))
          clear hmd6 hev6 hbw6 hsv6 hnot hra hmd7 hbw7 hsv7 hown7 hgrow7 hown H6 x0 x1 x2 x3
          go_wp2
          go_roundw
          case rel => exact ⟨k + 1, J ++ [ev], sk2, cnt2, _, rfl, by omega, HZ, HD⟩
          case measure => simp [RowKit.intOf]; omega
      · obtain rfl : J = R := by
          have := HK.out trivial
          rw [List.drop_of_length_le (by omega)] at this
          rwa [show filtL P (sk, cnt) [] = [] from rfl, List.append_nil] at this
        have HZ := hid (And.intro (HX.out.1.low HB2.out.size) HX.out.2.1)
        clear HK HX HC
        go_wp2_with fail
        go_ret
        exact ⟨_, rfl, ⟨xs, HZ.out.1⟩, HZ.out.2⟩
  · have q : (((ck : Nat) : Int) != 0) = true := bne_iff_ne.2 (by omega)
    have hbw2 := hid (HB.out.1.trans (b2.mono HB.out.1.size))
    clear HNW b2 hbox2 HCK HC HFW HB HM HS HR HRL
    go_wp2_with fail
    go_ret
    exact ⟨_, rfl, ⟨[], by first | exact MadeE.nil _ _ | (rw [if_neg hc]; exact MadeE.nil _ _)⟩, hbw2.out⟩
end Go.Proofs.YtkcgmimldjeaiaaGreatDoor

/-
  The reference's ruleOf, keptAttrs, dropEnd, tagFits, Filter: their walks.
-/
namespace Go.Proofs.YtkcgmimldjeaiaaGreatDoor
open Go.RowKit Go.Lib Own

theorem refLink_any (x : ByteArray) (w : World) : Calls Tryz.prog 29 #[.string x] w fun e w' => e = .returned (.bool (isLinkL x.toList)) ∧ w' = w := by
  unfold isLinkL
  by_cases h1 : (x.toList == [99, 105, 116, 101]) = true
  · rw [h1, Bool.true_or]
    go_enter Tryz.func29, Tryz.ntmps29
    go_wp2
    go_ret
    exact ⟨rfl, rfl⟩
  rw [Bool.not_eq_true] at h1
  rw [h1, Bool.false_or]
  by_cases h2 : (x.toList == [104, 114, 101, 102]) = true
  · rw [h2, Bool.true_or]
    go_enter Tryz.func29, Tryz.ntmps29
    go_wp2
    go_ret
    exact ⟨rfl, rfl⟩
  rw [Bool.not_eq_true] at h2
  rw [h2, Bool.false_or]
  obtain ⟨R, hR⟩ : ∃ R, (x.toList == [115, 114, 99]) = R := ⟨_, rfl⟩
  rw [hR]
  go_enter Tryz.func29, Tryz.ntmps29
  go_wp2
  go_ret
  exact ⟨rfl, rfl⟩

/-- what ruleOf answers -/
def RuleO (W : World) : Option (List (List UInt8)) → Value → Prop
  | none, v => v = .tuple #[.slice none 0 0, .bool false]
  | some l, v => ∃ u, v = .tuple #[u, .bool true] ∧ Words W u l

theorem ruleL_cons (r : RuleP) (rs : List RuleP) (n : List UInt8) : ruleL (r :: rs) n = if r.1 = n then some r.2 else ruleL rs n := rfl
set_option maxHeartbeats 4000000 in
set_option maxRecDepth 100000 in
theorem ruleOf_any (vr vs vd : Value) (P : PolP) (x : ByteArray) (w : World) (h : PolR w vr vs vd P) :
    Calls Tryz.prog 13 #[.agg (polC vr vs vd P), .string x] w fun e w' => ∃ v, e = .returned v ∧ RuleO w (ruleL P.rules x.toList) v ∧ Below w.heap.size w w' := by
  obtain ⟨rp, rc, hvr, _, hrm, hcell⟩ := h.rules
  obtain ⟨s1, s2, s3, hvs⟩ := h.schemes.shape
  obtain ⟨d1, d2, d3, hvd⟩ := h.drop.shape
  subst hvr hvs hvd
  obtain ⟨R, hR⟩ : ∃ R, ruleL P.rules x.toList = R := ⟨_, rfl⟩
  have HR : Hid (True → ruleL (P.rules.drop 0) x.toList = R) := fun _ => hR
  rw [hR]
  have HC := hid hcell
  obtain ⟨W1, hW1⟩ : ∃ W1, w.alloc (.cells (polC (.slice rp P.rules.length rc) (.slice s1 s2 s3) (.slice d1 d2 d3) P) 25) = W1 := ⟨_, rfl⟩
  have hB : Below w.heap.size w W1 := by rw [← hW1]; exact (Below.refl w.heap.size w).alloc (Nat.le_refl _) _
  have b0 : W1.heap[w.heap.size]? = some (.cells (polC (.slice rp P.rules.length rc) (.slice s1 s2 s3) (.slice d1 d2 d3) P) 25 (0, 0)) := by rw [← hW1]; exact heap_alloc_new w _
  obtain ⟨c0, -, -, -, -⟩ := polC_at (P := P) b0
  have HB := hid hB
  unfold polC at hW1 ⊢
  clear hcell hR h b0 hB
  go_enter Tryz.func13, Tryz.ntmps13
  go_upto_region 1 with fail
  clear hW1
  go_wp2_with fail
  go_loopw [6] (fun iv wr => ∃ k : Nat, iv = .int .i64 k ∧ k ≤ P.rules.length ∧ wr = W1 ∧ Hid (True → ruleL (P.rules.drop k) x.toList = R)) (fun iv _ => P.rules.length - (RowKit.intOf iv).toNat)
  case atStart => exact ⟨0, rfl, Nat.zero_le _, rfl, HR⟩
  case round =>
    obtain ⟨k, rfl, hk, rfl, HK⟩ := hrel
    by_cases hkl : k < P.rules.length
    · obtain ⟨r, hr⟩ : ∃ r, P.rules[k]? = some r := ⟨_, List.getElem?_eq_getElem hkl⟩
      obtain ⟨b, o, u, rfl, q1, q2, q3⟩ := HC.out k r hr
      replace q1 := cell_low q1 HB.out (cell_block q1)
      replace q2 := cell_low q2 HB.out (cell_block q2)
      obtain ⟨up, uc, rfl, _⟩ := q3.len
      have hd := HK.out trivial
      rw [drop_at hr, ruleL_cons] at hd
      have HQ := hid q3
      have hbt := bs_toList r.1
      obtain ⟨S, hS⟩ : ∃ S, bs r.1 = S := ⟨_, rfl⟩
      rw [hS] at hbt q1
      by_cases e : r.1 = x.toList
      · have q : (S.toList == x.toList) = true := by rw [hbt]; exact beq_iff_eq.2 e
        rw [if_pos e] at hd
        subst hd
        clear hr hbt hS e HK HC HR q3
        go_wp2_with fail
        go_ret2
        exact ⟨_, rfl, ⟨_, rfl, HQ.out⟩, HB.out⟩
      · have q : (S.toList == x.toList) = false := by rw [hbt]; exact beq_eq_false_iff_ne.2 e
        rw [if_neg e] at hd
        have HD := hid (fun (_ : True) => hd)
        clear hr hbt hS e HK HC HR hd q3 q2
        go_wp2_with fail
        go_roundw
        case rel => exact ⟨k + 1, rfl, by omega, by first | rfl | trivial, HD⟩
        case measure => simp [RowKit.intOf]; omega
    · have hd := HK.out trivial
      rw [List.drop_of_length_le (by omega)] at hd
      obtain rfl : none = R := hd
      clear HK HC HR
      go_wp2_with fail
      go_ret2
      exact ⟨_, rfl, rfl, HB.out⟩

set_option maxHeartbeats 8000000 in
set_option maxRecDepth 100000 in
theorem keptAttrs_any (vr vs vd : Value) (P : PolP) (ru : Value) (listed : List (List UInt8)) (av : Value) (al : List AttrP) (w : World) (h : PolR w vr vs vd P) (hF : P.schemes.length ≤ 2000000) (hr : Words w ru listed) (hll : listed.length ≤ 100000000) (ha : AttrsR w av al) (hl : bulkA al ≤ 4000000) :
    Calls Tryz.prog 16 #[.agg (polC vr vs vd P), ru, av] w fun e w' => ∃ v, e = .returned v ∧ w'.ownsRow w.heap.size 66 2 v (keptA P.schemes listed [] al).length (attrsV (keptA P.schemes listed [] al)) ∧ Below w.heap.size w w' := by
  obtain ⟨ap, ac, rfl, _, _, hcell, _⟩ := ha
  obtain ⟨rp, rc, rfl, _⟩ := hr.len
  obtain ⟨r1, r2, r3, hvr⟩ := h.rules.shape
  obtain ⟨s2, s3, hvs, _⟩ := h.schemes.len
  obtain ⟨d1, d2, d3, hvd⟩ := h.drop.shape
  subst hvr hvs hvd
  obtain ⟨R, hR⟩ : ∃ R, keptA P.schemes listed [] al = R := ⟨_, rfl⟩
  rw [hR]
  obtain ⟨W0, hW0⟩ : ∃ W0, w.alloc (.cells (polC (.slice r1 r2 r3) (.slice s2 P.schemes.length s3) (.slice d1 d2 d3) P) 25) = W0 := ⟨_, rfl⟩
  have hB : Below w.heap.size w W0 := by rw [← hW0]; exact (Below.refl w.heap.size w).alloc (Nat.le_refl _) _
  have b0 : W0.heap[w.heap.size]? = some (.cells (polC (.slice r1 r2 r3) (.slice s2 P.schemes.length s3) (.slice d1 d2 d3) P) 25 (0, 0)) := by rw [← hW0]; exact heap_alloc_new w _
  have H0 := hid (And.intro hB b0)
  have HSC := hid h.schemes
  have HC := hid hcell
  have HW := hid hr
  have HR := hid (fun (_ : True) => (hR : [] ++ keptA P.schemes listed [] (al.drop 0) = R))
  have hall := bulkA_len al
  have hlen : al.length ≤ 4000000 := by omega
  have HL := hid hl
  obtain ⟨si, hsi, hs0, hs1, hs2⟩ := info_parts info_str
  obtain ⟨ai, hai, ha0, ha1, ha2⟩ := info_parts info_attr
  unfold polC at hW0 ⊢
  clear h hcell hr hR hB b0 hall hl
  go_enter Tryz.func16, Tryz.ntmps16
  go_upto_region 1 with fail
  clear hW0
  go_wp2_with fail
  go_loopw [7, 8, 9] (fun cv mv iv wr => ∃ (k : Nat) (kept : List AttrP) (seen : List (List UInt8)), iv = .int .i64 k ∧ k ≤ al.length ∧ Hid (wr.ownsRow w.heap.size 66 2 cv kept.length (attrsV kept) ∧ wr.ownsRow w.heap.size 9 1 mv seen.length (wordsV seen) ∧ Below w.heap.size w wr ∧ wr.heap[w.heap.size]? = some (.cells (polC (.slice r1 r2 r3) (.slice s2 P.schemes.length s3) (.slice d1 d2 d3) P) 25 (0, 0)) ∧ kept.length ≤ k ∧ seen.length ≤ k) ∧ Hid (True → kept ++ keptA P.schemes listed seen (al.drop k) = R)) (fun _ _ iv _ => al.length - (RowKit.intOf iv).toNat)
  case atStart => exact ⟨0, [], [], rfl, Nat.zero_le _, hid ⟨World.ownsRow_nil _ _ _ _, World.ownsRow_nil _ _ _ _, H0.out.1, H0.out.2, Nat.le_refl _, Nat.le_refl _⟩, HR⟩
  case round =>
    obtain ⟨k, kept, seen, rfl, hk, HX, HK⟩ := hrel
    obtain ⟨cp, cc, rfl⟩ := row_shape HX.out.1
    obtain ⟨mp, mc, rfl⟩ := row_shape HX.out.2.1
    clear H0 HR
    by_cases hkl : k < al.length
    · obtain ⟨a, hak⟩ : ∃ a, al[k]? = some a := ⟨_, List.getElem?_eq_getElem hkl⟩
      obtain ⟨bb, o, rfl, q1, q2⟩ := HC.out k a hak
      obtain ⟨hown, hmet, hbw, hbox, hkn, hsn⟩ := HX.out
      have hwlt : w.heap.size < wr.heap.size := block_lt hbox
      have HSO : Hid (∀ g, (Value.slice cp kept.length cc).ownBlock = some g → g < wr.heap.size) := hid (fun g hg => (hown.lt g hg).2)
      have hab := bulkA_get hak
      have hLL := HL.out
      replace q1 := cell_low q1 hbw (cell_block q1)
      replace q2 := cell_low q2 hbw (cell_block q2)
      have hd := HK.out trivial
      rw [drop_at hak, keptA_cons] at hd
      obtain ⟨W1, hW1⟩ : ∃ W1, wr.alloc (.cells #[.string (bs a.1), .string (bs a.2)] 66) = W1 := ⟨_, rfl⟩
      have hb1 : Below wr.heap.size wr W1 := by rw [← hW1]; exact (Below.refl _ _).alloc (Nat.le_refl _) _
      have hn1 : W1.heap[wr.heap.size]? = some (.cells #[.string (bs a.1), .string (bs a.2)] 66 (0, 0)) := by rw [← hW1]; exact heap_alloc_new _ _
      have hbw1 := hbw.trans (hb1.mono hbw.size)
      have hbox1 := (hb1.block _ (block_lt hbox)).trans hbox
      have hown1 := row_below hown hb1
      have hmet1 := row_below hmet hb1
      have hmw : Words W1 (.slice mp seen.length mc) seen := Words.row hmet1
      have hct1 := holds_any (.slice rp listed.length rc) listed (bs a.1) W1 (HW.out.below hbw1) hll
      have hct2 := holds_any (.slice mp seen.length mc) seen (bs a.1) W1 hmw (by omega)
      rw [bs_toList] at hct1 hct2
      have hlk := fun W => refLink_any (bs a.1) W
      rw [bs_toList] at hlk
      have hcl := fun W hb => refClean_any (.slice s2 P.schemes.length s3) P.schemes (bs a.2) W (HSC.out.below hb) hF (by rw [bs_size]; omega)
      rw [bs_data] at hcl
      have d0 := cell_at hn1 (j := 0) rfl
      have d1' := cell_at hn1 (j := 1) rfl
      have HCL := hid hcl
      have HLK := hid hlk
      have HCT1 := hid hct1
      have HCT2 := hid hct2
      have H1 := hid (And.intro hown1 (And.intro hmet1 (And.intro hbw1 (And.intro hbox1 hn1))))
      obtain ⟨c1, hc1⟩ : ∃ c1, listed.contains a.1 = c1 := ⟨_, rfl⟩
      obtain ⟨c2, hc2⟩ : ∃ c2, seen.contains a.1 = c2 := ⟨_, rfl⟩
      rw [hc1] at HCT1 hd
      rw [hc2] at HCT2 hd
      clear hcl hlk hct1 hct2 hmw hown hmet hbw hbox hown1 hmet1 hbw1 hbox1 hn1 hb1 hak hab hLL hc1 hc2 HX HK HC
      go_upto_region 7 with fail
      clear hW1 q1 q2
      cases c1 with
      | false =>
        rw [if_pos (.inl rfl)] at hd
        have HD := hid (fun (_ : True) => hd)
        clear hd HCL HLK HCT2
        go_wp2_with fail
        refine HCT1.out.mono ?_
        rintro r W2 ⟨rfl, rfl⟩
        go_wp2_with fail
        go_roundw
        case rel => exact ⟨k + 1, kept, seen, rfl, by omega, hid ⟨H1.out.1, H1.out.2.1, H1.out.2.2.1, H1.out.2.2.2.1, by omega, by omega⟩, HD⟩
        case measure => simp [RowKit.intOf]; omega
      | true =>
        go_wp2_with fail
        refine HCT1.out.mono ?_
        rintro r W2 ⟨rfl, rfl⟩
        cases c2 with
        | true =>
          rw [if_pos (.inr rfl)] at hd
          have HD := hid (fun (_ : True) => hd)
          clear hd HCL HLK
          go_wp2_with fail
          refine HCT2.out.mono ?_
          rintro r W2 ⟨rfl, rfl⟩
          go_wp2_with fail
          go_roundw
          case rel => exact ⟨k + 1, kept, seen, rfl, by omega, hid ⟨H1.out.1, H1.out.2.1, H1.out.2.2.1, H1.out.2.2.2.1, by omega, by omega⟩, HD⟩
          case measure => simp [RowKit.intOf]; omega
        | false =>
          rw [if_neg (by simp)] at hd
          have HD := hid (fun (_ : True) => hd)
          clear hd
          go_wp2_with fail
          refine HCT2.out.mono ?_
          rintro r W2 ⟨rfl, rfl⟩
          obtain ⟨hown, hmet, hbw, hbox, hn1⟩ := H1.out
          have hbs := hbw.size
          have hbx := block_lt hn1
          clear HCT1 HCT2
          go_wp2_with (at_builtin; refine wpList_append_own _ rfl (.tmp 34) (.tmp 37) 23 rfl w.heap.size 9 si (.string ⟨#[]⟩) 1 16 Tryz.underlying23 hsi hs0 hs1 hs2 rfl (by decide) _ _ _ rfl (hmet.alloc _) ⟨_, 0, none⟩ 1 1 [.string (bs a.1)] rfl rfl (cells_newV _ _ _) (by simp [Value.oneCell']) (by unfold maxLen; omega) (by omega) (by simp; omega) ?_)
          intro v3 W3 hown3 hgrow3 _
          have hma := hmet.alloc (.cells #[.string (bs a.1)] 9)
          have hn3 := grown_at hgrow3 ((Go.Lib.alloc_old _ (.cells #[.string (bs a.1)] 9) _ (block_lt hn1)).trans hn1) (row_ne hma ((Go.Lib.alloc_old _ _ _ (block_lt hn1)).trans hn1) (by decide))
          have hbox3 := grown_at hgrow3 ((Go.Lib.alloc_old _ (.cells #[.string (bs a.1)] 9) _ (block_lt hbox)).trans hbox) (row_ne hma ((Go.Lib.alloc_old _ _ _ (block_lt hbox)).trans hbox) (by decide))
          have hown3k := (hown.alloc (.cells #[.string (bs a.1)] 9)).kept hgrow3 (rows_ne (hown.alloc _) hma (by decide))
          have hbw3 := (hbw.alloc hbs (.cells #[.string (bs a.1)] 9)).grown hgrow3 (by simp; omega) (fun k hk => (hma.lt k hk).1)
          have hmet3 : W3.ownsRow w.heap.size 9 1 v3 (seen ++ [a.1]).length (wordsV (seen ++ [a.1])) := by
            rw [List.length_append, wordsV_app]
            exact hown3
          have hcl := HCL.out W3 hbw3
          obtain ⟨vp3, vc3, rfl⟩ := row_shape hown3
          have d0 := cell_at hn3 (j := 0) rfl
          have d1' := cell_at hn3 (j := 1) rfl
          have y1 := free_at hn3 1
          obtain ⟨-, e1, -, -, -⟩ := polC_at (P := P) hbox3
          have hsl : (seen ++ [a.1]).length = seen.length + 1 := by rw [List.length_append]; rfl
          have HSL := hid hsl
          have hneo : ∀ g, (Value.slice cp kept.length cc).ownBlock = some g → g ≠ wr.heap.size := fun g hg e => by
            have := (HSO.out _ hg)
            omega
          have HD3 := hid (And.intro hown3k (And.intro hmet3 (And.intro hbw3 (And.intro hbox3 hn3))))
          have HCL3 := hid hcl
          clear hma hn3 hbox3 hown3k hbw3 hcl hmet3 hown3 hgrow3 hown hmet hbw hbox hn1 H1 HCL hsl
          go_wp2_with fail
          refine (HLK.out _).mono ?_
          rintro r W4 ⟨rfl, rfl⟩
          cases hlk : isLinkL a.1 with
          | false =>
            have hv : valueA P.schemes a = (a.2, true) := by unfold valueA; rw [hlk]; rfl
            have HD4 := hid (fun (_ : True) => (by have := HD.out trivial; rw [hv, if_pos rfl, ← List.append_assoc] at this; exact this : (kept ++ [(a.1, a.2)]) ++ keptA P.schemes listed (seen ++ [a.1]) (al.drop (k + 1)) = R))
            obtain ⟨x1, hx1⟩ : ∃ x1, a.2 = x1 := ⟨_, rfl⟩
            obtain ⟨X, hX⟩ : ∃ X, bs a.2 = X := ⟨_, rfl⟩
            rw [hX] at d1'
            have HXX : Hid (bs x1 = X) := hid (by rw [← hx1]; exact hX)
            rw [hx1] at HD4
            obtain ⟨hown4, hmet4, hbw4, hbox4, hn4⟩ := HD3.out
            clear HD hlk HLK HCL3 hX hx1 HD3 e1 y1 hv
            have hbs4 := hbw4.size
            go_wp2_with (at_builtin; refine wpList_append_own _ rfl (.tmp 54) (.tmp 56) 42 rfl w.heap.size 66 ai (.agg #[.string ⟨#[]⟩, .string ⟨#[]⟩]) 2 32 Tryz.underlying42 hai ha0 ha1 ha2 rfl (by decide) _ _ _ rfl (hown4.alloc _) ⟨_, 0, none⟩ 1 1 [.string (bs a.1), .string X] rfl rfl (cells_newV _ _ _) (by simp [Value.oneCell']) (by unfold maxLen; omega) (by omega) (by simp; omega) ?_)
            intro v5 W5 hown5 hgrow5 _
            have hma := hown4.alloc (.cells #[.string (bs a.1), .string X] 66)
            have hbox5 := grown_at hgrow5 ((Go.Lib.alloc_old _ (.cells #[.string (bs a.1), .string X] 66) _ (block_lt hbox4)).trans hbox4) (row_ne hma ((Go.Lib.alloc_old _ _ _ (block_lt hbox4)).trans hbox4) (by decide))
            have hmet5 := (hmet4.alloc (.cells #[.string (bs a.1), .string X] 66)).kept hgrow5 (rows_ne (hmet4.alloc _) hma (by decide))
            have hbw5 := (hbw4.alloc hbs4 (.cells #[.string (bs a.1), .string X] 66)).grown hgrow5 (by simp; omega) (fun k hk => (hma.lt k hk).1)
            have hkept5 : W5.ownsRow w.heap.size 66 2 v5 (kept ++ [(a.1, x1)]).length (attrsV (kept ++ [(a.1, x1)])) := by
              rw [List.length_append, attrsV_app, show attrsV [(a.1, x1)] = [.string (bs a.1), .string X] by rw [← HXX.out]; rfl]
              exact hown5
            have HZ := hid (And.intro hkept5 (And.intro hmet5 (And.intro hbw5 (And.intro hbox5 (And.intro (show (kept ++ [(a.1, x1)]).length ≤ k + 1 by rw [List.length_append]; simp; omega) (show (seen ++ [a.1]).length ≤ k + 1 by rw [HSL.out]; omega))))))
            clear hown4 hmet4 hbw4 hbox4 hma hbox5 hmet5 hbw5 hkept5 hown5 hgrow5
            go_wp2
            go_roundw
            case rel => exact ⟨k + 1, _, _, rfl, by omega, HZ, HD4⟩
            case measure => simp [RowKit.intOf]; omega
          | true =>
            have hv : valueA P.schemes a = linkL P.schemes a.2 := by unfold valueA; rw [hlk]; rfl
            have hcl := HCL3.out
            rw [hv] at HD
            clear hv
            generalize linkL P.schemes a.2 = q at hcl HD
            obtain ⟨x1, x2⟩ := q
            simp only at hcl HD
            obtain ⟨X, hX⟩ : ∃ X, bs x1 = X := ⟨_, rfl⟩
            rw [hX] at hcl
            have HXX := hid hX
            have HCL4 := hid hcl
            clear hcl hX HCL3 HLK hlk
            go_wp2_with fail
            refine HCL4.out.mono ?_
            rintro r W4 ⟨rfl, b4⟩
            obtain ⟨hown3k, hmet3, hbw3, hbox3, hn3⟩ := HD3.out
            have hown4 := row_below hown3k b4
            have hmet4 := row_below hmet3 b4
            have hbw4 := hbw3.trans (b4.mono hbw3.size)
            have hbox4 := (b4.block _ (block_lt hbox3)).trans hbox3
            have hn4 := (b4.block _ (block_lt hn3)).trans hn3
            clear hown3k hmet3 hbw3 hbox3 hn3 b4 d1' HD3 HCL4 e1 d0 y1
            cases x2 with
            | false =>
              have HD4 := hid (fun (_ : True) => (by have := HD.out trivial; rw [if_neg (by simp), List.nil_append] at this; exact this : kept ++ keptA P.schemes listed (seen ++ [a.1]) (al.drop (k + 1)) = R))
              have HZ := hid (And.intro hown4 (And.intro hmet4 (And.intro hbw4 (And.intro hbox4 (And.intro (show kept.length ≤ k + 1 by omega) (show (seen ++ [a.1]).length ≤ k + 1 by rw [HSL.out]; omega))))))
              clear hown4 hmet4 hbw4 hbox4 hn4 HD
              go_wp2_with fail
              go_roundw
              case rel => exact ⟨k + 1, kept, seen ++ [a.1], rfl, by omega, HZ, HD4⟩
              case measure => simp [RowKit.intOf]; omega
            | true =>
              have HD4 := hid (fun (_ : True) => (by have := HD.out trivial; rw [if_pos rfl, ← List.append_assoc] at this; exact this : (kept ++ [(a.1, x1)]) ++ keptA P.schemes listed (seen ++ [a.1]) (al.drop (k + 1)) = R))
              have hj := just_put (j := 1) (cs2 := #[.string (bs a.1), .string X]) hn4 (.string X) (by simp)
              have y1 := free_at hn4 1
              have d1' := cell_at hn4 (j := 1) rfl
              have hown4' := row_of_block hown4 (fun g hg => hj.other g (hneo g hg))
              have hmet4' := row_just hmet4 hn4 (by decide) hj.other
              have hbw4' := hbw4.trans (just_low hj (by omega))
              have hbox4' := (hj.other w.heap.size (by have := block_lt hbox4; omega)).trans hbox4
              have hat := hj.at_
              have H5 := hid (And.intro hown4' (And.intro hmet4' (And.intro hbw4' (And.intro hbox4' hat))))
              clear hown4 hmet4 hbw4 hbox4 hn4 HD hown4' hmet4' hbw4' hbox4' hat hj
              go_upto_region 13 with fail
              obtain ⟨W6, hW6⟩ : ∃ W6, W4.setCell ⟨wr.heap.size, 1, none⟩ (.string X) = W6 := ⟨_, rfl⟩
              simp only [hW6] at H5 ⊢
              obtain ⟨hown4, hmet4, hbw4, hbox4, hn6⟩ := H5.out
              clear y1 d1' hW6 H5
              have d0 := cell_at hn6 (j := 0) rfl
              have d1' := cell_at hn6 (j := 1) rfl
              clear hn6
              have hbs4 := hbw4.size
              go_wp2_with (at_builtin; refine wpList_append_own _ rfl (.tmp 54) (.tmp 56) 42 rfl w.heap.size 66 ai (.agg #[.string ⟨#[]⟩, .string ⟨#[]⟩]) 2 32 Tryz.underlying42 hai ha0 ha1 ha2 rfl (by decide) _ _ _ rfl (hown4.alloc _) ⟨_, 0, none⟩ 1 1 [.string (bs a.1), .string X] rfl rfl (cells_newV _ _ _) (by simp [Value.oneCell']) (by unfold maxLen; omega) (by omega) (by simp; omega) ?_)
              intro v5 W5 hown5 hgrow5 _
              have hma := hown4.alloc (.cells #[.string (bs a.1), .string X] 66)
              have hbox5 := grown_at hgrow5 ((Go.Lib.alloc_old _ (.cells #[.string (bs a.1), .string X] 66) _ (block_lt hbox4)).trans hbox4) (row_ne hma ((Go.Lib.alloc_old _ _ _ (block_lt hbox4)).trans hbox4) (by decide))
              have hmet5 := (hmet4.alloc (.cells #[.string (bs a.1), .string X] 66)).kept hgrow5 (rows_ne (hmet4.alloc _) hma (by decide))
              have hbw5 := (hbw4.alloc hbs4 (.cells #[.string (bs a.1), .string X] 66)).grown hgrow5 (by simp; omega) (fun k hk => (hma.lt k hk).1)
              have hkept5 : W5.ownsRow w.heap.size 66 2 v5 (kept ++ [(a.1, x1)]).length (attrsV (kept ++ [(a.1, x1)])) := by
                rw [List.length_append, attrsV_app, show attrsV [(a.1, x1)] = [.string (bs a.1), .string X] by rw [← HXX.out]; rfl]
                exact hown5
              have HZ := hid (And.intro hkept5 (And.intro hmet5 (And.intro hbw5 (And.intro hbox5 (And.intro (show (kept ++ [(a.1, x1)]).length ≤ k + 1 by rw [List.length_append]; simp; omega) (show (seen ++ [a.1]).length ≤ k + 1 by rw [HSL.out]; omega))))))
              clear hown4 hmet4 hbw4 hbox4 hma hbox5 hmet5 hbw5 hkept5 hown5 hgrow5
              go_wp2
              go_roundw
              case rel => exact ⟨k + 1, _, _, rfl, by omega, HZ, HD4⟩
              case measure => simp [RowKit.intOf]; omega
    · obtain rfl : kept = R := by
        have := HK.out trivial
        rw [List.drop_of_length_le (by omega)] at this
        rwa [show keptA P.schemes listed seen [] = [] by rw [keptA], List.append_nil] at this
      have HZ := hid (And.intro HX.out.1 HX.out.2.2.1)
      clear HK HX HC HW
      go_wp2_with fail
      go_ret
      exact ⟨_, rfl, HZ.out.1, HZ.out.2⟩
end Go.Proofs.YtkcgmimldjeaiaaGreatDoor

/-
  The reference's dropEnd, Filter: their walks.
-/
namespace Go.Proofs.YtkcgmimldjeaiaaGreatDoor
open Go.RowKit Go.Lib Own

theorem dropN_cons (n : List UInt8) (c : Nat) (e : EvP) (r : List EvP) : dropN n c (e :: r) = if c = 0 then 0 else 1 + dropN n (skipF (n, c) e) r := rfl
theorem dropN_zero (n : List UInt8) (l : List EvP) : dropN n 0 l = 0 := by cases l <;> rfl

set_option maxHeartbeats 4000000 in
set_option maxRecDepth 100000 in
theorem dropEnd_any (ev : Value) (es : List EvP) (i : Nat) (e0 : EvP) (w : World) (h : EvsR w ev es) (hl : es.length ≤ 4000000) (hi : es[i]? = some e0) :
    Calls Tryz.prog 15 #[ev, .int .i64 i] w fun r w' => r = .returned (.int .i64 ((i + 1 + dropN e0.n 1 (es.drop (i + 1)) : Nat) : Int)) ∧ ∃ n, w' = w.drewN n := by
  obtain ⟨p, c, rfl, _, _, hcell⟩ := h
  have HC := hid hcell
  obtain ⟨T, hT⟩ : ∃ T, i + 1 + dropN e0.n 1 (es.drop (i + 1)) = T := ⟨_, rfl⟩
  have HT := hid (fun (_ : True) => hT)
  rw [hT]
  obtain ⟨b0, o0, u0, hp, -, x1, -, -, -⟩ := hcell i e0 hi
  subst hp
  have hil := (List.getElem?_eq_some_iff.1 hi).1
  have hbt := bs_toList e0.n
  obtain ⟨S0, hS0⟩ : ∃ S, bs e0.n = S := ⟨_, rfl⟩
  rw [hS0] at x1 hbt
  have HB0 := hid hbt
  clear hcell hT hi hbt hS0
  go_enter Tryz.func15, Tryz.ntmps15
  go_wp2_with fail
  go_loopw [5, 6] (fun cv jv wr => ∃ (j c : Nat), cv = .int .i64 c ∧ jv = .int .i64 j ∧ j ≤ es.length ∧ c ≤ j + 1 ∧ Hid (True → ∃ n, wr = w.drewN n) ∧ Hid (True → j + dropN e0.n c (es.drop j) = T)) (fun _ jv _ => es.length - (RowKit.intOf jv).toNat)
  case atStart => exact ⟨i + 1, 1, rfl, rfl, by omega, by omega, hid fun _ => ⟨0, rfl⟩, HT⟩
  case round =>
    obtain ⟨j, c2, rfl, rfl, hj, hcj, HQ, HK⟩ := hrel
    clear HT
    by_cases hjl : j < es.length
    · by_cases hc0 : 0 < c2
      · obtain ⟨e, he⟩ : ∃ e, es[j]? = some e := ⟨_, List.getElem?_eq_getElem hjl⟩
        obtain ⟨b, o, u, hp, q0, q1, -, -, -⟩ := HC.out j e he
        cases hp
        have hd := HK.out trivial
        rw [drop_at he, dropN_cons, if_neg (by omega)] at hd
        have hbe := bs_toList e.n
        obtain ⟨S, hS⟩ : ∃ S, bs e.n = S := ⟨_, rfl⟩
        rw [hS] at q1 hbe
        have p1 := hid q1
        have px := hid x1
        replace q1 := cell_drewT HQ q1
        replace x1 := cell_drewT HQ x1
        clear he hS HC HK
        by_cases qn : e.n = e0.n
        · have q : (S.toList == S0.toList) = true := by rw [hbe, HB0.out, qn]; simp
          by_cases k1 : e.k = 1
          · have es1 : skipF (e0.n, c2) e = c2 + 1 := by unfold skipF; rw [if_pos ⟨qn, k1⟩]
            rw [es1] at hd
            rw [k1] at q0
            have p0 := hid q0
            replace q0 := cell_drewT HQ q0
            have HD := hid (fun (_ : True) => (by omega : (j + 1) + dropN e0.n (c2 + 1) (es.drop (j + 1)) = T))
            clear hd es1 k1 qn hbe
            go_wp2_with fail
            go_quiet (fail)
            have HQ2 : Hid (True → ∃ n, wr.drewN nq = w.drewN n) := hid (fun _ => by obtain ⟨n, hn⟩ := HQ.out trivial; exact ⟨n + nq, by rw [hn]; simp⟩)
            clear q0 q1 x1
            generalize wr.drewN nq = w2 at HQ2 ⊢
            have q0 := cell_drewT HQ2 p0.out
            have q1 := cell_drewT HQ2 p1.out
            have x1 := cell_drewT HQ2 px.out
            go_wp2_with fail
            go_quiet (fail)
            go_wp2_with fail
            go_roundw
            case rel =>
              obtain ⟨n, hn⟩ := HQ2.out trivial
              exact ⟨j + 1, c2 + 1, rfl, rfl, by omega, by omega, hid (fun _ => ⟨n + nq, by rw [hn]; simp⟩), HD⟩
            case measure => simp [RowKit.intOf]; omega
          · have n1 := int_ne k1
            by_cases k2 : e.k = 2
            · have es1 : skipF (e0.n, c2) e = c2 - 1 := by unfold skipF; rw [if_neg (fun h => k1 h.2), if_pos ⟨qn, k2⟩]
              rw [es1] at hd
              rw [k2] at q0 n1
              have p0 := hid q0
              replace q0 := cell_drewT HQ q0
              have HD := hid (fun (_ : True) => (by omega : (j + 1) + dropN e0.n (c2 - 1) (es.drop (j + 1)) = T))
              clear hd es1 k1 k2 qn hbe
              go_wp2_with fail
              go_quiet (fail)
              have HQ2 : Hid (True → ∃ n, wr.drewN nq = w.drewN n) := hid (fun _ => by obtain ⟨n, hn⟩ := HQ.out trivial; exact ⟨n + nq, by rw [hn]; simp⟩)
              clear q0 q1 x1
              generalize wr.drewN nq = w2 at HQ2 ⊢
              have q0 := cell_drewT HQ2 p0.out
              have q1 := cell_drewT HQ2 p1.out
              have x1 := cell_drewT HQ2 px.out
              go_wp2_with fail
              go_quiet (fail)
              go_wp2_with fail
              go_roundw
              case rel =>
                obtain ⟨n, hn⟩ := HQ2.out trivial
                exact ⟨j + 1, c2 - 1, by rw [show ((c2 - 1 : Nat) : Int) = (c2 : Int) - 1 by omega], rfl, by omega, by omega, hid (fun _ => ⟨n + nq, by rw [hn]; simp⟩), HD⟩
              case measure => simp [RowKit.intOf]; omega
            · have n2 := int_ne k2
              have es1 : skipF (e0.n, c2) e = c2 := by unfold skipF; rw [if_neg (fun h => k1 h.2), if_neg (fun h => k2 h.2)]
              rw [es1] at hd
              have p0 := hid q0
              replace q0 := cell_drewT HQ q0
              have HD := hid (fun (_ : True) => (by omega : (j + 1) + dropN e0.n c2 (es.drop (j + 1)) = T))
              clear hd es1 k1 k2 qn hbe
              go_wp2_with fail
              go_quiet (fail)
              have HQ2 : Hid (True → ∃ n, wr.drewN nq = w.drewN n) := hid (fun _ => by obtain ⟨n, hn⟩ := HQ.out trivial; exact ⟨n + nq, by rw [hn]; simp⟩)
              clear q0 q1 x1
              generalize wr.drewN nq = w2 at HQ2 ⊢
              have q0 := cell_drewT HQ2 p0.out
              have q1 := cell_drewT HQ2 p1.out
              have x1 := cell_drewT HQ2 px.out
              go_wp2_with fail
              go_quiet (fail)
              go_wp2_with fail
              go_roundw
              case rel =>
                obtain ⟨n, hn⟩ := HQ2.out trivial
                exact ⟨j + 1, c2, rfl, rfl, by omega, by omega, hid (fun _ => ⟨n + nq, by rw [hn]; simp⟩), HD⟩
              case measure => simp [RowKit.intOf]; omega
        · have q : (S.toList == S0.toList) = false := by rw [hbe, HB0.out]; exact beq_eq_false_iff_ne.2 qn
          have es1 : skipF (e0.n, c2) e = c2 := by unfold skipF; rw [if_neg (fun h => qn h.1), if_neg (fun h => qn h.1)]
          rw [es1] at hd
          have p0 := hid q0
          replace q0 := cell_drewT HQ q0
          have HD := hid (fun (_ : True) => (by omega : (j + 1) + dropN e0.n c2 (es.drop (j + 1)) = T))
          clear hd es1 qn hbe
          go_wp2_with fail
          go_quiet (fail)
          have HQ2 : Hid (True → ∃ n, wr.drewN nq = w.drewN n) := hid (fun _ => by obtain ⟨n, hn⟩ := HQ.out trivial; exact ⟨n + nq, by rw [hn]; simp⟩)
          clear q0 q1 x1
          generalize wr.drewN nq = w2 at HQ2 ⊢
          have q0 := cell_drewT HQ2 p0.out
          have q1 := cell_drewT HQ2 p1.out
          have x1 := cell_drewT HQ2 px.out
          go_wp2_with fail
          go_quiet (fail)
          go_wp2_with fail
          go_roundw
          case rel =>
            obtain ⟨n, hn⟩ := HQ2.out trivial
            exact ⟨j + 1, c2, rfl, rfl, by omega, by omega, hid (fun _ => ⟨n + nq, by rw [hn]; simp⟩), HD⟩
          case measure => simp [RowKit.intOf]; omega
      · obtain rfl : c2 = 0 := by omega
        have hd := HK.out trivial
        rw [dropN_zero, Nat.add_zero] at hd
        subst hd
        clear HK HC x1
        go_wp2_with fail
        go_ret
        exact ⟨rfl, HQ.out trivial⟩
    · have hd := HK.out trivial
      obtain rfl : j = es.length := by omega
      rw [List.drop_length, show dropN e0.n c2 [] = 0 by cases c2 <;> rfl, Nat.add_zero] at hd
      subst hd
      clear HK HC x1
      go_wp2_with fail
      go_ret
      exact ⟨rfl, HQ.out trivial⟩
end Go.Proofs.YtkcgmimldjeaiaaGreatDoor

/-
  The reference's Filter: its walk.
-/
namespace Go.Proofs.YtkcgmimldjeaiaaGreatDoor
open Go.RowKit Go.Lib Own

theorem MadeE.snoc {W W2 : World} {base : Nat} {v v' : Value} {J : List Ev} {xs : List Value} {k n a t : Value} {ev : Ev} (h : MadeE W base v J xs) (he : EvsAt W base [k, n, a, t] [ev]) (hn : ∀ g, a.ownBlock = some g → NotIn g xs)
    {w : World} (hbw : Below w.heap.size w W) (hbase : w.heap.size ≤ base) (hg : (W.alloc (.cells #[k, n, a, t] 44)).grownBy W2 v.ownBlock) (hv : W2.ownsRow base 44 4 v' (J.length + 1) (xs ++ [k, n, a, t])) {b : Nat} {cs : Array Value} {T : TypeId} (hb : W.heap[b]? = some (.cells cs T (0, 0))) (hT : T ≠ 44) :
    Hid (MadeE W2 base v' (J ++ [ev]) (xs ++ [k, n, a, t]) ∧ Below w.heap.size w W2 ∧ W2.heap[b]? = some (.cells cs T (0, 0))) := by
  have hra := h.row.alloc (.cells #[k, n, a, t] 44)
  have hsz := hbw.size
  exact ⟨h.more he hn hg hv, (hbw.alloc hsz _).grown hg (by simp; omega) (fun k hk => Nat.le_trans hbase (hra.lt k hk).1), grown_at hg ((Go.Lib.alloc_old _ _ _ (block_lt hb)).trans hb) (row_ne hra ((Go.Lib.alloc_old _ _ _ (block_lt hb)).trans hb) hT)⟩

theorem sieve_zero (P : PolP) (e : EvP) (r : List EvP) (x : List UInt8) (h : ¬ (e.k = 1 ∧ P.drop.contains e.n = true)) : filtL P (x, 0) (e :: r) = (outL P e).toList ++ filtL P (x, 0) r := by
  rw [filt_step]
  have : sieveL P (x, 0) e = ((x, 0), outL P e) := by unfold sieveL; rw [if_neg (Nat.lt_irrefl 0), if_neg h]
  rw [this]
theorem sieve_drop (P : PolP) (e : EvP) (r : List EvP) (h : e.k = 1 ∧ P.drop.contains e.n = true) : filtL P ([], 0) (e :: r) = filtL P ([], 0) (r.drop (dropN e.n 1 r)) := by
  rw [filt_step]
  have : sieveL P ([], 0) e = ((e.n, 1), none) := by unfold sieveL; rw [if_neg (Nat.lt_irrefl 0), if_pos h]
  rw [this]
  exact filt_skip P e.n [] r 1

set_option maxHeartbeats 16000000 in
set_option maxRecDepth 100000 in
theorem refFilter_any (vr vs vd : Value) (P : PolP) (ev : Value) (es : List EvP) (w : World) (h : PolR w vr vs vd P) (hF : P.Few) (hT : AttrTab w) (he : EvsR w ev es) (hs : bulkE es ≤ 2000000) :
    Calls Tryz.prog 4 #[.agg (polC vr vs vd P), ev] w fun r w' => ∃ v xs, r = .returned v ∧ MadeE w' w.heap.size v (if checkP P = 0 then filterP P es else []) xs ∧ Below w.heap.size w w' := by
  have hE := he
  obtain ⟨ep, ec, rfl, _, hem, hcell⟩ := he
  have hlen := bulkE_len es
  obtain ⟨W1, hW1⟩ : ∃ W1, w.alloc (.cells (polC vr vs vd P) 25) = W1 := ⟨_, rfl⟩
  have hB : Below w.heap.size w W1 := by rw [← hW1]; exact (Below.refl w.heap.size w).alloc (Nat.le_refl _) _
  have b0 : W1.heap[w.heap.size]? = some (.cells (polC vr vs vd P) 25 (0, 0)) := by rw [← hW1]; exact heap_alloc_new w _
  have hck := refCheck_any vr vs vd P W1 (h.below hB) hF (hT.below hB)
  have hru := fun x W (hb : Below w.heap.size w W) => ruleOf_any vr vs vd P x W (h.below hb)
  have hka := fun ru listed av al W (hb : Below w.heap.size w W) (hr : Words W ru listed) (hll : listed.length ≤ 100000000) (ha : AttrsR W av al) hal => keptAttrs_any vr vs vd P ru listed av al W (h.below hb) hF.schemes hr hll ha hal
  have hdr := fun x W (hb : Below w.heap.size w W) => holds_any vd P.drop x W (h.drop.below hb) (by have := hF.drop; omega)
  obtain ⟨rp, rc, hvr, _⟩ := h.rules
  obtain ⟨sp, sc, hvs, _⟩ := h.schemes
  obtain ⟨dp, dc, hvd, _⟩ := h.drop
  subst hvr hvs hvd
  have hal := hF.attrs
  obtain ⟨R, hR⟩ : ∃ R, filterP P es = R := ⟨_, rfl⟩
  rw [hR]
  have hRR : [] ++ filtL P ([], 0) (es.drop 0) = R := hR
  obtain ⟨c0, c1, c2, c3, c4⟩ := polC_at (P := P) b0
  have HE := hid hE
  have HC := hid hcell
  have HB := hid (And.intro hB b0)
  have HCK := hid hck
  have HRU := hid hru
  have HKA := hid hka
  have HDR := hid hdr
  have HAL := hid hal
  have HS := hid hs
  have HR := hid (fun (_ : True) => hRR)
  have hln : es.length ≤ 2000000 := by omega
  obtain ⟨ei, hei, he0, he1, he2⟩ := info_parts info_event
  unfold polC at hW1 HCK HRU HKA ⊢
  generalize checkP P = ck at HCK ⊢
  clear hE hcell hlen hck hru hka hdr hR hRR hF h hT hs hB b0 hal
  go_enter Tryz.func4, Tryz.ntmps4
  go_upto_region 1 with fail
  clear hW1
  go_wp2_with fail
  refine HCK.out.mono ?_
  rintro r W2 ⟨rfl, b2⟩
  have hbox2 := (b2.block _ (block_lt HB.out.2)).trans HB.out.2
  have hbw2 := HB.out.1.trans (b2.mono HB.out.1.size)
  clear c0 c1 c2 c3 c4
  by_cases hc : ck = 0
  · subst hc
    have H2 := hid (And.intro hbw2 hbox2)
    clear b2 hbox2 hbw2 HCK
    go_wp2_with fail
    go_loopw [5, 6] (fun av iv wr => ∃ (k : Nat) (J : List Ev) (xs : List Value), iv = .int .i64 k ∧ k ≤ es.length ∧ Hid (MadeE wr w.heap.size av J xs ∧ Below w.heap.size w wr ∧ wr.heap[w.heap.size]? = some (.cells (polC (.slice rp P.rules.length rc) (.slice sp P.schemes.length sc) (.slice dp P.drop.length dc) P) 25 (0, 0)) ∧ J.length ≤ k) ∧ Hid (True → J ++ filtL P ([], 0) (es.drop k) = R)) (fun _ iv _ => es.length - (RowKit.intOf iv).toNat)
    case atStart => exact ⟨0, [], [], rfl, Nat.zero_le _, hid ⟨MadeE.nil _ _, H2.out.1, H2.out.2, Nat.le_refl _⟩, HR⟩
    case round =>
      obtain ⟨k, J, xs, rfl, hk, HX, HK⟩ := hrel
      obtain ⟨jp, jc, rfl⟩ := row_shape HX.out.1.row
      clear H2 HR
      by_cases hkl : k < es.length
      · obtain ⟨e, hek⟩ : ∃ e, es[k]? = some e := ⟨_, List.getElem?_eq_getElem hkl⟩
        obtain ⟨b, o, u, rfl, q0, q1, q2, q3, q4⟩ := HC.out k e hek
        obtain ⟨hmade, hbw, hbox, hjn⟩ := HX.out
        have hab := bulkE_get hek
        have hSS := HS.out
        have hq4 := q4.below hbw
        replace q0 := cell_low q0 hbw (cell_block q0)
        replace q1 := cell_low q1 hbw (cell_block q1)
        replace q2 := cell_low q2 hbw (cell_block q2)
        replace q3 := cell_low q3 hbw (cell_block q3)
        obtain ⟨up, uc, rfl⟩ := q4.len
        have hd := HK.out trivial
        rw [drop_at hek] at hd
        obtain ⟨W4, hW4⟩ : ∃ W4, wr.alloc (.cells (evC e (.slice up e.a.length uc)) 44) = W4 := ⟨_, rfl⟩
        have hb4 : Below wr.heap.size wr W4 := by rw [← hW4]; exact (Below.refl _ _).alloc (Nat.le_refl _) _
        have hn4 : W4.heap[wr.heap.size]? = some (.cells (evC e (.slice up e.a.length uc)) 44 (0, 0)) := by rw [← hW4]; exact heap_alloc_new _ _
        have hbw4 := hbw.trans (hb4.mono hbw.size)
        have hbox4 := (hb4.block _ (block_lt hbox)).trans hbox
        have hmd4 := hmade.below hb4
        have hu4 := hq4.below hb4
        have hru := HRU.out (bs e.n) W4 hbw4
        rw [bs_toList] at hru
        have hdr := fun W hb => HDR.out (bs e.n) W hb
        rw [bs_toList] at hdr
        have hde := fun W (hb : Below w.heap.size w W) => dropEnd_any (.slice (some ⟨b, o, none⟩) es.length ec) es k e W (HE.out.below hb) (by omega) hek
        obtain ⟨d0, d1, d2, d3⟩ := evC_at hn4
        obtain ⟨c0, c1, c2, c3, c4⟩ := polC_at (P := P) hbox4
        have HRU4 := hid hru
        have HDR4 := hid hdr
        have HDE := hid hde
        have HD := hid (fun (_ : True) => hd)
        have H4 := hid (And.intro hmd4 (And.intro hbw4 (And.intro hbox4 (And.intro hn4 hu4))))
        have HAB := hid (show e.n.length + e.t.length + bulkA e.a ≤ 2000000 by omega)
        have hatl := bulkA_len e.a
        have hea : e.a.length ≤ 2000000 := by omega
        unfold evC at hW4
        clear hru hdr hde hd hmade hbw hbox hb4 hn4 hbw4 hbox4 hmd4 hu4 hek hab hSS hq4 q4 HX HK HC hatl
        go_upto_region 8 with fail
        clear hW4 q0 q1 q2 q3
        go_wp2_with fail
        refine HRU4.out.mono ?_
        rintro r W5 ⟨rv, rfl, hrv, b5⟩
        obtain ⟨hmd4, hbw4, hbox4, hn4, hu4⟩ := H4.out
        have hmd5 := hmd4.below b5
        have hbw5 := hbw4.trans (b5.mono hbw4.size)
        have hbox5 := (b5.block _ (block_lt hbox4)).trans hbox4
        have hn5 := (b5.block _ (block_lt hn4)).trans hn4
        have hu5 := hu4.below b5
        have H5 := hid (And.intro hmd5 (And.intro hbw5 (And.intro hbox5 (And.intro hn5 hu5))))
        have hwr5 : RuleO W5 (ruleL P.rules e.n) rv := by
          cases hh : ruleL P.rules e.n with
          | none => rw [hh] at hrv; exact hrv
          | some l => rw [hh] at hrv; obtain ⟨u, e1, e2⟩ := hrv; exact ⟨u, e1, e2.below b5⟩
        have hlisted : ∀ l, ruleL P.rules e.n = some l → l.length ≤ 2000000 := fun l hh => by
          obtain ⟨kk, h1, _⟩ := ruleL_some hh
          exact HAL.out _ (List.mem_of_getElem? h1)
        have HLI := hid hlisted
        obtain ⟨d0, d1, d2, d3⟩ := evC_at hn5
        obtain ⟨c0, c1, c2, c3, c4⟩ := polC_at (P := P) hbox5
        clear hmd4 hbw4 hbox4 hn4 hu4 hmd5 hbw5 hbox5 hn5 hu5 b5 hrv H4 HRU4 hlisted
        obtain ⟨ro, hro⟩ : ∃ ro, ruleL P.rules e.n = ro := ⟨_, rfl⟩
        have HRO := hid hro
        rw [hro] at hwr5
        clear hro
        by_cases k1 : e.k = 1
        · have HK1 := hid k1
          rw [k1] at d0
          obtain ⟨cd, hcd⟩ : ∃ cd, P.drop.contains e.n = cd := ⟨_, rfl⟩
          rw [hcd] at HDR4
          have HCD := hid hcd
          clear hcd k1
          -- what ruleOf answered is read apart
          obtain ⟨lv, rb, hrvv⟩ : ∃ lv rb, rv = .tuple #[lv, .bool rb] := by
            cases ro with
            | none => exact ⟨_, _, hwr5⟩
            | some l => obtain ⟨u, e1, _⟩ := hwr5; exact ⟨_, _, e1⟩
          subst hrvv
          have HWR := hid hwr5
          clear hwr5
          cases cd with
          | true =>
            go_wp2_with fail
            refine (HDR4.out _ H5.out.2.1).mono ?_
            rintro r W6 ⟨rfl, rfl⟩
            go_wp2_with fail
            refine (HDE.out _ H5.out.2.1).mono ?_
            rintro r W7 ⟨rfl, n7, rfl⟩
            have hle := dropN_le e.n (es.drop (k + 1)) 1
            rw [List.length_drop] at hle
            have HD2 := hid (fun (_ : True) => (by have := HD.out trivial; rw [sieve_drop P e _ ⟨HK1.out, HCD.out⟩, List.drop_drop] at this; exact this : J ++ filtL P ([], 0) (es.drop (k + 1 + dropN e.n 1 (es.drop (k + 1)))) = R))
            generalize dropN e.n 1 (es.drop (k + 1)) = dn at HD2 hle ⊢
            have hmd5 := H5.out.1
            have HZ : Hid (MadeE (W6.drewN n7) w.heap.size (.slice jp J.length jc) J xs ∧ Below w.heap.size w (W6.drewN n7) ∧ (W6.drewN n7).heap[w.heap.size]? = some (.cells (polC (.slice rp P.rules.length rc) (.slice sp P.schemes.length sc) (.slice dp P.drop.length dc) P) 25 (0, 0)) ∧ J.length ≤ k + 1 + dn) :=
              hid ⟨⟨hmd5.row, evs_mono (W := W6) (W' := W6.drewN n7) (fun _ _ _ hr => hr) _ _ hmd5.evs, hmd5.ap⟩, below_drewN H5.out.2.1 n7, H5.out.2.2.1, by omega⟩
            clear hmd5 H5 HD HWR
            go_wp2_with fail
            go_roundw
            case rel => exact ⟨k + 1 + dn, J, xs, rfl, by omega, HZ, HD2⟩
            case measure => simp [RowKit.intOf]; omega
          | false =>
            have HD2 := hid (fun (_ : True) => (by have := HD.out trivial; rw [sieve_zero P e _ _ (fun q => by rw [HCD.out] at q; cases q.2)] at this; exact this : J ++ ((outL P e).toList ++ filtL P ([], 0) (es.drop (k + 1))) = R))
            have ho : outL P e = ruledF P e := by unfold outL; rw [if_pos HK1.out]
            rw [ho] at HD2
            clear ho HD HDE
            go_wp2_with fail
            refine (HDR4.out _ H5.out.2.1).mono ?_
            rintro r W6 ⟨rfl, rfl⟩
            cases ro with
            | none =>
              obtain ⟨rfl, rfl⟩ : lv = .slice none 0 0 ∧ rb = false := by have := HWR.out; simp only [RuleO] at this; cases this; exact ⟨rfl, rfl⟩
              have HD3 := hid (fun (_ : True) => (by have := HD2.out trivial; rw [ruledF_none HRO.out] at this; exact this : J ++ filtL P ([], 0) (es.drop (k + 1)) = R))
              have HZ := hid (And.intro H5.out.1 (And.intro H5.out.2.1 (And.intro H5.out.2.2.1 (show J.length ≤ k + 1 by omega))))
              clear HD2 H5 HWR
              go_wp2_with fail
              go_roundw
              case rel => exact ⟨k + 1, J, xs, rfl, by omega, HZ, HD3⟩
              case measure => simp [RowKit.intOf]; omega
            | some l =>
              obtain ⟨u, hlv, hwl⟩ := HWR.out
              simp only [Value.tuple.injEq, Array.mk.injEq, List.cons.injEq, Value.bool.injEq, and_true] at hlv
              obtain ⟨rfl, rfl⟩ := hlv
              obtain ⟨lp, lc, rfl, _⟩ := hwl.len
              have hll := HLI.out l HRO.out
              have HAB' := HAB.out
              have hkc := HKA.out (.slice lp l.length lc) l (.slice up e.a.length uc) e.a W6 H5.out.2.1 hwl (by omega) H5.out.2.2.2.2 (by omega)
              have hsf : ruledF P e = startF P e l := ruledF_some HRO.out
              unfold startF at hsf
              have hkb := keptA_bulk P.schemes l e.a []
              generalize keptA P.schemes l [] e.a = K at hkc hsf hkb
              have HKC := hid hkc
              have HSF := hid hsf
              clear hkc hsf HWR hwl HLI HAB'
              go_wp2_with fail
              refine HKC.out.mono ?_
              rintro r W7 ⟨kv, rfl, hrow, b7⟩
              obtain ⟨hmd5, hbw5, hbox5, hn5, hu5⟩ := H5.out
              have hmd7 := hmd5.below b7
              have hbw7 := hbw5.trans (b7.mono hbw5.size)
              have hbox7 := (b7.block _ (block_lt hbox5)).trans hbox5
              have hn7 := (b7.block _ (block_lt hn5)).trans hn5
              have hat := attrsR_row hrow
              have hnot : ∀ g, kv.ownBlock = some g → NotIn g xs := fun g hg => notIn_new (hrow.lt g hg).1 xs J hmd5.evs
              have hrow7 := row_low hrow hbw5.size
              obtain ⟨kp, kc, rfl⟩ := row_shape hrow
              -- the event that is kept if its tag fits
              obtain ⟨W8, hW8⟩ : ∃ W8, W7.alloc (.cells #[.int .i64 1, .string (bs e.n), .slice kp K.length kc, .string ⟨#[]⟩] 44) = W8 := ⟨_, rfl⟩
              have hb8 : Below W7.heap.size W7 W8 := by rw [← hW8]; exact (Below.refl _ _).alloc (Nat.le_refl _) _
              have hn8 : W8.heap[W7.heap.size]? = some (.cells #[.int .i64 1, .string (bs e.n), .slice kp K.length kc, .string ⟨#[]⟩] 44 (0, 0)) := by rw [← hW8]; exact heap_alloc_new _ _
              have htf := tagFits_any ⟨1, e.n, K, []⟩ (.slice kp K.length kc) P.window W8 rfl (hat.below hb8) (by have := HAB.out; simp only [List.length_nil]; omega)
              unfold evC at htf
              simp only at htf
              change Calls Tryz.prog 17 #[.agg #[.int .i64 1, .string (bs e.n), .slice kp K.length kc, .string ⟨#[]⟩], .int .i64 P.window] W8 _ at htf
              have hmd8 := hmd7.below hb8
              have hbw8 := hbw7.trans (hb8.mono hbw7.size)
              have hbox8 := (hb8.block _ (block_lt hbox7)).trans hbox7
              have hrow8 := row_below hrow7 hb8
              obtain ⟨c0, c1, c2, c3, c4⟩ := polC_at (P := P) hbox8
              obtain ⟨d0, d1, d2, d3⟩ := evC_at hn7
              obtain ⟨y0, y1, y2, y3⟩ := (⟨cell_at hn8 rfl, cell_at hn8 rfl, cell_at hn8 rfl, cell_at hn8 rfl⟩ : W8.cell? ⟨W7.heap.size, 0, none⟩ = some (.int .i64 1) ∧ W8.cell? ⟨W7.heap.size, 1, none⟩ = some (.string (bs e.n)) ∧ W8.cell? ⟨W7.heap.size, 2, none⟩ = some (.slice kp K.length kc) ∧ W8.cell? ⟨W7.heap.size, 3, none⟩ = some (.string ⟨#[]⟩))
              have H8 := hid (And.intro hmd8 (And.intro hbw8 (And.intro hbox8 (And.intro hn8 (And.intro hrow8 hnot)))))
              obtain ⟨fb, hfb⟩ : ∃ fb, decide (((openL e.n K).length : Int) ≤ P.window) = fb := ⟨_, rfl⟩
              rw [hfb] at htf
              have hsf2 : ruledF P e = if fb = true then some (.start e.n K) else none := by
                rw [HSF.out, ← hfb]
                by_cases hq : ((openL e.n K).length : Int) ≤ P.window
                · rw [if_pos hq, if_pos (decide_eq_true hq)]
                · rw [if_neg hq, if_neg (by simp [hq])]
              rw [hsf2] at HD2
              have HTF := hid htf
              clear hmd5 hbw5 hbox5 hn5 hu5 hmd7 hbw7 hbox7 hn7 hat hnot hrow hrow7 b7 hb8 hn8 htf hmd8 hbw8 hbox8 hrow8 hfb hsf2 H5 HKC HSF hkb
              have HW8 := hid hW8
              clear hW8
              go_upto_region 14 with fail
              simp only [HW8.out]
              clear HW8 d0 d1 d2 d3
              go_wp2_with fail
              refine HTF.out.mono ?_
              rintro r W9 ⟨rfl, b9⟩
              obtain ⟨hmd8, hbw8, hbox8, hn8, hrow8, hnot⟩ := H8.out
              have hmd9 := hmd8.below b9
              have hbw9 := hbw8.trans (b9.mono hbw8.size)
              have hbox9 := (b9.block _ (block_lt hbox8)).trans hbox8
              have hn9 := (b9.block _ (block_lt hn8)).trans hn8
              have hrow9 := row_below hrow8 b9
              clear hmd8 hbw8 hbox8 hn8 hrow8 b9 H8 HTF c0 c1 c2 c3 c4 y0 y1 y2 y3
              cases fb with
              | false =>
                have HD3 := hid (fun (_ : True) => (by have := HD2.out trivial; exact this : J ++ filtL P ([], 0) (es.drop (k + 1)) = R))
                have HZ := hid (And.intro hmd9 (And.intro hbw9 (And.intro hbox9 (show J.length ≤ k + 1 by omega))))
                clear HD2 hmd9 hbw9 hbox9 hn9 hrow9 hnot
                go_wp2_with fail
                go_roundw
                case rel => exact ⟨k + 1, J, xs, rfl, by omega, HZ, HD3⟩
                case measure => simp [RowKit.intOf]; omega
              | true =>
                have HD3 := hid (fun (_ : True) => (by have := HD2.out trivial; rw [if_pos rfl, ← List.append_assoc] at this; exact this : (J ++ [.start e.n K]) ++ filtL P ([], 0) (es.drop (k + 1)) = R))
                obtain ⟨y0, y1, y2, y3⟩ := (⟨cell_at hn9 rfl, cell_at hn9 rfl, cell_at hn9 rfl, cell_at hn9 rfl⟩ : W9.cell? ⟨W7.heap.size, 0, none⟩ = some (.int .i64 1) ∧ W9.cell? ⟨W7.heap.size, 1, none⟩ = some (.string (bs e.n)) ∧ W9.cell? ⟨W7.heap.size, 2, none⟩ = some (.slice kp K.length kc) ∧ W9.cell? ⟨W7.heap.size, 3, none⟩ = some (.string ⟨#[]⟩))
                have hev9 : EvsAt W9 w.heap.size [.int .i64 1, .string (bs e.n), .slice kp K.length kc, .string ⟨#[]⟩] [.start e.n K] := ⟨⟨rfl, rfl, hrow9, rfl⟩, trivial⟩
                have hown := hmd9.row
                have hbs9 := hbw9.size
                have H9 := hid (And.intro hmd9 (And.intro hbw9 (And.intro hbox9 (And.intro hev9 hnot))))
                clear HD2 hmd9 hbw9 hbox9 hn9 hrow9 hnot hev9
                go_wp2_with (at_builtin; refine wpList_append_own _ rfl (.tmp 68) (.tmp 70) 26 rfl w.heap.size 44 ei (.agg #[.int .i64 0, .string ⟨#[]⟩, .slice none 0 0, .string ⟨#[]⟩]) 4 64 Tryz.underlying26 hei he0 he1 he2 rfl (by decide) _ _ _ rfl (hown.alloc _) ⟨_, 0, none⟩ 1 1 [.int .i64 1, .string (bs e.n), .slice kp K.length kc, .string ⟨#[]⟩] rfl rfl (cells_newV _ _ _) (by simp [Value.oneCell']) (by unfold maxLen; omega) (by omega) (by simp; omega) ?_)
                intro v10 W10 hown10 hgrow10 _
                obtain ⟨hmd9, hbw9, hbox9, hev9, hnot⟩ := H9.out
                have hsn := hmd9.snoc hev9 hnot hbw9 (Nat.le_refl _) hgrow10 hown10 hbox9 (by decide)
                have HZ := hid (And.intro hsn.out.1 (And.intro hsn.out.2.1 (And.intro hsn.out.2.2 (show (J ++ [Ev.start e.n K]).length ≤ k + 1 by rw [List.length_append]; simp; omega))))
                clear hmd9 hbw9 hbox9 hev9 hnot hown10 hgrow10 hown H9 hsn y0 y1 y2 y3
                go_wp2
                go_roundw
                case rel => exact ⟨k + 1, _, _, rfl, by omega, HZ, HD3⟩
                case measure => simp [RowKit.intOf]; omega
        · have n1 := int_ne k1
          have HD2 := hid (fun (_ : True) => (by have := HD.out trivial; rw [sieve_zero P e _ _ (fun q => k1 q.1)] at this; exact this : J ++ ((outL P e).toList ++ filtL P ([], 0) (es.drop (k + 1))) = R))
          obtain ⟨lv, hrvv⟩ : ∃ lv, rv = .tuple #[lv, .bool ro.isSome] := by
            cases ro with
            | none => exact ⟨_, hwr5⟩
            | some l => obtain ⟨u, e1, _⟩ := hwr5; exact ⟨_, e1⟩
          subst hrvv
          clear hwr5 HD HDE HDR4 HLI
          by_cases k2 : e.k = 2
          · have ho : outL P e = if ro.isSome = true then some (.stop e.n) else none := by unfold outL; rw [if_neg k1, if_pos k2, HRO.out]
            rw [ho] at HD2
            rw [k2] at d0 n1
            clear ho k1 k2
            generalize ro.isSome = rb at HD2 ⊢
            cases rb with
            | false =>
              have HD3 := hid (fun (_ : True) => (by have := HD2.out trivial; exact this : J ++ filtL P ([], 0) (es.drop (k + 1)) = R))
              have HZ := hid (And.intro H5.out.1 (And.intro H5.out.2.1 (And.intro H5.out.2.2.1 (show J.length ≤ k + 1 by omega))))
              clear HD2 H5
              go_wp2_with fail
              go_roundw
              case rel => exact ⟨k + 1, J, xs, rfl, by omega, HZ, HD3⟩
              case measure => simp [RowKit.intOf]; omega
            | true =>
              have HD3 := hid (fun (_ : True) => (by have := HD2.out trivial; rw [if_pos rfl, ← List.append_assoc] at this; exact this : (J ++ [.stop e.n]) ++ filtL P ([], 0) (es.drop (k + 1)) = R))
              have hown := H5.out.1.row
              have hbs9 := H5.out.2.1.size
              clear HD2
              go_wp2_with (at_builtin; refine wpList_append_own _ rfl (.tmp 79) (.tmp 83) 26 rfl w.heap.size 44 ei (.agg #[.int .i64 0, .string ⟨#[]⟩, .slice none 0 0, .string ⟨#[]⟩]) 4 64 Tryz.underlying26 hei he0 he1 he2 rfl (by decide) _ _ _ rfl (hown.alloc _) ⟨_, 0, none⟩ 1 1 [.int .i64 2, .string (bs e.n), .slice none 0 0, .string ⟨#[]⟩] rfl rfl (cells_newV _ _ _) (by simp [Value.oneCell']) (by unfold maxLen; omega) (by omega) (by simp; omega) ?_)
              intro v10 W10 hown10 hgrow10 _
              have hsn := H5.out.1.snoc (ev := .stop e.n) ⟨⟨rfl, rfl, rfl, rfl⟩, trivial⟩ (fun g hg => by cases hg) H5.out.2.1 (Nat.le_refl _) hgrow10 hown10 H5.out.2.2.1 (by decide)
              have HZ := hid (And.intro hsn.out.1 (And.intro hsn.out.2.1 (And.intro hsn.out.2.2 (show (J ++ [Ev.stop e.n]).length ≤ k + 1 by rw [List.length_append]; simp; omega))))
              clear hown10 hgrow10 hown H5 hsn
              go_wp2
              go_roundw
              case rel => exact ⟨k + 1, _, _, rfl, by omega, HZ, HD3⟩
              case measure => simp [RowKit.intOf]; omega
          have n2 := int_ne k2
          by_cases k3 : e.k = 3
          · have ho : outL P e = if e.t = [] then none else some (.text e.t) := by unfold outL; rw [if_neg k1, if_neg k2, if_pos k3]
            rw [ho] at HD2
            obtain ⟨T, hT⟩ : ∃ T, bs e.t = T := ⟨_, rfl⟩
            have hTL : T.toList = e.t := by rw [← hT, bs_toList]
            rw [hT] at d3
            rw [k3] at d0 n1 n2
            generalize ro.isSome = rb
            by_cases h4 : e.t = []
            · have q : (T.toList != []) = false := by rw [hTL, h4]; rfl
              have qe : T.toList.isEmpty = true := by rw [hTL, h4]; rfl
              have HD3 := hid (fun (_ : True) => (by have := HD2.out trivial; rw [if_pos h4] at this; exact this : J ++ filtL P ([], 0) (es.drop (k + 1)) = R))
              have HZ := hid (And.intro H5.out.1 (And.intro H5.out.2.1 (And.intro H5.out.2.2.1 (show J.length ≤ k + 1 by omega))))
              clear HD2 H5 ho k1 k2 k3 hT hTL h4
              go_wp2_with fail
              go_roundw
              case rel => exact ⟨k + 1, J, xs, rfl, by omega, HZ, HD3⟩
              case measure => simp [RowKit.intOf]; omega
            · have q : (T.toList != []) = true := by rw [hTL]; exact bne_iff_ne.2 h4
              have qe : T.toList.isEmpty = false := by rw [hTL]; cases hh : e.t with | nil => exact absurd hh h4 | cons x y => rfl
              have HD3 := hid (fun (_ : True) => (by have := HD2.out trivial; rw [if_neg h4] at this; rw [show (some (Ev.text e.t)).toList = [Ev.text e.t] from rfl, ← List.append_assoc] at this; exact this : (J ++ [.text e.t]) ++ filtL P ([], 0) (es.drop (k + 1)) = R))
              have hown := H5.out.1.row
              have hbs9 := H5.out.2.1.size
              have HTT := hid hT
              clear HD2 ho k1 k2 k3 hT hTL h4
              go_wp2_with (at_builtin; refine wpList_append_own _ rfl (.tmp 94) (.tmp 98) 26 rfl w.heap.size 44 ei (.agg #[.int .i64 0, .string ⟨#[]⟩, .slice none 0 0, .string ⟨#[]⟩]) 4 64 Tryz.underlying26 hei he0 he1 he2 rfl (by decide) _ _ _ rfl (hown.alloc _) ⟨_, 0, none⟩ 1 1 [.int .i64 3, .string ⟨#[]⟩, .slice none 0 0, .string T] rfl rfl (cells_newV _ _ _) (by simp [Value.oneCell']) (by unfold maxLen; omega) (by omega) (by simp; omega) ?_)
              intro v10 W10 hown10 hgrow10 _
              have hsn := H5.out.1.snoc (ev := .text e.t) ⟨⟨rfl, rfl, rfl, by rw [← HTT.out]; rfl⟩, trivial⟩ (fun g hg => by cases hg) H5.out.2.1 (Nat.le_refl _) hgrow10 hown10 H5.out.2.2.1 (by decide)
              have HZ := hid (And.intro hsn.out.1 (And.intro hsn.out.2.1 (And.intro hsn.out.2.2 (show (J ++ [Ev.text e.t]).length ≤ k + 1 by rw [List.length_append]; simp; omega))))
              clear hown10 hgrow10 hown H5 hsn
              go_wp2
              go_roundw
              case rel => exact ⟨k + 1, _, _, rfl, by omega, HZ, HD3⟩
              case measure => simp [RowKit.intOf]; omega
          · have n3 := int_ne k3
            have ho : outL P e = none := by unfold outL; rw [if_neg k1, if_neg k2, if_neg k3]
            rw [ho] at HD2
            generalize ro.isSome = rb
            have HD3 := hid (fun (_ : True) => (by have := HD2.out trivial; exact this : J ++ filtL P ([], 0) (es.drop (k + 1)) = R))
            have HZ := hid (And.intro H5.out.1 (And.intro H5.out.2.1 (And.intro H5.out.2.2.1 (show J.length ≤ k + 1 by omega))))
            clear HD2 H5 ho k1 k2 k3
            go_wp2_with fail
            go_roundw
            case rel => exact ⟨k + 1, J, xs, rfl, by omega, HZ, HD3⟩
            case measure => simp [RowKit.intOf]; omega
      · obtain rfl : J = R := by
          have := HK.out trivial
          rw [List.drop_of_length_le (by omega)] at this
          rwa [show filtL P ([], 0) [] = [] from rfl, List.append_nil] at this
        have HZ := hid (And.intro HX.out.1 HX.out.2.1)
        clear HK HX HC
        go_wp2_with fail
        go_ret
        exact ⟨_, rfl, ⟨xs, HZ.out.1⟩, HZ.out.2⟩
  · have q : (((ck : Nat) : Int) != 0) = true := bne_iff_ne.2 (by omega)
    have HB2 := hid hbw2
    clear b2 hbox2 hbw2 HCK HC HB HS HR HRU HKA HDR HAL HE
    go_wp2_with fail
    go_ret
    exact ⟨_, rfl, ⟨[], by first | exact MadeE.nil _ _ | (rw [if_neg hc]; exact MadeE.nil _ _)⟩, HB2.out⟩
end Go.Proofs.YtkcgmimldjeaiaaGreatDoor

/-
  The law LawFilter: its walk.
-/
namespace Go.Proofs.YtkcgmimldjeaiaaGreatDoor
open Go.RowKit Go.Lib Own

/-- words that can be read, as apartLists wants them -/
theorem words_at {W : World} {p : Option Addr} {n c : Nat} {ss : List (List UInt8)} (h : Words W (.slice p n c) ss) : n = ss.length ∧ WordsAt W W.heap.size p (ss.map bs) := by
  obtain ⟨p', c', e, _, _, hc, _⟩ := h
  cases e
  refine ⟨rfl, ⟨fun j hj => ?_⟩⟩
  rw [List.length_map] at hj
  obtain ⟨b, o, hp, hcell⟩ := hc j ss[j] (List.getElem?_eq_getElem hj)
  refine ⟨b, o, hp, cell_block hcell, ?_⟩
  rw [hcell]
  simp [List.getD, hj]
theorem Words.low {W W' : World} {v : Value} {ss : List (List UInt8)} {B : Nat} (h : Words W v ss) (hB : W.heap.size ≤ B) (hb : Below B W W') : Words W' v ss := h.below (hb.mono hB)

theorem PowB.up {base base2 : Nat} {w : World} (h : PowB base w) (hb : base ≤ base2) : PowB base2 w := ⟨h.1, Nat.lt_of_lt_of_le h.2 hb⟩
theorem MadeE.on {W W' : World} {base B : Nat} {v : Value} {J : List Ev} {xs : List Value} (h : MadeE W base v J xs) (hB : W.heap.size ≤ B) (hb : Below B W W') : MadeE W' base v J xs := h.below (hb.mono hB)
/-- the box of an answer of lendEvents -/
theorem evs_of_filter (P : PolP) (es : List EvP) (N : Nat) (h1 : es.length ≤ N) (h2 : ∀ e ∈ es, e.a.length ≤ N) : (filterP P es).length ≤ N ∧ ∀ v ∈ filterP P es, (evA v).length ≤ N :=
  ⟨Nat.le_trans (filt_len P es _) h1, filt_evA P N es _ h2⟩

set_option maxHeartbeats 16000000 in
set_option maxRecDepth 100000 in
theorem lawFilter_walk (vr vs vd mv : Value) (P : PolP) (ev : Value) (es : List EvP) (ms : List (List UInt8)) (m : Int) (w : World) (h : PolR w vr vs vd P) (hF : P.Few) (he : EvsR w ev es) (hs : bulkE es ≤ 1100000) (hM : Words w mv ms) (hm : ms.length ≤ 2000000) (hT : AttrTab w) (hK : KindsTab w) (hV : VAttrTab w) (hP : PowB w.heap.size w)
    (hmx : w.cell? ⟨4, 0, none⟩ = some (.int .i64 m)) :
    Calls Tryz.prog 3 #[.agg (polC vr vs vd P), ev, mv] w fun e w' => e = .returned (.bool true) ∧ Below w.heap.size w w' := by
  obtain ⟨rp, rn, rc, rfl⟩ := h.rules.shape
  obtain ⟨sp, sn, sc, rfl⟩ := h.schemes.shape
  obtain ⟨dp, dn, dc, rfl⟩ := h.drop.shape
  obtain ⟨mp, mn, mc, rfl⟩ := hM.shape
  obtain ⟨ep, en, ec, rfl⟩ := he.shape
  have hlen := bulkE_len es
  have hatt : ∀ e ∈ es, e.a.length ≤ 2000000 := fun e he => by
    obtain ⟨k, hk⟩ := List.getElem?_of_mem he
    have h1 := bulkE_get hk
    have h2 := bulkA_len e.a
    omega
  -- the answer that is due
  obtain ⟨J, hJ⟩ : ∃ J, (if checkP P = 0 then filterP P es else []) = J := ⟨_, rfl⟩
  have hJb : J.length ≤ 5000000 ∧ ∀ e ∈ J, (evA e).length ≤ 5000000 := by
    rw [← hJ]
    split
    · obtain ⟨h1, h2⟩ := evs_of_filter P es 2000000 (by omega) hatt
      exact ⟨by omega, fun e he => Nat.le_trans (h2 e he) (by omega)⟩
    · exact ⟨by simp, fun e he => by cases he⟩
  obtain ⟨W0, hW0⟩ : ∃ W0, (w.alloc (.cells (polC (.slice rp rn rc) (.slice sp sn sc) (.slice dp dn dc) P) 25)) = W0 := ⟨_, rfl⟩
  have hB : Below w.heap.size w W0 := by
    rw [← hW0]
    exact (Below.refl w.heap.size w).alloc (Nat.le_refl _) _
  have b0 : W0.heap[w.heap.size]? = some (.cells (polC (.slice rp rn rc) (.slice sp sn sc) (.slice dp dn dc) P) 25 (0, 0)) := by
    rw [← hW0]
    exact heap_alloc_new w _
  obtain ⟨hmn, hwa⟩ := words_at hM
  have hr1 := fun W (hW : Below w.heap.size w W) => refFilter_any _ _ _ P _ es W (h.below hW) hF (hT.below hW) (he.below hW) (by omega)
  have hr3 := fun W (hW : Below w.heap.size w W) => lendPolicy_any _ _ _ _ P ms W (h.below hW) hF (hM.below hW) hm
  have hr4 := fun W (hW : Below w.heap.size w W) => lendEvents_any _ _ es ms W (he.below hW) (hM.below hW) (by omega) hatt hm
  have hr5 := fun W (hW : Below w.heap.size w W) a b c x (hq : PolR W a b c P) (hx : EvsR W x es) => filter_any a b c P x es m W hq hF (hK.below hW) (hV.below hW) hx (by omega) (cell_low hmx hW (cell_block hmx))
  have hr6 := fun W (hW : Below w.heap.size w W) q (hq : LentR W q P ms) => keptPolicy_any q _ _ _ _ P ms W hq (h.below hW) hF (hM.below hW) hm
  have hr7 := fun W (hW : Below w.heap.size w W) q (hq : LentE W q es (moreEvents ms) (namesA ms)) => keptEvents_any q _ _ es ms W hq (he.below hW) (hM.below hW) (by omega) hatt hm
  rw [check_same] at hr5
  simp only [hJ] at hr1 hr5
  have hr8 := fun (W : World) (hW : Below w.heap.size w W) (B1 B2 : Nat) gv dv xs ys (hB1 : w.heap.size ≤ B1) (hb1 : B1 ≤ W.heap.size) (m1 : MadeE W B1 gv J xs) (m2 : MadeE W B2 dv J ys) =>
    fresh_any B1 B2 gv dv xs ys J mp mc (ms.map bs) W m1.row m1.evs m1.ap m2.row m2.evs hJb.1 hJb.2 hb1 (by rw [List.length_map]; omega) ((hwa.below hW).up hB1) ((hP.below hW).up hB1)
  simp only [List.length_map, ← hmn] at hr8
  have hr9 := fun (W : World) (B1 B2 : Nat) gv dv xs ys (m1 : MadeE W B1 gv J xs) (m2 : MadeE W B2 dv J ys) => sameEvents_any B1 B2 gv dv xs ys J W m1.row m1.evs m2.row m2.evs
  have H1 := hid hr1
  have H3 := hid hr3
  have H4 := hid hr4
  have H5 := hid hr5
  have H6 := hid hr6
  have H7 := hid hr7
  have H8 := hid hr8
  have H9 := hid hr9
  have HB := hid (And.intro hB b0)
  obtain ⟨c0, c1, c2, c3, c4⟩ := polC_at (P := P) b0
  have HP0 := hid (And.intro h he)
  clear h hF hM hm hT hK hV hP hmx hs hlen hatt hJ hJb hB b0 hwa hr1 hr3 hr4 hr5 hr6 hr7 hr8 hr9 he hmn
  unfold polC at hW0 H1 H3 H5 H6 ⊢
  go_enter Tryz.func3, Tryz.ntmps3
  go_upto_region 1 with fail
  clear hW0
  go_wp2_with fail
  refine (H1.out _ HB.out.1).mono ?_
  rintro e w1 ⟨dv, ys, rfl, mdue, hb1⟩
  obtain ⟨dvp, dvc, rfl⟩ := row_shape mdue.row
  replace c0 := cell_kept c0 hb1
  replace c1 := cell_kept c1 hb1
  replace c2 := cell_kept c2 hb1
  replace c3 := cell_kept c3 hb1
  replace c4 := cell_kept c4 hb1
  have hk1 := HB.out.1.trans (hb1.mono HB.out.1.size)
  have HK1 := hid hk1
  have HD1 := hid mdue
  clear hb1 hk1 mdue
  go_wp2_with fail
  refine (H3.out _ HK1.out).mono ?_
  rintro e w2 ⟨lv, rfl, hlent, hb2⟩
  replace c0 := cell_kept c0 hb2
  replace c1 := cell_kept c1 hb2
  replace c2 := cell_kept c2 hb2
  replace c3 := cell_kept c3 hb2
  replace c4 := cell_kept c4 hb2
  have HE2 := hid hlent
  obtain ⟨br, bs_, bd, bR, bA, bS, bD, rfl, l1, l2, l3, l4, l5⟩ := hlent
  obtain ⟨aR1, aR2, aR3, rfl⟩ := l2.shape
  obtain ⟨aS1, aS2, aS3, rfl⟩ := l4.shape
  obtain ⟨aD1, aD2, aD3, rfl⟩ := l5.shape
  obtain ⟨b01, b02, b03, rfl⟩ := l1.rules.shape
  obtain ⟨b11, b12, b13, rfl⟩ := l1.schemes.shape
  obtain ⟨b21, b22, b23, rfl⟩ := l1.drop.shape
  obtain ⟨aA1, aA3, rfl, _⟩ := l3
  generalize (P.rules.map fun q => q.2 ++ ms).length = aA2 at HE2 ⊢
  have hl1 := l1
  obtain ⟨W3, hW3⟩ : ∃ W3, w2.alloc (.cells #[.slice b01 b02 b03, .slice b11 b12 b13, .slice b21 b22 b23, .int .i64 P.depth, .int .i64 P.window, .slice aR1 aR2 aR3, .slice aA1 aA2 aA3, .slice aS1 aS2 aS3, .slice aD1 aD2 aD3] 30) = W3 := ⟨_, rfl⟩
  have hb3 : Below w2.heap.size w2 W3 := by rw [← hW3]; exact (Below.refl _ _).alloc (Nat.le_refl _) _
  have hn3 : W3.heap[w2.heap.size]? = some (.cells #[.slice b01 b02 b03, .slice b11 b12 b13, .slice b21 b22 b23, .int .i64 P.depth, .int .i64 P.window, .slice aR1 aR2 aR3, .slice aA1 aA2 aA3, .slice aS1 aS2 aS3, .slice aD1 aD2 aD3] 30 (0, 0)) := by rw [← hW3]; exact heap_alloc_new _ _
  have hk2 := HK1.out.trans (hb2.mono HK1.out.size)
  have HK3 := hid (hk2.trans (hb3.mono hk2.size))
  have HD3 := hid ((HD1.out.below hb2).below hb3)
  have HE3 := hid (HE2.out.below hb3)
  have HP3 := hid (hl1.below hb3)
  have HN3 := hid hn3
  replace c0 := cell_kept c0 hb3
  replace c1 := cell_kept c1 hb3
  replace c2 := cell_kept c2 hb3
  replace c3 := cell_kept c3 hb3
  replace c4 := cell_kept c4 hb3
  clear l1 l2 l4 l5 hl1 hb2 hb3 hk2 hn3 HE2 HD1 HK1
  go_upto_region 3 with fail
  obtain ⟨L3, hL3⟩ : ∃ L3, w2.heap.size = L3 := ⟨_, rfl⟩
  rw [hL3] at HN3
  simp only [hL3]
  clear hW3 hL3
  go_wp2_with fail
  refine (H4.out _ HK3.out).mono ?_
  rintro e w4 ⟨qv, rfl, hlentE, hb4⟩
  have HQ4 := hid hlentE
  obtain ⟨vf, vw, va, rfl, l1, l2, l3⟩ := hlentE
  obtain ⟨f1, f2, f3, rfl⟩ := l1.shape
  obtain ⟨w1', w2', w3', rfl⟩ := l2.shape
  obtain ⟨a1, a2, a3, rfl⟩ := l3.shape
  obtain ⟨W5, hW5⟩ : ∃ W5, w4.alloc (.cells #[.slice f1 f2 f3, .slice w1' w2' w3', .slice a1 a2 a3] 34) = W5 := ⟨_, rfl⟩
  have hb5 : Below w4.heap.size w4 W5 := by rw [← hW5]; exact (Below.refl _ _).alloc (Nat.le_refl _) _
  have hn5 : W5.heap[w4.heap.size]? = some (.cells #[.slice f1 f2 f3, .slice w1' w2' w3', .slice a1 a2 a3] 34 (0, 0)) := by rw [← hW5]; exact heap_alloc_new _ _
  have hb35 := hb4.trans (hb5.mono hb4.size)
  have HK5 := hid (HK3.out.trans (hb35.mono HK3.out.size))
  have HD5 := hid (HD3.out.below hb35)
  have HE5 := hid (HE3.out.below hb35)
  have HP5 := hid (HP3.out.below hb35)
  have HN5 := hid ((hb35.block _ (block_lt HN3.out)).trans HN3.out)
  have HQ5 := hid (HQ4.out.below hb5)
  have HX5 := hid (l1.below hb5)
  have HM5 := hid hn5
  replace c0 := cell_kept c0 hb35
  replace c1 := cell_kept c1 hb35
  replace c2 := cell_kept c2 hb35
  replace c3 := cell_kept c3 hb35
  replace c4 := cell_kept c4 hb35
  clear l1 l2 l3 hb4 hb5 hb35 hn5 HK3 HD3 HE3 HP3 HN3 HQ4
  go_upto_region 4 with fail
  obtain ⟨L5, hL5⟩ : ∃ L5, w4.heap.size = L5 := ⟨_, rfl⟩
  rw [hL5] at HM5
  simp only [hL5]
  clear hW5 hL5
  obtain ⟨x0, x1, x2, x3, x4, x5, x6, x7, x8, -⟩ := lp_cells HN5.out
  have y0 := cell_at HM5.out (j := 0) rfl
  have y1 := cell_at HM5.out (j := 1) rfl
  have y2 := cell_at HM5.out (j := 2) rfl
  have hgot := H5.out W5 HK5.out _ _ _ _ HP5.out HX5.out
  have HG := hid hgot
  have hl5 : w.heap.size ≤ W5.heap.size := HK5.out.size
  have hb5l := block_lt HN5.out
  have hb5m := block_lt HM5.out
  have hb5c := cell_block c0
  clear hgot
  go_wp2_with fail
  refine HG.out.mono ?_
  rintro e w6 ⟨gv, xs, rfl, mgot, hb6⟩
  obtain ⟨gvp, gvc, rfl⟩ := row_shape mgot.row
  have hk6 := HK5.out.trans (hb6.mono HK5.out.size)
  have hfr := H8.out w6 hk6 W5.heap.size _ _ _ _ _ hl5 hb6.size mgot (HD5.out.below hb6)
  have HFR := hid hfr
  have HK6 := hid (And.intro hk6 hb6)
  clear mgot hfr hk6 hb6 HG x0 x1 x2 x3 x4 x5 x6 x7 x8 y0 y1 y2
  go_wp2_with fail
  refine HFR.out.mono ?_
  rintro e w7 ⟨rfl, hb7, -⟩
  -- all that lay below the answer is as it was
  have hb57 : Below W5.heap.size W5 w7 := HK6.out.2.trans hb7
  have HK7 := hid (HK5.out.trans (hb57.mono HK5.out.size))
  have HD7 := hid (HD5.out.below hb57)
  have HE7 := hid (HE5.out.below hb57)
  have HQ7 := hid (HQ5.out.below hb57)
  have HN7 := hid ((hb57.block _ hb5l).trans HN5.out)
  have HM7 := hid ((hb57.block _ hb5m).trans HM5.out)
  replace c0 := cell_kept c0 hb57
  replace c1 := cell_kept c1 hb57
  replace c2 := cell_kept c2 hb57
  replace c3 := cell_kept c3 hb57
  replace c4 := cell_kept c4 hb57
  clear hb7 hb57 HK5 HD5 HE5 HQ5 HN5 HM5 HP5 HX5 HK6 HFR hl5 hb5l hb5m hb5c
  obtain ⟨x0, x1, x2, x3, x4, x5, x6, x7, x8, -⟩ := lp_cells HN7.out
  have y0 := cell_at HM7.out (j := 0) rfl
  have y1 := cell_at HM7.out (j := 1) rfl
  have y2 := cell_at HM7.out (j := 2) rfl
  go_wp2_with fail
  refine (H6.out _ HK7.out _ HE7.out).mono ?_
  rintro e w8 ⟨rfl, hb8⟩
  have HK8 := hid (HK7.out.trans (hb8.mono HK7.out.size))
  have HD8 := hid (HD7.out.below hb8)
  have HQ8 := hid (HQ7.out.below hb8)
  have HM8 := hid ((hb8.block _ (block_lt HM7.out)).trans HM7.out)
  replace c0 := cell_kept c0 hb8
  replace c1 := cell_kept c1 hb8
  replace c2 := cell_kept c2 hb8
  replace c3 := cell_kept c3 hb8
  replace c4 := cell_kept c4 hb8
  replace y0 := cell_kept y0 hb8
  replace y1 := cell_kept y1 hb8
  replace y2 := cell_kept y2 hb8
  clear hb8 HK7 HD7 HE7 HQ7 HN7 HM7 x0 x1 x2 x3 x4 x5 x6 x7 x8
  go_wp2_with fail
  refine (H7.out _ HK8.out _ HQ8.out).mono ?_
  rintro e w9 ⟨rfl, hb9⟩
  have HK9 := hid (HK8.out.trans (hb9.mono HK8.out.size))
  have HD9 := hid (HD8.out.below hb9)
  replace c0 := cell_kept c0 hb9
  replace c1 := cell_kept c1 hb9
  replace c2 := cell_kept c2 hb9
  replace c3 := cell_kept c3 hb9
  replace c4 := cell_kept c4 hb9
  have hgot := H5.out w9 HK9.out _ _ _ _ (HP0.out.1.below HK9.out) (HP0.out.2.below HK9.out)
  have HG := hid hgot
  clear hb9 HK8 HD8 HQ8 HM8 y0 y1 y2 hgot
  go_wp2_with fail
  refine HG.out.mono ?_
  rintro e w10 ⟨gv, xs2, rfl, mgot, hb10⟩
  obtain ⟨gvp2, gvc2, rfl⟩ := row_shape mgot.row
  have hse := H9.out w10 _ _ _ _ _ _ mgot (HD9.out.below hb10)
  have HSE := hid hse
  have HK10 := hid (HK9.out.trans (hb10.mono HK9.out.size))
  clear mgot hse hb10 HG HK9 HD9
  go_wp2_with fail
  refine HSE.out.mono ?_
  rintro e w11 ⟨rfl, n11, rfl⟩
  go_wp2_with fail
  go_ret
  exact ⟨rfl, below_drewN HK10.out n11⟩
end Go.Proofs.YtkcgmimldjeaiaaGreatDoor
