/-
  Parts of the walk, joined: SieveE, BalB.
-/
import Derived.Test.YtcncbhbdpcpkeaaGreatDoorPJBJ
import Derived.Test.YtcncbhbdpcpkeaaGreatDoorPJBF
import Derived.Test.YtcncbhbdpcpkeaaGreatDoorPJBH
import Derived.Test.YtcncbhbdpcpkeaaGreatDoorPJBC
/-
  Package sieve: Take, New: their walks.
-/
namespace Go.Proofs.YtcncbhbdpcpkeaaGreatDoor
open Go.RowKit Go.Lib Own

theorem StA.grown {w W W' : World} {b : Nat} {e : EvP} {u : Value} {cs cs' : Array Value} (h : StA w W b e u cs) (g : W.grownBy W' (some b)) (s : W'.heap[b]? = some (.cells cs' 205 (0, 0))) : StA w W' b e u cs' :=
  have hb := h.bb
  ⟨h.g.trans g, s, (g.block _ (block_lt h.b0) (fun e => by cases e; omega)).trans h.b0, (g.block _ (block_lt h.b1) (fun e => by cases e; omega)).trans h.b1, hb⟩
theorem evs1_low {W : World} {B base : Nat} (hb : base ≤ B) {k n a t : Value} {ev : Ev} (h : EvsAt W B [k, n, a, t] [ev]) : EvsAt W base [k, n, a, t] [ev] := by
  cases ev with
  | text x => exact h
  | start n x => exact ⟨⟨h.1.1, h.1.2.1, row_low h.1.2.2.1 hb, h.1.2.2.2⟩, trivial⟩
  | stop x => exact h
/-- the answer's box is another block -/
theorem evs1_just {W W' : World} {base b : Nat} {cs cs' : Array Value} (hb : W.heap[b]? = some (.cells cs 60 (0, 0))) (j : Just W W' b cs' 60) {k n a t : Value} {ev : Ev} (h : EvsAt W base [k, n, a, t] [ev]) : EvsAt W' base [k, n, a, t] [ev] := by
  cases ev with
  | text x => exact h
  | start n x => exact ⟨⟨h.1.1, h.1.2.1, row_just h.1.2.2.1 hb (by decide) j.other, h.1.2.2.2⟩, trivial⟩
  | stop x => exact h

set_option maxHeartbeats 8000000 in
set_option maxRecDepth 100000 in
theorem take_any (w0 : World) (b : Nat) (vr vs vd : Value) (P : PolP) (sk : List UInt8) (cnt : Nat) (e : EvP) (u : Value) (m : Int) (w : World) (h : SvAt w0 w b vr vs vd P sk cnt) (hF : P.Few) (hu : AttrsR w u e.a) (hs : e.n.length + e.t.length + bulkA e.a ≤ 4000000) (hc : cnt ≤ 1000000000)
    (hm : w.cell? ⟨4, 0, none⟩ = some (.int .i64 m)) :
    Calls Tryz.prog 216 #[.pointer (some ⟨b, 0, none⟩), .agg (evC e u)] w fun r w' => ∃ v, r = .returned v ∧ TakeV w' w.heap.size (sieveL P (sk, cnt) e).2 v ∧ w'.heap[b]? = some (.cells (sieveC vr vs vd P (sieveL P (sk, cnt) e).1.1 (sieveL P (sk, cnt) e).1.2) 205 (0, 0)) ∧ w.grownBy w' (some b) := by
  obtain ⟨up, uc, rfl⟩ := hu.len
  obtain ⟨W1, hW1⟩ : ∃ W1, (w.alloc (.cells (evC e (.slice up e.a.length uc)) 60)).alloc (.cells zeroEv 60) = W1 := ⟨_, rfl⟩
  have hB : Below w.heap.size w W1 := by rw [← hW1]; exact ((Below.refl w.heap.size w).alloc (Nat.le_refl _) _).alloc (by simp) _
  have hA : StA w W1 b e (.slice up e.a.length uc) (sieveC vr vs vd P sk cnt) := by
    refine ⟨grown_below hB _, (hB.block b (block_lt h.at_)).trans h.at_, ?_, ?_, block_lt h.at_⟩
    · rw [← hW1]; exact (Go.Lib.alloc_old _ _ _ (by simp)).trans (heap_alloc_new w _)
    · rw [← hW1]; exact heap_two_new w _ _ _
  have hS1 := h.below hB
  have hu1 := hu.below hB
  have hm1 := cell_low hm hB (cell_block hm)
  obtain ⟨c2, c4, c5, c6, f5, f6⟩ := sieve_cells hA.s
  obtain ⟨d0, d1, d2, d3⟩ := evC_at hA.b0
  obtain ⟨z0, z1, z2, z3, y0, y1, y2, y3⟩ := hA.cells
  have HA := hid hA
  have hsz : w.heap.size ≤ W1.heap.size := hB.size
  by_cases hcz : 0 < cnt
  · have hsk := sieveSkip_any w0 b vr vs vd P sk cnt e (.slice up e.a.length uc) W1 hS1 ⟨_, _, _, rfl⟩ hcz hc
    have es : sieveL P (sk, cnt) e = ((sk, skipF (sk, cnt) e), none) := by unfold sieveL; rw [if_pos hcz]
    rw [es]
    simp only
    generalize skipF (sk, cnt) e = cnt2 at hsk ⊢
    have HSK := hid hsk
    unfold evC at hW1 HSK ⊢
    unfold zeroEv at hW1
    clear hsk es hS1 hu1 hm1 hA hB h hu hm hF
    go_enter Tryz.func216, Tryz.ntmps216
    go_upto_region 1 with fail
    clear hW1
    go_wp2_with fail
    refine HSK.out.mono ?_
    rintro r W2 ⟨rfl, s2, g2⟩
    have hA2 := HA.out.grown g2 s2
    clear z0 z1 z2 z3 y0 y1 y2 y3
    obtain ⟨z0, z1, z2, z3, y0, y1, y2, y3⟩ := hA2.cells
    have HD := hA2.done (.int .i64 0) (.string ⟨#[]⟩) (.slice none 0 0) (.string ⟨#[]⟩)
    clear hA2 s2 g2 HA HSK c2 c4 c5 c6 f5 f6
    go_wp2_with fail
    refine bodyPost_ret (v := .tuple #[.agg zeroEv, .bool false]) (results_two rfl _ _ _ _ _ _ _ rfl HD.out.1 Tryz.underlying60 rfl (by kernel_rfl) _ rfl) rfl ⟨_, rfl, rfl, HD.out.2⟩
  obtain rfl : cnt = 0 := by omega
  by_cases k1 : e.k = 1
  · have hst := start_any w0 b vr vs vd P sk e (.slice up e.a.length uc) m W1 hS1 hF hu1 (by omega) k1 hm1
    generalize sieveL P (sk, 0) e = q at hst ⊢
    obtain ⟨⟨q1, q2⟩, q3⟩ := q
    simp only at hst ⊢
    have HST := hid hst
    unfold evC at hW1 HST ⊢
    unfold zeroEv at hW1
    rw [k1] at d0
    simp only [k1] at hW1 HST ⊢
    clear hst hS1 hu1 hm1 hA hB h hu hm hF k1
    go_enter Tryz.func216, Tryz.ntmps216
    go_upto_region 1 with fail
    clear hW1
    go_wp2_with fail
    refine HST.out.mono ?_
    rintro r W2 ⟨rv, rfl, hrv, s2, g2⟩
    have hA2 := HA.out.grown g2 s2
    clear z0 z1 z2 z3 y0 y1 y2 y3
    obtain ⟨z0, z1, z2, z3, y0, y1, y2, y3⟩ := hA2.cells
    cases q3 with
    | none =>
      obtain rfl : rv = _ := hrv
      unfold zeroEv
      have HD := hA2.done (.int .i64 0) (.string ⟨#[]⟩) (.slice none 0 0) (.string ⟨#[]⟩)
      clear hA2 s2 g2 HA HST c2 c4 c5 c6 f5 f6
      go_wp2_with fail
      refine bodyPost_ret (v := .tuple #[.agg zeroEv, .bool false]) (results_two rfl _ _ _ _ _ _ _ rfl HD.out.1 Tryz.underlying60 rfl (by kernel_rfl) _ rfl) rfl ⟨_, rfl, rfl, HD.out.2⟩
    | some ev =>
      obtain ⟨ek, en, ap, am, ac, et, rfl, hev⟩ := hrv
      have HD := hA2.done (.int .i64 ek) (.string en) (.slice ap am ac) (.string et)
      have hj := zero_just (p0 := .int .i64 ek) (p1 := .string en) (p2 := .slice ap am ac) (p3 := .string et) (by have := hA2.b1; unfold zeroEv at this; exact this)
      have hev2 := hid (evs1_low hsz (evs1_just hA2.b1 hj hev))
      clear hA2 s2 g2 HA HST c2 c4 c5 c6 f5 f6 hj hev
      go_wp2_with fail
      refine bodyPost_ret (v := .tuple #[.agg #[.int .i64 ek, .string en, .slice ap am ac, .string et], .bool true]) (results_two rfl _ _ _ _ _ _ _ rfl HD.out.1 Tryz.underlying60 rfl (by kernel_rfl) _ rfl) rfl ⟨_, rfl, ⟨ek, en, ap, am, ac, et, rfl, hev2.out⟩, HD.out.2⟩
  have n1 := int_ne' k1
  have es : sieveL P (sk, 0) e = ((sk, 0), outL P e) := by unfold sieveL; rw [if_neg hcz, if_neg (fun h => k1 h.1)]
  rw [es]
  simp only
  by_cases k2 : e.k = 2
  · have eo : outL P e = if (ruleL P.rules e.n).isSome = true then some (.stop e.n) else none := by unfold outL; rw [if_neg k1, if_pos k2]
    rw [eo]
    have hru := rule_any w0 b vr vs vd P sk 0 (bs e.n) W1 hS1 hF
    rw [bs_toList] at hru
    obtain ⟨ro, hro⟩ : ∃ ro, ruleL P.rules e.n = ro := ⟨_, rfl⟩
    rw [hro] at hru ⊢
    obtain ⟨N, hN⟩ : ∃ N, bs e.n = N := ⟨_, rfl⟩
    rw [hN] at hru d1
    have HRU := hid hru
    unfold evC at hW1 ⊢
    unfold zeroEv at hW1
    rw [k2] at d0 n1
    simp only [k2, hN] at hW1 ⊢
    have HNN := hid hN
    clear hru hro eo es hS1 hu1 hm1 hA hB h hu hm hF hN k1 k2
    go_enter Tryz.func216, Tryz.ntmps216
    go_upto_region 1 with fail
    clear hW1
    go_wp2_with fail
    refine HRU.out.mono ?_
    rintro r W2 ⟨rv, rfl, hrv, b2⟩
    have hA2 := HA.out.below b2
    clear z0 z1 z2 z3 y0 y1 y2 y3 d0 d1 d2 d3
    cases ro with
    | none =>
      obtain rfl : rv = _ := hrv
      have hA3 : StA w (W2.alloc (.cells #[.string ⟨#[]⟩, .slice none 0 0] 97)) b e (.slice up e.a.length uc) (sieveC vr vs vd P sk 0) := hA2.below ((Below.refl _ _).alloc (Nat.le_refl _) _)
      obtain ⟨z0, z1, z2, z3, y0, y1, y2, y3⟩ := hA3.cells
      have HD := hA3.done (.int .i64 0) (.string ⟨#[]⟩) (.slice none 0 0) (.string ⟨#[]⟩)
      clear hA2 hA3 HA HRU b2 c2 c4 c5 c6 f5 f6
      go_wp2_with fail
      refine bodyPost_ret (v := .tuple #[.agg zeroEv, .bool false]) (results_two rfl _ _ _ _ _ _ _ rfl HD.out.1 Tryz.underlying60 rfl (by kernel_rfl) _ rfl) rfl ⟨_, rfl, rfl, HD.out.2⟩
    | some l =>
      obtain ⟨ru, rfl, hwr⟩ := hrv
      obtain ⟨rp, rc, rfl, _⟩ := hwr.len
      obtain ⟨W3, hW3⟩ : ∃ W3, W2.alloc (.cells #[.string N, .slice rp l.length rc] 97) = W3 := ⟨_, rfl⟩
      have hA3 := hA2.below (W' := W3) (by rw [← hW3]; exact (Below.refl _ _).alloc (Nat.le_refl _) _)
      rw [HNN.out]
      obtain ⟨d0, d1, d2, -⟩ := evC_at hA3.b0
      rw [HNN.out] at d1
      obtain ⟨z0, z1, z2, z3, y0, y1, y2, y3⟩ := hA3.cells
      have HD := hA3.done (.int .i64 2) (.string N) (.slice none 0 0) (.string ⟨#[]⟩)
      clear hA2 hA3 HA HRU b2 hwr c2 c4 c5 c6 f5 f6
      go_wp2_with fail
      refine bodyPost_ret (v := .tuple #[.agg #[.int .i64 2, .string N, .slice none 0 0, .string ⟨#[]⟩], .bool true]) (results_two rfl _ _ _ _ _ _ _ rfl HD.out.1 Tryz.underlying60 rfl (by kernel_rfl) _ rfl) rfl ⟨_, rfl, ⟨2, N, none, 0, 0, ⟨#[]⟩, rfl, ⟨rfl, by rw [← HNN.out]; rfl, rfl, rfl⟩, trivial⟩, HD.out.2⟩
  have n2 := int_ne' k2
  by_cases k3 : e.k = 3
  · have eo : outL P e = if e.t = [] then none else some (.text e.t) := by unfold outL; rw [if_neg k1, if_neg k2, if_pos k3]
    rw [eo]
    obtain ⟨T, hT⟩ : ∃ T, bs e.t = T := ⟨_, rfl⟩
    have hTL : T.toList = e.t := by rw [← hT, bs_toList]
    rw [hT] at d3
    unfold evC at hW1 ⊢
    unfold zeroEv at hW1
    rw [k3] at d0 n1 n2
    simp only [k3, hT] at hW1 ⊢
    have HTT := hid hT
    by_cases h4 : e.t = []
    · rw [if_pos h4]
      have q : (T.toList != []) = false := by rw [hTL, h4]; rfl
      have qe : T.toList.isEmpty = true := by rw [hTL, h4]; rfl
      have HD := HA.out.done (.int .i64 0) (.string ⟨#[]⟩) (.slice none 0 0) (.string ⟨#[]⟩)
      clear eo es hS1 hu1 hm1 hA hB h hu hm hF hT k1 k2 k3 hTL h4 HA
      go_enter Tryz.func216, Tryz.ntmps216
      go_upto_region 1 with fail
      clear hW1
      go_wp2_with fail
      refine bodyPost_ret (v := .tuple #[.agg zeroEv, .bool false]) (results_two rfl _ _ _ _ _ _ _ rfl HD.out.1 Tryz.underlying60 rfl (by kernel_rfl) _ rfl) rfl ⟨_, rfl, rfl, HD.out.2⟩
    · rw [if_neg h4]
      have q : (T.toList != []) = true := by rw [hTL]; exact bne_iff_ne.2 h4
      have qe : T.toList.isEmpty = false := by rw [hTL]; cases hh : e.t with | nil => exact absurd hh h4 | cons x y => rfl
      have HD := HA.out.done (.int .i64 3) (.string ⟨#[]⟩) (.slice none 0 0) (.string T)
      clear eo es hS1 hu1 hm1 hA hB h hu hm hF hT k1 k2 k3 hTL h4 HA
      go_enter Tryz.func216, Tryz.ntmps216
      go_upto_region 1 with fail
      clear hW1
      go_wp2_with fail
      refine bodyPost_ret (v := .tuple #[.agg #[.int .i64 3, .string ⟨#[]⟩, .slice none 0 0, .string T], .bool true]) (results_two rfl _ _ _ _ _ _ _ rfl HD.out.1 Tryz.underlying60 rfl (by kernel_rfl) _ rfl) rfl ⟨_, rfl, ⟨3, ⟨#[]⟩, none, 0, 0, T, rfl, ⟨rfl, rfl, rfl, by rw [← HTT.out]; rfl⟩, trivial⟩, HD.out.2⟩
  have n3 := int_ne' k3
  have eo : outL P e = none := by unfold outL; rw [if_neg k1, if_neg k2, if_neg k3]
  rw [eo]
  have HD := HA.out.done (.int .i64 0) (.string ⟨#[]⟩) (.slice none 0 0) (.string ⟨#[]⟩)
  unfold evC at hW1 ⊢
  unfold zeroEv at hW1
  clear eo es hS1 hu1 hm1 hA hB h hu hm hF k1 k2 k3 HA
  go_enter Tryz.func216, Tryz.ntmps216
  go_upto_region 1 with fail
  clear hW1
  go_wp2_with fail
  refine bodyPost_ret (v := .tuple #[.agg zeroEv, .bool false]) (results_two rfl _ _ _ _ _ _ _ rfl HD.out.1 Tryz.underlying60 rfl (by kernel_rfl) _ rfl) rfl ⟨_, rfl, rfl, HD.out.2⟩

set_option maxHeartbeats 2000000 in
theorem sieveNew_any (vr vs vd : Value) (P : PolP) (w : World) (h : PolR w vr vs vd P) :
    Calls Tryz.prog 108 #[.agg (polC vr vs vd P)] w fun r w' => r = .returned (.pointer (some ⟨w.heap.size + 1, 0, none⟩)) ∧ SvAt w w' (w.heap.size + 1) vr vs vd P [] 0 ∧ w'.heap.size = w.heap.size + 2 := by
  obtain ⟨r1, r2, r3, rfl⟩ := h.rules.shape
  obtain ⟨s1, s2, s3, rfl⟩ := h.schemes.shape
  obtain ⟨d1, d2, d3, rfl⟩ := h.drop.shape
  have hX : SvAt w ((w.alloc (.cells (polC (.slice r1 r2 r3) (.slice s1 s2 s3) (.slice d1 d2 d3) P) 43)).alloc (.cells (sieveC (.slice r1 r2 r3) (.slice s1 s2 s3) (.slice d1 d2 d3) P [] 0) 205)) (w.heap.size + 1) (.slice r1 r2 r3) (.slice s1 s2 s3) (.slice d1 d2 d3) P [] 0 :=
    ⟨heap_two_new w _ _ _, h, ((Below.refl w.heap.size w).alloc (Nat.le_refl _) _).alloc (by simp) _, by omega⟩
  have HX := hid hX
  unfold polC sieveC at HX
  unfold polC
  clear hX h
  go_enter Tryz.func108, Tryz.ntmps108
  go_wp2
  go_ret
  exact ⟨rfl, HX.out, by simp⟩
end Go.Proofs.YtcncbhbdpcpkeaaGreatDoor

/-
  The balancer's state; its put and openElement: their walks.
-/
namespace Go.Proofs.YtcncbhbdpcpkeaaGreatDoor
open Go.RowKit Go.Lib Own

theorem Just.grown {W W' : World} {b : Nat} {cs : Array Value} {T : TypeId} (j : Just W W' b cs T) : W.grownBy W' (some b) :=
  ⟨j.os, j.tape, j.output, by rw [j.size]; exact Nat.le_refl _, fun k _ hk => j.other k (fun e => hk (by rw [e]))⟩
theorem info_elem : (Tryz.prog.info? 172).map (fun i => (i.zero, i.size, i.bytes)) = some (some (.agg #[.string ⟨#[]⟩, .int .i64 0, .int .i64 0]), 3, 32) := by kernel_rfl

end Go.Proofs.YtcncbhbdpcpkeaaGreatDoor
