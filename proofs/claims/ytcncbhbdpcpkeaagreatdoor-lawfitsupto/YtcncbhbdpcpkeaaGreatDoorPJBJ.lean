/-
  Parts of the walk, joined: SieveC, SieveD.
-/
import Derived.Test.YtcncbhbdpcpkeaaGreatDoorPJBI
import Derived.Test.YtcncbhbdpcpkeaaGreatDoorPJAV
/-
  Package sieve: an event within a skip, a Start outside of one: their walks.
-/
namespace Go.Proofs.YtcncbhbdpcpkeaaGreatDoor
open Go.RowKit Go.Lib Own

def zeroEv : Array Value := #[.int .i64 0, .string ⟨#[]⟩, .slice none 0 0, .string ⟨#[]⟩]
/-- what is left of an event -/
def TakeV (W : World) (base : Nat) : Option Ev → Value → Prop
  | none, v => v = .tuple #[.agg zeroEv, .bool false]
  | some ev, v => ∃ k n p m c t, v = .tuple #[.agg #[.int .i64 k, .string n, .slice p m c, .string t], .bool true] ∧ EvsAt W base [.int .i64 k, .string n, .slice p m c, .string t] [ev]

theorem grown_drewN {w W : World} {r : Option Nat} (h : w.grownBy W r) (q : Nat) : w.grownBy (W.drewN q) r := ⟨h.os, h.tape, h.output, h.size, h.block⟩
theorem int_ne' {a b : Int} (h : a ≠ b) : (a == b) = false := beq_eq_false_iff_ne.2 h
theorem sieve_cells {W : World} {b : Nat} {vr vs vd : Value} {P : PolP} {sk : List UInt8} {n : Nat} (h : W.heap[b]? = some (.cells (sieveC vr vs vd P sk n) 205 (0, 0))) :
    W.cell? ⟨b, 2, none⟩ = some vd ∧ W.cell? ⟨b, 4, none⟩ = some (.int .i64 P.window) ∧ W.cell? ⟨b, 5, none⟩ = some (.string (bs sk)) ∧ W.cell? ⟨b, 6, none⟩ = some (.int .i64 n) ∧ W.frozen? ⟨b, 5, none⟩ = false ∧ W.frozen? ⟨b, 6, none⟩ = false :=
  ⟨cell_at h rfl, cell_at h rfl, cell_at h rfl, cell_at h rfl, free_at h 5, free_at h 6⟩
theorem sieve_count {W : World} {b : Nat} {vr vs vd : Value} {P : PolP} {sk : List UInt8} {n : Nat} (h : W.heap[b]? = some (.cells (sieveC vr vs vd P sk n) 205 (0, 0))) (m : Nat) : Just W (W.setCell ⟨b, 6, none⟩ (.int .i64 m)) b (sieveC vr vs vd P sk m) 205 :=
  just_put h _ (by unfold sieveC; simp)
theorem sieve_begin {W : World} {b : Nat} {vr vs vd : Value} {P : PolP} {sk : List UInt8} {n : Nat} (h : W.heap[b]? = some (.cells (sieveC vr vs vd P sk n) 205 (0, 0))) (x : ByteArray) (m : Nat) : Just W ((W.setCell ⟨b, 5, none⟩ (.string x)).setCell ⟨b, 6, none⟩ (.int .i64 m)) b (sieveC vr vs vd P x.data.toList m) 205 := by
  have h0 := just_put (j := 5) (cs2 := sieveC vr vs vd P x.data.toList n) h (.string x) (by unfold sieveC; simp [bs_of])
  exact h0.andThen (sieve_count h0.at_ m)

set_option maxHeartbeats 4000000 in
set_option maxRecDepth 100000 in
theorem sieveSkip_any (w0 : World) (b : Nat) (vr vs vd : Value) (P : PolP) (sk : List UInt8) (cnt : Nat) (e : EvP) (u : Value) (w : World) (h : SvAt w0 w b vr vs vd P sk cnt) (hu : ∃ p n c, u = .slice p n c) (hc0 : 0 < cnt) (hc : cnt ≤ 1000000000) :
    Calls Tryz.prog 245 #[.pointer (some ⟨b, 0, none⟩), .agg (evC e u)] w fun r w' => r = .returned (.tuple #[]) ∧ w'.heap[b]? = some (.cells (sieveC vr vs vd P sk (skipF (sk, cnt) e)) 205 (0, 0)) ∧ w.grownBy w' (some b) := by
  obtain ⟨p, n, c, rfl⟩ := hu
  have hB : Below w.heap.size w (w.alloc (.cells (evC e (.slice p n c)) 60)) := (Below.refl w.heap.size w).alloc (Nat.le_refl _) _
  have b0 := heap_alloc_new w (.cells (evC e (.slice p n c)) 60)
  obtain ⟨W1, hW1⟩ : ∃ W1, w.alloc (.cells (evC e (.slice p n c)) 60) = W1 := ⟨_, rfl⟩
  rw [hW1] at hB b0
  have hS1 := (h.below hB).at_
  obtain ⟨-, -, c5, c6, -, f6⟩ := sieve_cells hS1
  obtain ⟨d0, d1, -, -⟩ := evC_at b0
  have hne1 := bs_toList e.n
  have hne2 := bs_toList sk
  unfold evC at hW1 ⊢
  obtain ⟨N, hN⟩ : ∃ N, bs e.n = N := ⟨_, rfl⟩
  obtain ⟨S, hS⟩ : ∃ S, bs sk = S := ⟨_, rfl⟩
  rw [hN] at d1 hne1
  rw [hS] at c5 hne2
  simp only [hN] at hW1 ⊢
  have hg1 := grown_below hB (some b)
  have HX := hid (And.intro hS1 hg1)
  have fin : ∀ (m q : Nat), Hid (Just (W1.drewN q) ((W1.drewN q).setCell ⟨b, 6, none⟩ (.int .i64 m)) b (sieveC vr vs vd P sk m) 205) := fun m q => sieve_count (by exact hS1) m
  clear hS1 hg1 hN hS hB b0 h
  by_cases q : e.n = sk
  · have q2 : (N.toList == S.toList) = true := by rw [hne1, hne2, q]; simp
    have hsz : cnt < 9223372036854775807 := by omega
    by_cases k1 : e.k = 1
    · have es : skipF (sk, cnt) e = cnt + 1 := by unfold skipF; rw [if_pos ⟨q, k1⟩]
      rw [es]
      rw [k1] at d0 hW1
      simp only [k1]
      have FIN := fin (cnt + 1)
      clear hne1 hne2 q es k1 fin
      go_enter Tryz.func245, Tryz.ntmps245
      go_upto_region 1 with fail
      clear hW1
      go_quiet (fail)
      go_wp2
      go_end0
      have hj := (FIN nq).out
      exact ⟨rfl, hj.at_, (grown_drewN HX.out.2 nq).trans (just_grown hj)⟩
    · have n1 := int_ne' k1
      by_cases k2 : e.k = 2
      · have es : skipF (sk, cnt) e = cnt - 1 := by unfold skipF; rw [if_neg (fun h => k1 h.2), if_pos ⟨q, k2⟩]
        rw [es]
        rw [k2] at d0 hW1 n1
        simp only [k2]
        have FIN := fin (cnt - 1)
        have hcc : ((cnt - 1 : Nat) : Int) = (cnt : Int) - 1 := by omega
        rw [hcc] at FIN
        clear hne1 hne2 q es k1 k2 fin hcc
        go_enter Tryz.func245, Tryz.ntmps245
        go_upto_region 1 with fail
        clear hW1
        go_quiet (fail)
        go_wp2
        go_end0
        have hj := (FIN nq).out
        exact ⟨rfl, hj.at_, (grown_drewN HX.out.2 nq).trans (just_grown hj)⟩
      · have n2 := int_ne' k2
        have es : skipF (sk, cnt) e = cnt := by unfold skipF; rw [if_neg (fun h => k1 h.2), if_neg (fun h => k2 h.2)]
        rw [es]
        clear hne1 hne2 q es k1 k2 fin
        go_enter Tryz.func245, Tryz.ntmps245
        go_upto_region 1 with fail
        clear hW1
        go_quiet (fail)
        go_wp2
        go_end0
        exact ⟨rfl, HX.out.1, grown_drewN HX.out.2 nq⟩
  · have q2 : (N.toList == S.toList) = false := by rw [hne1, hne2]; exact beq_eq_false_iff_ne.2 q
    have es : skipF (sk, cnt) e = cnt := by unfold skipF; rw [if_neg (fun h => q h.1), if_neg (fun h => q h.1)]
    rw [es]
    clear hne1 hne2 q es fin
    go_enter Tryz.func245, Tryz.ntmps245
    go_upto_region 1 with fail
    clear hW1
    go_quiet (fail)
    go_wp2
    go_end0
    exact ⟨rfl, HX.out.1, grown_drewN HX.out.2 nq⟩
end Go.Proofs.YtcncbhbdpcpkeaaGreatDoor

/-
  Package sieve: a Start outside of a skip: its walk.
-/
namespace Go.Proofs.YtcncbhbdpcpkeaaGreatDoor
open Go.RowKit Go.Lib Own

theorem zero_just {W : World} {b : Nat} {a0 a1 a2 a3 p0 p1 p2 p3 : Value} {T : TypeId} (h : W.heap[b]? = some (.cells #[a0, a1, a2, a3] T (0, 0))) :
    Just W ((((W.setCell ⟨b, 0, none⟩ p0).setCell ⟨b, 1, none⟩ p1).setCell ⟨b, 2, none⟩ p2).setCell ⟨b, 3, none⟩ p3) b #[p0, p1, p2, p3] T := by
  have h0 := just_put (j := 0) (cs2 := #[p0, a1, a2, a3]) h p0 (by simp)
  have h1 := just_put (j := 1) (cs2 := #[p0, p1, a2, a3]) h0.at_ p1 (by simp)
  have h2 := just_put (j := 2) (cs2 := #[p0, p1, p2, a3]) h1.at_ p2 (by simp)
  have h3 := just_put (j := 3) (cs2 := #[p0, p1, p2, p3]) h2.at_ p3 (by simp)
  exact ((h0.andThen h1).andThen h2).andThen h3
/-- where a call's own boxes stand: the event's, the answer's, and the Sieve's cells -/
structure StA (w W : World) (b : Nat) (e : EvP) (u : Value) (cs : Array Value) : Prop where
  g : w.grownBy W (some b)
  s : W.heap[b]? = some (.cells cs 205 (0, 0))
  b0 : W.heap[w.heap.size]? = some (.cells (evC e u) 60 (0, 0))
  b1 : W.heap[w.heap.size + 1]? = some (.cells zeroEv 60 (0, 0))
  bb : b < w.heap.size
theorem StA.below {w W W' : World} {b : Nat} {e : EvP} {u : Value} {cs : Array Value} (h : StA w W b e u cs) (hb : Below W.heap.size W W') : StA w W' b e u cs :=
  ⟨h.g.trans (grown_below hb _), (hb.block _ (block_lt h.s)).trans h.s, (hb.block _ (block_lt h.b0)).trans h.b0, (hb.block _ (block_lt h.b1)).trans h.b1, h.bb⟩
theorem StA.drewN {w W : World} {b : Nat} {e : EvP} {u : Value} {cs : Array Value} (h : StA w W b e u cs) (q : Nat) : StA w (W.drewN q) b e u cs := ⟨grown_drewN h.g q, h.s, h.b0, h.b1, h.bb⟩
/-- the answer is written -/
theorem StA.done {w W : World} {b : Nat} {e : EvP} {u : Value} {cs : Array Value} (h : StA w W b e u cs) (p0 p1 p2 p3 : Value) :
    Hid (((((W.setCell ⟨w.heap.size + 1, 0, none⟩ p0).setCell ⟨w.heap.size + 1, 1, none⟩ p1).setCell ⟨w.heap.size + 1, 2, none⟩ p2).setCell ⟨w.heap.size + 1, 3, none⟩ p3).heap[w.heap.size + 1]? = some (.cells #[p0, p1, p2, p3] 60 (0, 0)) ∧
      ((((W.setCell ⟨w.heap.size + 1, 0, none⟩ p0).setCell ⟨w.heap.size + 1, 1, none⟩ p1).setCell ⟨w.heap.size + 1, 2, none⟩ p2).setCell ⟨w.heap.size + 1, 3, none⟩ p3).heap[b]? = some (.cells cs 205 (0, 0)) ∧
      w.grownBy ((((W.setCell ⟨w.heap.size + 1, 0, none⟩ p0).setCell ⟨w.heap.size + 1, 1, none⟩ p1).setCell ⟨w.heap.size + 1, 2, none⟩ p2).setCell ⟨w.heap.size + 1, 3, none⟩ p3) (some b)) := by
  have hb1 := h.b1
  unfold zeroEv at hb1
  have j := zero_just (p0 := p0) (p1 := p1) (p2 := p2) (p3 := p3) hb1
  have hbb := h.bb
  refine ⟨j.at_, (j.other b (by omega)).trans h.s, ?_⟩
  have hg := h.g
  exact ⟨j.os.trans hg.os, j.tape.trans hg.tape, j.output.trans hg.output, by rw [j.size]; exact hg.size, fun k hk hne => (j.other k (by omega)).trans (hg.block k hk hne)⟩
theorem StA.cells {w W : World} {b : Nat} {e : EvP} {u : Value} {cs : Array Value} (h : StA w W b e u cs) :
    W.cell? ⟨w.heap.size + 1, 0, none⟩ = some (.int .i64 0) ∧ W.cell? ⟨w.heap.size + 1, 1, none⟩ = some (.string ⟨#[]⟩) ∧ W.cell? ⟨w.heap.size + 1, 2, none⟩ = some (.slice none 0 0) ∧ W.cell? ⟨w.heap.size + 1, 3, none⟩ = some (.string ⟨#[]⟩) ∧
    W.frozen? ⟨w.heap.size + 1, 0, none⟩ = false ∧ W.frozen? ⟨w.heap.size + 1, 1, none⟩ = false ∧ W.frozen? ⟨w.heap.size + 1, 2, none⟩ = false ∧ W.frozen? ⟨w.heap.size + 1, 3, none⟩ = false :=
  ⟨cell_at h.b1 rfl, cell_at h.b1 rfl, cell_at h.b1 rfl, cell_at h.b1 rfl, free_at h.b1 0, free_at h.b1 1, free_at h.b1 2, free_at h.b1 3⟩

set_option maxHeartbeats 8000000 in
set_option maxRecDepth 100000 in
theorem start_any (w0 : World) (b : Nat) (vr vs vd : Value) (P : PolP) (sk : List UInt8) (e : EvP) (u : Value) (m : Int) (w : World) (h : SvAt w0 w b vr vs vd P sk 0) (hF : P.Few) (hu : AttrsR w u e.a) (hs : e.n.length + bulkA e.a ≤ 4000000) (hk : e.k = 1)
    (hm : w.cell? ⟨4, 0, none⟩ = some (.int .i64 m)) :
    Calls Tryz.prog 246 #[.pointer (some ⟨b, 0, none⟩), .agg (evC e u)] w fun r w' => ∃ v, r = .returned v ∧ TakeV w' w.heap.size (sieveL P (sk, 0) e).2 v ∧ w'.heap[b]? = some (.cells (sieveC vr vs vd P (sieveL P (sk, 0) e).1.1 (sieveL P (sk, 0) e).1.2) 205 (0, 0)) ∧ w.grownBy w' (some b) := by
  obtain ⟨up, uc, rfl⟩ := hu.len
  have f3 := hF.drop
  have w0' := hF.w0
  have w1' := hF.w1
  obtain ⟨W1, hW1⟩ : ∃ W1, (w.alloc (.cells (evC e (.slice up e.a.length uc)) 60)).alloc (.cells zeroEv 60) = W1 := ⟨_, rfl⟩
  have hB : Below w.heap.size w W1 := by rw [← hW1]; exact ((Below.refl w.heap.size w).alloc (Nat.le_refl _) _).alloc (by simp) _
  have hA : StA w W1 b e (.slice up e.a.length uc) (sieveC vr vs vd P sk 0) := by
    refine ⟨grown_below hB _, (hB.block b (block_lt h.at_)).trans h.at_, ?_, ?_, block_lt h.at_⟩
    · rw [← hW1]; exact (Go.Lib.alloc_old _ _ _ (by simp)).trans (heap_alloc_new w _)
    · rw [← hW1]; exact heap_two_new w _ _ _
  have hS1 := h.below hB
  obtain ⟨dp, dc, hvd, _⟩ := hS1.cur.drop.len
  subst hvd
  have hct := fun q => slContains_any (.slice dp P.drop.length dc) P.drop (bs e.n) (W1.drewN q) (hS1.cur.drop.drewN q)
  rw [bs_toList] at hct
  have hru := fun q => rule_any w0 b vr vs (.slice dp P.drop.length dc) P sk 0 (bs e.n) (W1.drewN q) ⟨hS1.at_, hS1.pol, ⟨hS1.be.os, hS1.be.tape, hS1.be.output, hS1.be.size, hS1.be.block⟩, hS1.lo⟩ hF
  rw [bs_toList] at hru
  have hcl := fun W (hb : Below W1.heap.size W1 W) ru listed (hr : Words W ru listed) => cleanAttrs_any w0 b vr vs (.slice dp P.drop.length dc) P sk 0 e.n ru listed (.slice up e.a.length uc) e.a W (hS1.below hb) hr ((hu.below hB).below hb) (by omega)
  have hst := fun W v al (ha : AttrsR W v al) (hbk : bulkA al ≤ bulkA e.a) hmm => startTag_any (bs e.n) v al m W (by rw [bs_size]; omega) ha (by omega) hmm
  rw [bs_data] at hst
  obtain ⟨d0, d1, d2, d3⟩ := evC_at hA.b0
  obtain ⟨c2, c4, c5, c6, f5, f6⟩ := sieve_cells hA.s
  obtain ⟨z0, z1, z2, z3, y0, y1, y2, y3⟩ := hA.cells
  have HA := hid hA
  have HM := hid (cell_low hm hB (cell_block hm))
  have HRU := hid hru
  have HCL := hid hcl
  have HST := hid hst
  have e1 : sieveL P (sk, 0) e = if P.drop.contains e.n = true then ((e.n, 1), none) else ((sk, 0), ruledF P e) := by
    unfold sieveL outL
    rw [if_neg (Nat.lt_irrefl 0), if_pos hk]
    by_cases hd : P.drop.contains e.n = true
    · rw [if_pos ⟨hk, hd⟩, if_pos hd]
    · rw [if_neg (fun h => hd h.2), if_neg hd]
  rw [e1]
  rw [hk] at d0
  obtain ⟨ro, hro⟩ : ∃ ro, ruledF P e = ro := ⟨_, rfl⟩
  rw [hro]
  have HRO := hid hro
  clear hro
  obtain ⟨cd, hcd⟩ : ∃ cd, P.drop.contains e.n = cd := ⟨_, rfl⟩
  rw [hcd] at hct ⊢
  have hnb := bs_data e.n
  obtain ⟨N, hN⟩ : ∃ N, bs e.n = N := ⟨_, rfl⟩
  rw [hN] at hct hnb d1
  simp only [hN] at HRU HST
  unfold evC zeroEv at hW1
  unfold evC
  simp only [hN] at hW1 ⊢
  simp only [hk] at hW1 ⊢
  have HCT := hid hct
  have HNB := hid hnb
  have HNN := hid hN
  clear hct hnb hN hcd e1 hA hS1 hru hcl hst h hu hF hm hB d3
  go_enter Tryz.func246, Tryz.ntmps246
  go_upto_region 1 with fail
  clear hW1
  go_quiet (first | (go_at_call 162; exact Calls.quiet_of_same (HCT.out _)))
  have HAq := HA.out.drewN nq
  cases cd with
  | true =>
    have hj := sieve_begin HAq.s N 1
    have hA2 : StA w (((W1.drewN nq).setCell ⟨b, 5, none⟩ (.string N)).setCell ⟨b, 6, none⟩ (.int .i64 (1 : Nat))) b e (.slice up e.a.length uc) (sieveC vr vs (.slice dp P.drop.length dc) P N.data.toList 1) :=
      ⟨HAq.g.trans (just_grown hj), hj.at_, (hj.other _ (by have := HAq.bb; omega)).trans HAq.b0, (hj.other _ (by have := HAq.bb; omega)).trans HAq.b1, HAq.bb⟩
    have HA2 := hid hA2
    clear hj hA2 HAq HRU HCL HST HM HA HCT
    go_upto_region 3 with fail
    obtain ⟨W3, hW3⟩ : ∃ W3, ((W1.drewN nq).setCell ⟨b, 5, none⟩ (.string N)).setCell ⟨b, 6, none⟩ (.int .i64 (1 : Nat)) = W3 := ⟨_, rfl⟩
    have hW3' : ((W1.drewN nq).setCell ⟨b, 5, none⟩ (.string N)).setCell ⟨b, 6, none⟩ (.int .i64 1) = W3 := hW3
    rw [hW3] at HA2
    simp only [hW3']
    clear hW3 hW3' z0 z1 z2 z3 y0 y1 y2 y3 c2 c4 c5 c6 f5 f6 d0 d1 d2
    obtain ⟨z0, z1, z2, z3, y0, y1, y2, y3⟩ := HA2.out.cells
    have HD := HA2.out.done (.int .i64 0) (.string ⟨#[]⟩) (.slice none 0 0) (.string ⟨#[]⟩)
    go_wp2_with fail
    refine bodyPost_ret (v := .tuple #[.agg zeroEv, .bool false]) (results_two rfl _ _ _ _ _ _ _ rfl HD.out.1 Tryz.underlying60 rfl (by kernel_rfl) _ rfl) rfl ⟨_, rfl, rfl, ?_, HD.out.2.2⟩
    have := HD.out.2.1
    rw [HNB.out] at this
    exact this
  | false =>
    clear HCT HA c5 c6 f5 f6
    go_wp2_with fail
    refine (HRU.out nq).mono ?_
    rintro r W2 ⟨rv, rfl, hrv, b2⟩
    have hA2 := HAq.below b2
    have b2' : Below W1.heap.size W1 W2 := ⟨b2.os, b2.tape, b2.output, b2.size, b2.block⟩
    have HM2 := hid (cell_low HM.out b2' (cell_block HM.out))
    clear HAq HM HRU z0 z1 z2 z3 y0 y1 y2 y3 c2 c4 d0 d1 d2
    cases hrl : ruleL P.rules e.n with
    | none =>
      rw [hrl] at hrv
      obtain rfl : rv = _ := hrv
      obtain rfl : ro = none := HRO.out.symm.trans (ruledF_none hrl)
      have hA3 : StA w (W2.alloc (.cells #[.string ⟨#[]⟩, .slice none 0 0] 97)) b e (.slice up e.a.length uc) (sieveC vr vs (.slice dp P.drop.length dc) P sk 0) := hA2.below ((Below.refl _ _).alloc (Nat.le_refl _) _)
      obtain ⟨z0, z1, z2, z3, y0, y1, y2, y3⟩ := hA3.cells
      have HD := hA3.done (.int .i64 0) (.string ⟨#[]⟩) (.slice none 0 0) (.string ⟨#[]⟩)
      clear hA2 hA3 hrl HM2 HCL HST b2 b2'
      go_wp2_with fail
      refine bodyPost_ret (v := .tuple #[.agg zeroEv, .bool false]) (results_two rfl _ _ _ _ _ _ _ rfl HD.out.1 Tryz.underlying60 rfl (by kernel_rfl) _ rfl) rfl ⟨_, rfl, rfl, HD.out.2⟩
    | some l =>
      rw [hrl] at hrv
      obtain ⟨ru, rfl, hwr⟩ := hrv
      have HRL := hid hrl
      obtain ⟨rp, rc, rfl, _⟩ := hwr.len
      have hwr2 : Words W2 (.slice rp l.length rc) l := hwr.below b2
      obtain ⟨W3, hW3⟩ : ∃ W3, W2.alloc (.cells #[.string (bs e.n), .slice rp l.length rc] 97) = W3 := ⟨_, rfl⟩
      have hb3 : Below W2.heap.size W2 W3 := by rw [← hW3]; exact (Below.refl _ _).alloc (Nat.le_refl _) _
      have hA3 := hA2.below hb3
      have hb13 := b2'.trans (hb3.mono b2'.size)
      have hcl := HCL.out W3 hb13 (.slice rp l.length rc) l (hwr2.below hb3)
      rw [HNN.out] at hcl
      obtain ⟨d0, d1, d2, -⟩ := evC_at hA3.b0
      have hr3 : W3.heap[W2.heap.size]? = some (.cells #[.string (bs e.n), .slice rp l.length rc] 97 (0, 0)) := by rw [← hW3]; exact heap_alloc_new _ _
      have r0 := cell_at hr3 (j := 0) rfl
      have r1 := cell_at hr3 (j := 1) rfl
      simp only [HNN.out] at hW3 r0 ⊢
      have HA3 := hid hA3
      have HM3 := hid (cell_low HM2.out hb3 (cell_block HM2.out))
      have HCL3 := hid hcl
      clear hA2 hA3 hrl HM2 HCL b2 b2' hb3 hb13 hcl hwr hwr2 hr3
      go_upto_region 7 with fail
      clear hW3
      go_wp2_with fail
      refine HCL3.out.mono ?_
      rintro r W4 ⟨av, rfl, hrow, b4⟩
      have hA4 := HA3.out.below b4
      have hkb := keptA_bulk P.schemes l e.a []
      have hat := attrsR_row hrow
      have hrow4 := row_low hrow HA3.out.g.size
      have hsf : ro = startF P e l := HRO.out.symm.trans (ruledF_some HRL.out)
      unfold startF at hsf
      generalize keptA P.schemes l [] e.a = K at hrow hkb hat hrow4 hsf
      obtain ⟨kp, kc, rfl⟩ := row_shape hrow
      have hm4 := cell_low HM3.out b4 (cell_block HM3.out)
      have hst := fun W (hb : Below W4.heap.size W4 W) => HST.out W (.slice kp K.length kc) K (hat.below hb) hkb.1 (cell_low hm4 hb (cell_block hm4))
      obtain ⟨S, hS⟩ : ∃ S, bs (openL e.n K) = S := ⟨_, rfl⟩
      have hSz : S.size = (openL e.n K).length := by rw [← hS, bs_size]
      rw [← hSz] at hsf
      simp only [hS] at hst
      have HST4 := hid hst
      obtain ⟨d0, d1, d2, -⟩ := evC_at hA4.b0
      rw [HNN.out] at d1
      obtain ⟨c2, c4, c5, c6, f5, f6⟩ := sieve_cells hA4.s
      obtain ⟨z0, z1, z2, z3, y0, y1, y2, y3⟩ := hA4.cells
      have HR4 := hid hrow4
      have HA4 := hid hA4
      have HSF := hid hsf
      clear hrow hkb hat hrow4 hsf hm4 hst hS hSz hA4 b4 HA3 HM3 HCL3 HST c2 c5 c6 f5 f6 r0 r1
      go_upto_region 8 with fail
      go_region_with (first | (go_at_call 133; refine (HST4.out _ (by exact ⟨rfl, rfl, rfl, Nat.le_refl _, fun _ _ => rfl⟩)).mono ?_; rintro r W5 ⟨rfl, b5⟩; have HB5 : Hid (Below W4.heap.size W4 W5) := ⟨b5.os, b5.tape, b5.output, b5.size, b5.block⟩; clear b5; obtain ⟨d0, d1, d2, -⟩ := evC_at (HA4.out.below HB5.out).b0; rw [HNN.out] at d1; have c4 := (sieve_cells (HA4.out.below HB5.out).s).2.1))
      all_goals
        have hA5 := HA4.out.below HB5.out
        have hrow5 := row_below HR4.out HB5.out
        clear z0 z1 z2 z3 y0 y1 y2 y3
        obtain ⟨z0, z1, z2, z3, y0, y1, y2, y3⟩ := hA5.cells
        by_cases hle : (S.size : Int) ≤ P.window
        · obtain rfl : ro = some (.start e.n K) := by have := HSF.out; rwa [if_pos hle] at this
          have q1 : ¬ ((S.size : Int) > P.window) := by omega
          have HD := hA5.done (.int .i64 1) (.string N) (.slice kp K.length kc) (.string ⟨#[]⟩)
          have hj := zero_just (p0 := .int .i64 1) (p1 := .string N) (p2 := .slice kp K.length kc) (p3 := .string ⟨#[]⟩) (by have := hA5.b1; unfold zeroEv at this; exact this)
          have hrow6 := row_of_block hrow5 (fun g hg => hj.other g (fun e => row_ne hrow5 hA5.b1 (by decide) (by rw [hg, e])))
          have HR6 := hid hrow6
          clear hA5 hrow5 hj hrow6 hle HSF
          go_wp2_with fail
          refine bodyPost_ret (v := .tuple #[.agg #[.int .i64 1, .string N, .slice kp K.length kc, .string ⟨#[]⟩], .bool true]) (results_two rfl _ _ _ _ _ _ _ rfl HD.out.1 Tryz.underlying60 rfl (by kernel_rfl) _ rfl) rfl ⟨_, rfl, ⟨1, N, kp, K.length, kc, ⟨#[]⟩, rfl, ⟨rfl, by rw [← HNN.out]; rfl, HR6.out, rfl⟩, trivial⟩, HD.out.2⟩
        · obtain rfl : ro = none := by have := HSF.out; rwa [if_neg hle] at this
          have q1 : (S.size : Int) > P.window := by omega
          have HD := hA5.done (.int .i64 0) (.string ⟨#[]⟩) (.slice none 0 0) (.string ⟨#[]⟩)
          clear hA5 hrow5 hle HSF
          go_wp2_with fail
          refine bodyPost_ret (v := .tuple #[.agg zeroEv, .bool false]) (results_two rfl _ _ _ _ _ _ _ rfl HD.out.1 Tryz.underlying60 rfl (by kernel_rfl) _ rfl) rfl ⟨_, rfl, rfl, HD.out.2⟩
end Go.Proofs.YtcncbhbdpcpkeaaGreatDoor
