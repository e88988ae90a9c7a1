/-
  Parts of the walk, joined: BalH, FoldE.
-/
import Derived.Test.YtcncbhbdpcpkeaaGreatDoorPJBR
import Derived.Test.YtcncbhbdpcpkeaaGreatDoorPJAX
/-
  The balancer's Take, End and New: their walks.
-/
namespace Go.Proofs.YtcncbhbdpcpkeaaGreatDoor
open Go.RowKit Go.Lib Own

/-- its list begins anew -/
theorem BalS.reset {w0 W : World} {ob b : Nat} {d : Int} {op : List (List UInt8)} {ov outv : Value} {J : List Ev} {xs : List Value} (h : BalS w0 W ob b d op ov outv J xs) {ob' : Nat} (h1 : w0.heap.size ≤ ob') (h2 : ob' ≤ W.heap.size) :
    BalS w0 (W.setCell ⟨b, 2, none⟩ (.slice none 0 0)) ob' b d op ov (.slice none 0 0) [] [] ∧ BalF b ov (.slice none 0 0) ov (.slice none 0 0) W (W.setCell ⟨b, 2, none⟩ (.slice none 0 0)) := by
  have j := just_put (j := 2) (cs2 := #[.int .i64 d, ov, .slice none 0 0]) h.at_.bx (.slice none 0 0) (by simp)
  have ho : OpenR (W.setCell ⟨b, 2, none⟩ (.slice none 0 0)) w0.heap.size ov op := row_just h.at_.op h.at_.bx (by decide) j.other
  have hf : BalF b ov (.slice none 0 0) ov (.slice none 0 0) W (W.setCell ⟨b, 2, none⟩ (.slice none 0 0)) :=
    ⟨j.os, j.tape, j.output, by rw [j.size]; exact Nat.le_refl _, fun x _ hx _ _ => j.other x hx, fun g hg => .inl hg, fun g hg => .inl hg⟩
  exact ⟨⟨⟨h.at_.lo, j.at_, ho, MadeE.nil _ _⟩, h.be.trans (just_low j h.at_.lo), h.kt, h.nt, h1, by rw [j.size]; exact h2⟩, hf⟩
/-- what Take and End answer -/
structure TakeOut (w0 w : World) (b : Nat) (d : Int) (ov : Value) (R : List (List UInt8) × List Ev) (e : Ending) (w' : World) : Prop where
  it : ∃ ov' outv' xs', e = .returned outv' ∧ BalS w0 w' w.heap.size b d R.1 ov' outv' R.2 xs' ∧ BalF b ov (.slice none 0 0) ov' outv' w w'
theorem balS_one {d : Nat} {op : List (List UInt8)} {e : EvP} (h : e.k = 1) : balS d op e = startP d op e.n e.a := if_pos h
theorem balS_two {d : Nat} {op : List (List UInt8)} {e : EvP} (h : e.k = 2) : balS d op e = endP op e.n := by unfold balS; rw [if_neg (by omega), if_pos h]
theorem balS_three {d : Nat} {op : List (List UInt8)} {e : EvP} (h : e.k = 3) : balS d op e = textP d op e.t := by unfold balS; rw [if_neg (by omega), if_neg (by omega), if_pos h]
theorem balS_else {d : Nat} {op : List (List UInt8)} {e : EvP} (h1 : e.k ≠ 1) (h2 : e.k ≠ 2) (h3 : e.k ≠ 3) : balS d op e = (op, []) := by unfold balS; rw [if_neg h1, if_neg h2, if_neg h3]

set_option maxHeartbeats 8000000 in
set_option maxRecDepth 100000 in
theorem takeB_any (w0 : World) (ob b d : Nat) (op : List (List UInt8)) (ov outv : Value) (J : List Ev) (xs : List Value) (e : EvP) (av : Value) (w : World) (h : BalS w0 w ob b d op ov outv J xs) (ha : AttrsR w0 av e.a) (hal : e.a.length ≤ 60000000) (hop : op.length ≤ 800000) :
    Calls Tryz.prog 28 #[.pointer (some ⟨b, 0, none⟩), .agg #[.int .i64 e.k, .string (bs e.n), av, .string (bs e.t)]] w (TakeOut w0 w b d ov (balS d op e)) := by
  obtain ⟨ap, ac, rfl⟩ := ha.len
  obtain ⟨R, hR⟩ : ∃ R, balS d op e = R := ⟨_, rfl⟩
  rw [hR]
  have HR := hid hR
  obtain ⟨W1, hW1⟩ : ∃ W1, w.alloc (.cells #[.int .i64 e.k, .string (bs e.n), .slice ap e.a.length ac, .string (bs e.t)] 60) = W1 := ⟨_, rfl⟩
  have hb1 : Below w.heap.size w W1 := by rw [← hW1]; exact (Below.refl _ _).alloc (Nat.le_refl _) _
  have n1 : W1.heap[w.heap.size]? = some (.cells #[.int .i64 e.k, .string (bs e.n), .slice ap e.a.length ac, .string (bs e.t)] 60 (0, 0)) := by rw [← hW1]; exact heap_alloc_new _ _
  have h1 := h.below hb1
  have hnb : w.heap.size ≠ b := fun e => by have := block_lt h.at_.bx; omega
  obtain ⟨h2, f2⟩ := h1.reset h.base hb1.size
  have j := just_put (j := 2) (cs2 := #[.int .i64 d, ov, .slice none 0 0]) h1.at_.bx (.slice none 0 0) (by simp)
  have n2 := (j.other _ hnb).trans n1
  have c2 := cell_at h1.at_.bx (j := 2) rfl
  have y2 := free_at h1.at_.bx 2
  have hbb := block_lt h1.at_.bx
  have H2 := hid (And.intro h2 (And.intro ((BalF.of_below hb1).trans f2) hb1.size))
  have HN := hid n2
  have HA := hid ha
  clear h hR hb1 n1 h1 h2 f2 j n2 ha
  go_enter Tryz.func28, Tryz.ntmps28
  go_upto_region 2 with fail
  obtain ⟨W2, hW2⟩ : ∃ W2, W1.setCell ⟨b, 2, none⟩ (.slice none 0 0) = W2 := ⟨_, rfl⟩
  rw [hW2] at H2 HN
  simp only [hW2]
  clear hW2 hW1 c2 y2 hbb
  have e0 := cell_at HN.out (j := 0) rfl
  have e1 := cell_at HN.out (j := 1) rfl
  have e2 := cell_at HN.out (j := 2) rfl
  have e3 := cell_at HN.out (j := 3) rfl
  by_cases k1 : e.k = 1
  · have hfin := balS_one (d := d) (op := op) k1
    rw [HR.out] at hfin
    subst hfin
    have hst := startB_any w0 w.heap.size b d op ov _ [] [] (bs e.n) (.slice ap e.a.length ac) e.a W2 H2.out.1 HA.out hal (by simp) hop
    rw [bs_toList] at hst
    rw [k1] at e0
    have HS := hid hst
    obtain ⟨BN, hBN⟩ : ∃ n, bs e.n = n := ⟨_, rfl⟩
    rw [hBN] at HS e1
    clear hst k1 hBN HN
    go_wp2_with fail
    refine HS.out.mono ?_
    rintro e W3 ⟨rfl, ov3, outv3, xs3, hs3, hf3⟩
    have c2 := cell_at hs3.at_.bx (j := 2) rfl
    have HZ := hid (And.intro hs3 (H2.out.2.1.trans hf3))
    clear hs3 hf3 HS e0 e1 e2 e3
    go_wp2_with fail
    go_ret
    exact ⟨_, _, _, rfl, HZ.out.1, HZ.out.2⟩
  · have q1 : (e.k == 1) = false := by rw [Bool.eq_false_iff]; intro h; rw [beq_iff_eq] at h; exact k1 h
    by_cases k2 : e.k = 2
    · have hfin := balS_two (d := d) (op := op) k2
      rw [HR.out] at hfin
      subst hfin
      have hst := endB_any w0 w.heap.size b d op ov _ [] [] (bs e.n) W2 H2.out.1 (by simp) (by omega)
      rw [bs_toList] at hst
      rw [k2] at e0
      have HS := hid hst
      obtain ⟨BN, hBN⟩ : ∃ n, bs e.n = n := ⟨_, rfl⟩
      rw [hBN] at HS e1
      clear hst k2 hBN HN q1 k1
      go_wp2_with fail
      refine HS.out.mono ?_
      rintro e W3 ⟨rfl, ov3, outv3, xs3, hs3, hf3⟩
      have c2 := cell_at hs3.at_.bx (j := 2) rfl
      have HZ := hid (And.intro hs3 (H2.out.2.1.trans hf3))
      clear hs3 hf3 HS e0 e1 e2 e3
      go_wp2_with fail
      go_ret
      exact ⟨_, _, _, rfl, HZ.out.1, HZ.out.2⟩
    · have q2 : (e.k == 2) = false := by rw [Bool.eq_false_iff]; intro h; rw [beq_iff_eq] at h; exact k2 h
      by_cases k3 : e.k = 3
      · have hfin := balS_three (d := d) (op := op) k3
        rw [HR.out] at hfin
        subst hfin
        have hst := addText_any w0 w.heap.size b d op ov _ [] [] e.t W2 H2.out.1 (by simp) hop
        rw [k3] at e0
        have HS := hid hst
        obtain ⟨BN, hBN⟩ : ∃ n, bs e.t = n := ⟨_, rfl⟩
        rw [hBN] at HS e3
        clear hst k3 hBN HN q1 k1 q2 k2
        go_wp2_with fail
        refine HS.out.mono ?_
        rintro e W3 ⟨rfl, ov3, outv3, xs3, hs3, hf3⟩
        have c2 := cell_at hs3.at_.bx (j := 2) rfl
        have HZ := hid (And.intro hs3 (H2.out.2.1.trans hf3))
        clear hs3 hf3 HS e0 e1 e2 e3
        go_wp2_with fail
        go_ret
        exact ⟨_, _, _, rfl, HZ.out.1, HZ.out.2⟩
      · have q3 : (e.k == 3) = false := by rw [Bool.eq_false_iff]; intro h; rw [beq_iff_eq] at h; exact k3 h
        have hfin := balS_else (d := d) (op := op) k1 k2 k3
        rw [HR.out] at hfin
        subst hfin
        have c2 := cell_at H2.out.1.at_.bx (j := 2) rfl
        obtain ⟨K, hK⟩ : ∃ k, e.k = k := ⟨_, rfl⟩
        rw [hK] at q1 q2 q3 e0
        clear HN k1 k2 k3 e1 e2 e3 hK
        go_wp2_with fail
        go_ret
        exact ⟨_, _, _, rfl, H2.out.1, H2.out.2.1⟩

set_option maxHeartbeats 4000000 in
set_option maxRecDepth 100000 in
theorem endAllB_any (w0 : World) (ob b d : Nat) (op : List (List UInt8)) (ov outv : Value) (J : List Ev) (xs : List Value) (w : World) (h : BalS w0 w ob b d op ov outv J xs) (hop : op.length ≤ 800000) :
    Calls Tryz.prog 29 #[.pointer (some ⟨b, 0, none⟩)] w (TakeOut w0 w b d ov ([], closeE 0 op)) := by
  obtain ⟨h2, f2⟩ := h.reset h.base (Nat.le_refl _)
  have c2 := cell_at h.at_.bx (j := 2) rfl
  have y2 := free_at h.at_.bx 2
  have H2 := hid (And.intro h2 f2)
  clear h h2 f2
  go_enter Tryz.func29, Tryz.ntmps29
  go_upto_region 2 with fail
  obtain ⟨W2, hW2⟩ : ∃ W2, w.setCell ⟨b, 2, none⟩ (.slice none 0 0) = W2 := ⟨_, rfl⟩
  rw [hW2] at H2
  simp only [hW2]
  clear hW2 c2 y2
  have hct := closeTo_any w0 w.heap.size b d op ov _ [] [] 0 W2 H2.out.1 (Nat.zero_le _) (by simp) (by omega)
  have HC := hid hct
  clear hct
  go_wp2_with fail
  refine HC.out.mono ?_
  rintro e W3 ⟨rfl, ov3, outv3, xs3, hs3, hf3⟩
  have c2 := cell_at hs3.at_.bx (j := 2) rfl
  have HZ := hid (And.intro hs3 (H2.out.2.trans hf3))
  clear hs3 hf3 HC
  go_wp2_with fail
  go_ret
  exact ⟨_, _, _, rfl, HZ.out.1, HZ.out.2⟩
theorem newB_any (d : Int) (w : World) : Calls Tryz.prog 26 #[.int .i64 d] w fun e w' => e = .returned (.pointer (some ⟨w.heap.size, 0, none⟩)) ∧ w' = w.alloc (.cells #[.int .i64 d, .slice none 0 0, .slice none 0 0] 117) := by
  go_enter Tryz.func26, Tryz.ntmps26
  go_wp2
  go_ret
  exact ⟨rfl, rfl⟩
end Go.Proofs.YtcncbhbdpcpkeaaGreatDoor

/-
  The code's folder: take, and markup.Fold: walks.
-/
namespace Go.Proofs.YtcncbhbdpcpkeaaGreatDoor
open Go.RowKit Go.Lib Own

/-- what an event makes of a folder -/
def TakeTo (w w' : World) (base b : Nat) (prs : List (EvP × Value)) (d td : Nat) (pend : List UInt8) (e : EvP) : Prop :=
  ∃ prs' d' td' pend', FldAt w' base b prs' d' td' pend' ∧ (∀ r, prs'.map Prod.fst ++ restN d' td' pend' r = prs.map Prod.fst ++ restN d td pend (e :: r)) ∧ prs'.length ≤ prs.length + 2 ∧ d' ≤ d + 1 ∧ pend'.length ≤ pend.length + e.t.length ∧ Below base w w'
theorem FldTo.take {w w' : World} {base b : Nat} {prs : List (EvP × Value)} {d td d' td' n : Nat} {pend pend' : List UInt8} {e : EvP} {ns : List EvP} (h : FldTo w w' base b ns d' td' pend' n) (he : ∀ r, ns ++ restN d' td' pend' r = prs.map Prod.fst ++ restN d td pend (e :: r))
    (hn : n ≤ prs.length + 2) (hd : d' ≤ d + 1) (hp : pend'.length ≤ pend.length + e.t.length) : TakeTo w w' base b prs d td pend e := by
  obtain ⟨prs', h1, h2, h3, h4⟩ := h
  exact ⟨prs', d', td', pend', h1, fun r => by rw [h2]; exact he r, by omega, hd, hp, h4⟩
theorem TakeTo.from {w w1 w' : World} {base b : Nat} {prs : List (EvP × Value)} {d td : Nat} {pend : List UInt8} {e : EvP} (h : TakeTo w1 w' base b prs d td pend e) (hb : Below base w w1) : TakeTo w w' base b prs d td pend e := by
  obtain ⟨a, b, c, d, h1, h2, h3, h4, h5, h6⟩ := h
  exact ⟨a, b, c, d, h1, h2, h3, h4, h5, hb.trans h6⟩
theorem start_take {w w' : World} {base b : Nat} {prs : List (EvP × Value)} {d td : Nat} {pend : List UInt8} {e : EvP} (hk : e.k = 1) (h : StartTo w w' base b prs d td pend e.n e.a) : TakeTo w w' base b prs d td pend e := by
  by_cases h0 : e.n = []
  · exact (h.1 h0).take (fun r => by rw [restN_anon d td pend e r hk h0]) (Nat.le_refl _) (Nat.le_refl _) (by omega)
  · exact (h.2 h0).take (fun r => by rw [restN_start d td pend e r hk h0, List.append_assoc, List.append_assoc]; rfl) (Nat.le_refl _) (by split <;> omega) (by simp)
theorem text_take {w w' : World} {base b : Nat} {prs : List (EvP × Value)} {d td : Nat} {pend : List UInt8} {e : EvP} (hk : e.k = 3) (hf : FldAt w base b prs d td pend)
    (h : (e.t = [] → w' = w) ∧ (e.t ≠ [] → td = d → FldTo w w' base b (prs.map Prod.fst) d d (pend ++ e.t) (prs.length + 1)) ∧ (e.t ≠ [] → td ≠ d → FldTo w w' base b (prs.map Prod.fst ++ pendN td pend) d d e.t (prs.length + 1))) : TakeTo w w' base b prs d td pend e := by
  by_cases h0 : e.t = []
  · obtain rfl := h.1 h0
    exact ⟨prs, d, td, pend, hf, fun r => by rw [restN_pass d td pend e r (by omega) (by omega) (fun q => q.2 h0)], by omega, by omega, by omega, Below.refl _ _⟩
  · by_cases hd : td = d
    · exact (h.2.1 h0 hd).take (fun r => by rw [restN_join d td pend e r hk h0 hd]) (by omega) (by omega) (by simp)
    · exact (h.2.2 h0 hd).take (fun r => by rw [restN_part d td pend e r hk h0 hd, List.append_assoc]) (by omega) (by omega) (by omega)

set_option maxHeartbeats 4000000 in
set_option maxRecDepth 100000 in
theorem fldTake_any (base b : Nat) (prs : List (EvP × Value)) (d td : Nat) (pend : List UInt8) (e : EvP) (u : Value) (w0 w : World) (h : FldAt w base b prs d td pend) (hlo : w0.heap.size ≤ base) (hb0 : Below w0.heap.size w0 w) (hT : KindsTab w0) (hu : AttrsR w0 u e.a)
    (hal : e.n.length + e.t.length + bulkA e.a ≤ 100000000) (hlen : prs.length ≤ 900000000) (hdd : d ≤ 1000000000) (hp : pend.length ≤ 50000000000000) :
    Calls Tryz.prog 36 #[.pointer (some ⟨b, 0, none⟩), .agg (evC e u)] w fun r w' => r = .returned (.tuple #[]) ∧ TakeTo w w' base b prs d td pend e := by
  have hbs : base ≤ w.heap.size := by obtain ⟨nv, p, v, hin, _⟩ := h.it; have := block_lt hin.at_; have := hin.lo; omega
  have hatl := bulkA_len e.a
  obtain ⟨W1, hW1⟩ : ∃ W1, w.alloc (.cells (evC e u) 60) = W1 := ⟨_, rfl⟩
  have hB : Below w.heap.size w W1 := by rw [← hW1]; exact (Below.refl w.heap.size w).alloc (Nat.le_refl _) _
  have hn1 : W1.heap[w.heap.size]? = some (.cells (evC e u) 60 (0, 0)) := by rw [← hW1]; exact heap_alloc_new w _
  have h1 := h.below hB
  have hb1 := hb0.trans (hB.mono hb0.size)
  obtain ⟨up, uc, rfl⟩ := hu.len
  have hst := fldStart_any base b prs d td pend e.n e.a (.slice up e.a.length uc) w0 W1 h1 hlo hb1 hT hu (by omega) hlen hdd
  have htx := fldText_any base b prs d td pend e.t W1 h1 (by omega) (by omega)
  obtain ⟨d0, d1, d2, d3⟩ := evC_at hn1
  obtain ⟨nv, p, v, hin, hm⟩ := h1.it
  obtain ⟨-, c1, -, -, f1, -⟩ := fld_cells hin.at_
  have hdn : ∀ m : Nat, FldAt (W1.setCell ⟨b, 1, none⟩ (.int .i64 m)) base b prs m td pend ∧ Below base W1 (W1.setCell ⟨b, 1, none⟩ (.int .i64 m)) := fun m => by
    have j := just_put (j := 1) (cs2 := fldC nv m td p v) hin.at_ (.int .i64 (m : Int)) (by simp [fldC])
    exact ⟨⟨nv, p, v, ⟨j.at_, hin.lo, rfl, rfl, hin.hp, hin.own.kept (row := some b) (just_grown j) (.inr hin.ne), hin.ne⟩, made_just hin.at_ hm j.other⟩, j.below hin.lo⟩
  have HST := hid hst
  have HTX := hid htx
  have HDN := hid hdn
  have HF := hid (And.intro h1 (hB.mono hbs))
  unfold evC at hW1
  unfold evC
  clear hst htx hdn h1 hB hn1 h hb0 hb1 hT hu hin hm hatl
  go_enter Tryz.func36, Tryz.ntmps36
  go_upto_region 1 with fail
  clear hW1
  by_cases k1 : e.k = 1
  · have HK := hid k1
    rw [k1] at d0
    clear HTX HDN c1 f1 k1
    go_wp2_with fail
    refine HST.out.mono ?_
    rintro r w2 ⟨rfl, h2⟩
    have HZ := hid ((start_take HK.out h2).from HF.out.2)
    clear h2
    go_wp2_with fail
    go_end0
    exact ⟨rfl, HZ.out⟩
  have n1 : (e.k == 1) = false := beq_eq_false_iff_ne.2 k1
  by_cases k2 : e.k = 2
  · have HK := hid k2
    have HK1 := hid k1
    rw [k2] at d0 n1
    clear HTX HST k1 k2
    cases d with
    | zero =>
      have hd0 := HDN.out 0
      have HZ := hid hd0
      clear HDN hd0
      go_wp2_with fail
      go_end0
      refine ⟨rfl, prs, 0, td, pend, HZ.out.1, fun r => ?_, by omega, by omega, by omega, HF.out.2.trans HZ.out.2⟩
      rw [restN_stop 0 td pend e r HK.out]
    | succ q =>
      have hd0 := HDN.out q
      have hmx : max (((q + 1 : Nat) : Int) - 1) 0 = (q : Int) := by omega
      have HZ := hid hd0
      clear HDN hd0
      go_wp2_with fail
      go_end0
      refine ⟨rfl, prs, q, td, pend, HZ.out.1, fun r => ?_, by omega, by omega, by omega, HF.out.2.trans HZ.out.2⟩
      rw [restN_stop (q + 1) td pend e r HK.out]
      rfl
  have n2 : (e.k == 2) = false := beq_eq_false_iff_ne.2 k2
  by_cases k3 : e.k = 3
  · have HK := hid k3
    rw [k3] at d0 n1 n2
    clear HST HDN c1 f1 k1 k2 k3
    go_wp2_with fail
    refine HTX.out.mono ?_
    rintro r w2 ⟨rfl, h2⟩
    have HZ := hid ((text_take HK.out HF.out.1 h2).from HF.out.2)
    clear h2
    go_wp2_with fail
    go_end0
    exact ⟨rfl, HZ.out⟩
  have n3 : (e.k == 3) = false := beq_eq_false_iff_ne.2 k3
  have HK := hid (And.intro k1 (And.intro k2 k3))
  clear HST HDN HTX c1 f1 k1 k2 k3
  go_wp2_with fail
  go_end0
  exact ⟨rfl, prs, d, td, pend, HF.out.1, fun r => by rw [restN_pass d td pend e r HK.out.1 HK.out.2.1 (fun q => HK.out.2.2 q.1)], by omega, by omega, by omega, HF.out.2⟩

theorem bulkF_next {es : List EvP} {k : Nat} {e : EvP} (h : es[k]? = some e) : bulkE (es.take (k + 1)) = bulkE (es.take k) + (e.n.length + e.t.length + bulkA e.a + 1) := by
  rw [List.take_add_one, h]
  unfold bulkE
  rw [List.map_append, List.sum_append]
  simp
theorem bulkF_take (es : List EvP) (k : Nat) : bulkE (es.take k) ≤ bulkE es := by
  have h : bulkE (es.take k ++ es.drop k) = bulkE (es.take k) + bulkE (es.drop k) := by unfold bulkE; rw [List.map_append, List.sum_append]
  rw [List.take_append_drop] at h
  omega
set_option maxHeartbeats 4000000 in
set_option maxRecDepth 100000 in
theorem fold_any (ev : Value) (es : List EvP) (w : World) (h : EvsR w ev es) (hs : bulkE es ≤ 60000000) (hT : KindsTab w) :
    Calls Tryz.prog 14 #[ev] w fun r w' => ∃ v prs, r = .returned v ∧ MadeN w' w.heap.size v prs ∧ prs.map Prod.fst = foldP es ∧ Below w.heap.size w w' := by
  obtain ⟨p, c, rfl, hl, hcm, hcell⟩ := h
  have hlen := bulkE_len es
  obtain ⟨R, hR⟩ : ∃ R, foldP es = R := ⟨_, rfl⟩
  rw [hR]
  have hb1 := (Below.refl w.heap.size w).alloc (Nat.le_refl _) (.cells (fldC (.slice none 0 0) 0 0 (.pointer none) (.slice none 0 0)) 87)
  have hn1 := heap_alloc_new w (.cells (fldC (.slice none 0 0) 0 0 (.pointer none) (.slice none 0 0)) 87)
  have H0 : Hid (FldAt (w.alloc (.cells (fldC (.slice none 0 0) 0 0 (.pointer none) (.slice none 0 0)) 87)) w.heap.size w.heap.size [] 0 0 [] ∧ Below w.heap.size w (w.alloc (.cells (fldC (.slice none 0 0) 0 0 (.pointer none) (.slice none 0 0)) 87))) :=
    ⟨⟨_, _, _, ⟨hn1, Nat.le_refl _, rfl, rfl, .inl rfl, ⟨rfl, .inl ⟨rfl, rfl⟩⟩, by simp [Value.ownBlock]⟩, MadeN.nil _ _⟩, hb1⟩
  have HC := hid hcell
  have HT := hid hT
  have HS := hid hs
  have HR := hid (fun (_ : True) => (by rw [foldP_eq] at hR; exact hR : ([] : List (EvP × Value)).map Prod.fst ++ restN 0 0 [] es = R))
  have hln : es.length ≤ 60000000 := by omega
  unfold fldC at H0
  clear hcell hs hR hb1 hn1 hlen hT
  go_enter Tryz.func14, Tryz.ntmps14
  go_wp2_with fail
  go_loopw [8] (fun iv wr => ∃ (k : Nat) (prs : List (EvP × Value)) (d td : Nat) (q : List UInt8), iv = .int .i64 k ∧ k ≤ es.length ∧ Hid (FldAt wr w.heap.size w.heap.size prs d td q ∧ Below w.heap.size w wr ∧ prs.length ≤ 2 * k ∧ d ≤ k ∧ q.length ≤ bulkE (es.take k)) ∧ Hid (True → prs.map Prod.fst ++ restN d td q (es.drop k) = R)) (fun iv _ => es.length - (RowKit.intOf iv).toNat)
  case atStart => exact ⟨0, [], 0, 0, [], rfl, Nat.zero_le _, hid ⟨H0.out.1, H0.out.2, by simp, by omega, by simp⟩, HR⟩
  case round =>
    obtain ⟨k, prs, d, td, q, rfl, hk, HX, HK⟩ := hrel
    clear H0 HR
    by_cases hkl : k < es.length
    · obtain ⟨e, he⟩ : ∃ e, es[k]? = some e := ⟨_, List.getElem?_eq_getElem hkl⟩
      obtain ⟨b, o, u, rfl, q0, q1, q2, q3, q4⟩ := HC.out k e he
      have hab := bulkE_get he
      have hd := HK.out trivial
      rw [drop_at he] at hd
      have hHS := HS.out
      obtain ⟨hf, hbx, hpl, hdk, hql⟩ := HX.out
      have hbt := bulkF_take es k
      have hlo := cell_block q0
      replace q0 := cell_low q0 hbx hlo
      replace q1 := cell_low q1 hbx hlo
      replace q2 := cell_low q2 hbx hlo
      replace q3 := cell_low q3 hbx hlo
      obtain ⟨up, uc, rfl⟩ := q4.len
      have hB1 := (Below.refl wr.heap.size wr).alloc (Nat.le_refl _) (.cells (evC e (.slice up e.a.length uc)) 60)
      have hbw1 := hbx.trans (hB1.mono hbx.size)
      have htk := fldTake_any w.heap.size w.heap.size prs d td q e (.slice up e.a.length uc) w (wr.alloc (.cells (evC e (.slice up e.a.length uc)) 60)) (hf.below hB1) (Nat.le_refl _) hbw1 HT.out q4 (by omega) (by omega) (by omega) (by omega)
      unfold evC at htk hbw1
      have HTK := hid htk
      have HB1 := hid hbw1
      have HD := hid (fun (_ : True) => hd)
      have HN := hid (And.intro hpl (And.intro hdk (And.intro hql (bulkF_next he))))
      clear hbt htk hd hHS hbx hlo hab he q4 HK HC hB1 hbw1 hf hpl hdk hql HX
      go_wp2_with (go_at_call 36; refine HTK.out.mono ?_; rintro r W2 ⟨rfl, prs', d', td', q', h1, h2, h3, h4, h5, h6⟩)
      have HE := hid (fun (_ : True) => (h2 _).trans (HD.out trivial))
      have HZ := hid (And.intro h1 (And.intro (HB1.out.trans h6) (And.intro (show prs'.length ≤ 2 * (k + 1) by have := HN.out.1; omega) (And.intro (show d' ≤ k + 1 by have := HN.out.2.1; omega) (show q'.length ≤ bulkE (es.take (k + 1)) by have := HN.out.2.2.1; have := HN.out.2.2.2; omega)))))
      clear h1 h2 h3 h4 h5 h6 HB1 HTK HD HN q0 q1 q2 q3
      go_roundw
      case rel => first | exact ⟨k + 1, _, _, _, _, rfl, by omega, HZ, HE⟩ | ((repeat apply Exists.intro); exact ⟨⟨k + 1, _, _, _, _, rfl, by omega, HZ, HE⟩, rfl⟩)
      case measure => simp [RowKit.intOf]; omega
    · have hfin : prs.map Prod.fst ++ pendN td q = R := by
        have := HK.out trivial
        rw [List.drop_of_length_le (by omega), restN_end] at this
        exact this
      obtain ⟨hf, hbx, hpl, hdk, hql⟩ := HX.out
      have hbt := bulkF_take es k
      have HST := hid (fldEnd_any w.heap.size w.heap.size prs d td q wr hf (by omega))
      have HB := hid hbx
      have HFI := hid hfin
      clear hbt HK HC hf hpl hdk hql hfin HX hbx
      go_wp2_with fail
      refine HST.out.mono ?_
      rintro r W2 ⟨rfl, prs2, h2, hn2, hl2, b2⟩
      obtain ⟨nv2, p2, v2, hin2, hm2⟩ := h2.it
      obtain ⟨c0, -, -, -, -, -⟩ := fld_cells hin2.at_
      have HY := hid (And.intro hm2 (And.intro (hn2.trans HFI.out) (HB.out.trans b2)))
      clear b2 h2 hin2 hm2 HB HST
      go_wp2_with fail
      go_ret
      exact ⟨nv2, prs2, rfl, HY.out.1, HY.out.2.1, HY.out.2.2⟩
end Go.Proofs.YtcncbhbdpcpkeaaGreatDoor
