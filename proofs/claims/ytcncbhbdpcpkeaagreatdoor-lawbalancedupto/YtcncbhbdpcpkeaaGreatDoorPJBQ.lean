/-
  Parts of the walk, joined: BalQ, SameN.
-/
import Derived.Deep.RegionLaw
import Derived.Deep.AppendLies
import Derived.Test.YtcncbhbdpcpkeaaGreatDoorPJBP
import Derived.Test.YtcncbhbdpcpkeaaGreatDoorPJBG
import Derived.Test.YtcncbhbdpcpkeaaGreatDoorPJAS
/-
  The stream's Put of a list that a call made: its walk.
-/
namespace Go.Proofs.YtcncbhbdpcpkeaaGreatDoor
open Go.RowKit Go.Lib Own

theorem endText_s (base b : Nat) (ev p v : Value) (evs : List Ev) (pend : List UInt8) (xs : List Value) (w : World) (h : StrX w base b ev p v evs pend xs) (hlen : evs.length ≤ 600000000) :
    Calls Tryz.prog 64 #[.pointer (some ⟨b, 0, none⟩)] w fun e w' => e = .returned (.tuple #[]) ∧
      ∃ ev' p' v' xs', StrX w' base b ev' p' v' (flushE (evs, pend)) [] xs' ∧ (xs' = xs ∨ xs' = xs ++ [.int .i64 3, .string ⟨#[]⟩, .slice none 0 0, strV pend]) ∧ Below base w w' ∧ StrF b ev v w w' ∧ (∀ g, ev'.ownBlock = some g → ev.ownBlock = some g ∨ w.heap.size ≤ g) := by
  by_cases h0 : pend = []
  · subst h0
    refine (endText_none base b 0 #[ev, p, v] 69 evs w (StreamX.at h)).mono ?_
    rintro e w' ⟨rfl, rfl⟩
    exact ⟨rfl, ev, p, v, xs, h, .inl rfl, Below.refl _ _, fun _ _ _ _ _ => rfl, fun g hg => .inl hg⟩
  · refine (endText_g base b 0 #[ev, p, v] 69 evs pend xs w h (strT ev p v) h0 hlen).mono ?_
    rintro e w' ⟨rfl, ev1, h1, h2, _, h4, h5⟩
    have hf : flushE (evs, pend) = evs ++ [.text pend] := by unfold flushE; rw [if_neg h0]
    refine ⟨rfl, ev1, .pointer none, .slice none 0 0, _, by rw [hf]; exact h1, .inr rfl, h2, fun k hk hb he hv => h4 ev v rfl rfl k hk hb he hv, fun g hg => ?_⟩
    rcases h5 g hg with ⟨ev0, e1, e2⟩ | e1
    · have e3 : ev0 = ev := (Option.some.inj (e1 : some ev = some ev0)).symm
      rw [e3] at e2
      exact .inl e2
    · exact .inr e1
/-- one more event in the stream's list -/
theorem StrX.more {W W2 : World} {base b : Nat} {ev p v ev' : Value} {evs : List Ev} {xs : List Value} {kv nv av tv : Value} {e0 : Ev} {X : Obj} (h : StrX W base b ev p v evs [] xs) (he : EvsAt W base [kv, nv, av, tv] [e0]) (hn : ∀ g, av.ownBlock = some g → NotIn g xs)
    (hg : (W.alloc X).grownBy W2 ev.ownBlock) (hv : W2.ownsRow base 60 4 ev' (evs.length + 1) (xs ++ [kv, nv, av, tv])) :
    StrX (W2.setCell ⟨b, 0, none⟩ ev') base b ev' p v (evs ++ [e0]) [] (xs ++ [kv, nv, av, tv]) ∧ StrF b ev v W (W2.setCell ⟨b, 0, none⟩ ev') ∧ Below base W (W2.setCell ⟨b, 0, none⟩ ev') := by
  obtain ⟨hin, hrow, hevs, hap⟩ := h.parts
  have hra := hrow.alloc X
  have bxa := (Go.Lib.alloc_old W X _ (block_lt hin.at_)).trans hin.at_
  have bx2 := grown_at hg bxa (row_ne hra bxa (by decide))
  have j := just_put (j := 0) (cs2 := #[ev', p, v]) bx2 ev' (by simp)
  have e2 : EvsAt W2 base (xs ++ [kv, nv, av, tv]) (evs ++ [e0]) := evs_mono (fun a n ys hr => (hr.alloc X).kept hg (rows_ne (hr.alloc X) hra (by decide))) _ _ (evs_snoc2 xs _ hevs he)
  have e3 := evs_mono (W' := W2.setCell ⟨b, 0, none⟩ ev') (fun a n ys hr => row_just hr bx2 (by decide) j.other) _ _ e2
  have r3 := row_just hv bx2 (by decide) j.other
  have o2 : W2.ownsRowF base 5 1 v 0 (byteCells []) := (hin.own.kept (World.grownBy_alloc W X none) (by cases hv : v.ownBlock <;> simp)).kept hg (rowF_ne hin.own hrow (by decide))
  have o3 := o2.kept j.grown (.inr hin.ne)
  have hal := alloc_lt W X
  have hbl : base ≤ W.heap.size := by have := block_lt hin.at_; have := hin.lo; omega
  refine ⟨StrX.mk ⟨j.at_, hin.lo, rfl, rfl, hin.hp, o3, hin.ne⟩ (by rw [List.length_append]; exact r3) e3 (apart_snoc xs _ hevs hap hn), fun k hk hb h3 _ => ?_, (((Below.refl base W).alloc hbl X).grown hg (by omega) (fun k hk => (hrow.lt k hk).1)).trans (just_low j hin.lo)⟩
  rw [j.other k hb, hg.block k (by omega) (fun e => h3 e.symm), Go.Lib.alloc_old _ _ _ hk]
/-- the stream while it takes a list -/
structure PutAt (w W : World) (base ob b : Nat) (lv : Value) (L : List Ev) (ys : List Value) (k : Nat) (evs : List Ev) (pend : List UInt8) : Prop where
  it : ∃ ev p v xs, StrX W base b ev p v evs pend xs ∧ (∀ g, ev.ownBlock = some g → g < ob ∨ w.heap.size ≤ g) ∧ FreeFrom ys xs k
  ma : MadeE W ob lv L ys
  be : Below base w W
  bk : BalK w W
theorem putE_text (s : List Ev × List UInt8) (t : List UInt8) : putE s (.text t) = (s.1, s.2 ++ t) := rfl
theorem putE_other (s : List Ev × List UInt8) (e : Ev) (h : evK e ≠ 3) : putE s e = (flushE s ++ [e], []) := by
  cases e with
  | text t => exact absurd rfl h
  | start n a => rfl
  | stop n => rfl
theorem putEs_next (s : List Ev × List UInt8) {L : List Ev} {k : Nat} {e : Ev} (h : L[k]? = some e) : putEs s (L.take (k + 1)) = putE (putEs s (L.take k)) e := by
  rw [List.take_add_one, h, putEs_app]
  rfl
theorem putEs_len : ∀ (L : List Ev) (s : List Ev × List UInt8), (putEs s L).1.length ≤ s.1.length + 2 * L.length
  | [], s => Nat.le_add_right _ _
  | e :: L, s => by
    have h := putEs_len L (putE s e)
    have h2 : (putE s e).1.length ≤ s.1.length + 2 := by
      by_cases h3 : evK e = 3
      · cases e with
        | text t => exact Nat.le_add_right _ _
        | start n a => exact absurd h3 (by show (1 : Nat) ≠ 3; omega)
        | stop n => exact absurd h3 (by show (2 : Nat) ≠ 3; omega)
      · rw [putE_other s e h3]
        unfold flushE
        split
        · simp
        · simp
    show (putEs (putE s e) L).1.length ≤ _
    simp only [List.length_cons]
    omega

set_option maxHeartbeats 16000000 in
set_option maxRecDepth 100000 in
theorem putL_any (base ob b : Nat) (ev p v : Value) (evs : List Ev) (pend : List UInt8) (xs : List Value) (lv : Value) (L : List Ev) (ys : List Value) (w : World) (h : StrX w base b ev p v evs pend xs) (hm : MadeE w ob lv L ys) (hgap : ∀ g, ev.ownBlock = some g → g < ob) (hnew : FreeFrom ys xs 0) (hob : base ≤ ob)
    (hl : evs.length + 2 * L.length ≤ 570000000) (ht : ∀ k, (putEs (evs, pend) (L.take k)).2.length ≤ 1000000000) (htt : ∀ e ∈ L, (evT e).length ≤ 1000000000) :
    Calls Tryz.prog 27 #[.pointer (some ⟨b, 0, none⟩), lv] w fun e w' => e = .returned (.tuple #[]) ∧ PutAt w w' base ob b lv L ys L.length (putEs (evs, pend) L).1 (putEs (evs, pend) L).2 := by
  obtain ⟨i0, hi, hz0, hz1, hz2⟩ := info_parts info_event
  obtain ⟨lp, lc, rfl⟩ := row_shape hm.row
  have hlen := putEs_len
  have H0 : Hid (PutAt w w base ob b (.slice lp L.length lc) L ys 0 (putEs (evs, pend) (L.take 0)).1 (putEs (evs, pend) (L.take 0)).2) :=
    ⟨⟨ev, p, v, xs, h, fun g hg => .inl (hgap g hg), hnew⟩, hm, Below.refl _ _, BalK.of_below (Below.refl _ _)⟩
  have HGL : Hid (∀ g, (Value.slice lp L.length lc).ownBlock = some g → ob ≤ g ∧ g < w.heap.size) := fun g hg => hm.row.lt g hg
  have HT := hid (And.intro ht htt)
  clear h hm hgap hnew ht htt
  go_enter Tryz.func27, Tryz.ntmps27
  go_wp2_with fail
  go_loopw [8] (fun iv wr => ∃ (k : Nat) (es : List Ev) (pe : List UInt8), iv = .int .i64 k ∧ k ≤ L.length ∧ Hid (putEs (evs, pend) (L.take k) = (es, pe)) ∧ Hid (PutAt w wr base ob b (.slice lp L.length lc) L ys k es pe)) (fun iv _ => L.length - (RowKit.intOf iv).toNat)
  case atStart => exact ⟨0, _, _, rfl, Nat.zero_le _, hid rfl, H0⟩
  case round =>
    clear H0
    obtain ⟨k, es, pe, rfl, hk, HE, HX⟩ := hrel
    by_cases hkl : k < L.length
    · obtain ⟨e0, he0⟩ : ∃ e, L[k]? = some e := ⟨_, List.getElem?_eq_getElem hkl⟩
      obtain ⟨⟨ev1, p1, v1, xs1, hs1, hg1, hf1⟩, hma, hbe, hbk⟩ := HX.out
      obtain ⟨gl, cap, e3, hl1, hl2, hcell⟩ := row_at hma.row (by omega)
      cases e3
      obtain ⟨av, a0, a1, a2, a3, a4, a5⟩ := evs_get ys L k e0 hma.evs he0
      have d0 := (hcell (k * 4) (by omega)).trans a0
      have d1 := (hcell (k * 4 + 1) (by omega)).trans a1
      have d2 := (hcell (k * 4 + 2) (by omega)).trans a2
      have d3 := (hcell (k * 4 + 3) (by omega)).trans a3
      have hlc := (row_cap hma.row).2
      have hesl : es.length ≤ 570000000 := by
        have h1 := hlen (L.take k) (evs, pend)
        rw [HE.out, List.length_take] at h1
        simp only at h1
        omega
      have hpel : pe.length ≤ 1000000000 := by have h1 := HT.out.1 k; rw [HE.out] at h1; exact h1
      have htl := HT.out.2 e0 (List.mem_of_getElem? he0)
      have hnx := putEs_next (evs, pend) he0
      rw [HE.out] at hnx
      have hgl := HGL.out gl rfl
      have hevgl : ev1.ownBlock ≠ some gl := fun e => by rcases hg1 gl e with h1 | h1 <;> omega
      obtain ⟨ap, ac, rfl⟩ := row_shape a4
      have hbsz : base ≤ wr.heap.size := by obtain ⟨q1, _⟩ := hs1.parts; have := block_lt q1.at_; have := q1.lo; omega
      have hbb := block_lt hs1.parts.1.at_
      by_cases ht3 : evK e0 = 3
      · obtain ⟨t, rfl⟩ : ∃ t, e0 = .text t := by cases e0 with | text t => exact ⟨t, rfl⟩ | start n a => exact absurd ht3 (by show (1 : Nat) ≠ 3; omega) | stop n => exact absurd ht3 (by show (2 : Nat) ≠ 3; omega)
        replace d0 : wr.cell? ⟨gl, k * 4, none⟩ = some (.int .i64 3) := d0
        replace d1 : wr.cell? ⟨gl, k * 4 + 1, none⟩ = some (.string ⟨#[]⟩) := d1
        replace d3 : wr.cell? ⟨gl, k * 4 + 3, none⟩ = some (.string (bs t)) := d3
        rw [putE_text] at hnx
        obtain ⟨W1, hW1⟩ : ∃ W1, wr.alloc (.cells #[.int .i64 3, .string ⟨#[]⟩, .slice ap (evA (.text t)).length ac, .string (bs t)] 60) = W1 := ⟨_, rfl⟩
        have hb1 : Below wr.heap.size wr W1 := by rw [← hW1]; exact (Below.refl _ _).alloc (Nat.le_refl _) _
        have n1 : W1.heap[wr.heap.size]? = some (.cells #[.int .i64 3, .string ⟨#[]⟩, .slice ap (evA (.text t)).length ac, .string (bs t)] 60 (0, 0)) := by rw [← hW1]; exact heap_alloc_new _ _
        have hs2 := hs1.below hb1
        have hbt : (bs t).size ≤ 1000000000 := by rw [bs_size]; exact htl
        have hpt := putText_x base b ev1 p1 v1 es pe xs1 (bs t) W1 hs2 (by omega)
        have HP := hid hpt
        have HZ := hid (And.intro hs2 (And.intro (hma.below hb1) (And.intro (hbe.trans (hb1.mono hbsz)) (And.intro (hbk.trans (BalK.of_below hb1)) (And.intro hg1 hf1)))))
        have HN := hid hnx
        have x0 := cell_at n1 (j := 0) rfl
        have x3 := cell_at n1 (j := 3) rfl
        obtain ⟨TT, hTT⟩ : ∃ n, bs t = n := ⟨_, rfl⟩
        have HTT := hid hTT
        rw [hTT] at hW1 d3 HP x3
        clear hs1 hma hbe hbk hg1 hf1 hpt hs2 hb1 n1 hTT a0 a1 a2 a3 a4 a5 hcell HX hnx HE hgl hevgl
        go_upto_region 3 with fail
        clear hW1
        go_wp2_with fail
        refine HP.out.mono ?_
        rintro e W2 ⟨rfl, p2, v2, hs3, hb3, hf3⟩
        obtain ⟨hs2, hm2, hbe2, hbk2, hg2, hfr2⟩ := HZ.out
        have hsf : StrF b ev1 v1 W1 W2 := fun k hk hb _ hv => hf3 k hk hb hv
        have hm3 := MadeE.str hs2 hsf hm2 (fun g hg e => by rcases hg2 g hg with h1 | h1 <;> (have := HGL.out g e; omega))
        rw [← HTT.out] at hs3
        have HF : Hid (PutAt w W2 base ob b (.slice (some ⟨gl, 0, none⟩) L.length lc) L ys (k + 1) es (pe ++ t)) :=
          ⟨⟨ev1, p2, v2, xs1, hs3, hg2, fun j a g hj => hfr2 j a g (by omega)⟩, hm3, hbe2.trans hb3, hbk2.trans (hs2.balK hsf)⟩
        clear hs2 hm2 hbe2 hbk2 hg2 hfr2 hsf hm3 hs3 hb3 hf3 HZ HP d0 d1 d2 d3 x0 x3
        go_wp2_with fail
        go_roundw
        case rel => exact ⟨k + 1, es, pe ++ t, rfl, by omega, HN, HF⟩
        case measure => simp [RowKit.intOf]; omega
      · have hkk : (((evK e0 : Nat) : Int) == 3) = false := by rw [Bool.eq_false_iff]; intro h; rw [beq_iff_eq] at h; omega
        rw [putE_other _ _ ht3] at hnx
        unfold strV at d1 d3
        have ha2 := a2
        obtain ⟨K, hK⟩ : ∃ K : Int, ((evK e0 : Nat) : Int) = K := ⟨_, rfl⟩
        obtain ⟨NB, hNB⟩ : ∃ n, (⟨(evN e0).toArray⟩ : ByteArray) = n := ⟨_, rfl⟩
        obtain ⟨TB, hTB⟩ : ∃ n, (⟨(evT e0).toArray⟩ : ByteArray) = n := ⟨_, rfl⟩
        obtain ⟨AN, hAN⟩ : ∃ n, (evA e0).length = n := ⟨_, rfl⟩
        rw [hK] at d0 hkk
        rw [hNB] at d1
        rw [hTB] at d3
        rw [hAN] at d2 ha2
        have HKN := hid (And.intro hK (And.intro hNB (And.intro hTB he0)))
        obtain ⟨W1, hW1⟩ : ∃ W1, wr.alloc (.cells #[.int .i64 K, .string NB, .slice ap AN ac, .string TB] 60) = W1 := ⟨_, rfl⟩
        have hb1 : Below wr.heap.size wr W1 := by rw [← hW1]; exact (Below.refl _ _).alloc (Nat.le_refl _) _
        have n1 : W1.heap[wr.heap.size]? = some (.cells #[.int .i64 K, .string NB, .slice ap AN ac, .string TB] 60 (0, 0)) := by rw [← hW1]; exact heap_alloc_new _ _
        have hs2 := hs1.below hb1
        have hev1 : ev1.ownBlock ≠ some wr.heap.size := fun e => by have := (hs1.parts.2.1.lt _ e).2; omega
        have het := endText_s base b ev1 p1 v1 es pe xs1 W1 hs2 (by omega)
        have HP := hid het
        have HZ := hid (And.intro hs2 (And.intro (hma.below hb1) (And.intro (hbe.trans (hb1.mono hbsz)) (And.intro (hbk.trans (BalK.of_below hb1)) (And.intro hg1 (And.intro hf1 (And.intro n1 hb1)))))))
        have HN := hid hnx
        have HA2 := hid ha2
        have x0 := cell_at n1 (j := 0) rfl
        have hone : ∀ u ∈ [Value.int .i64 K, .string NB, .slice ap AN ac, .string TB], u.oneCell' = true := by simp [Value.oneCell']
        clear hs1 hma hbe hbk hg1 hf1 het hs2 hb1 n1 hK hNB hTB hAN a0 a1 a2 a3 a4 a5 hcell HX hnx HE hgl hevgl ht3 ha2 he0
        go_upto_region 3 with fail
        clear hW1
        go_wp2_with fail
        refine HP.out.mono ?_
        rintro e W2 ⟨rfl, ev2, p2, v2, xs2, hs3, hxs, hb3, hf3, hg3⟩
        obtain ⟨hs2, hm2, hbe2, hbk2, hg2, hfr2, n1, hb1⟩ := HZ.out
        obtain ⟨hK, hNB, hTB, he0⟩ := HKN.out
        have n2 := (hs2.other hf3 n1 (by decide) (by decide) hev1).trans n1
        have hm3 := MadeE.str hs2 hf3 hm2 (fun g hg e => by rcases hg2 g hg with h1 | h1 <;> (have := HGL.out g e; omega))
        obtain ⟨av', _, _, c2, _, _, a5⟩ := evs_get ys L k e0 hm3.evs he0
        obtain rfl := Option.some.inj (HA2.out.symm.trans c2)
        unfold strV at a5
        rw [hK, hNB, hTB] at a5
        have a6 := evsAll_low hob _ _ a5
        have hnot : ∀ g, (∀ xs', xs' = xs1 → NotIn g xs') → NotIn g xs2 := fun g h1 => by
          rcases hxs with rfl | rfl
          · exact h1 _ rfl
          · exact notIn_snoc (by simp [Value.ownBlock]) _ _ hs2.parts.2.2.1 (h1 _ rfl)
        have hna : ∀ g, (Value.slice ap AN ac).ownBlock = some g → NotIn g xs2 := fun g hg => hnot g (fun xs' e => by rw [e]; exact hfr2 k _ g (Nat.le_refl k) HA2.out hg)
        have hfr3 : FreeFrom ys (xs2 ++ [.int .i64 K, .string NB, .slice ap AN ac, .string TB]) (k + 1) := fun j a g hj hja hag =>
          notIn_snoc (fun e => apart_at ys L W2 ob hm3.evs hm3.ap k j _ a g (by omega) HA2.out hja e hag) _ _ hs3.parts.2.2.1 (hnot g (fun xs' e => by rw [e]; exact hfr2 j a g (by omega) hja hag))
        have hg4 : ∀ g, ev2.ownBlock = some g → g < ob ∨ w.heap.size ≤ g := fun g hg => by
          rcases hg3 g hg with h1 | h1
          · exact hg2 g h1
          · exact .inr (by have := hb1.size; have := hbe2.size; omega)
        have x0 := cell_at n2 (j := 0) rfl
        have x1 := cell_at n2 (j := 1) rfl
        have x2 := cell_at n2 (j := 2) rfl
        have x3 := cell_at n2 (j := 3) rfl
        obtain ⟨in3, row3, _, _⟩ := hs3.parts
        have ce := cell_at in3.at_ (j := 0) rfl
        have fe := free_at in3.at_ 0
        have hneb := row_ne row3 in3.at_ (by decide)
        have hbs3 := block_lt in3.at_
        have hat3 := in3.at_
        have hns := block_lt n2
        have hbl3 : base ≤ W2.heap.size := by have := in3.lo; omega
        have hfl : (flushE (es, pe)).length ≤ 570000001 := by
          unfold flushE
          split
          · simp only; omega
          · simp only [List.length_append, List.length_singleton]; omega
        have hbn : b ≠ wr.heap.size := by omega
        have H3 := hid (And.intro hs3 (And.intro a6 (And.intro hna (And.intro hm3 (And.intro (hbe2.trans hb3) (And.intro (hbk2.trans (hs2.balK hf3)) (And.intro hg4 hfr3)))))))
        have HSZ := hid (And.intro hbe2.size hb3.size)
        clear hs3 a5 a6 hna hm3 hbe2 hb3 hbk2 hs2 hf3 hg4 hfr3 HZ HP hm2 hg2 hfr2 n1 hb1 n2 c2 hK hNB hTB he0 hnot hxs hg3 in3 d0 d1 d2 d3
        go_wp2_with fail
        go_region_law (refine step_append_lies _ rfl (.tmp 25) (.tmp 27) 22 rfl base 60 i0 (.agg #[.int .i64 0, .string ⟨#[]⟩, .slice none 0 0, .string ⟨#[]⟩]) 4 64 Tryz.underlying22 hi hz0 hz1 hz2 rfl (by decide) ev2 (flushE (es, pe)).length xs2 (by simp [Act.eval]) (by exact row3.alloc _) ⟨_, 0, none⟩ 1 1 [.int .i64 K, .string NB, .slice ap AN ac, .string TB] (by simp [Act.eval]) rfl (cells_newV _ _ _) hone (by omega) (by unfold maxLen; omega) (by omega) (by simp; omega) _ rfl ?_; rintro g cap w10 hrow10 hgrow10 hnew10 -; have hb10 : w10.heap[b]? = some (.cells #[ev2, p2, v2] 69 (0, 0)) := ((hgrow10.block b (by simp; omega) (fun e => hneb e.symm)).trans (Go.Lib.alloc_old _ _ b (by exact hbs3))).trans (by exact hat3); have ce10 := cell_at (j := 0) hb10 rfl; have fe10 := free_at hb10 0)
        all_goals
          have hg10 : (W2.alloc (.cells #[.int .i64 K, .string NB, .slice ap AN ac, .string TB] 60)).grownBy w10 ev2.ownBlock := ⟨hgrow10.os, hgrow10.tape, hgrow10.output, hgrow10.size, hgrow10.block⟩
          obtain ⟨hs3, a6, hna, hm3, hbe3, hbk3, hg4, hfr3⟩ := H3.out
          obtain ⟨hs4, hf4, hb4⟩ := hs3.more a6 hna hg10 hrow10
          have hgg : ∀ g', (Value.slice (some ⟨g, 0, none⟩) ((flushE (es, pe)).length + 1) cap).ownBlock = some g' → g' < ob ∨ w.heap.size ≤ g' := fun g' e => by
            obtain rfl := Option.some.inj e
            rcases hnew10 with e2 | e2
            · exact hg4 _ e2
            · exact .inr (by rw [e2]; simp; have := HSZ.out; have := hbe3.size; omega)
          have hm4 := MadeE.str hs3 hf4 hm3 (fun g hg e => by rcases hg4 g hg with h1 | h1 <;> (have := HGL.out g e; omega))
          have HF : Hid (PutAt w (w10.setCell ⟨b, 0, none⟩ (.slice (some ⟨g, 0, none⟩) ((flushE (es, pe)).length + 1) cap)) base ob b (.slice (some ⟨gl, 0, none⟩) L.length lc) L ys (k + 1) (flushE (es, pe) ++ [e0]) []) :=
            ⟨⟨_, p2, v2, _, hs4, hgg, hfr3⟩, hm4, hbe3.trans hb4, hbk3.trans (hs3.balK hf4)⟩
          clear hs3 a6 hna hm3 hbe3 hbk3 hg4 hfr3 hs4 hf4 hb4 hgg hm4 H3 hg10 hrow10 hgrow10 hnew10 hb10 ce10 fe10
          go_wp2
          go_roundw
          case rel => exact ⟨k + 1, flushE (es, pe) ++ [e0], [], rfl, by omega, HN, HF⟩
          case measure => simp [RowKit.intOf]; omega
    · obtain rfl : k = L.length := by omega
      have hfin := HE.out
      rw [List.take_length] at hfin
      have HFIN := hid hfin
      clear hfin HE
      go_wp2_with fail
      go_end0
      exact ⟨rfl, by rw [HFIN.out]; exact HX.out⟩
end Go.Proofs.YtcncbhbdpcpkeaaGreatDoor

/-
  The statements' sameNodes: its walk, at lists that can be read and hold the same.
-/
namespace Go.Proofs.YtcncbhbdpcpkeaaGreatDoor
open Go.RowKit Go.Lib Own

set_option maxHeartbeats 4000000 in
set_option maxRecDepth 10000 in
theorem sameNodesR_any (v1 v2 : Value) (l : List EvP) (w : World) (h1 : EvsR w v1 l) (h2 : EvsR w v2 l) :
    Calls Tryz.prog 13 #[v1, v2] w fun e w' => e = .returned (.bool true) ∧ ∃ n, w' = w.drewN n := by
  obtain ⟨p1, k1, rfl, _, _, a1⟩ := h1
  obtain ⟨p2, k2, rfl, _, _, a2⟩ := h2
  have H1 := hid a1
  have H2 := hid a2
  clear a1 a2
  go_enter Tryz.func13, Tryz.ntmps13
  have q0 : ((l.length : Int) != (l.length : Int)) = false := by simp
  go_wp2
  go_loopw [13] (fun iv wr => ∃ k : Nat, iv = .int .i64 k ∧ k ≤ l.length ∧ Hid (True → ∃ n, wr = w.drewN n)) (fun iv _ => l.length - (RowKit.intOf iv).toNat)
  case atStart => exact ⟨0, rfl, Nat.zero_le _, hid (fun _ => ⟨0, rfl⟩)⟩
  case round =>
    obtain ⟨k, rfl, hk, HQ⟩ := hrel
    by_cases hkl : k < l.length
    · obtain ⟨s, hs⟩ : ∃ s, l[k]? = some s := ⟨_, List.getElem?_eq_getElem hkl⟩
      obtain ⟨g1, o1, a1, rfl, b0, b1, b2, b3, b4⟩ := H1.out k s hs
      obtain ⟨g2, o2, a2, rfl, d0, d1, d2, d3, d4⟩ := H2.out k s hs
      obtain ⟨sp1, sn1, sc1, rfl⟩ := b4.shape
      obtain ⟨sp2, sn2, sc2, rfl⟩ := d4.shape
      have hq := HQ.out trivial
      replace b0 := cell_drew hq b0
      replace b1 := cell_drew hq b1
      replace b2 := cell_drew hq b2
      replace b3 := cell_drew hq b3
      replace d0 := cell_drew hq d0
      replace d1 := cell_drew hq d1
      replace d2 := cell_drew hq d2
      replace d3 := cell_drew hq d3
      have hsame := fun n => sameAttrsR_any _ _ s.a (wr.drewN n) (by obtain ⟨n', rfl⟩ := hq; exact (b4.drewN _).drewN _) (by obtain ⟨n', rfl⟩ := hq; exact (d4.drewN _).drewN _)
      have HS := hid hsame
      clear hsame b4 d4 hq H1 H2 hs
      obtain ⟨u1, hu1⟩ : ∃ u1, bs s.n = u1 := ⟨_, rfl⟩
      obtain ⟨u2, hu2⟩ : ∃ u2, bs s.t = u2 := ⟨_, rfl⟩
      rw [hu1] at b1 d1
      rw [hu2] at b3 d3
      obtain ⟨z, hz⟩ : ∃ z, s.k = z := ⟨_, rfl⟩
      rw [hz] at b0 d0
      have q1 : (z != z) = false := by simp
      clear hu1 hu2 hz
      go_wp2_with fail
      go_quiet (first | (go_at_call 31; refine Calls.quiet_of (HS.out _)))
      go_wp2
      go_roundw
      case rel =>
        obtain ⟨n, hn⟩ := HQ.out trivial
        exact ⟨k + 1, rfl, by omega, hid (fun _ => ⟨n + nq, by rw [hn]; simp⟩)⟩
      case measure => simp [RowKit.intOf]; omega
    · go_wp2
      go_ret
      exact ⟨rfl, HQ.out trivial⟩
end Go.Proofs.YtcncbhbdpcpkeaaGreatDoor
