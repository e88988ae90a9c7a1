/-
  Parts of the walk, joined: BalZ.
-/
import Derived.Test.YtcncbhbdpcpkeaaGreatDoorPJBT
/-
  balance.Balance: its walk.
-/
namespace Go.Proofs.YtcncbhbdpcpkeaaGreatDoor
open Go.RowKit Go.Lib Own

/-- Balance's answer at any depth -/
def balC (dz : Int) (es : List EvP) : List Ev := if dz < 1 ∨ 256 < dz then [] else balP dz.toNat es
/-- a list of events is answered, in memory of its own -/
structure MadeOut (w : World) (R : List Ev) (e : Ending) (w' : World) : Prop where
  it : ∃ v xs, e = .returned v ∧ MadeE w' w.heap.size v R xs ∧ Below w.heap.size w w'
/-- where the loop stands -/
def BalLoop (w wr : World) (d : Nat) (es : List EvP) (k : Nat) : Prop :=
  ∃ (op : List (List UInt8)) (ov outv : Value) (J : List Ev) (ys : List Value) (ob : Nat) (ev p v : Value) (evs : List Ev) (pend : List UInt8) (xs : List Value) (raw : List Ev),
    BalS w wr ob w.heap.size d op ov outv J ys ∧ StrX wr w.heap.size (w.heap.size + 1) ev p v evs pend xs ∧ op.length ≤ d ∧ rawB d [] es = raw ++ rawB d op (es.drop k) ∧ putEs ([], []) raw = (evs, pend) ∧ raw.length + op.length ≤ 4 * bulkE (es.take k) ∧ txtN raw ≤ bulkE (es.take k)
theorem endTextW_any (base b o : Nat) (cs : Array Value) (T : TypeId) (evs : List Ev) (pend : List UInt8) (w : World) (h : StreamAt w base b o cs T evs pend) (hT : StreamT T cs o) (hlen : evs.length ≤ 600000000) :
    Calls Tryz.prog 64 #[.pointer (some ⟨b, o, none⟩)] w fun e w' => e = .returned (.tuple #[]) ∧
      ∃ e1 p1 v1, StreamAt w' base b o (((cs.setIfInBounds o e1).setIfInBounds (o + 1) p1).setIfInBounds (o + 2) v1) T (flushE (evs, pend)) [] ∧ Below base w w' := by
  obtain ⟨xs, h⟩ := h.x
  by_cases h0 : pend = []
  · subst h0
    refine (endText_none base b o cs T evs w h.at).mono ?_
    rintro e w' ⟨rfl, rfl⟩
    obtain ⟨ev, p, v, hev, hin, hrow, hevs, hap⟩ := h.itx
    refine ⟨rfl, ev, p, v, ?_, Below.refl _ _⟩
    rw [set_same hev, set_same hin.cp, set_same hin.cv]
    exact h.at
  · refine (endText_g base b o cs T evs pend xs w h hT h0 hlen).mono ?_
    rintro e w' ⟨rfl, ev, h1, h2, -, -, -⟩
    refine ⟨rfl, ev, .pointer none, .slice none 0 0, ?_, h2⟩
    unfold flushE
    rw [if_neg h0]
    exact h1.at
set_option maxHeartbeats 1000000 in
theorem eventsW_ap (base b o : Nat) (cs : Array Value) (T : TypeId) (evs : List Ev) (pend : List UInt8) (w : World) (h : StreamAt w base b o cs T evs pend) (hT : StreamT T cs o) (hlen : evs.length ≤ 600000000) :
    Calls Tryz.prog 30 #[.pointer (some ⟨b, o, none⟩)] w fun e w' => ∃ ev xs, e = .returned ev ∧ w'.ownsRow base 60 4 ev (flushE (evs, pend)).length xs ∧ EvsAt w' base xs (flushE (evs, pend)) ∧ Below base w w' ∧ Apart xs := by
  have hend := endTextW_any base b o cs T evs pend w h hT hlen
  have HE := hid hend
  clear hend
  go_enter Tryz.func30, Tryz.ntmps30
  go_wp2_with fail
  refine HE.out.mono ?_
  rintro e w1 ⟨rfl, e1, p1, v1, hs, hbel⟩
  obtain ⟨ev, p, v, xs, hev, hin, hrow, hevs, hap⟩ := hs.it
  have c := cell_at hin.at_ hev
  clear HE hin hev
  go_wp2
  go_ret
  exact ⟨_, _, rfl, hrow, hevs, hbel, hap⟩
theorem loop_start (w W : World) (d : Nat) (es : List EvP) (hK : KindsTab w) (hN : NestTab w) (hW : W = (w.alloc (.cells #[.int .i64 d, .slice none 0 0, .slice none 0 0] 117)).alloc (.cells #[.slice none 0 0, .pointer none, .slice none 0 0] 69)) : BalLoop w W d es 0 := by
  subst hW
  have hb : Below w.heap.size w ((w.alloc (.cells #[.int .i64 d, .slice none 0 0, .slice none 0 0] 117)).alloc (.cells #[.slice none 0 0, .pointer none, .slice none 0 0] 69)) := ((Below.refl _ _).alloc (Nat.le_refl _) _).alloc (by simp) _
  refine ⟨[], .slice none 0 0, .slice none 0 0, [], [], w.heap.size, .slice none 0 0, .pointer none, .slice none 0 0, [], [], [], [], ⟨⟨Nat.le_refl _, ?_, World.ownsRow_nil _ _ _ _, MadeE.nil _ _⟩, hb, hK, hN, Nat.le_refl _, hb.size⟩, StrX.mk ⟨?_, by omega, rfl, rfl, .inl rfl, ⟨rfl, .inl ⟨rfl, rfl⟩⟩, fun e => by cases e⟩ (World.ownsRow_nil _ _ _ _) trivial trivial, Nat.zero_le _, rfl, rfl, by simp, by simp [txtN]⟩
  · exact (Go.Lib.alloc_old _ _ _ (by simp)).trans (heap_alloc_new w _)
  · have := heap_alloc_new (w.alloc (.cells #[.int .i64 d, .slice none 0 0, .slice none 0 0] 117)) (.cells #[.slice none 0 0, .pointer none, .slice none 0 0] 69)
    simpa using this

set_option maxHeartbeats 16000000 in
set_option maxRecDepth 100000 in
theorem balance_any (dz : Int) (evv : Value) (es : List EvP) (w : World) (he : EvsR w evv es) (hs : bulkE es ≤ 60000000) (hK : KindsTab w) (hN : NestTab w) :
    Calls Tryz.prog 8 #[.int .i64 dz, evv] w (MadeOut w (balC dz es)) := by
  obtain ⟨ep, ec, rfl, _, _, hcell⟩ := he
  obtain ⟨R, hR⟩ : ∃ R, balC dz es = R := ⟨_, rfl⟩
  rw [hR]
  have hlen := bulkE_len es
  by_cases h1 : dz < 1
  · have hfin : balC dz es = [] := by unfold balC; rw [if_pos (.inl h1)]
    rw [hR] at hfin
    subst hfin
    clear hR hcell
    go_enter Tryz.func8, Tryz.ntmps8
    go_wp2
    go_ret
    exact ⟨_, _, rfl, MadeE.nil _ _, Below.refl _ _⟩
  by_cases h2 : 256 < dz
  · have hfin : balC dz es = [] := by unfold balC; rw [if_pos (.inr h2)]
    rw [hR] at hfin
    subst hfin
    clear hR hcell
    go_enter Tryz.func8, Tryz.ntmps8
    go_wp2
    go_ret
    exact ⟨_, _, rfl, MadeE.nil _ _, Below.refl _ _⟩
  obtain ⟨d, rfl⟩ : ∃ d : Nat, dz = (d : Int) := ⟨dz.toNat, by omega⟩
  have hd : d ≤ 256 := by omega
  have hbal : balP d es = R := by
    unfold balC at hR
    rw [if_neg (fun h => h.elim h1 h2)] at hR
    exact hR
  have HR := hid hbal
  have HC := hid hcell
  have HL0 := fun W hW => hid (loop_start w W d es hK hN hW)
  clear hR hbal hcell hK hN
  go_enter Tryz.func8, Tryz.ntmps8
  go_wp2_with fail
  refine (newB_any _ _).mono ?_
  rintro e W1 ⟨rfl, hW1⟩
  go_upto_region 5 with fail
  obtain ⟨W2, hW2⟩ : ∃ W2, (w.alloc (.cells #[.int .i64 d, .slice none 0 0, .slice none 0 0] 117)).alloc (.cells #[.slice none 0 0, .pointer none, .slice none 0 0] 69) = W2 := ⟨_, rfl⟩
  have HL := HL0 W2 hW2.symm
  simp only [hW2]
  clear hW2 hW1 HL0
  go_wp2_with fail
  go_loopw [19] (fun iv wr => ∃ k : Nat, iv = .int .i64 k ∧ k ≤ es.length ∧ Hid (BalLoop w wr d es k)) (fun iv _ => es.length - (RowKit.intOf iv).toNat)
  case atStart => exact ⟨0, rfl, Nat.zero_le _, HL⟩
  case round =>
    clear HL
    obtain ⟨k, rfl, hk, HX⟩ := hrel
    obtain ⟨op, ov, outv, J, ys, ob, ev, p, v, evs, pend, xs, raw, hS, hX, hol, hraw, hput, hln, htx⟩ := HX.out
    have hbt := bulkE_take es k
    have hbw := hS.base
    have hbb := block_lt hX.parts.1.at_
    by_cases hkl : k < es.length
    · obtain ⟨e, he⟩ : ∃ e, es[k]? = some e := ⟨_, List.getElem?_eq_getElem hkl⟩
      obtain ⟨b, o, u, rfl, q0, q1, q2, q3, q4⟩ := HC.out k e he
      replace q0 := cell_low q0 hS.be (cell_block q0)
      replace q1 := cell_low q1 hS.be (cell_block q1)
      replace q2 := cell_low q2 hS.be (cell_block q2)
      replace q3 := cell_low q3 hS.be (cell_block q3)
      have hbe := bulkE_get he
      have hal := bulkA_len e.a
      obtain ⟨up, uc, rfl⟩ := q4.len
      obtain ⟨W3, hW3⟩ : ∃ W3, wr.alloc (.cells #[.int .i64 e.k, .string (bs e.n), .slice up e.a.length uc, .string (bs e.t)] 60) = W3 := ⟨_, rfl⟩
      have hb3 : Below wr.heap.size wr W3 := by rw [← hW3]; exact (Below.refl _ _).alloc (Nat.le_refl _) _
      have n3 : W3.heap[wr.heap.size]? = some (.cells #[.int .i64 e.k, .string (bs e.n), .slice up e.a.length uc, .string (bs e.t)] 60 (0, 0)) := by rw [← hW3]; exact heap_alloc_new _ _
      have hS3 := hS.below hb3
      have hX3 := hX.below hb3
      have htk := takeB_any w ob w.heap.size d op ov outv J ys e (.slice up e.a.length uc) W3 hS3 q4 (by omega) (by omega)
      have HT := hid htk
      have H3 := hid (And.intro hS3 (And.intro hX3 (And.intro hol (And.intro hraw (And.intro hput (And.intro hln (And.intro htx he)))))))
      have x0 := cell_at n3 (j := 0) rfl
      have x1 := cell_at n3 (j := 1) rfl
      have x2 := cell_at n3 (j := 2) rfl
      have x3 := cell_at n3 (j := 3) rfl
      clear htk hS3 hX3 hol hraw hput hln htx he q4 hS hX HX hb3 n3
      go_upto_region 8 with fail
      clear hW3 q0 q1 q2 q3
      go_wp2_with fail
      refine HT.out.mono ?_
      rintro e5 W4 ⟨ov4, outv4, ys4, rfl, hS4, hf4⟩
      obtain ⟨hS3, hX3, hol, hraw, hput, hln, htx, he⟩ := H3.out
      have hX4 := hX3.bal hf4 hS3.at_.bx hS3.at_.op
      obtain ⟨hl1, hl2⟩ := balS_len (e := e) hol
      have htt := balS_txt d op e
      have hn1 := bulkE_next he
      have hn2 := bulkE_take es (k + 1)
      have hevl : evs.length ≤ 2 * raw.length := by have h := putEs_len raw ([], []); rw [hput] at h; simpa using h
      have hpel : pend.length ≤ txtN raw := by have h := putEs_pend raw ([], []); rw [hput] at h; simpa using h
      have hpl := putL_any w.heap.size W3.heap.size (w.heap.size + 1) ev p v evs pend xs outv4 (balS d op e).2 ys4 W4 hX4 hS4.at_.out (fun g hg => (hX3.parts.2.1.lt g hg).2) (free_new hS4.at_.out hX3.parts.2.2.1 (Nat.le_refl _)) hS3.base (by omega)
        (fun j => by have h := putEs_pend ((balS d op e).2.take j) (evs, pend); have h2 := txtN_take (balS d op e).2 j; simp only at h; omega) (fun y hy => by have := txtN_mem hy; omega)
      have HP := hid hpl
      have hraw2 : rawB d [] es = (raw ++ (balS d op e).2) ++ rawB d (balS d op e).1 (es.drop (k + 1)) := by rw [hraw, rawB_next he, List.append_assoc]
      have hput2 : putEs ([], []) (raw ++ (balS d op e).2) = putEs (evs, pend) (balS d op e).2 := by rw [putEs_app, hput]
      have hln2 : (raw ++ (balS d op e).2).length + (balS d op e).1.length ≤ 4 * bulkE (es.take (k + 1)) := by rw [List.length_append, hn1]; omega
      have htx2 : txtN (raw ++ (balS d op e).2) ≤ bulkE (es.take (k + 1)) := by rw [txtN_app, hn1]; omega
      have H4 := hid (And.intro hS4 (And.intro hl1 (And.intro hraw2 (And.intro hput2 (And.intro hln2 htx2)))))
      obtain ⟨o4p, o4n, o4c, rfl⟩ : ∃ p n c, outv4 = .slice p n c := by obtain ⟨p, c, e⟩ := row_shape hS4.at_.out.row; exact ⟨p, _, c, e⟩
      clear hS3 hX3 hol hraw hput hln htx he hX4 hl1 hl2 htt hn1 hn2 hevl hpel hpl hraw2 hput2 hln2 htx2 hS4 hf4 H3 HT x0 x1 x2 x3
      go_wp2_with fail
      refine HP.out.mono ?_
      rintro e6 W5 ⟨rfl, hpa⟩
      obtain ⟨hS4, hl1, hraw2, hput2, hln2, htx2⟩ := H4.out
      have hS5 := hS4.put hpa rfl
      obtain ⟨⟨ev5, p5, v5, xs5, hX5, _, _⟩, _, _, _⟩ := hpa
      have HF : Hid (BalLoop w W5 d es (k + 1)) := ⟨_, _, _, _, _, _, ev5, p5, v5, _, _, xs5, _, hS5, hX5, hl1, hraw2, hput2, hln2, htx2⟩
      clear hS4 hl1 hraw2 hput2 hln2 htx2 hS5 hX5 H4 HP
      go_wp2_with fail
      go_roundw
      case rel => exact ⟨k + 1, rfl, by omega, HF⟩
      case measure => simp [RowKit.intOf]; omega
    · obtain rfl : k = es.length := by omega
      rw [List.drop_length] at hraw
      have hen := endAllB_any w ob w.heap.size d op ov outv J ys wr hS (by omega)
      have HE := hid hen
      have H3 := hid (And.intro hS (And.intro hX (And.intro hol (And.intro hraw (And.intro hput (And.intro hln htx))))))
      clear hen hS hX hol hraw hput hln htx HX
      go_wp2_with fail
      refine HE.out.mono ?_
      rintro e5 W4 ⟨ov4, outv4, ys4, rfl, hS4, hf4⟩
      obtain ⟨hS3, hX3, hol, hraw, hput, hln, htx⟩ := H3.out
      have hX4 := hX3.bal hf4 hS3.at_.bx hS3.at_.op
      have hcl := closeE_len 0 op
      have hct := txtN_close 0 op
      have hevl : evs.length ≤ 2 * raw.length := by have h := putEs_len raw ([], []); rw [hput] at h; simpa using h
      have hpel : pend.length ≤ txtN raw := by have h := putEs_pend raw ([], []); rw [hput] at h; simpa using h
      have hpl := putL_any w.heap.size wr.heap.size (w.heap.size + 1) ev p v evs pend xs outv4 (closeE 0 op) ys4 W4 hX4 hS4.at_.out (fun g hg => (hX3.parts.2.1.lt g hg).2) (free_new hS4.at_.out hX3.parts.2.2.1 (Nat.le_refl _)) hS3.base (by omega)
        (fun j => by have h := putEs_pend ((closeE 0 op).take j) (evs, pend); have h2 := txtN_take (closeE 0 op) j; simp only at h; omega) (fun y hy => by have := txtN_mem hy; omega)
      have HP := hid hpl
      have hfin : balP d es = flushE (putEs (evs, pend) (closeE 0 op)) := by
        unfold balP
        rw [hraw, putEs_app, hput]
        rfl
      have hel : (putEs (evs, pend) (closeE 0 op)).1.length ≤ 600000000 := by have h := putEs_len (closeE 0 op) (evs, pend); simp only at h; omega
      have H4 := hid (And.intro hS4 (And.intro hfin hel))
      obtain ⟨o4p, o4n, o4c, rfl⟩ : ∃ p n c, outv4 = .slice p n c := by obtain ⟨p, c, e⟩ := row_shape hS4.at_.out.row; exact ⟨p, _, c, e⟩
      clear hS3 hX3 hol hraw hput hln htx hX4 hcl hct hevl hpel hpl hfin hel hS4 hf4 H3 HE
      go_wp2_with fail
      refine HP.out.mono ?_
      rintro e6 W5 ⟨rfl, hpa⟩
      obtain ⟨hS4, hfin, hel⟩ := H4.out
      have hb5 := hS4.be.trans hpa.be
      obtain ⟨⟨ev5, p5, v5, xs5, hX5, _, _⟩, _, _, _⟩ := hpa
      have hev := eventsW_ap w.heap.size (w.heap.size + 1) 0 #[ev5, p5, v5] 69 _ _ W5 (StreamX.at hX5) (strT ev5 p5 v5) hel
      have hfin2 := HR.out.symm.trans hfin
      have HV := hid hev
      have HB5 := hid hb5
      obtain ⟨F, hF⟩ : ∃ F, flushE (putEs (evs, pend) (closeE 0 op)) = F := ⟨_, rfl⟩
      have hV2 := HV.out
      have hpe : flushE ((putEs (evs, pend) (closeE 0 op)).1, (putEs (evs, pend) (closeE 0 op)).2) = F := hF
      rw [hpe] at hV2
      rw [hF] at hfin2
      subst hfin2
      have HV2 := hid hV2
      clear hS4 hfin hel hev hX5 hb5 H4 HP HV hV2 hpe hF
      go_wp2_with fail
      refine HV2.out.mono ?_
      rintro e7 W6 ⟨rv, rxs, rfl, r1, r2, r3, r4⟩
      have HZ := hid (And.intro (MadeE.mk r1 r2 r4) (HB5.out.trans r3))
      clear r1 r2 r3 r4 HV2
      go_wp2_with fail
      go_ret
      exact ⟨_, _, rfl, HZ.out.1, HZ.out.2⟩
end Go.Proofs.YtcncbhbdpcpkeaaGreatDoor
