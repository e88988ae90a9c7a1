/-
  Parts of the walk, joined: RpT, ParLaw.
-/
import Derived.Test.YtcncbhbdpcpkeaaGreatDoorPJBT
import Derived.Test.YtcncbhbdpcpkeaaGreatDoorPJBW
import Derived.Test.YtcncbhbdpcpkeaaGreatDoorPJBV
import Derived.Test.YtcncbhbdpcpkeaaGreatDoorPJBN
import Derived.Test.YtcncbhbdpcpkeaaGreatDoorPJBK
/-
  The reference's Parse: its walk.
-/
namespace Go.Proofs.YtcncbhbdpcpkeaaGreatDoor
open Go.RowKit Go.Lib Own

theorem gTake_any (K : Nat → Array Value → Prop) (w0 : World) (b : Nat) (op : List (List UInt8)) (prs : List (EvP × Value)) (eat : Bool) (ov nv : Value) (tok : Ev) (av : Value) (sz : Int) (w : World) (h : GrS K w0 w b op prs eat ov nv)
    (ha : w.ownsRow w0.heap.size 122 2 av (evA tok).length (attrsV (evA tok))) (hn : ∀ g, av.ownBlock = some g → ∀ (k : Nat) y, prs[k]? = some y → y.2.ownBlock ≠ some g) (hl : prs.length ≤ 10000000) (ht : (evT tok).length ≤ 4000000)
    (hq : OpenQ op) (hal : (evA tok).length ≤ 100000000) :
    Calls Tryz.prog 61 #[.pointer (some ⟨b, 0, none⟩), .agg #[.int .i64 (evK tok : Nat), .string (bs (evN tok)), av, .string (bs (evT tok)), .int .i64 sz]] w fun e w' => GTake K w0 w' b ⟨op, prs.map Prod.fst, eat⟩ tok e := by
  have hav : ∃ p n c, av = .slice p n c := by obtain ⟨p, c, h⟩ := row_shape ha; exact ⟨p, _, c, h⟩
  cases tok with
  | text t => exact gTakeText K w0 b op prs eat ov nv t av sz w h hl ht hav
  | stop x => exact gTakeStop K w0 b op prs eat ov nv x av sz w h hav
  | start x al => exact gTakeStart K w0 b op prs eat ov nv x al av sz w h ha hn hl hq hal
theorem attrs_suf : ∀ (f : Nat) (l q : List UInt8) (al : List AttrP), attrsP f l = some (al, q) → q <:+ l
  | 0, _, _, _, h => by cases h
  | f + 1, l, q, al, h => by
    unfold attrsP at h
    split at h
    · cases h
      exact List.tail_suffix l
    · split at h
      · cases ha : attrP l.tail with
        | none => rw [ha] at h; cases h
        | some x =>
          obtain ⟨a, q'⟩ := x
          rw [ha] at h
          simp only at h
          obtain ⟨⟨al', q''⟩, hy, hx⟩ := Option.map_eq_some_iff.1 h
          simp only [Prod.mk.injEq] at hx
          obtain ⟨_, rfl⟩ := hx
          have h1 := attrs_suf f _ _ _ hy
          have h2 : q' <:+ l.tail := by rw [attrP_suf ha]; exact List.drop_suffix _ _
          exact (h1.trans h2).trans (List.tail_suffix l)
      · cases h
theorem tok_suf {l r : List UInt8} {t : Ev} (h : tokP l = some (t, r)) : r <:+ l := by
  unfold tokP at h
  split at h
  · split at h
    · split at h
      · cases h
      · cases h
        exact (List.drop_suffix _ _).trans (List.drop_suffix _ _)
    · split at h
      · cases h
      · obtain ⟨⟨al, q⟩, hy, hx⟩ := Option.map_eq_some_iff.1 h
        simp only [Prod.mk.injEq] at hx
        obtain ⟨_, rfl⟩ := hx
        exact ((attrs_suf _ _ _ _ hy).trans (List.drop_suffix _ _)).trans (List.tail_suffix l)
  · obtain ⟨v, hv, hx⟩ := Option.map_eq_some_iff.1 h
    simp only [Prod.mk.injEq] at hx
    obtain ⟨_, rfl⟩ := hx
    exact List.drop_suffix _ _
theorem tok_next {l r : List UInt8} {i : Nat} {t : Ev} (_hi : i ≤ l.length) (h : tokP (l.drop i) = some (t, r)) : l.drop (i + ((l.drop i).length - r.length)) = r := by
  have := List.suffix_iff_eq_drop.1 (tok_suf h)
  rw [← List.drop_drop]
  exact this.symm
theorem tok_fewA {l r : List UInt8} {t : Ev} (h : tokP l = some (t, r)) (_h0 : l ≠ []) : (evA t).length ≤ l.length := by
  unfold tokP at h
  split at h
  · split at h
    · split at h
      · cases h
      · cases h; exact Nat.zero_le _
    · split at h
      · cases h
      · obtain ⟨⟨al, q⟩, hy, hx⟩ := Option.map_eq_some_iff.1 h
        simp only [Prod.mk.injEq] at hx
        obtain ⟨rfl, _⟩ := hx
        have h1 := (attrs_lenP _ _ _ _ hy).2
        have h2 := bulkA_len al
        rw [List.length_drop, List.length_tail] at h1
        show al.length ≤ _
        omega
  · obtain ⟨v, hv, hx⟩ := Option.map_eq_some_iff.1 h
    simp only [Prod.mk.injEq] at hx
    obtain ⟨rfl, _⟩ := hx
    exact Nat.zero_le _
theorem evK_pos (t : Ev) : 1 ≤ evK t := by cases t <;> simp [evK]
/-- the parser at work, and what is left to read -/
structure RParseAt (W0 wr : World) (b : Nat) (r : List UInt8) (R : Nat × List EvP) (op : List (List UInt8)) (prs : List (EvP × Value)) (eat : Bool) (ov nv : Value) : Prop where
  pr : GrS (fun _ _ => False) W0 wr b op prs eat ov nv
  res : parseS ⟨op, prs.map Prod.fst, eat⟩ r = R
  len : prs.length + r.length ≤ 4000000
  oq : OpenQ op
theorem rparse_end {w W0 wr : World} {nv : Value} {prs : List (EvP × Value)} (hW0 : w.alloc (.cells #[.int .i64 0, .slice none 0 0] 31) = W0) (hb : Below W0.heap.size W0 wr) (hm0 : MadeN wr W0.heap.size nv prs) (v u : Value) :
    wr.heap[w.heap.size]? = some (.cells #[.int .i64 0, .slice none 0 0] 31 (0, 0)) ∧ ((wr.setCell ⟨w.heap.size, 0, none⟩ v).setCell ⟨w.heap.size, 1, none⟩ u).heap[w.heap.size]? = some (.cells #[v, u] 31 (0, 0)) ∧ Below w.heap.size w ((wr.setCell ⟨w.heap.size, 0, none⟩ v).setCell ⟨w.heap.size, 1, none⟩ u) ∧ MadeN ((wr.setCell ⟨w.heap.size, 0, none⟩ v).setCell ⟨w.heap.size, 1, none⟩ u) w.heap.size nv prs := by
  subst hW0
  have hsz : (w.alloc (.cells #[.int .i64 0, .slice none 0 0] 31)).heap.size = w.heap.size + 1 := by simp
  have hn := heap_alloc_new w (.cells #[.int .i64 0, .slice none 0 0] 31)
  have hres := (hb.block w.heap.size (by rw [hsz]; omega)).trans hn
  have hj1 := just_put (j := 0) hres v rfl
  have hj2 := just_put (j := 1) hj1.at_ u rfl
  have hj := hj1.andThen hj2
  have hlo : w.heap.size ≤ (w.alloc (.cells #[.int .i64 0, .slice none 0 0] 31)).heap.size := by rw [hsz]; omega
  refine ⟨hres, hj.at_, ?_, ?_⟩
  · exact (((Below.refl w.heap.size w).alloc (Nat.le_refl _) _).trans (hb.mono hlo)).trans (just_low hj (Nat.le_refl _))
  · have hm : MadeN wr w.heap.size nv prs := ⟨row_low hm0.row hlo, fun k x hx => row_low (hm0.own k x hx) hlo, hm0.ap⟩
    exact hm.keep (fun _ _ _ hr => row_just hr hres (by decide) hj.other) (fun _ _ _ hr => row_just hr hres (by decide) hj.other)
theorem rparse_no {w W0 wr : World} {l : List UInt8} {v : Nat} (hW0 : w.alloc (.cells #[.int .i64 0, .slice none 0 0] 31) = W0) (hb : Below W0.heap.size W0 wr) (hv : parseP l = (v, [])) :
    wr.heap[w.heap.size]? = some (.cells #[.int .i64 0, .slice none 0 0] 31 (0, 0)) ∧ ((wr.setCell ⟨w.heap.size, 0, none⟩ (.int .i64 v)).setCell ⟨w.heap.size, 1, none⟩ (.slice none 0 0)).heap[w.heap.size]? = some (.cells #[.int .i64 v, .slice none 0 0] 31 (0, 0)) ∧
    ParseOut w ((wr.setCell ⟨w.heap.size, 0, none⟩ (.int .i64 v)).setCell ⟨w.heap.size, 1, none⟩ (.slice none 0 0)) l (.returned (.agg #[.int .i64 v, .slice none 0 0])) := by
  have hp := rparse_end hW0 hb (MadeN.nil _ _) (.int .i64 v) (.slice none 0 0)
  exact ⟨hp.1, hp.2.1, ⟨_, [], by rw [hv], MadeN.nil _ _, by rw [hv]; rfl, hp.2.2.1⟩⟩
set_option maxHeartbeats 8000000 in
set_option maxRecDepth 100000 in
theorem rparse_any (l : List UInt8) (w : World) (hs : l.length ≤ 2000000) :
    Calls Tryz.prog 23 #[.string (bs l)] w fun e w' => ParseOut w w' l e := by
  obtain ⟨W0, hW0⟩ : ∃ W0, w.alloc (.cells #[.int .i64 0, .slice none 0 0] 31) = W0 := ⟨_, rfl⟩
  have hz0 : W0.heap.size = w.heap.size + 1 := by rw [← hW0]; simp
  obtain ⟨W1, hW1⟩ : ∃ W1, W0.alloc (.cells #[.slice none 0 0, .slice none 0 0, .bool false] 110) = W1 := ⟨_, rfl⟩
  have n1 : W1.heap[w.heap.size + 1]? = some (.cells #[.slice none 0 0, .slice none 0 0, .bool false] 110 (0, 0)) := by rw [← hW1, ← hz0]; exact heap_alloc_new _ _
  have hb1 : Below W0.heap.size W0 W1 := by rw [← hW1]; exact (Below.refl _ _).alloc (Nat.le_refl _) _
  have hp1 : GrS (fun _ _ => False) W0 W1 (w.heap.size + 1) [] [] false (.slice none 0 0) (.slice none 0 0) := ⟨n1, World.ownsRow_nil _ _ _ _, MadeN.nil _ _, by simp, hb1, by omega, fun _ _ h => h.elim⟩
  obtain ⟨R, hR⟩ : ∃ R, parseP l = R := ⟨_, rfl⟩
  have H1 : Hid (RParseAt W0 W1 (w.heap.size + 1) l R [] [] false (.slice none 0 0) (.slice none 0 0)) := hid ⟨hp1, hR, by simp; omega, OpenQ.nil⟩
  have HR := hid (fun (_ : True) => hR)
  have HW0 := hid (fun (_ : True) => And.intro hW0 hz0)
  have hsz := bs_size l
  have hex := fun i => mid_bs (bs l) i (bs l).size
  have HEX : Hid (∀ i, i ≤ l.length → (bs l).extract i (bs l).size = bs (l.drop i)) := hid (fun i hi => by
    rw [hex i, bs_data, bs_size, List.take_of_length_le (by rw [List.length_drop]; omega)])
  have HSZ := hid (fun (_ : True) => hsz)
  rw [← hW0] at hW1
  clear hex n1 hb1 hp1 hR hW0 hz0 hsz
  obtain ⟨S, hS⟩ : ∃ S, bs l = S := ⟨_, rfl⟩
  rw [hS] at HEX HSZ ⊢
  clear hS
  go_enter Tryz.func23, Tryz.ntmps23
  go_wp2_with fail
  go_loopw [4] (fun iv wr => ∃ i op prs eat ov nv, iv = .int .i64 (i : Nat) ∧ i ≤ l.length ∧ Hid (RParseAt W0 wr (w.heap.size + 1) (l.drop i) R op prs eat ov nv)) (fun iv _ => l.length - (RowKit.intOf iv).toNat)
  case atStart => exact ⟨0, [], [], false, _, _, rfl, Nat.zero_le _, H1⟩
  case round =>
    clear H1 hW1
    obtain ⟨i, op, prs, eat, ov, nv, rfl, hi, HP⟩ := hrel
    obtain ⟨np, nc, rfl⟩ := row_shape HP.out.pr.nodes.row
    obtain ⟨oq, oc, rfl⟩ := row_shape HP.out.pr.row
    have hszl := HSZ.out trivial
    by_cases hil : i < l.length
    case neg =>
      have hdr : l.drop i = [] := List.drop_of_length_le (by omega)
      have hr := HP.out.res
      rw [hdr] at hr
      have p1 : decide ((i : Int) < (S.size : Int)) = false := decide_eq_false (by omega)
      have p2 : decide (i < S.size) = false := decide_eq_false (by omega)
      have p3 : ¬ i < S.size := by omega
      have c0 := cell_at HP.out.pr.at_ (j := 0) rfl
      have c1 := cell_at HP.out.pr.at_ (j := 1) rfl
      by_cases ho : op = []
      · rw [parseS_nil1 _ ho] at hr
        have hpe := rparse_end (HW0.out trivial).1 HP.out.pr.be HP.out.pr.nodes (.int .i64 0) (.slice np prs.length nc)
        have hres := hpe.1
        have y0 := cell_at hres (j := 0) rfl
        have y1 := cell_at hres (j := 1) rfl
        have g0 := free_at hres 0
        have g1 := free_at hres 1
        have HZ : Hid (ParseOut w ((wr.setCell ⟨w.heap.size, 0, none⟩ (.int .i64 0)).setCell ⟨w.heap.size, 1, none⟩ (.slice np prs.length nc)) l (.returned (.agg #[.int .i64 0, .slice np prs.length nc]))) := hid ⟨_, prs, by rw [HR.out trivial, ← hr]; rfl, hpe.2.2.2, by rw [HR.out trivial, ← hr], hpe.2.2.1⟩
        have HY := hid hpe.2.1
        have d1 : decide ((op.length : Int) > 0) = false := decide_eq_false (by rw [ho]; simp)
        have d2 : decide ((0 : Int) < (op.length : Int)) = false := decide_eq_false (by rw [ho]; simp)
        have d3 : decide (0 < op.length) = false := decide_eq_false (by rw [ho]; simp)
        clear hpe hr HP hres ho hszl hdr hil
        go_wp2_with fail
        refine bodyPost_ret (v := .agg #[.int .i64 0, .slice np prs.length nc]) ?_ rfl HZ.out
        exact results_cell_row rfl _ _ _ _ _ _ _ rfl HY.out Tryz.underlying31 rfl (by kernel_rfl)
      · rw [parseS_nil2 _ ho] at hr
        have hpn := rparse_no (HW0.out trivial).1 HP.out.pr.be (l := l) ((HR.out trivial).trans hr.symm)
        have hres := hpn.1
        have y0 := cell_at hres (j := 0) rfl
        have y1 := cell_at hres (j := 1) rfl
        have g0 := free_at hres 0
        have g1 := free_at hres 1
        have HZ := hid hpn.2
        have hol : 0 < op.length := List.length_pos_iff.2 ho
        have d1 : decide ((op.length : Int) > 0) = true := decide_eq_true (by omega)
        have d2 : decide ((0 : Int) < (op.length : Int)) = true := decide_eq_true (by omega)
        have d3 : decide (0 < op.length) = true := decide_eq_true hol
        clear hpn hr HP hres ho hszl hdr hil
        go_wp2_with fail
        refine bodyPost_ret (v := .agg #[.int .i64 10, .slice none 0 0]) ?_ rfl HZ.out.2
        exact results_cell_row rfl _ _ _ _ _ _ _ rfl HZ.out.1 Tryz.underlying31 rfl (by kernel_rfl)
    case pos =>
      have p1 : decide ((i : Int) < (S.size : Int)) = true := decide_eq_true (by omega)
      have p2 : decide (i < S.size) = true := decide_eq_true (by omega)
      have p3 : i < S.size := by omega
      have p4 : i ≤ S.size := by omega
      have hx := HEX.out i hi
      obtain ⟨r, hr⟩ : ∃ r, l.drop i = r := ⟨_, rfl⟩
      have h0 : r ≠ [] := by rw [← hr]; intro e; have := congrArg List.length e; rw [List.length_drop] at this; simp only [List.length_nil] at this; omega
      have hrl : r.length = l.length - i := by rw [← hr, List.length_drop]
      rw [hr] at hx HP
      have hct := tokenAt_any r wr h0 (by omega)
      obtain ⟨X, hX⟩ : ∃ X, bs r = X := ⟨_, rfl⟩
      rw [hX] at hx hct
      have HC := hid hct
      have H0 := hid (fun (_ : True) => And.intro h0 (And.intro hr hrl))
      have HI := hid (And.intro hi hil)
      clear hct h0 hX hr hszl hrl hil hi
      go_wp2_with fail
      refine HC.out.mono ?_
      rintro e W2 ⟨av, rfl, hrow, hb2⟩
      obtain ⟨ap, ac, rfl⟩ := row_shape hrow
      go_upto_region 5 with fail
      obtain ⟨T, hT⟩ : ∃ T, tokV r = T := ⟨_, rfl⟩
      rw [hT] at hrow
      simp only [hT]
      obtain ⟨W3, hW3⟩ : ∃ W3, W2.alloc (.cells #[.int .i64 T.k, .string (bs T.n), .slice ap T.al.length ac, .string (bs T.t), .int .i64 T.sz] 112) = W3 := ⟨_, rfl⟩
      have hb3 : Below W2.heap.size W2 W3 := by rw [← hW3]; exact (Below.refl _ _).alloc (Nat.le_refl _) _
      have n3 : W3.heap[W2.heap.size]? = some (.cells #[.int .i64 T.k, .string (bs T.n), .slice ap T.al.length ac, .string (bs T.t), .int .i64 T.sz] 112 (0, 0)) := by rw [← hW3]; exact heap_alloc_new _ _
      simp only [hW3]
      clear hW3
      have hb23 := hb2.trans (hb3.mono hb2.size)
      have e0 := cell_at n3 (j := 0) rfl
      have e1 := cell_at n3 (j := 1) rfl
      have e2 := cell_at n3 (j := 2) rfl
      have e3 := cell_at n3 (j := 3) rfl
      have e4 := cell_at n3 (j := 4) rfl
      have hp3 := HP.out.pr.below hb23
      have hfr := HP.out.pr.nodes.fresh (u := .slice ap T.al.length ac) (fun g hg => (hrow.lt g hg).1)
      have hro3 := row_low (row_below hrow hb3) HP.out.pr.base
      have H3 := hid (And.intro hp3 (And.intro hfr (And.intro hro3 n3)))
      obtain ⟨EB, hEB⟩ : ∃ n, W2.heap.size = n := ⟨_, rfl⟩
      rw [hEB] at e0 e1 e2 e3 e4 H3
      simp only [hEB]
      clear hEB hb2 hb3 hb23 hp3 hfr hro3 hrow n3 HC
      cases htk : tokP r with
      | none =>
        have hv := tokV_none htk
        rw [hT] at hv
        have hr := HP.out.res
        rw [parseS_none _ (H0.out trivial).1 htk] at hr
        have hpn := rparse_no (HW0.out trivial).1 H3.out.1.be (l := l) ((HR.out trivial).trans hr.symm)
        have hres := hpn.1
        have y0 := cell_at hres (j := 0) rfl
        have y1 := cell_at hres (j := 1) rfl
        have g0 := free_at hres 0
        have g1 := free_at hres 1
        have HZ := hid hpn.2
        subst hv
        clear hr htk HP H3 hpn hres hT H0
        go_wp2_with fail
        refine bodyPost_ret (v := .agg #[.int .i64 1, .slice none 0 0]) ?_ rfl HZ.out.2
        exact results_cell_row rfl _ _ _ _ _ _ _ rfl HZ.out.1 Tryz.underlying31 rfl (by kernel_rfl)
      | some x =>
        obtain ⟨tok, r'⟩ := x
        have hv := tokV_some htk
        rw [hT] at hv
        subst hv
        simp only at e0 e1 e2 e3 e4 H3 ⊢
        have htl := tok_len htk (H0.out trivial).1
        have hln := HP.out.len
        have hta := gTake_any _ W0 (w.heap.size + 1) op prs eat _ _ tok _ ((r.length - r'.length : Nat) : Int) W3 (H3.out.1.more H3.out.2.2.2) H3.out.2.2.1 H3.out.2.1 (by omega) (by have := tok_evT htk; omega) HP.out.oq (by have := tok_fewA htk (H0.out trivial).1; omega)
        have HT := hid hta
        have hr := HP.out.res
        rw [parseS_some _ (H0.out trivial).1 htk] at hr
        have hfw := step_few ⟨op, prs.map Prod.fst, eat⟩ tok
        have hoq := fun h => OpenQ.step (s := ⟨op, prs.map Prod.fst, eat⟩) (tok := tok) HP.out.oq h
        have hnx := tok_next (l := l) (i := i) HI.out.1 (by rw [(H0.out trivial).2.1]; exact htk)
        rw [(H0.out trivial).2.1] at hnx
        have HS := hid (And.intro hr (And.intro hfw (And.intro htl (And.intro hln (And.intro hoq hnx)))))
        have hk1 := evK_pos tok
        have k1 : (((evK tok : Nat) : Int) == 0) = false := beq_eq_false_iff_ne.2 (by omega)
        obtain ⟨KK, hKK⟩ : ∃ KK, ((evK tok : Nat) : Int) = KK := ⟨_, rfl⟩
        obtain ⟨BN, hBN⟩ : ∃ BN, bs (evN tok) = BN := ⟨_, rfl⟩
        obtain ⟨BT, hBT⟩ : ∃ BT, bs (evT tok) = BT := ⟨_, rfl⟩
        obtain ⟨AL, hAL⟩ : ∃ AL, (evA tok).length = AL := ⟨_, rfl⟩
        obtain ⟨SZ, hSZ⟩ : ∃ SZ, r.length - r'.length = SZ := ⟨_, rfl⟩
        rw [hKK] at e0 k1
        rw [hBN] at e1
        rw [hAL] at e2
        rw [hBT] at e3
        rw [hSZ] at e4
        rw [hKK, hBN, hAL, hBT, hSZ] at HT
        have HSZ2 := hid (fun (_ : True) => hSZ)
        have hsb : SZ ≤ 4000000 := by have := HP.out.len; omega
        clear hta hr hfw htl hln htk H3 HP hoq hnx hk1 hKK hBN hBT hAL hSZ hT
        go_wp2_with fail
        refine HT.out.mono ?_
        rintro e W4 ⟨rfl, hst, hbe, hkp⟩
        have n4 := hkp EB _ (.inr ⟨rfl, rfl⟩)
        have f4 := cell_at n4 (j := 4) rfl
        have HST := hid hst
        have HBE := hid hbe
        clear hst hbe hkp n4 HT e0 e1 e2 e3 e4
        obtain ⟨V, hV⟩ : ∃ V, (stepP ⟨op, prs.map Prod.fst, eat⟩ tok).1 = V := ⟨_, rfl⟩
        have HV := hid (fun (_ : True) => hV)
        simp only [hV]
        clear hV
        by_cases hv : V = 0
        · obtain ⟨prs', ov', nv', hp', hns⟩ := HST.out ((HV.out trivial).trans hv)
          have hr := HS.out.1
          rw [if_pos ((HV.out trivial).trans hv)] at hr
          have hfw := HS.out.2.1
          have hlen := congrArg List.length hns
          rw [List.length_map] at hlen
          have hfw2 : prs'.length ≤ prs.length + 1 := by
            have h := hfw
            rw [← hlen] at h
            simpa using h
          have hii : i + SZ ≤ l.length := by
            have h1 := (H0.out trivial).2.2
            have h2 := HSZ2.out trivial
            have h3 := HI.out.1
            omega
          have HNX : Hid (RParseAt W0 W4 (w.heap.size + 1) (l.drop (i + SZ)) R _ prs' _ ov' nv') := hid ⟨hp'.less (fun k c h => h.elim), by
            have h6 := HS.out.2.2.2.2.2
            rw [HSZ2.out trivial] at h6
            rw [h6, hns]
            exact hr, by
            have h1 := HS.out.2.2.1
            have h2 := HS.out.2.2.2.1
            have h6 := HS.out.2.2.2.2.2
            rw [HSZ2.out trivial] at h6
            rw [h6]
            omega, HS.out.2.2.2.2.1 ((HV.out trivial).trans hv)⟩
          have hsp : 1 ≤ SZ := by
            have h1 := HS.out.2.2.1
            have h2 := HSZ2.out trivial
            omega
          have hilt := HI.out.2
          subst hv
          clear hr hfw hfw2 HS HST HV HBE hp' hns hlen HSZ2
          have wi : IntKind.i64.wrap ((i : Int) + (SZ : Int)) = ((i + SZ : Nat) : Int) := by rw [IntKind.wrap_i64]; omega
          go_wp2_with fail
          go_roundw
          case rel => first | exact ⟨i + SZ, _, _, _, _, _, rfl, hii, HNX⟩ | ((repeat apply Exists.intro); exact ⟨⟨i + SZ, _, _, _, _, _, rfl, hii, HNX⟩, rfl⟩)
          case measure => simp [RowKit.intOf]; omega
        · have hr := HS.out.1
          rw [if_neg (fun e => hv ((HV.out trivial).symm.trans e)), HV.out trivial] at hr
          have hpn := rparse_no (HW0.out trivial).1 HBE.out (l := l) ((HR.out trivial).trans hr.symm)
          have hres := hpn.1
          have y0 := cell_at hres (j := 0) rfl
          have y1 := cell_at hres (j := 1) rfl
          have g0 := free_at hres 0
          have g1 := free_at hres 1
          have HZ := hid hpn.2
          have q1 : ((V : Int) == 0) = false := beq_eq_false_iff_ne.2 (by omega)
          have q2 : ((V : Int) != 0) = true := by rw [bne_iff_ne]; omega
          clear hr HS HST HV HBE hpn hres hv
          go_wp2_with fail
          refine bodyPost_ret (v := .agg #[.int .i64 V, .slice none 0 0]) ?_ rfl HZ.out.2
          exact results_cell_row rfl _ _ _ _ _ _ _ rfl HZ.out.1 Tryz.underlying31 rfl (by kernel_rfl)
end Go.Proofs.YtcncbhbdpcpkeaaGreatDoor

/-
  The law LawParse: its walk.
-/
namespace Go.Proofs.YtcncbhbdpcpkeaaGreatDoor
open Go.RowKit Go.Lib Own

theorem tok_bulk {l r : List UInt8} {t : Ev} (h : tokP l = some (t, r)) (h0 : l ≠ []) : (evN t).length + (evT t).length + bulkA (evA t) + 1 + 2 * r.length ≤ 2 * l.length := by
  have hl := List.length_pos_iff.2 h0
  unfold tokP at h
  split at h
  · split at h
    · split at h
      · cases h
      · rename_i h1
        have h2 : ((l.drop 2).drop (wordN [] (l.drop 2))).head? = some 62 := Classical.byContradiction fun e => h1 (.inr e)
        have h3 : (l.drop 2).drop (wordN [] (l.drop 2)) ≠ [] := by intro e; rw [e] at h2; cases h2
        have h4 := List.length_pos_iff.2 h3
        cases h
        simp only [List.length_drop] at h4
        show ((l.drop 2).take (wordN [] (l.drop 2))).length + 0 + 0 + 1 + 2 * _ ≤ _
        simp only [List.length_drop, List.length_take]
        omega
    · split at h
      · cases h
      · rename_i h1
        obtain ⟨⟨al, q⟩, hy, hx⟩ := Option.map_eq_some_iff.1 h
        simp only [Prod.mk.injEq] at hx
        obtain ⟨rfl, rfl⟩ := hx
        have h3 := (attrs_lenP _ _ _ _ hy).2
        have h4 := wordN_le [] l.tail
        have h5 := (attrs_lenP _ _ _ _ hy).1
        rw [List.length_drop, List.length_tail] at h3 h5
        show (l.tail.take (wordN [] l.tail)).length + 0 + bulkA al + 1 + 2 * q.length ≤ _
        rw [List.length_take, List.length_tail]
        omega
  · rename_i h1
    obtain ⟨v, hv, hx⟩ := Option.map_eq_some_iff.1 h
    simp only [Prod.mk.injEq] at hx
    obtain ⟨rfl, rfl⟩ := hx
    have h2 := (decP_len _ _ _ (Nat.le_refl _) hv).1
    have h3 := takeWhile_len noLt l
    have h4 := tok_len (l := l) (t := .text v) (r := l.drop (l.takeWhile noLt).length) (by unfold tokP; rw [if_neg h1, hv]; rfl) h0
    rw [List.length_drop] at h4
    show 0 + v.length + 0 + 1 + 2 * _ ≤ _
    rw [List.length_drop]
    omega
theorem bulkE_snoc (ns : List EvP) (e : EvP) : bulkE (ns ++ [e]) = bulkE ns + (e.n.length + e.t.length + bulkA e.a + 1) := by
  unfold bulkE
  rw [List.map_append, List.sum_append]
  simp
theorem eaten_len (eat : Bool) (t : List UInt8) : (eaten eat t).length ≤ t.length := by
  unfold eaten
  split
  · rw [List.length_tail]; omega
  · exact Nat.le_refl _
theorem step_bulk (s : PS) (t : Ev) : bulkE (stepP s t).2.ns ≤ bulkE s.ns + ((evN t).length + (evT t).length + bulkA (evA t) + 1) := by
  cases t with
  | text t =>
    have h1 := eaten_len s.eat t
    unfold stepP
    dsimp only
    split
    · exact Nat.le_add_right _ _
    · split
      · exact Nat.le_add_right _ _
      · show bulkE (s.ns ++ [_]) ≤ _
        rw [bulkE_snoc]
        show _ + (0 + (eaten s.eat t).length + 0 + 1) ≤ _ + (0 + t.length + 0 + 1)
        omega
  | stop x =>
    unfold stepP
    dsimp only
    split
    · exact Nat.le_add_right _ _
    · split <;> exact Nat.le_add_right _ _
  | start x al =>
    unfold stepP
    dsimp only
    split
    · exact Nat.le_add_right _ _
    · split
      · exact Nat.le_add_right _ _
      · show bulkE (s.ns ++ [_]) ≤ _
        rw [bulkE_snoc]
        exact Nat.le_refl _
theorem parse_bulk : ∀ (n : Nat) (l : List UInt8) (s : PS), l.length ≤ n → bulkE (parseS s l).2 ≤ bulkE s.ns + 2 * l.length
  | 0, l, s, h => by
    have : l = [] := List.eq_nil_of_length_eq_zero (by omega)
    subst this
    rw [parseS_nil]
    split
    · exact Nat.le_add_right _ _
    · exact Nat.zero_le _
  | n + 1, l, s, h => by
    by_cases h0 : l = []
    · subst h0
      rw [parseS_nil]
      split
      · exact Nat.le_add_right _ _
      · exact Nat.zero_le _
    · cases ht : tokP l with
      | none => rw [parseS_none s h0 ht]; exact Nat.zero_le _
      | some x =>
        obtain ⟨t, r⟩ := x
        rw [parseS_some s h0 ht]
        split
        · have h1 := tok_len ht h0
          have h2 := parse_bulk n r (stepP s t).2 (by omega)
          have h3 := step_bulk s t
          have h4 := tok_bulk ht h0
          omega
        · exact Nat.zero_le _
theorem parse_bulk0 (l : List UInt8) : bulkE (parseP l).2 ≤ 2 * l.length := by
  have h := parse_bulk _ l ⟨[], [], false⟩ (Nat.le_refl _)
  have h2 : bulkE ([] : List EvP) = 0 := rfl
  simp only [h2] at h
  show bulkE (parseS ⟨[], [], false⟩ l).2 ≤ _
  omega
/-- nodes made later stay where only the blocks of others are written into -/
theorem MadeN.stays {W W' : World} {B : Nat} {v : Value} {prs : List (EvP × Value)} {vs : List Value} (h : MadeN W B v prs) (hk : KeepV vs W W') (hv : ∀ u ∈ vs, ∀ g, u.ownBlock = some g → g < B) : MadeN W' B v prs :=
  h.keep (fun _ _ _ hr => row_of_block hr (fun g hg => hk g (hr.lt g hg).2 (fun u hu e => by have := hv u hu g e; have := (hr.lt g hg).1; omega)))
    (fun _ _ _ hr => row_of_block hr (fun g hg => hk g (hr.lt g hg).2 (fun u hu e => by have := hv u hu g e; have := (hr.lt g hg).1; omega)))
set_option maxHeartbeats 16000000 in
set_option maxRecDepth 100000 in
theorem lawParse_walk (l : List UInt8) (mv : Value) (ms : List (List UInt8)) (m : Int) (w : World) (hs : l.length ≤ 1100000) (hM : Words w mv ms) (hm : ms.length ≤ 2000000) (hK : KindsTab w) (hP : PowB w.heap.size w) (hR : MRefTab w)
    (hmx : w.cell? ⟨4, 0, none⟩ = some (.int .i64 m)) :
    Calls Tryz.prog 5 #[.string (bs l), mv] w fun e w' => e = .returned (.bool true) ∧ Below w.heap.size w w' := by
  obtain ⟨mp, mn, mc, rfl⟩ := hM.shape
  obtain ⟨hmn, hwa⟩ := words_at hM
  have hbk := parse_bulk0 l
  have hbl := bulkE_len (parseP l).2
  have hba : ∀ e ∈ (parseP l).2, e.a.length ≤ 5000000 := fun e he => by
    obtain ⟨k, hk⟩ := List.getElem?_of_mem he
    have h1 := bulkE_get hk
    have h2 := bulkA_len e.a
    omega
  have hr1 := fun W (hW : Below w.heap.size w W) => parse_any l m W (by omega) (hR.below hW) (cell_low hmx hW (cell_block hmx)) (hK.below hW)
  have hr2 := fun W => rparse_any l W (by omega)
  have hr3 := fun (W : World) (hW : Below w.heap.size w W) gv dv prs (m1 : MadeN W w.heap.size gv prs) (hpr : prs.map Prod.fst = (parseP l).2) (m2 : EvsR W dv (parseP l).2) =>
    freshV_any w.heap.size gv dv prs mp mc (ms.map bs) W m1 (by rw [hpr]; exact m2) (by have := congrArg List.length hpr; rw [List.length_map] at this; omega) (fun x hx => hba x.1 (by rw [← hpr]; exact List.mem_map_of_mem hx)) hW.size (by rw [List.length_map]; omega) (hwa.below hW) (hP.below hW)
  simp only [List.length_map, ← hmn] at hr3
  have hr4 := fun W (hW : Below w.heap.size w W) dv (hx : EvsR W dv (parseP l).2) => serialize_any dv (parseP l).2 m W hx (by omega) (cell_low hmx hW (cell_block hmx)) (hK.below hW)
  have hr6 := fun W v1 v2 (h1 : EvsR W v1 (parseP l).2) (h2 : EvsR W v2 (parseP l).2) => sameNodesR_any v1 v2 (parseP l).2 W h1 h2
  have hback : (parseP l).1 = 0 → serP (parseP l).2 = serL (parseP l).2 ∧ parseP (serL (parseP l).2) = (0, (parseP l).2) := fun h => by
    have := parse_back (l := l) (N := (parseP l).2) (by rw [← h])
    exact ⟨by unfold serP; rw [if_pos this.1], this.2⟩
  have hsl : (serL (parseP l).2).length ≤ 80000000 := by
    have := tree_len (parseP l).2 [] false
    have h0 : opB [] = 0 := rfl
    unfold serL
    omega
  have hr5 := fun W (hW : Below w.heap.size w W) => parse_any (serL (parseP l).2) m W hsl (hR.below hW) (cell_low hmx hW (cell_block hmx)) (hK.below hW)
  obtain ⟨V, hV⟩ : ∃ V, (parseP l).1 = V := ⟨_, rfl⟩
  obtain ⟨F, hF⟩ : ∃ F, (parseP l).2 = F := ⟨_, rfl⟩
  have hpo : ∀ w w' e, ParseOut w w' l e → ∃ nv prs, e = .returned (.agg #[.int .i64 V, nv]) ∧ MadeN w' w.heap.size nv prs ∧ prs.map Prod.fst = F ∧ Below w.heap.size w w' := fun w w' e h => by
    have := h.it
    rw [hV, hF] at this
    exact this
  rw [hV] at hback
  rw [hF] at hback hr3 hr4 hr5 hr6 hsl
  have HPO := hid hpo
  have HBK := hid hback
  have H1 := hid hr1
  have H2 := hid hr2
  have H3 := hid hr3
  have H4 := hid hr4
  have H5 := hid hr5
  have H6 := hid hr6
  clear hs hM hm hK hP hR hmx hmn hwa hbk hbl hba hr1 hr2 hr3 hr4 hr5 hr6 hback hsl hpo hV hF
  obtain ⟨S, hS⟩ : ∃ S, bs l = S := ⟨_, rfl⟩
  rw [hS] at H1 H2 ⊢
  clear hS
  go_enter Tryz.func5, Tryz.ntmps5
  go_wp2_with fail
  refine (H1.out _ (Below.refl _ _)).mono ?_
  rintro e w1 ho1
  obtain ⟨gv, prs, rfl, mg, hpr, hb1⟩ := HPO.out _ _ _ ho1
  obtain ⟨gp, gc, rfl⟩ := row_shape mg.row
  clear ho1
  go_upto_region 2 with fail
  obtain ⟨W2, hW2⟩ : ∃ W2, w1.alloc (.cells #[.int .i64 V, .slice gp prs.length gc] 31) = W2 := ⟨_, rfl⟩
  have hb2 : Below w1.heap.size w1 W2 := by rw [← hW2]; exact (Below.refl _ _).alloc (Nat.le_refl _) _
  have n2 : W2.heap[w1.heap.size]? = some (.cells #[.int .i64 V, .slice gp prs.length gc] 31 (0, 0)) := by rw [← hW2]; exact heap_alloc_new _ _
  simp only [hW2]
  clear hW2
  have hs2 := hb2.size
  have hlt : ∀ u ∈ prs.map Prod.snd, ∀ g, u.ownBlock = some g → g < w1.heap.size := fun u hu g hg => by
    obtain ⟨k, hk⟩ := List.getElem?_of_mem hu
    rw [List.getElem?_map] at hk
    obtain ⟨x, hx, rfl⟩ := Option.map_eq_some_iff.1 hk
    exact ((mg.own k x hx).lt g hg).2
  have HK2 := hid (And.intro (hb1.trans (hb2.mono hb1.size)) (And.intro (mg.below hb2) (And.intro n2 (And.intro hlt hs2))))
  have HPR := hid hpr
  obtain ⟨B1, hB1⟩ : ∃ B, w1.heap.size = B := ⟨_, rfl⟩
  rw [hB1] at HK2
  simp only [hB1]
  clear hb1 hb2 n2 mg hs2 hlt hpr hB1
  go_wp2_with fail
  refine (H2.out _).mono ?_
  rintro e w3 ho3
  obtain ⟨dv, prs2, rfl, md, hpr2, hb3⟩ := HPO.out _ _ _ ho3
  obtain ⟨dp, dc, rfl⟩ := row_shape md.row
  clear ho3
  go_upto_region 3 with fail
  obtain ⟨W4, hW4⟩ : ∃ W4, w3.alloc (.cells #[.int .i64 V, .slice dp prs2.length dc] 31) = W4 := ⟨_, rfl⟩
  have hb4 : Below w3.heap.size w3 W4 := by rw [← hW4]; exact (Below.refl _ _).alloc (Nat.le_refl _) _
  have n4 : W4.heap[w3.heap.size]? = some (.cells #[.int .i64 V, .slice dp prs2.length dc] 31 (0, 0)) := by rw [← hW4]; exact heap_alloc_new _ _
  simp only [hW4]
  clear hW4
  obtain ⟨B3, hB3⟩ : ∃ B, w3.heap.size = B := ⟨_, rfl⟩
  have hb34 := hb3.trans (hb4.mono hb3.size)
  have n24 := (hb34.block B1 (block_lt HK2.out.2.2.1)).trans HK2.out.2.2.1
  have md4 := md.below hb4
  have hs3 := hb3.size
  rw [hB3] at n4 hs3
  have HK4 := hid (And.intro (HK2.out.1.trans (hb34.mono HK2.out.1.size)) (And.intro (HK2.out.2.1.below hb34) (And.intro n24 (And.intro n4 (And.intro md4 (And.intro HK2.out.2.2.2.1 (And.intro HK2.out.2.2.2.2 hs3)))))))
  simp only [hB3]
  have HPR2 := hid hpr2
  have y0 := cell_at n24 (j := 0) rfl
  have y1 := cell_at n24 (j := 1) rfl
  have z0 := cell_at n4 (j := 0) rfl
  have z1 := cell_at n4 (j := 1) rfl
  have HF := hid (H3.out W4 HK4.out.1 _ (.slice dp prs2.length dc) prs HK4.out.2.1 HPR.out (by rw [← hpr2]; exact md4.evs))
  clear hb3 hb4 hb34 n24 n4 md md4 hs3 hpr2 hB3 HK2
  go_wp2_with fail
  refine HF.out.mono ?_
  rintro e W5 ⟨rfl, hb5, hkv⟩
  have hbase := HK4.out.1.size
  have n5 := (hkv B3 (block_lt HK4.out.2.2.2.1) (fun u hu e => by
    have h1 := HK4.out.2.2.2.2.2.1 u hu _ e
    have h2 := HK4.out.2.2.2.2.2.2
    omega)).trans HK4.out.2.2.2.1
  have md5 := HK4.out.2.2.2.2.1.stays hkv (fun u hu g e => by
    have h1 := HK4.out.2.2.2.2.2.1 u hu _ e
    have h2 := HK4.out.2.2.2.2.2.2
    omega)
  have hev5 := md5.evs
  rw [HPR2.out] at hev5
  have HK5 := hid (And.intro (HK4.out.1.trans hb5) (And.intro n5 hev5))
  have z0 := cell_at n5 (j := 0) rfl
  have z1 := cell_at n5 (j := 1) rfl
  clear hb5 hkv n5 md5 hev5 HF HK4 hbase y0 y1
  by_cases hv : V = 0
  case neg =>
    have q1 : ((V : Int) == 0) = false := beq_eq_false_iff_ne.2 (by omega)
    have q2 : ((V : Int) != 0) = true := by rw [bne_iff_ne]; omega
    have HZ := hid HK5.out.1
    clear HK5 H4 H5 H6 HBK hv
    go_wp2_with fail
    go_ret
    exact ⟨rfl, HZ.out⟩
  case pos =>
    subst hv
    have HB2 := hid (HBK.out rfl)
    have hse := H4.out _ HK5.out.1 _ HK5.out.2.2
    rw [HB2.out.1] at hse
    have HSE := hid hse
    clear HBK H4 hse
    go_wp2_with fail
    refine HSE.out.mono ?_
    rintro e w6 ⟨rfl, hb6⟩
    have HK6 := hid (And.intro (HK5.out.1.trans (hb6.mono HK5.out.1.size)) (And.intro ((hb6.block _ (block_lt HK5.out.2.1)).trans HK5.out.2.1) (HK5.out.2.2.below hb6)))
    clear hb6 HK5 HSE z0 z1
    go_wp2_with fail
    refine (H5.out _ HK6.out.1).mono ?_
    rintro e w7 ho7
    obtain ⟨av, prs3, rfl, ma, hpr3, hb7⟩ := ho7.it
    rw [HB2.out.2]
    rw [HB2.out.2] at hpr3
    obtain ⟨ap, ac, rfl⟩ := row_shape ma.row
    go_upto_region 9 with fail
    obtain ⟨W8, hW8⟩ : ∃ W8, w7.alloc (.cells #[.int .i64 0, .slice ap prs3.length ac] 31) = W8 := ⟨_, rfl⟩
    have hb8 : Below w7.heap.size w7 W8 := by rw [← hW8]; exact (Below.refl _ _).alloc (Nat.le_refl _) _
    have n8 : W8.heap[w7.heap.size]? = some (.cells #[.int .i64 0, .slice ap prs3.length ac] 31 (0, 0)) := by rw [← hW8]; exact heap_alloc_new _ _
    simp only [hW8]
    clear hW8
    have hb78 := hb7.trans (hb8.mono hb7.size)
    have n68 := (hb78.block _ (block_lt HK6.out.2.1)).trans HK6.out.2.1
    have hev3 := (ma.below hb8).evs
    rw [hpr3] at hev3
    have HS := hid (H6.out W8 _ _ hev3 (HK6.out.2.2.below hb78))
    have HZ := hid (HK6.out.1.trans (hb78.mono HK6.out.1.size))
    obtain ⟨B7, hB7⟩ : ∃ B, w7.heap.size = B := ⟨_, rfl⟩
    rw [hB7] at n8
    simp only [hB7]
    have x0 := cell_at n8 (j := 0) rfl
    have x1 := cell_at n8 (j := 1) rfl
    have z0 := cell_at n68 (j := 0) rfl
    have z1 := cell_at n68 (j := 1) rfl
    clear hb7 hb8 hb78 n8 n68 hev3 ma hpr3 HK6 H5 H6 HB2 hB7 ho7
    go_wp2_with fail
    refine HS.out.mono ?_
    rintro e w9 ⟨rfl, n9, rfl⟩
    go_wp2_with fail
    go_ret
    exact ⟨rfl, below_drewN HZ.out n9⟩
end Go.Proofs.YtcncbhbdpcpkeaaGreatDoor
