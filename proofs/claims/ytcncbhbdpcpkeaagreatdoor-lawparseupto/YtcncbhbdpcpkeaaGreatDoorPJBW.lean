/-
  Parts of the walk, joined: RpP.
-/
import Derived.Test.YtcncbhbdpcpkeaaGreatDoorPJBJ
import Derived.Test.YtcncbhbdpcpkeaaGreatDoorPJBU
import Derived.Test.YtcncbhbdpcpkeaaGreatDoorPJBR
import Derived.Test.YtcncbhbdpcpkeaaGreatDoorPJBI
/-
  The reference's take, of a text: its walk.
-/
namespace Go.Proofs.YtcncbhbdpcpkeaaGreatDoor
open Go.RowKit Go.Lib Own

theorem step_none {op : List (List UInt8)} {ns : List EvP} {eat : Bool} {t : List UInt8} (h : eaten eat t = []) : stepP ⟨op, ns, eat⟩ (.text t) = (0, ⟨op, ns, false⟩) := if_pos h
theorem step_fost {op : List (List UInt8)} {ns : List EvP} {eat : Bool} {t : List UInt8} (h : eaten eat t ≠ []) (h2 : (decide (innT op = 5 ∨ innT op = 6 ∨ innT op = 7) && !(eaten eat t).all wsP) = true) : (stepP ⟨op, ns, eat⟩ (.text t)).1 = 8 := by
  rw [Bool.and_eq_true, decide_eq_true_iff, Bool.not_eq_true'] at h2
  unfold stepP
  dsimp only
  rw [if_neg h, if_pos h2]
theorem step_text {op : List (List UInt8)} {ns : List EvP} {eat : Bool} {t : List UInt8} (h : eaten eat t ≠ []) (h2 : (decide (innT op = 5 ∨ innT op = 6 ∨ innT op = 7) && !(eaten eat t).all wsP) = false) : stepP ⟨op, ns, eat⟩ (.text t) = (0, ⟨op, ns ++ [⟨op.length, [], [], eaten eat t⟩], false⟩) := by
  unfold stepP
  dsimp only
  rw [if_neg h, if_neg]
  intro h3
  rw [Bool.and_eq_false_iff, decide_eq_false_iff_not, Bool.not_eq_false'] at h2
  rcases h2 with h2 | h2
  · exact h2 h3.1
  · rw [h2] at h3; exact absurd h3.2 (by decide)
/-- a text, its first newline gone if need be: the walk from there on -/
theorem eaten_cases (eat : Bool) (t : List UInt8) : (eat = false ∧ eaten eat t = t) ∨ (eat = true ∧ t = [] ∧ eaten eat t = t) ∨ (eat = true ∧ (∃ c r, t = c :: r ∧ c ≠ 10) ∧ eaten eat t = t) ∨ (eat = true ∧ ∃ r, t = 10 :: r ∧ eaten eat t = r) := by
  cases eat with
  | false => exact .inl ⟨rfl, if_neg (fun h => by cases h.1)⟩
  | true =>
    cases t with
    | nil => exact .inr (.inl ⟨rfl, rfl, rfl⟩)
    | cons c r =>
      by_cases h : c = 10
      · subst h; exact .inr (.inr (.inr ⟨rfl, r, rfl, if_pos ⟨rfl, rfl⟩⟩))
      · exact .inr (.inr (.inl ⟨rfl, ⟨c, r, rfl, h⟩, if_neg (fun q => h (Option.some.inj q.2))⟩))
set_option maxHeartbeats 16000000 in
set_option maxRecDepth 100000 in
theorem gTakeText (K : Nat → Array Value → Prop) (w0 : World) (b : Nat) (op : List (List UInt8)) (prs : List (EvP × Value)) (eat : Bool) (ov nv : Value) (t : List UInt8) (av : Value) (sz : Int) (w : World) (h : GrS K w0 w b op prs eat ov nv) (hl : prs.length ≤ 10000000) (ht : t.length ≤ 4000000) (hav : ∃ p n c, av = .slice p n c) :
    Calls Tryz.prog 61 #[.pointer (some ⟨b, 0, none⟩), .agg #[.int .i64 3, .string ⟨#[]⟩, av, .string (bs t), .int .i64 sz]] w fun e w' => GTake K w0 w' b ⟨op, prs.map Prod.fst, eat⟩ (.text t) e := by
  obtain ⟨ap, an, ac, rfl⟩ := hav
  obtain ⟨i0, hi, hz0, hz1, hz2⟩ := info_parts info_node
  obtain ⟨np, nc, rfl⟩ := row_shape h.nodes.row
  obtain ⟨oq, oc, rfl⟩ := row_shape h.row
  obtain ⟨W1, hW1⟩ : ∃ W1, w.alloc (.cells #[.int .i64 3, .string ⟨#[]⟩, .slice ap an ac, .string (bs t), .int .i64 sz] 112) = W1 := ⟨_, rfl⟩
  have hb1 : Below w.heap.size w W1 := by rw [← hW1]; exact (Below.refl _ _).alloc (Nat.le_refl _) _
  have n1 : W1.heap[w.heap.size]? = some (.cells #[.int .i64 3, .string ⟨#[]⟩, .slice ap an ac, .string (bs t), .int .i64 sz] 112 (0, 0)) := by rw [← hW1]; exact heap_alloc_new _ _
  have h1 := h.below hb1
  have hbE : w.heap.size ≠ b := fun e => by have := block_lt h.at_; omega
  have hop := h.few
  have p2 := cell_at h1.at_ (j := 2) rfl
  have pf2 := free_at h1.at_ 2
  obtain ⟨E, hE⟩ : ∃ E, w.heap.size = E := ⟨_, rfl⟩
  rw [hE] at n1 hbE
  have hj := just_put (j := 2) h1.at_ (.bool false) rfl
  have h2 := h1.flag false
  have n2 := (hj.other E hbE).trans n1
  have e0 := cell_at n2 (j := 0) rfl
  have e3 := cell_at n2 (j := 3) rfl
  have ef3 := free_at n2 3
  obtain ⟨T, hT⟩ : ∃ T, eaten eat t = T := ⟨_, rfl⟩
  -- behind the newline: the box holds T
  have hK2 : ∀ W : World, (W = W1.setCell ⟨b, 2, none⟩ (.bool false) ∧ T = t) ∨ W = (W1.setCell ⟨b, 2, none⟩ (.bool false)).setCell ⟨E, 3, none⟩ (.string (bs T)) → GrS (fun k c => K k c ∨ (k = E ∧ c = #[.int .i64 3, .string ⟨#[]⟩, .slice ap an ac, .string (bs T), .int .i64 sz])) w0 W b op prs false (.slice oq op.length oc) (.slice np prs.length nc) := by
    intro W hW
    rcases hW with ⟨rfl, e⟩ | rfl
    · exact h2.more (by rw [e]; exact n2)
    · have hj3 := just_put (j := 3) n2 (.string (bs T)) rfl
      have hlt := block_lt h.at_
      have hK : ∀ k c, K k c → k ≠ E := fun k c hk e => by have := block_lt (h.kp k c hk); omega
      have hne : ∀ v e s n xs, (W1.setCell ⟨b, 2, none⟩ (.bool false)).ownsRow w0.heap.size e s v n xs → e ≠ 112 → ((W1.setCell ⟨b, 2, none⟩ (.bool false)).setCell ⟨E, 3, none⟩ (.string (bs T))).ownsRow w0.heap.size e s v n xs := fun v e s n xs hr hne => row_just hr n2 (fun e => hne e.symm) hj3.other
      refine GrS.more ⟨(hj3.other b (fun e => hbE e.symm)).trans h2.at_, hne _ _ _ _ _ h2.row (by decide), h2.nodes.keep (fun _ _ _ hr => hne _ _ _ _ _ hr (by decide)) (fun _ _ _ hr => hne _ _ _ _ _ hr (by decide)), h2.few, h2.be.trans (just_low hj3 (by have := h.base; omega)), h2.lo, fun k c hk => (hj3.other k (hK k c hk)).trans (h2.kp k c hk)⟩ hj3.at_
  have HK2 := hid hK2
  have hfo := fun W (hW : Words W (.slice oq op.length oc) op) => foster_any (.slice oq op.length oc) op T W hW (by omega) (by rw [← hT]; unfold eaten; split <;> (try rw [List.length_tail]) <;> omega)
  obtain ⟨BT, hBT⟩ : ∃ BT, bs T = BT := ⟨_, rfl⟩
  obtain ⟨Bt, hBt⟩ : ∃ Bt, bs t = Bt := ⟨_, rfl⟩
  rw [hBT] at hfo
  have hne : (BT.toList == []) = decide (T = []) := by rw [← hBT, bs_toList, Bool.eq_iff_iff, beq_iff_eq, decide_eq_true_iff]
  have hnt : (Bt.toList != []) = decide (t ≠ []) := by rw [← hBt, bs_toList, Bool.eq_iff_iff, bne_iff_ne, decide_eq_true_iff]
  have hnt2 : (Bt.toList == []) = decide (t = []) := by rw [← hBt, bs_toList, Bool.eq_iff_iff, beq_iff_eq, decide_eq_true_iff]
  -- the ways to T
  have hway : (eat = false ∧ BT = Bt) ∨ (eat = true ∧ (Bt.toList != []) = false ∧ (Bt.toList == []) = true ∧ BT = Bt) ∨ (eat = true ∧ (Bt.toList != []) = true ∧ (Bt.toList == []) = false ∧ BT = Bt ∧ ∃ h : 0 < Bt.size, ∃ c : UInt8, Bt[0] = c ∧ ((c.toNat : Int) == 10) = false) ∨ (eat = true ∧ (Bt.toList != []) = true ∧ (Bt.toList == []) = false ∧ ∃ h : 0 < Bt.size, ∃ c : UInt8, Bt[0] = c ∧ ((c.toNat : Int) == 10) = true ∧ Bt.extract 1 Bt.size = BT) := by
    rcases eaten_cases eat t with ⟨rfl, e⟩ | ⟨rfl, rfl, e⟩ | ⟨rfl, ⟨c, r, rfl, hc⟩, e⟩ | ⟨rfl, r, rfl, e⟩
    · exact .inl ⟨rfl, by rw [← hBT, ← hBt, ← hT, e]⟩
    · exact .inr (.inl ⟨rfl, by rw [hnt]; rfl, by rw [hnt2]; rfl, by rw [← hBT, ← hBt, ← hT, e]⟩)
    · have hz : 0 < (bs (c :: r)).size := by rw [bs_size]; simp
      have hg := index_bs hz (show (c :: r)[0]? = some c from rfl)
      refine .inr (.inr (.inl ⟨rfl, by rw [hnt]; simp, by rw [hnt2]; simp, by rw [← hBT, ← hBt, ← hT, e], ?_⟩))
      subst hBt
      exact ⟨hz, c, hg, by rw [beq_eq_false_iff_ne]; intro e; exact hc (u8_ext (by show c.toNat = 10; omega))⟩
    · have hz : 0 < (bs (10 :: r)).size := by rw [bs_size]; simp
      have hg := index_bs hz (show (10 :: r : List UInt8)[0]? = some 10 from rfl)
      refine .inr (.inr (.inr ⟨rfl, by rw [hnt]; simp, by rw [hnt2]; simp, ?_⟩))
      subst hBt
      refine ⟨hz, 10, hg, rfl, ?_⟩
      rw [mid_bs, bs_data, ← hBT, ← hT, e, bs_size]
      simp
  have hr0 := @step_none op (prs.map Prod.fst) eat t
  have hr8 := @step_fost op (prs.map Prod.fst) eat t
  have hr1 := @step_text op (prs.map Prod.fst) eat t
  rw [hT] at hr0 hr8 hr1
  generalize (decide (innT op = 5 ∨ innT op = 6 ∨ innT op = 7) && !T.all wsP) = FB at hfo hr8 hr1
  have HFO := hid hfo
  have HS := hid (And.intro hr0 (And.intro hr8 hr1))
  have hTT : BT = Bt → T = t := fun e => by
    have := congrArg (fun s : ByteArray => s.data.toList) (hBT.trans (e.trans hBt.symm))
    exact this
  have HTB := hid (fun (_ : True) => hBT)
  have HNE := hid (fun (_ : True) => hne)
  obtain ⟨W2, hW2⟩ : ∃ W2, W1.setCell ⟨b, 2, none⟩ (.bool false) = W2 := ⟨_, rfl⟩
  rw [hW2] at e0 e3 ef3 hK2
  have hk1 := hK2 W2
  have hk3 := hK2 (W2.setCell ⟨E, 3, none⟩ (.string (bs T))) (.inr rfl)
  rw [hBT] at hk1 hk3
  rw [hBt] at hW1
  have HKK := hid (And.intro hk1 hk3)
  rw [hBt] at e3 ⊢
  have HTT := hid (fun (_ : True) => hTT)
  have HE := hid (fun (_ : True) => hE)
  clear hK2 HK2 hk1 hk3 hr0 hr8 hr1 hne hnt hnt2 hT hBT hBt n1 n2 hj h1 h2 h hfo hTT ht hb1
  rcases hway with ⟨rfl, hq⟩ | ⟨rfl, z1, z2, hq⟩ | ⟨rfl, z1, z2, hq, hz, c, hc, z3⟩ | ⟨rfl, z1, z2, hz, c, hc, z3, z4⟩
  case' inl =>
    have H2 := hid (HKK.out.1 (.inl ⟨rfl, HTT.out trivial hq⟩))
    subst hq
    clear HKK HTT
    go_enter Tryz.func61, Tryz.ntmps61
    go_upto_region 7 with fail
  case' inr.inl =>
    have H2 := hid (HKK.out.1 (.inl ⟨rfl, HTT.out trivial hq⟩))
    subst hq
    clear HKK HTT
    go_enter Tryz.func61, Tryz.ntmps61
    go_upto_region 7 with fail
    clear z1 z2
  case' inr.inr.inl =>
    have H2 := hid (HKK.out.1 (.inl ⟨rfl, HTT.out trivial hq⟩))
    subst hq
    clear HKK HTT
    go_enter Tryz.func61, Tryz.ntmps61
    go_upto_region 7 with fail
    clear z1 z2
  case' inr.inr.inr =>
    have H2 := hid HKK.out.2
    clear HKK HTT
    go_enter Tryz.func61, Tryz.ntmps61
    go_upto_region 7 with fail
    clear z1 z2
    generalize W2.setCell ⟨E, 3, none⟩ (.string BT) = W2 at H2 ⊢
  all_goals
    clear hW1 hW2 e0 e3 ef3 p2 pf2 HE hE
    have n2 := H2.out.kp E _ (.inr ⟨rfl, rfl⟩)
    have e3 := cell_at n2 (j := 3) rfl
    have c0 := cell_at H2.out.at_ (j := 0) rfl
    have c1 := cell_at H2.out.at_ (j := 1) rfl
    by_cases h0 : T = []
    case pos =>
      have hne := HNE.out trivial
      rw [decide_eq_true h0] at hne
      clear HNE
      have HZ := hid (GrS.yes (K := K) H2.out (fun k c hk => .inl hk) (HS.out.1 h0) rfl rfl rfl)
      clear n2 H2 HS HFO HTB h0
      go_wp2_with fail
      go_ret
      exact HZ.out
    case neg =>
      have hne := HNE.out trivial
      rw [decide_eq_false h0] at hne
      clear HNE
      have HWD := hid H2.out.words
      have H0 := hid h0
      clear n2 h0
      go_wp2_with fail
      go_quiet ((go_at_call 115; exact Calls.quiet_of_same (HFO.out _ (HWD.out.drewN _))))
      have H3 := hid (H2.out.below (below_drewN (Below.refl _ _) nq))
      clear H2 HFO HWD c0 c1 e3
      generalize World.drewN _ nq = W3 at H3 ⊢
      have n2 := H3.out.kp E _ (.inr ⟨rfl, rfl⟩)
      have e3 := cell_at n2 (j := 3) rfl
      have c0 := cell_at H3.out.at_ (j := 0) rfl
      have c1 := cell_at H3.out.at_ (j := 1) rfl
      have f1 := free_at H3.out.at_ 1
      cases FB with
      | true =>
        have HZ := hid (GrS.no (K := K) H3.out (fun k c hk => .inl hk) (HS.out.2.1 H0.out rfl) (by decide))
        clear n2 H3 HS HTB
        go_wp2_with fail
        go_ret
        exact HZ.out
      | false =>
        have hst := HS.out.2.2 H0.out rfl
        have hrow := H3.out.nodes.row
        have hb3 := H3.out.at_
        have hbs3 := block_lt hb3
        have hneb : (Value.slice np prs.length nc).ownBlock ≠ some b := row_ne hrow hb3 (by decide)
        have hbase := H3.out.base
        have HST := hid hst
        clear n2 hst HS
        go_wp2_with fail
        go_region_law (refine step_append_lies _ rfl (.tmp 49) (.tmp 58) 29 rfl w0.heap.size 38 i0 (.agg #[.int .i64 0, .string ⟨#[]⟩, .slice none 0 0, .string ⟨#[]⟩]) 4 64 Tryz.underlying29 hi hz0 hz1 hz2 rfl (by decide) (.slice np prs.length nc) prs.length (ecells prs) (by simp [Act.eval]) (by exact hrow.alloc _) ⟨_, 0, none⟩ 1 1 [.int .i64 op.length, .string ⟨#[]⟩, .slice none 0 0, .string BT] (by simp [Act.eval]) rfl (cells_newV _ _ _) (by simp [Value.oneCell']) (by omega) (by unfold maxLen; omega) (by omega) (by simp; omega) _ rfl ?_; rintro g cap w10 hrow10 hgrow10 - -; have hb10 : w10.heap[b]? = some (.cells #[.slice oq op.length oc, .slice np prs.length nc, .bool false] 110 (0, 0)) := ((hgrow10.block b (by simp; omega) (fun e => hneb e.symm)).trans (alloc_old _ _ b (by exact hbs3))).trans (by exact hb3); have ce10 := cell_at hb10 (j := 1) rfl; have fe10 := free_at hb10 1)
        all_goals
          have hpn := GrS.node (W := W3.drew) (x := (⟨op.length, [], [], T⟩, .slice none 0 0)) (H3.out.below (below_drewN (Below.refl _ _) 1)) (World.ownsRow_nil _ _ _ _) (fun g e => by cases e) hgrow10 (by rw [HTB.out trivial]; exact hrow10)
          have HZ := hid (GrS.yes (K := K) hpn (fun k c hk => .inl hk) HST.out rfl (by rw [List.map_append]; rfl) rfl)
          clear hpn hrow10 hgrow10 hb10 ce10 fe10 H3 HST
          go_wp2_with fail
          go_ret
          exact HZ.out
end Go.Proofs.YtcncbhbdpcpkeaaGreatDoor
