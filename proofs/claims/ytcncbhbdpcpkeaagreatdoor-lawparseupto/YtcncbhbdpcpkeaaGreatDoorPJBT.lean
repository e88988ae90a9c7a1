/-
  Parts of the walk, joined: RpR.
-/
import Derived.Test.YtcncbhbdpcpkeaaGreatDoorPJBS
import Derived.Test.YtcncbhbdpcpkeaaGreatDoorPJBN
import Derived.Test.YtcncbhbdpcpkeaaGreatDoorPJAX
import Derived.Test.YtcncbhbdpcpkeaaGreatDoorPJBQ
import Derived.Test.YtcncbhbdpcpkeaaGreatDoorPJAK
/-
  The reference's take, of a start tag: its walk.
-/
namespace Go.Proofs.YtcncbhbdpcpkeaaGreatDoor
open Go.RowKit Go.Lib Own

/-- what is open: known elements, not void; only the innermost may be a textarea; not too many -/
structure OpenQ (op : List (List UInt8)) : Prop where
  known : ∀ y ∈ op, elemL y ≠ none ∧ modX y ≠ 9
  last : ∀ y ∈ op.dropLast, modX y ≠ 3
  len : op.length ≤ 256
theorem OpenQ.nil : OpenQ [] := ⟨fun _ h => absurd h List.not_mem_nil, fun _ h => absurd h List.not_mem_nil, Nat.zero_le _⟩
theorem OpenQ.free {op : List (List UInt8)} (h : OpenQ op) (hm : modI op ≠ 3) : OpenP op := fun y hy => by
  refine ⟨(h.known y hy).1, (h.known y hy).2, ?_⟩
  rcases List.eq_nil_or_concat op with rfl | ⟨q, z, rfl⟩
  · exact absurd hy List.not_mem_nil
  · rw [List.concat_eq_append] at h hm hy
    rcases List.mem_append.1 hy with hy | hy
    · exact h.last y (by rw [List.dropLast_concat]; exact hy)
    · rw [List.mem_singleton.1 hy]
      unfold modI at hm
      rw [List.getLast?_append, List.getLast?_singleton] at hm
      exact hm
theorem OpenQ.drop {op : List (List UInt8)} (h : OpenQ op) : OpenQ op.dropLast :=
  ⟨fun y hy => h.known y (List.dropLast_subset _ hy), fun y hy => h.last y (List.dropLast_subset _ hy), by rw [List.length_dropLast]; have := h.len; omega⟩
theorem OpenQ.push {op : List (List UInt8)} {x : List UInt8} (h : OpenQ op) (hj : judgeP op x = 0) (h9 : modX x ≠ 9) : OpenQ (op ++ [x]) := by
  obtain ⟨k1, k2, k3⟩ := judge_known hj
  refine ⟨fun y hy => ?_, fun y hy => ?_, by rw [List.length_append, List.length_singleton]; omega⟩
  · rcases List.mem_append.1 hy with hy | hy
    · exact h.known y hy
    · rw [List.mem_singleton.1 hy]; exact ⟨k1, h9⟩
  · rw [List.dropLast_concat] at hy
    exact ((h.free k3) y hy).2.2
theorem OpenQ.step {s : PS} {tok : Ev} (h : OpenQ s.op) (h0 : (stepP s tok).1 = 0) : OpenQ (stepP s tok).2.op := by
  cases tok with
  | text t =>
    unfold stepP at h0 ⊢
    dsimp only at h0 ⊢
    split at h0
    · rename_i h1; rw [if_pos h1]; exact h
    · rename_i h1
      rw [if_neg h1]
      split at h0
      · cases h0
      · rename_i h2; rw [if_neg h2]; exact h
  | stop x =>
    unfold stepP at h0 ⊢
    dsimp only at h0 ⊢
    split at h0
    · rename_i h1; rw [if_pos h1]; exact h.drop
    · split at h0
      · cases h0
      · cases h0
  | start x al =>
    unfold stepP at h0 ⊢
    dsimp only at h0 ⊢
    split at h0
    · cases h0
    · rename_i h1
      rw [if_neg h1]
      split at h0
      · rename_i h2; exact absurd h0 h2
      · rename_i h2
        rw [if_neg h2]
        have hj : judgeP s.op x = 0 := Classical.byContradiction fun e => h2 e
        show OpenQ (if modX x = 9 then s.op else s.op ++ [x])
        split
        · exact h
        · rename_i h9; exact h.push hj h9
theorem step_twiceG {op : List (List UInt8)} {ns : List EvP} {eat : Bool} {x : List UInt8} {al : List AttrP} (h : (!decide ((al.map Prod.fst).Nodup)) = true) : (stepP ⟨op, ns, eat⟩ (.start x al)).1 = 2 := by
  rw [Bool.not_eq_true', decide_eq_false_iff_not] at h
  unfold stepP
  dsimp only
  rw [if_pos h]
theorem step_rej {op : List (List UInt8)} {ns : List EvP} {eat : Bool} {x : List UInt8} {al : List AttrP} {J : Nat} (h : (!decide ((al.map Prod.fst).Nodup)) = false) (hj : judgeP op x = J) (h0 : J ≠ 0) : (stepP ⟨op, ns, eat⟩ (.start x al)).1 = J := by
  rw [Bool.not_eq_false', decide_eq_true_iff] at h
  unfold stepP
  dsimp only
  rw [if_neg (fun q => q h), hj, if_pos h0]
theorem step_push {op : List (List UInt8)} {ns : List EvP} {eat : Bool} {x : List UInt8} {al : List AttrP} (h : (!decide ((al.map Prod.fst).Nodup)) = false) (hj : judgeP op x = 0) : stepP ⟨op, ns, eat⟩ (.start x al) = (0, ⟨if modX x = 9 then op else op ++ [x], ns ++ [⟨op.length, x, al, []⟩], eatsL x⟩) := by
  rw [Bool.not_eq_false', decide_eq_true_iff] at h
  unfold stepP
  dsimp only
  rw [if_neg (fun q => q h), hj, if_neg (fun q => q rfl)]
set_option maxHeartbeats 16000000 in
set_option maxRecDepth 100000 in
theorem gTakeStart (K : Nat → Array Value → Prop) (w0 : World) (b : Nat) (op : List (List UInt8)) (prs : List (EvP × Value)) (eat : Bool) (ov nv : Value) (x : List UInt8) (al : List AttrP) (av : Value) (sz : Int) (w : World) (h : GrS K w0 w b op prs eat ov nv)
    (ha : w.ownsRow w0.heap.size 122 2 av al.length (attrsV al)) (hn : ∀ g, av.ownBlock = some g → ∀ (k : Nat) y, prs[k]? = some y → y.2.ownBlock ≠ some g) (hl : prs.length ≤ 10000000) (hq : OpenQ op) (hal : al.length ≤ 100000000) :
    Calls Tryz.prog 61 #[.pointer (some ⟨b, 0, none⟩), .agg #[.int .i64 1, .string (bs x), av, .string ⟨#[]⟩, .int .i64 sz]] w fun e w' => GTake K w0 w' b ⟨op, prs.map Prod.fst, eat⟩ (.start x al) e := by
  obtain ⟨i0, hi, hz0, hz1, hz2⟩ := info_parts info_node
  obtain ⟨i1, hi1, hy0, hy1, hy2⟩ := info_parts info_str
  obtain ⟨ap, ac, rfl⟩ := row_shape ha
  obtain ⟨np, nc, rfl⟩ := row_shape h.nodes.row
  obtain ⟨oq, oc, rfl⟩ := row_shape h.row
  obtain ⟨BX, hBX⟩ : ∃ n, bs x = n := ⟨_, rfl⟩
  obtain ⟨AL, hAL⟩ : ∃ AL, al.length = AL := ⟨_, rfl⟩
  rw [hAL] at ha hn ⊢
  rw [hBX]
  obtain ⟨W1, hW1⟩ : ∃ W1, w.alloc (.cells #[.int .i64 1, .string BX, .slice ap AL ac, .string ⟨#[]⟩, .int .i64 sz] 112) = W1 := ⟨_, rfl⟩
  have hb1 : Below w.heap.size w W1 := by rw [← hW1]; exact (Below.refl _ _).alloc (Nat.le_refl _) _
  have n1 : W1.heap[w.heap.size]? = some (.cells #[.int .i64 1, .string BX, .slice ap AL ac, .string ⟨#[]⟩, .int .i64 sz] 112 (0, 0)) := by rw [← hW1]; exact heap_alloc_new _ _
  have h1 := h.below hb1
  have hbE : w.heap.size ≠ b := fun e => by have := block_lt h.at_; omega
  have hop := h.few
  have p2 := cell_at h1.at_ (j := 2) rfl
  have pf2 := free_at h1.at_ 2
  obtain ⟨E, hE⟩ : ∃ E, w.heap.size = E := ⟨_, rfl⟩
  rw [hE] at n1 hbE
  have hj := just_put (j := 2) h1.at_ (.bool false) rfl
  have hg2 : W1.grownBy (W1.setCell ⟨b, 2, none⟩ (.bool false)) (some b) := just_grown hj
  have n2 := (hj.other E hbE).trans n1
  have h2 := (h1.flag false).more n2
  have ha2 : (W1.setCell ⟨b, 2, none⟩ (.bool false)).ownsRow w0.heap.size 122 2 (.slice ap AL ac) AL (attrsV al) := row_just (row_below ha hb1) h1.at_ (by decide) hj.other
  obtain ⟨W2, hW2⟩ : ∃ W2, W1.setCell ⟨b, 2, none⟩ (.bool false) = W2 := ⟨_, rfl⟩
  rw [hW2] at n2 h2 ha2
  have e0 := cell_at n2 (j := 0) rfl
  have e1 := cell_at n2 (j := 1) rfl
  have e2 := cell_at n2 (j := 2) rfl
  have c0 := cell_at h2.at_ (j := 0) rfl
  have c1 := cell_at h2.at_ (j := 1) rfl
  have hst := refSameTwice_any (.slice ap AL ac) al W2 (by rw [← hAL] at ha2 ⊢; exact attrsR_row ha2) hal
  have hsv := fun W (hW : Words W (.slice oq op.length oc) op) => startV_any (.slice oq op.length oc) op x W hW (by omega) (fun hm => hq.free hm)
  have hea := fun W => refEatsW_any (bs x) W
  have hvo := fun W => refVoid_any (bs x) W
  rw [bs_toList] at hea
  rw [bs_toList] at hvo
  obtain ⟨J, hJ⟩ : ∃ J, judgeP op x = J := ⟨_, rfl⟩
  obtain ⟨TW, hTW⟩ : ∃ TW, (!decide ((al.map Prod.fst).Nodup)) = TW := ⟨_, rfl⟩
  have hs2 := @step_twiceG op (prs.map Prod.fst) eat x al
  have hs3 := @step_rej op (prs.map Prod.fst) eat x al J
  have hs0 := @step_push op (prs.map Prod.fst) eat x al
  have hvm := void_mod x
  rw [hTW] at hst hs2 hs3 hs0
  rw [hBX] at hsv hea hvo
  simp only [hJ] at hsv
  generalize hVB : voidL x = VB at hvo hvm
  generalize hEB : eatsL x = EB at hea hs0
  have HST := hid hst
  have HSV := hid hsv
  have HEA := hid hea
  have HVO := hid hvo
  have HS := hid (And.intro hs2 (And.intro (fun h1 => hs3 h1 hJ) (And.intro (fun h1 h2 => hs0 h1 (hJ.trans h2)) hvm)))
  have HBX := hid (fun (_ : True) => And.intro hBX hAL)
  have H2 := hid (And.intro h2 (And.intro ha2 hn))
  have hop2 : op.length ≤ 256 := hq.len
  clear hst hsv hea hvo hJ hTW hs2 hs3 hs0 hvm hVB hEB hBX hAL h2 ha2 hn hg2 hj n2 n1 h1 hb1 h hq ha
  go_enter Tryz.func61, Tryz.ntmps61
  go_wp2_with fail
  refine HST.out.mono ?_
  rintro e W3' ⟨rfl, q3, rfl⟩
  have H3 := hid (And.intro (H2.out.1.below (below_drewN (Below.refl _ _) q3)) (And.intro (row_below H2.out.2.1 (below_drewN (Below.refl _ _) q3)) H2.out.2.2))
  clear H2 HST e0 e1 e2 c0 c1 p2 pf2 hW1 hW2 hE
  generalize World.drewN _ q3 = W3 at H3 ⊢
  cases TW with
  | true =>
    have HZ := hid (GrS.no (K := K) H3.out.1 (fun k c hk => .inl hk) (HS.out.1 rfl) (by decide))
    clear H3 HS HSV HEA HVO HBX
    go_wp2_with fail
    go_ret
    exact HZ.out
  | false =>
    have n3 := H3.out.1.kp E _ (.inr ⟨rfl, rfl⟩)
    have e1 := cell_at n3 (j := 1) rfl
    have c0 := cell_at H3.out.1.at_ (j := 0) rfl
    have HV3 := hid (HSV.out W3.drew H3.out.1.words)
    clear n3 HSV
    go_wp2_with fail
    apply cut_app (R := fun _ _ W => Hid (Below W3.heap.size W3 W))
    case h =>
      go_region_with (go_at_call 117; refine HV3.out.mono ?_; rintro e W4 ⟨rfl, hb4⟩; have HB4 := hid hb4; clear hb4)
      all_goals
        dsimp only [Exit.then]
        obtain ⟨d0, -⟩ : ∃ d : Nat, d = d := ⟨0, rfl⟩
        obtain ⟨d1, -⟩ : ∃ d : Nat, d = d := ⟨0, rfl⟩
        exact ⟨d0, d1, rfl, hid ((below_drewN (Below.refl W3.heap.size W3) 1).trans HB4.out)⟩
    case hk =>
      intro _ _ W4 HB4
      have hb34 := HB4.out
      try dsimp only
      have H4 := hid (And.intro (H3.out.1.below hb34) (And.intro (row_below H3.out.2.1 hb34) H3.out.2.2))
      clear H3 HV3 HB4 e1 c0 hb34
      by_cases hJ : J = 0
      case neg =>
        have z1 : ((J : Int) == 0) = false := beq_eq_false_iff_ne.2 (by omega)
        have z2 : ((J : Int) != 0) = true := by rw [bne_iff_ne]; omega
        have HZ := hid (GrS.no (K := K) H4.out.1 (fun k c hk => .inl hk) (HS.out.2.1 (by trivial) hJ) hJ)
        clear H4 HS HEA HVO HBX hJ
        go_wp2_with fail
        go_ret
        exact HZ.out
      case pos =>
        subst hJ
        have HP := hid (And.intro (HS.out.2.2.1 (by trivial) (by trivial)) HS.out.2.2.2)
        have n4 := H4.out.1.kp E _ (.inr ⟨rfl, rfl⟩)
        have e1 := cell_at n4 (j := 1) rfl
        have e2 := cell_at n4 (j := 2) rfl
        have hrow := H4.out.1.nodes.row
        have hb3 := H4.out.1.at_
        have hbs3 := block_lt hb3
        have hneb : (Value.slice np prs.length nc).ownBlock ≠ some b := row_ne hrow hb3 (by decide)
        have hbase := H4.out.1.base
        have c0 := cell_at hb3 (j := 0) rfl
        have c1 := cell_at hb3 (j := 1) rfl
        have f1 := free_at hb3 1
        have hE4 := block_lt n4
        clear n4 HS
        go_wp2_with fail
        have hx6 : W4.ownsRow w0.heap.size 122 2 (.slice ap AL ac) al.length (attrsV al) := by rw [(HBX.out trivial).2]; exact H4.out.2.1
        have hbe := (HBX.out trivial).1
        apply cut_app (R := fun g cap W => Hid (GrS (fun k c => K k c ∨ k = E ∧ c = #[.int .i64 1, .string BX, .slice ap AL ac, .string ⟨#[]⟩, .int .i64 sz]) w0 W b op (prs ++ [(⟨op.length, x, al, []⟩, .slice ap AL ac)]) false (.slice oq op.length oc) (.slice (some ⟨g, 0, none⟩) (prs.length + 1) cap)))
        case h =>
          go_region_law (refine step_append_lies _ rfl (.tmp 81) (.tmp 92) 29 rfl w0.heap.size 38 i0 (.agg #[.int .i64 0, .string ⟨#[]⟩, .slice none 0 0, .string ⟨#[]⟩]) 4 64 Tryz.underlying29 hi hz0 hz1 hz2 rfl (by decide) (.slice np prs.length nc) prs.length (ecells prs) (by simp [Act.eval]) (by exact hrow.alloc _) ⟨_, 0, none⟩ 1 1 [.int .i64 op.length, .string BX, .slice ap AL ac, .string ⟨#[]⟩] (by simp [Act.eval]) rfl (cells_newV _ _ _) (by simp [Value.oneCell']) (by omega) (by unfold maxLen; omega) (by omega) (by simp; omega) _ rfl ?_; rintro g cap w10 hrow10 hgrow10 - -; have hb10 : w10.heap[b]? = some (.cells #[.slice oq op.length oc, .slice np prs.length nc, .bool false] 110 (0, 0)) := ((hgrow10.block b (by simp; omega) (fun e => hneb e.symm)).trans (alloc_old _ _ b (by exact hbs3))).trans (by exact hb3); have ce10 := cell_at hb10 (j := 1) rfl; have fe10 := free_at hb10 1)
          all_goals
            dsimp only [Exit.then]
            refine ⟨g, cap, rfl, hid ?_⟩
            exact GrS.node (W := W4.drew) (x := (⟨op.length, x, al, []⟩, .slice ap AL ac)) (H4.out.1.below (below_drewN (Below.refl _ _) 1)) hx6 H4.out.2.2 hgrow10 (by rw [hbe]; exact hrow10)
        case hk =>
          intro g cap W7 HQ
          clear hrow hb3 hbs3 hneb hbase c0 c1 f1 hE4 hx6 hbe e1 e2 H4
          have n7 := HQ.out.kp E _ (.inr ⟨rfl, rfl⟩)
          have e1 := cell_at n7 (j := 1) rfl
          have f2 := free_at HQ.out.at_ 2
          have c2 := cell_at HQ.out.at_ (j := 2) rfl
          clear n7
          try dsimp only
          go_wp2_with fail
          refine (HEA.out _).mono ?_
          rintro e W8 ⟨rfl, rfl⟩
          go_upto_region 20 with fail
          have H9 := hid (HQ.out.flag EB)
          clear HQ HEA e1 c2 f2
          generalize W8.setCell ⟨b, 2, none⟩ (.bool EB) = W9 at H9 ⊢
          have n9 := H9.out.kp E _ (.inr ⟨rfl, rfl⟩)
          have e1 := cell_at n9 (j := 1) rfl
          clear n9
          go_wp2_with fail
          refine (HVO.out _).mono ?_
          rintro e W10 ⟨rfl, rfl⟩
          cases VB with
          | true =>
            have h9 : modX x = 9 := beq_iff_eq.1 HP.out.2.symm
            have HZ := hid (GrS.yes (K := K) H9.out (fun k c hk => .inl hk) HP.out.1 (by simp only [h9, if_true]) (by rw [List.map_append]; rfl) rfl)
            clear H9 HP HVO HBX e1 h9
            go_wp2_with fail
            go_ret
            exact HZ.out
          | false =>
            have h9 : modX x ≠ 9 := beq_eq_false_iff_ne.1 HP.out.2.symm
            have HN9 := hid h9
            have hrow := H9.out.row
            have hb3 := H9.out.at_
            have hbs3 := block_lt hb3
            have hneb : (Value.slice oq op.length oc).ownBlock ≠ some b := row_ne hrow hb3 (by decide)
            have hbase := H9.out.base
            have c0 := cell_at hb3 (j := 0) rfl
            have f0 := free_at hb3 0
            have hrl : (op.map fun x => Value.string (bs x)).length = op.length := List.length_map ..
            obtain ⟨XS, hXS⟩ : ∃ XS, (op.map fun x => Value.string (bs x)) = XS := ⟨_, rfl⟩
            have HXS := hid (fun (_ : True) => hXS)
            rw [hXS] at hrow hrl
            clear h9 hXS HVO
            go_wp2_with fail
            go_region_law (refine step_append_lies _ rfl (.tmp 110) (.tmp 113) 41 rfl w0.heap.size 9 i1 (.string ⟨#[]⟩) 1 16 Tryz.underlying41 hi1 hy0 hy1 hy2 rfl (by decide) (.slice oq op.length oc) op.length XS (by simp [Act.eval]) (by exact World.ownsRow.alloc hrow _) ⟨_, 0, none⟩ 1 1 [.string BX] (by simp [Act.eval]) rfl (cells_newV _ _ _) (by simp [Value.oneCell']) (by omega) (by unfold maxLen; omega) (by omega) (by simp; omega) _ rfl ?_; rintro g2 cap2 w10 hrow10 hgrow10 - -; have hb10 : w10.heap[b]? = some (.cells #[.slice oq op.length oc, .slice (some ⟨g, 0, none⟩) (prs.length + 1) cap, .bool EB] 110 (0, 0)) := ((hgrow10.block b (by simp; omega) (fun e => hneb e.symm)).trans (alloc_old _ _ b (by exact hbs3))).trans (by exact hb3); have ce10 := cell_at hb10 (j := 0) rfl; have fe10 := free_at hb10 0)
            all_goals
              have hpn := GrS.push (x := x) (W := W10.drew) (H9.out.below (below_drewN (Below.refl _ _) 1)) (by omega) hgrow10 (by rw [HXS.out trivial, (HBX.out trivial).1]; exact hrow10)
              have HZ := hid (GrS.yes (K := K) hpn (fun k c hk => .inl hk) HP.out.1 (if_neg HN9.out) (by rw [List.map_append]; rfl) rfl)
              clear hpn hrow10 hgrow10 hb10 ce10 fe10 H9 HP
              go_wp2_with fail
              go_ret
              exact HZ.out
end Go.Proofs.YtcncbhbdpcpkeaaGreatDoor
