/-
  Parts of the walk, joined: FtD.
-/
import Derived.Test.YtcncbhbdpcpkeaaGreatDoorPJBT
import Derived.Test.YtcncbhbdpcpkeaaGreatDoorPJBE
/-
  The fitter's fitsElement: its walk.
-/
namespace Go.Proofs.YtcncbhbdpcpkeaaGreatDoor
open Go.RowKit Go.Lib Own

/-- an element by what the code asks, in its order -/
def elFits (P : PolP) (op : List (List UInt8)) (n : EvP) : Bool :=
  decide (n.k < P.depth) && (keepsE n (sieveL P ([], 0) ⟨1, n.n, n.a, []⟩).2 && ((nestP (modO op) (clsX n.n) == 2) && (!(n.n == [97] && op.contains [97]) && n.a.all fun a => gt a.2)))
theorem elFits_eq {P : PolP} (h : checkP P = 0) (op : List (List UInt8)) (again : Bool) (n : EvP) (hn : n.n ≠ []) : fitN P op again n = elFits P op n := by
  unfold fitN elFits
  rw [if_neg hn, ← keeps_rule h [] n]
  have hk := keeps_known h [] n
  generalize keepsE n (sieveL P ([], 0) ⟨1, n.n, n.a, []⟩).2 = A at hk ⊢
  cases A with
  | false => simp
  | true =>
    rw [decide_eq_true (hk rfl)]
    generalize (n.a.all fun a => gt a.2) = B
    generalize (nestP (modO op) (clsX n.n) == 2) = C
    generalize decide (n.k < P.depth) = D
    generalize (n.n == [97] && op.contains [97]) = F
    cases B <;> cases C <;> cases D <;> cases F <;> rfl
theorem found_shape (x : List UInt8) : ∃ (en : ByteArray) (c mm : Nat) (kb : Bool), foundV x (elemL x) = .tuple #[.agg #[.string en, .int .i64 c, .int .i64 mm], .bool kb] ∧ c ≤ 100 ∧ (elemL x ≠ none → en = bs x ∧ c = clsX x ∧ mm = modX x) := by
  cases hx : elemL x with
  | none => exact ⟨⟨#[]⟩, 0, 0, false, rfl, by omega, fun h => absurd rfl h⟩
  | some q =>
    obtain ⟨c, mm⟩ := q
    have h1 := elem_some (x := x) (by rw [hx]; simp)
    rw [hx] at h1
    have h2 := Option.some.inj h1
    obtain ⟨rfl, rfl⟩ := Prod.mk.inj h2
    exact ⟨bs x, _, _, true, rfl, by have := (known_lt x (by rw [hx]; simp)).2; omega, fun _ => ⟨rfl, rfl, rfl⟩⟩
theorem depth_le {P : PolP} (h : checkP P = 0) : P.depth ≤ 256 := by
  have h1 := check_wrong h 1 (by omega) (by omega)
  have h1' : decide (P.depth < 1 ∨ 256 < P.depth) = false := h1
  have := of_decide_eq_false h1'
  omega
theorem all_step {al : List AttrP} {k : Nat} {x : AttrP} (h : al[k]? = some x) : ((al.drop k).all fun a => gt a.2) = (gt x.2 && (al.drop (k + 1)).all fun a => gt a.2) := by
  rw [drop_at h]
  rfl
/-- one element more -/
theorem FtS.push {w0 W w10 : World} {sb b : Nat} {vr vs vd : Value} {P : PolP} {m : Int} {op : List (List UInt8)} {ov ov' : Value} {la : Int} {X : Obj} {x : List UInt8} (h : FtS w0 W sb b vr vs vd P m op ov la) (hf : op.length + 1 ≤ 300)
    (hg : (W.alloc X).grownBy w10 ov.ownBlock) (hv : w10.ownsRow w0.heap.size 172 3 ov' (op.length + 1) (elems op ++ [.string (bs x), .int .i64 (clsX x : Nat), .int .i64 (modX x : Nat)])) :
    FtS w0 (w10.setCell ⟨b, 2, none⟩ ov') sb b vr vs vd P m (op ++ [x]) ov' la := by
  have hbl := block_lt h.at_
  have hbs := block_lt h.sv
  have hne := row_ne h.row h.at_ (by decide)
  have hns := row_ne h.row h.sv (by decide)
  have hb4 := (alloc_old W X b hbl).trans h.at_
  have hs4 := (alloc_old W X sb hbs).trans h.sv
  have hb10 := (hg.block b (by simp; omega) (fun e => hne e.symm)).trans hb4
  have hs10 := (hg.block sb (by simp; omega) (fun e => hns e.symm)).trans hs4
  have hj := just_put (j := 2) hb10 ov' rfl
  have hbase := h.be.size
  refine ⟨hj.at_, (hj.other sb (fun e => h.ne e.symm)).trans hs10, h.pol, ?_, ?_, h.lo, h.ls, by rw [List.length_append, List.length_singleton]; exact hf, h.kt, h.nt, h.mx⟩
  · unfold OpenR
    rw [List.length_append, List.length_singleton, elems_app]
    exact row_just hv hb10 (by decide) hj.other
  · exact ((h.be.alloc hbase X).grown hg (by simp; omega) (fun k hk => (h.row.lt k hk).1)).trans (just_low hj h.lo)
set_option maxHeartbeats 8000000 in
set_option maxRecDepth 100000 in
theorem fitsElement_any (w0 : World) (sb b : Nat) (vr vs vd : Value) (P : PolP) (m : Int) (op : List (List UInt8)) (ov : Value) (la : Int) (n : EvP) (u : Value) (w : World) (h : FtS w0 w sb b vr vs vd P m op ov la) (hF : P.Few) (hck : checkP P = 0) (hu : AttrsR w0 u n.a) (hs : n.n.length + n.t.length + bulkA n.a ≤ 4000000) (hop : n.k < P.depth → op.length ≤ 256) :
    Calls Tryz.prog 109 #[.pointer (some ⟨b, 0, none⟩), .agg (evC n u)] w fun e w' => e = .returned (.bool (elFits P op n)) ∧ Below w0.heap.size w0 w' ∧ (elFits P op n = true → ∃ ov', FtS w0 w' sb b vr vs vd P m (op ++ if modX n.n = 9 then [] else [n.n]) ov' la) := by
  obtain ⟨up, uc, rfl⟩ := hu.len
  obtain ⟨W1, hW1⟩ : ∃ W1, w.alloc (.cells (evC n (.slice up n.a.length uc)) 38) = W1 := ⟨_, rfl⟩
  have hb1 : Below w.heap.size w W1 := by rw [← hW1]; exact (Below.refl w.heap.size w).alloc (Nat.le_refl _) _
  have n1 : W1.heap[w.heap.size]? = some (.cells (evC n (.slice up n.a.length uc)) 38 (0, 0)) := by rw [← hW1]; exact heap_alloc_new w _
  have h1 := h.below hb1
  have hfd := find_any (bs n.n) W1 h1.kinds
  rw [bs_toList] at hfd
  obtain ⟨en, c, mm, kb, hfs, hcl, hel⟩ := found_shape n.n
  rw [hfs] at hfd
  have hia := fun W (hW : FtS w0 W sb b vr vs vd P m op ov la) => isAllowed_any w0 sb b vr vs vd P m op ov la n (.slice up n.a.length uc) W hW hF hu hs
  have hkn := keeps_known hck [] n
  obtain ⟨i0, hi, hz0, hz1, hz2⟩ := info_parts info_elem
  obtain ⟨OP, hOP⟩ : ∃ O, (op ++ if modX n.n = 9 then [] else [n.n]) = O := ⟨_, rfl⟩
  rw [hOP]
  have HOP := hid hOP
  clear hOP
  obtain ⟨R, hR⟩ : ∃ R, elFits P op n = R := ⟨_, rfl⟩
  rw [hR]
  unfold elFits at hR
  obtain ⟨A, hA⟩ : ∃ A, keepsE n (sieveL P ([], 0) ⟨1, n.n, n.a, []⟩).2 = A := ⟨_, rfl⟩
  rw [hA] at hia hkn hR
  obtain ⟨N2, hN2⟩ : ∃ N2, (nestP (modO op) (clsX n.n) == 2) = N2 := ⟨_, rfl⟩
  rw [hN2] at hR
  obtain ⟨QA, hQA⟩ : ∃ Q, (n.n == [97]) = Q := ⟨_, rfl⟩
  rw [hQA] at hR
  obtain ⟨G, hG⟩ : ∃ G, (n.a.all fun a => gt a.2) = G := ⟨_, rfl⟩
  rw [hG] at hR
  obtain ⟨CA, hCA⟩ : ∃ C, op.contains [97] = C := ⟨_, rfl⟩
  rw [hCA] at hR
  have HN2 := hid hN2
  have HQA := hid hQA
  have HG := hid hG
  have HCA := hid hCA
  clear hN2 hQA hG hCA
  have hmh := fun W (hW : FtS w0 W sb b vr vs vd P m op ov la) => mayHold_any w0 sb b vr vs vd P m op ov la c W hW hcl
  obtain ⟨d0, d1, d2, d3⟩ := evC_at n1
  have HFD := hid hfd
  have HIA := hid hia
  have HMH := hid hmh
  have HEL := hid (fun e => hel (hkn e))
  have H1 := hid (And.intro h1 (And.intro n1 (And.intro hu (And.intro hs hop))))
  have hsz1 := block_lt n1
  unfold evC at hW1 HIA ⊢
  clear hfd hia hmh hel hkn hfs hA n1 h1 hb1 h hF hu hs hop hck
  by_cases hd : n.k < P.depth
  · rw [decide_eq_true hd, Bool.true_and] at hR
    have HR := hid hR
    clear hR
    have z1 : decide (n.k ≥ P.depth) = false := decide_eq_false (by omega)
    have z2 : decide (P.depth ≤ n.k) = false := decide_eq_false (by omega)
    have HD := hid hd
    clear hd
    go_enter Tryz.func109, Tryz.ntmps109
    go_wp2_with fail
    clear hW1
    refine HFD.out.mono ?_
    rintro e W2 ⟨rfl, hb2⟩
    obtain ⟨W3, hW3⟩ : ∃ W3, W2.alloc (.cells #[.string en, .int .i64 c, .int .i64 mm] 172) = W3 := ⟨_, rfl⟩
    have hb3 : Below W1.heap.size W1 W3 := by rw [← hW3]; exact hb2.alloc hb2.size _
    have n3 : W3.heap[W2.heap.size]? = some (.cells #[.string en, .int .i64 c, .int .i64 mm] 172 (0, 0)) := by rw [← hW3]; exact heap_alloc_new _ _
    obtain ⟨E, hE⟩ : ∃ E, W2.heap.size = E := ⟨_, rfl⟩
    rw [hE] at n3
    have h3 := H1.out.1.below hb3
    have n1' := (hb3.block _ hsz1).trans H1.out.2.1
    have c0 : W3.cell? ⟨b, 0, none⟩ = some (.int .i64 P.depth) := cell_at h3.at_ (j := 0) rfl
    replace d0 := cell_kept d0 hb3
    replace d1 := cell_kept d1 hb3
    replace d2 := cell_kept d2 hb3
    replace d3 := cell_kept d3 hb3
    have H3 := hid (And.intro h3 (And.intro n1' n3))
    have HW3 := hid hW3
    have HE := hid hE
    clear hb2 hb3 h3 n1' n3 hW3 HFD hE
    go_upto_region 2 with fail
    simp only [HE.out, HW3.out]
    clear HW3
    go_quiet (fail)
    clear z1 z2
    go_wp2_with fail
    refine (HIA.out _ (H3.out.1.below (below_drewN (Below.refl _ _) _))).mono ?_
    rintro e W4 ⟨rfl, g4, hs4⟩
    have hG4 := grow_two (below_drewN (Below.refl W3.heap.size W3) nq) g4
    cases A with
    | false =>
      have hr := HR.out
      rw [Bool.false_and] at hr
      subst hr
      have HZ := hid (H3.out.1.lost hG4)
      clear hs4 g4 hG4 HIA HMH HEL H3 c0 d0 d1 d2 d3
      go_wp2_with fail
      all_goals
        go_ret
        exact ⟨rfl, HZ.out, fun e => by cases e⟩
    | true =>
      have hr := HR.out
      rw [Bool.true_and] at hr
      have HR2 := hid hr
      clear hr HR
      obtain ⟨rfl, rfl, rfl⟩ := HEL.out rfl
      have h4 := H3.out.1.grown hG4 (hs4 rfl)
      have hes : some E ≠ some sb := fun e => absurd (Option.some.inj e) (ev_ne H3.out.2.2 H3.out.1.sv (by decide))
      have hns : some w.heap.size ≠ some sb := fun e => absurd (Option.some.inj e) (ev_ne H3.out.2.1 H3.out.1.sv (by decide))
      have nE := (hG4.block _ (block_lt H3.out.2.2) hes).trans H3.out.2.2
      have nN := (hG4.block _ (block_lt H3.out.2.1) hns).trans H3.out.2.1
      have H4 := hid (And.intro h4 (And.intro nE nN))
      have e0 := cell_at nE (j := 0) rfl
      have e1 := cell_at nE (j := 1) rfl
      have e2 := cell_at nE (j := 2) rfl
      have b2 : W4.cell? ⟨b, 2, none⟩ = some ov := cell_at h4.at_ (j := 2) rfl
      obtain ⟨q0, q1, q2, q3⟩ := evC_at nN
      obtain ⟨op1, oc, rfl⟩ := h4.row.shape
      clear hs4 g4 hG4 HIA HEL H3 c0 d0 d1 d2 d3 h4 nE nN hes hns
      have HMH4 := hid (HMH.out W4 H4.out.1)
      have hce := fun W (hW : Below W4.heap.size W4 W) => containsEl_any _ _ op n.n W (H4.out.1.below hW).row (by have := H4.out.1.few; omega)
      have HCE := hid hce
      rw [HN2.out] at HMH4
      clear HMH hce
      go_wp2_with fail
      refine HMH4.out.mono ?_
      rintro e W5 ⟨rfl, rfl⟩
      cases N2 with
      | false =>
        have hr := HR2.out
        rw [Bool.false_and] at hr
        subst hr
        go_wp2_with fail
        all_goals
          go_ret
          exact ⟨rfl, H4.out.1.be, fun e => by cases e⟩
      | true =>
        have hr := HR2.out
        rw [Bool.true_and] at hr
        have HR3 := hid hr
        have hqa : ((bs n.n).toList == [97]) = QA := by rw [bs_toList]; exact HQA.out
        clear hr HR2 HMH4
        go_wp2_with fail
        have hca : QA = true → op.contains n.n = CA := fun e => by
          have h0 := HQA.out
          rw [e] at h0
          rw [beq_iff_eq.1 h0]
          exact HCA.out
        cases QA
        all_goals first
          | (have hg : G = R := (by have := HR3.out; simpa using this); subst hg; clear HR3 HCE HCA HQA hca; go_quiet (fail); clear hqa; have HW4 := hid (below_drewN (Below.refl W5.heap.size W5) nq))
          | (have hc2 := HCE.out; simp only [hca rfl] at hc2; have HC2 := hid hc2; clear HCE HCA HQA hca hc2; go_region_held3 (fun w' => w'.cell? ⟨b, 2, none⟩ = some (.slice op1 op.length oc) ∧ w'.cell? ⟨E, 0, none⟩ = some (.string (bs n.n)) ∧ w'.cell? ⟨E, 1, none⟩ = some (.int .i64 (clsX n.n)) ∧ w'.cell? ⟨E, 2, none⟩ = some (.int .i64 (modX n.n))) (go_keep) (first | (go_at_call 171; refine (HC2.out _ (below_drewN (Below.refl _ _) 1)).mono ?_; rintro e W6 ⟨rfl, hb6⟩; have HW4 := hid ((below_drewN (Below.refl W5.heap.size W5) 1).trans (hb6.mono (by simp))); have g0 := cell_kept b2 HW4.out; have g1 := cell_kept e0 HW4.out; have g2 := cell_kept e1 HW4.out; have g3 := cell_kept e2 HW4.out; have g4 := cell_kept q2 HW4.out; clear hb6)); clear hqa HC2; cases CA)
        all_goals try (have hr : false = R := (by have := HR3.out; simpa using this); subst hr; have HZ := hid (H4.out.1.be.trans (HW4.out.mono H4.out.1.base)); clear HR3; go_wp2_with fail; all_goals (go_ret; exact ⟨rfl, HZ.out, fun e => by cases e⟩))
        all_goals try (have hg : G = R := (by have := HR3.out; simpa using this); subst hg; clear HR3)
        all_goals
          have hq3 := q2
          go_wp2_with fail
          obtain ⟨p', c', he, hlc, hcm, hcell, _⟩ := H1.out.2.2.1
          cases he
          have hbk := H1.out.2.2.2.1
          have HC := hid hcell
          have HGG : Hid (((n.a.drop 0).all fun a => gt a.2) = G) := hid HG.out
          clear hcell HG hq3 e0 e1 e2 b2 q0 q1 q2 q3
          go_loopw [47] (fun iv wr => ∃ k : Nat, iv = .int .i64 k ∧ k ≤ n.a.length ∧ Hid (Below W5.heap.size W5 wr) ∧ Hid (((n.a.drop k).all fun a => gt a.2) = G)) (fun iv _ => n.a.length - (RowKit.intOf iv).toNat)
          case atStart => exact ⟨0, rfl, Nat.zero_le _, HW4, HGG⟩
          case round =>
            clear HW4 HGG
            obtain ⟨k, rfl, hk, HB, HK⟩ := hrel
            have hb0 := H4.out.1.be.trans (HB.out.mono H4.out.1.base)
            by_cases hkl : k < n.a.length
            · obtain ⟨x, hx⟩ : ∃ x, n.a[k]? = some x := ⟨_, List.getElem?_eq_getElem hkl⟩
              obtain ⟨g, o, rfl, x0, x1⟩ := HC.out k x hx
              replace x0 := cell_low x0 hb0 (cell_block x0)
              replace x1 := cell_low x1 hb0 (cell_block x1)
              have hst := all_step hx
              rw [HK.out] at hst
              have hbl := bulkA_get hx
              have hgd := fun W => isGood_any x.2 W (by omega)
              obtain ⟨BX, hBX⟩ : ∃ B, bs x.1 = B := ⟨_, rfl⟩
              obtain ⟨BV, hBV⟩ : ∃ B, bs x.2 = B := ⟨_, rfl⟩
              rw [hBX] at x0
              rw [hBV] at x1 hgd
              generalize gt x.2 = GX at hst hgd
              have HST := hid hst
              have HGD := hid hgd
              have hb1 : Below W5.heap.size W5 (wr.alloc (.cells #[.string BX, .string BV] 122)) := HB.out.alloc HB.out.size _
              have nA := heap_alloc_new wr (.cells #[.string BX, .string BV] 122)
              obtain ⟨W6, hW6⟩ : ∃ W6, wr.alloc (.cells #[.string BX, .string BV] 122) = W6 := ⟨_, rfl⟩
              rw [hW6] at hb1 nA
              have HB6 := hid hb1
              have v1 := cell_at nA (j := 1) rfl
              have hle : k < uc := by omega
              clear hx hst hbl hgd hBX hBV hb1 nA hb0 HC HK
              go_wp2_with fail
              clear hW6 x0 x1
              refine (HGD.out _).mono ?_
              rintro e W7 ⟨rfl, hb7⟩
              have HB7 := hid (HB6.out.trans (hb7.mono HB6.out.size))
              clear hb7 HB6 v1
              cases GX with
              | false =>
                have hr := HST.out
                rw [Bool.false_and] at hr
                subst hr
                have HZ := hid (H4.out.1.be.trans (HB7.out.mono H4.out.1.base))
                go_wp2_with fail
                all_goals
                  go_ret
                  exact ⟨rfl, HZ.out, fun e => by cases e⟩
              | true =>
                have HN := hid ((Bool.true_and _).symm.trans HST.out.symm)
                go_wp2_with fail
                go_roundw
                case rel => exact ⟨k + 1, rfl, by omega, HB7, HN⟩
                case measure => simp [RowKit.intOf]; omega
            · have hr := HK.out
              rw [List.drop_of_length_le (by omega)] at hr
              obtain rfl : true = G := hr
              have h6 := H4.out.1.below HB.out
              have nE6 := (HB.out.block _ (block_lt H4.out.2.1)).trans H4.out.2.1
              have e0 := cell_at nE6 (j := 0) rfl
              have e1 := cell_at nE6 (j := 1) rfl
              have e2 := cell_at nE6 (j := 2) rfl
              have HV := hid (fun W => elemVoid_any (.string (bs n.n)) (clsX n.n) (modX n.n) W)
              have H6 := hid (And.intro h6 nE6)
              clear h6 nE6 hb0 HK HC H4 HB
              go_wp2_with fail
              refine (HV.out _).mono ?_
              rintro e W7 ⟨rfl, hb7⟩
              have h7 := H6.out.1.below hb7
              have nE7 := (hb7.block _ (block_lt H6.out.2)).trans H6.out.2
              replace e0 := cell_at nE7 (j := 0) rfl
              replace e1 := cell_at nE7 (j := 1) rfl
              replace e2 := cell_at nE7 (j := 2) rfl
              have H7 := hid (And.intro h7 nE7)
              clear hb7 h7 nE7 H6 HV
              by_cases hv9 : modX n.n = 9
              · have q9 : ((modX n.n : Int) == 9) = true := by rw [hv9]; rfl
                have hoo := HOP.out
                rw [if_pos hv9, List.append_nil] at hoo
                subst hoo
                clear hv9
                go_wp2_with fail
                go_ret
                exact ⟨rfl, H7.out.1.be, _, H7.out.1⟩
              · have q9 : ((modX n.n : Int) == 9) = false := by rw [Bool.eq_false_iff]; intro h; rw [beq_iff_eq] at h; omega
                have hoo := HOP.out
                rw [if_neg hv9] at hoo
                subst hoo
                have hrow := H7.out.1.row
                have hbx := H7.out.1.at_
                have c2 : W7.cell? ⟨b, 2, none⟩ = some (.slice op1 op.length oc) := cell_at hbx (j := 2) rfl
                have f2 := free_at hbx 2
                have hne := row_ne hrow hbx (by decide)
                have hbs := block_lt hbx
                have hopl := H1.out.2.2.2.2 HD.out
                have hbW := H7.out.1.base
                have hone : ∀ u ∈ [Value.string (bs n.n), .int .i64 (clsX n.n : Nat), .int .i64 (modX n.n : Nat)], u.oneCell' = true := by simp [Value.oneCell']
                clear hv9 HOP HN2 hlc hcm hbk H1 hk hkl
                go_wp2_with fail
                go_region_law (refine step_append_lies _ rfl (.tmp 63) (.tmp 65) 80 rfl w0.heap.size 172 i0 (.agg #[.string ⟨#[]⟩, .int .i64 0, .int .i64 0]) 3 32 Tryz.underlying80 hi hz0 hz1 hz2 rfl (by decide) (.slice op1 op.length oc) op.length (elems op) (by simp [Act.eval]) (by exact hrow.alloc _) ⟨_, 0, none⟩ 1 1 [.string (bs n.n), .int .i64 (clsX n.n : Nat), .int .i64 (modX n.n : Nat)] (by simp [Act.eval]) rfl (cells_newV _ _ _) hone (by omega) (by unfold maxLen; omega) (by omega) (by simp; omega) _ rfl ?_; rintro g cap w10 hrow10 hgrow10 hnew10 -; have hb10 := ((hgrow10.block b (by simp; omega) (fun e => hne e.symm)).trans (Go.Lib.alloc_old _ _ b (by exact hbs))).trans (by exact hbx); have ce10 := cell_at (j := 2) hb10 rfl; have fe10 := free_at hb10 2)
                all_goals
                  have hg10 : (W7.alloc (.cells #[.string (bs n.n), .int .i64 (clsX n.n : Nat), .int .i64 (modX n.n : Nat)] 172)).grownBy w10 (Value.slice op1 op.length oc).ownBlock := ⟨hgrow10.os, hgrow10.tape, hgrow10.output, hgrow10.size, hgrow10.block⟩
                  have hfin := H7.out.1.push (x := n.n) (by omega) hg10 hrow10
                  have HF := hid hfin
                  clear hfin hg10 hrow10 hgrow10 hnew10 hb10 ce10 fe10
                  go_wp2_with fail
                  go_ret
                  exact ⟨rfl, HF.out.be, _, HF.out⟩
  · have hr : false = R := by rw [decide_eq_false hd, Bool.false_and] at hR; exact hR
    subst hr
    have z1 : decide (n.k ≥ P.depth) = true := decide_eq_true (by omega)
    have z2 : decide (P.depth ≤ n.k) = true := decide_eq_true (by omega)
    clear hd hR HIA HMH HEL HN2 HQA HG HCA HOP
    go_enter Tryz.func109, Tryz.ntmps109
    go_wp2_with fail
    clear hW1
    refine HFD.out.mono ?_
    rintro e W2 ⟨rfl, hb2⟩
    obtain ⟨W3, hW3⟩ : ∃ W3, W2.alloc (.cells #[.string en, .int .i64 c, .int .i64 mm] 172) = W3 := ⟨_, rfl⟩
    have hb3 : Below W1.heap.size W1 W3 := by rw [← hW3]; exact hb2.alloc hb2.size _
    have h3 := H1.out.1.below hb3
    have c0 : W3.cell? ⟨b, 0, none⟩ = some (.int .i64 P.depth) := cell_at h3.at_ (j := 0) rfl
    replace d0 := cell_kept d0 hb3
    have H3 := hid h3
    have HW3 := hid hW3
    clear hb2 hb3 h3 hW3 HFD d1 d2 d3
    go_upto_region 2 with fail
    simp only [HW3.out]
    clear HW3
    go_quiet (fail)
    clear z1 z2 c0 d0
    have HZ := hid (below_drewN H3.out.be nq)
    go_wp2_with fail
    all_goals
      go_ret
      exact ⟨rfl, HZ.out, fun e => by cases e⟩
end Go.Proofs.YtcncbhbdpcpkeaaGreatDoor
