/-
  Parts of the walk, joined: FtM.
-/
import Derived.Deep.Cut
import Derived.Deep.CutRange
import Derived.Test.YtcncbhbdpcpkeaaGreatDoorPJBQ
import Derived.Test.YtcncbhbdpcpkeaaGreatDoorPJBV
import Derived.Test.YtcncbhbdpcpkeaaGreatDoorPJBE
/-
  The reference's Fits: its walk.
-/
namespace Go.Proofs.YtcncbhbdpcpkeaaGreatDoor
open Go.RowKit Go.Lib Own

theorem sayM : ∀ p < 10, (sayW p == [116, 97, 107, 101]) = decide (p = 2) := by decide +kernel
theorem cls_nilM (x : List UInt8) : (clsW (clsX x)).isEmpty = (elemL x).isNone := by
  refine elem_all (fun x => (clsW (clsX x)).isEmpty = (elemL x).isNone) (by decide +kernel) (fun x h1 _ => ?_) x
  unfold clsX
  rw [h1]
  rfl
theorem cls_rangeM (x : List UInt8) (h : elemL x ≠ none) : 1 ≤ clsX x ∧ clsX x ≤ 7 := known_all (fun x => 1 ≤ clsX x ∧ clsX x ≤ 7) (by decide +kernel) x h
/-- the depth of the text ahead of the node at k -/
def lastT (ns : List EvP) : Nat → Int
  | 0 => -1
  | j + 1 => match ns[j]? with
    | none => -1
    | some m => fitT m
theorem lastT_at {ns : List EvP} {k : Nat} {n : EvP} (h : ns[k]? = some n) : lastT ns (k + 1) = fitT n := by
  show (match ns[k]? with
    | none => (-1 : Int)
    | some m => fitT m) = _
  rw [h]
theorem fitO_open (op : List (List UInt8)) (n : EvP) : fitO op n = openO (op.take n.k.toNat) n := rfl
theorem open_ok {op : List (List UInt8)} {n : EvP} (h : OpenOk op) (h1 : n.n = [] ∨ elemL n.n ≠ none) (h2 : (n.n == [97] && op.contains [97]) = false) : OpenOk (openO op n) := by
  unfold openO
  split
  · exact h
  · rename_i h3
    have hn : n.n ≠ [] := fun e => h3 (.inl e)
    have hv : voidL n.n ≠ true := fun e => h3 (.inr e)
    refine ⟨fun y hy => ?_, ?_⟩
    · rcases List.mem_append.1 hy with h4 | h4
      · exact h.known y h4
      · rw [List.mem_singleton] at h4; subst h4; exact ⟨h1.resolve_left hn, fun e => hv (by rw [void_mod, e]; rfl)⟩
    rw [List.count_append, List.count_singleton]
    have h1 := h.one
    by_cases e : n.n = aN
    · have h4 : op.contains aN = false := by
        have e2 : (n.n == [97]) = true := by rw [e]; rfl
        rw [e2, Bool.true_and] at h2
        exact h2
      have h5 : op.count aN = 0 := List.count_eq_zero.2 (fun hm => by rw [List.contains_iff_mem.2 hm] at h4; cases h4)
      rw [h5]
      split <;> omega
    · have e2 : (n.n == aN) = false := beq_eq_false_iff_ne.2 e
      rw [e2]
      simpa using h1
set_option maxHeartbeats 8000000 in
set_option maxRecDepth 100000 in
theorem refFits_any (vr vs vd : Value) (P : PolP) (v : Value) (ns : List EvP) (w : World) (h : PolR w vr vs vd P) (hF : P.Few) (hE : EvsR w v ns) (hs : bulkE ns ≤ 2000000) (hT : AttrTab w) :
    Calls Tryz.prog 15 #[.agg (polC vr vs vd P), v] w fun e w' => e = .returned (.bool (fitsP P ns)) ∧ Below w.heap.size w w' := by
  obtain ⟨r1, r2, r3, rfl⟩ := h.rules.shape
  obtain ⟨s1, s2, s3, rfl⟩ := h.schemes.shape
  obtain ⟨t1, t2, t3, rfl⟩ := h.drop.shape
  obtain ⟨ep, ec, rfl⟩ := hE.len
  have hlen := bulkE_len ns
  obtain ⟨W1, hW1⟩ : ∃ W1, w.alloc (.cells (polC (.slice r1 r2 r3) (.slice s1 s2 s3) (.slice t1 t2 t3) P) 43) = W1 := ⟨_, rfl⟩
  have hb1 : Below w.heap.size w W1 := by rw [← hW1]; exact (Below.refl w.heap.size w).alloc (Nat.le_refl _) _
  have n1 : W1.heap[w.heap.size]? = some (.cells (polC (.slice r1 r2 r3) (.slice s1 s2 s3) (.slice t1 t2 t3) P) 43 (0, 0)) := by rw [← hW1]; exact heap_alloc_new w _
  obtain ⟨p0, p1, p2, p3, p4⟩ := polC_at (P := P) n1
  have hck := refCheck_any _ _ _ P W1 (h.below hb1) hF (hT.below hb1)
  have hsp := fun W (hW : Below w.heap.size w W) => refShaped_any _ ns W (hE.below hW) (by omega)
  have hfr := fun W (hW : Below w.heap.size w W) n u (hu : AttrsR W u n.a) (hsz : n.n.length + n.t.length + bulkA n.a ≤ 2000000) => fitsRule_any _ _ _ P n u W (h.below hW) hF hu hsz
  obtain ⟨R, hR⟩ : ∃ R, fitsP P ns = R := ⟨_, rfl⟩
  rw [hR]
  unfold fitsP at hR
  obtain ⟨CK, hCK⟩ : ∃ C, checkP P = C := ⟨_, rfl⟩
  obtain ⟨SH, hSH⟩ : ∃ S, shapeB 0 ns = S := ⟨_, rfl⟩
  rw [hCK] at hck hR
  rw [hSH] at hsp hR
  have HH := hid (And.intro hb1 (And.intro n1 (And.intro hE hs)))
  have HCK := hid hck
  have HSP := hid hsp
  have HFR := hid hfr
  have HR := hid hR
  have HC0 := hid hCK
  have HS0 := hid hSH
  unfold polC at hW1 HCK HFR ⊢
  have hln : ns.length ≤ 2000000 := by omega
  clear hck hsp hfr hR hCK hSH h hF hE hs hT hb1 n1 hlen
  go_enter Tryz.func15, Tryz.ntmps15
  go_wp2_with fail
  clear hW1
  refine HCK.out.mono ?_
  rintro e W2 ⟨rfl, hb2⟩
  have HB2 := hid (HH.out.1.trans (hb2.mono HH.out.1.size))
  have HN2 := hid ((hb2.block _ (block_lt HH.out.2.1)).trans HH.out.2.1)
  clear hb2 HCK p0 p1 p2 p3 p4
  cases CK with
  | succ c =>
    have hr := HR.out
    rw [decide_eq_false (by omega), Bool.false_and] at hr
    subst hr
    have z1 : ((((c + 1 : Nat) : Int)) != 0) = true := by rw [bne_iff_ne]; omega
    have z2 : (((c : Int) + 1) != 0) = true := by rw [bne_iff_ne]; omega
    clear HR HSP HFR HS0 HC0 HN2
    go_wp2_with fail
    go_ret
    exact ⟨rfl, HB2.out⟩
  | zero =>
    have hr := HR.out
    rw [decide_eq_true rfl, Bool.true_and] at hr
    have HR2 := hid hr
    clear hr HR
    have HSP2 := hid (HSP.out W2 HB2.out)
    go_wp2_with fail
    refine HSP2.out.mono ?_
    rintro e W3 ⟨rfl, hb3⟩
    have HB3 := hid (HB2.out.trans (hb3.mono HB2.out.size))
    have HN3 := hid ((hb3.block _ (block_lt HN2.out)).trans HN2.out)
    clear hb3 HSP HSP2 HB2 HN2
    cases SH with
    | false =>
      have hr := HR2.out
      rw [Bool.false_and] at hr
      subst hr
      clear HFR HC0 HS0 HN3
      go_wp2_with fail
      go_ret
      exact ⟨rfl, HB3.out⟩
    | true =>
      have hr := HR2.out
      rw [Bool.true_and] at hr
      have HR3 := hid hr
      clear hr HR2
      obtain ⟨p', c', he, hlc, hcm, hcell⟩ := HH.out.2.2.1
      cases he
      have HC := hid hcell
      clear hcell
      go_wp2_with fail
      go_loopw [5, 6] (fun pv iv wr => ∃ (k : Nat) (op : List (List UInt8)), iv = .int .i64 k ∧ k ≤ ns.length ∧ op.length ≤ 256 ∧ Hid (TrE w wr (.slice none 0 0) pv [] op ∧ wr.heap[w.heap.size]? = some (.cells (polC (.slice r1 r2 r3) (.slice s1 s2 s3) (.slice t1 t2 t3) P) 43 (0, 0))) ∧ Hid (OpenOk op ∧ shapeB (op.length : Int) (ns.drop k) = true ∧ fitL P op (lastT ns k) (ns.drop k) = R)) (fun _ iv _ => ns.length - (RowKit.intOf iv).toNat)
      case atStart => exact ⟨0, [], rfl, Nat.zero_le _, Nat.zero_le _, hid ⟨TrE.start w W3 HB3.out, HN3.out⟩, hid ⟨OpenOk.nil, HS0.out, HR3.out⟩⟩
      case round =>
        clear HR3 HS0 HN3
        obtain ⟨k, op, rfl, hk, hok, HX, HK⟩ := hrel
        by_cases hkl : k < ns.length
        · obtain ⟨n, hn⟩ : ∃ n, ns[k]? = some n := ⟨_, List.getElem?_eq_getElem hkl⟩
          obtain ⟨g, o, u, rfl, q0, q1, q2, q3, q4⟩ := HC.out k n hn
          have hbx := HX.out.1.be
          replace q0 := cell_low q0 hbx (cell_block q0)
          replace q1 := cell_low q1 hbx (cell_block q1)
          replace q2 := cell_low q2 hbx (cell_block q2)
          replace q3 := cell_low q3 hbx (cell_block q3)
          obtain ⟨up, uc, rfl⟩ := q4.len
          obtain ⟨hk0, hk1, hsh⟩ := shape_open HK.out.2.1 hn
          have hst := fitL_step (P := P) (op := op) (la := lastT ns k) hn
          rw [HK.out.2.2] at hst
          have hbk := bulkE_get hn
          have hss := HH.out.2.2.2
          obtain ⟨d, hd⟩ : ∃ d : Nat, n.k.toNat = d := ⟨_, rfl⟩
          have hdk : n.k = (d : Int) := by omega
          rw [hd] at hk1 hsh hst
          rw [hdk] at q0
          obtain ⟨pp, pc, rfl⟩ := row_shape HX.out.1.r2
          have hcap := (row_cap HX.out.1.r2).2
          have hcut := HX.out.1.cut hk1 rfl
          have hoq := HK.out.1.take d
          rw [fitO_open, hd] at hst
          obtain ⟨OQ, hOQ⟩ : ∃ O, op.take d = O := ⟨_, rfl⟩
          have hOl : OQ.length = d := by rw [← hOQ, List.length_take]; omega
          rw [hOQ] at hcut hsh hst hoq
          -- the node in a box
          obtain ⟨W1', hW1'⟩ : ∃ W1, wr.alloc (.cells (evC n (.slice up n.a.length uc)) 38) = W1 := ⟨_, rfl⟩
          have hb1 : Below wr.heap.size wr W1' := by rw [← hW1']; exact (Below.refl wr.heap.size wr).alloc (Nat.le_refl _) _
          have n1 : W1'.heap[wr.heap.size]? = some (.cells (evC n (.slice up n.a.length uc)) 38 (0, 0)) := by rw [← hW1']; exact heap_alloc_new wr _
          have hX1 := hcut.below hb1
          have nb1 := (hb1.block _ (block_lt HX.out.2)).trans HX.out.2
          obtain ⟨d0, d1, d2, d3⟩ := evC_at n1
          obtain ⟨p0, p1, p2, p3, p4⟩ := polC_at (P := P) nb1
          rw [hdk] at d0
          have hmo := modelAt_any (.slice pp d pc) OQ d W1' (Words.row hX1.r2) (fun x hx => (hoq.known x hx).1) (by omega) (by omega)
          rw [show OQ.take d = OQ by rw [← hOl, List.take_length]] at hmo
          have hnt := fun c W (hc : 1 ≤ c ∧ c ≤ 7) => refNest_any (modO OQ) c W hoq.mod hc
          have hfu := HFR.out W1' (hX1.be) n (.slice up n.a.length uc) ((q4.below HX.out.1.be).below hb1) (by omega)
          have hgt := fun W => refGoodText_any n.t W (by omega)
          have hcl := fun W => classOf_any (bs n.n) W
          rw [bs_toList, class_word] at hcl
          have hho := fun W (hW : Words W (.slice pp d pc) OQ) => holds_any (.slice pp d pc) OQ ⟨#[97]⟩ W hW (by omega)
          have hvo := fun W => refVoid_any (bs n.n) W
          rw [bs_toList] at hvo
          have eN : (bs n.n).toList.isEmpty = decide (n.n = []) := by rw [bs_toList, Bool.eq_iff_iff, List.isEmpty_iff, decide_eq_true_iff]
          have eT : (bs n.t).toList.isEmpty = decide (n.t = []) := by rw [bs_toList, Bool.eq_iff_iff, List.isEmpty_iff, decide_eq_true_iff]
          obtain ⟨BN, hBN⟩ : ∃ K, bs n.n = K := ⟨_, rfl⟩
          obtain ⟨BT, hBT⟩ : ∃ K, bs n.t = K := ⟨_, rfl⟩
          unfold evC at hW1' hfu
          rw [hdk, hBN, hBT] at hW1' hfu
          rw [hBN] at q1 d1 eN hcl hvo
          rw [hBT] at q3 d3 eT hgt
          obtain ⟨MW, hMW⟩ : ∃ M, bs (modW (modO OQ)) = M := ⟨_, rfl⟩
          simp only [hMW] at hmo hnt
          have HMO := hid hmo
          have HNT := hid hnt
          have HFU := hid hfu
          have HGT := hid hgt
          have HCL := hid hcl
          have HHO := hid hho
          have HVO := hid hvo
          have HST := hid (And.intro hst (And.intro hsh (And.intro hoq (And.intro hOl (And.intro hdk (And.intro hn (And.intro hok hk1)))))))
          have HX1 := hid (And.intro hX1 (And.intro n1 nb1))
          have HBS := hid (And.intro hBN hBT)
          have hle : k < ec := by omega
          have hcap2 : d ≤ pc := by omega
          clear hmo hnt hfu hgt hcl hho hvo hst hsh hoq hOQ hcut hX1 n1 nb1 hb1 hbk hss hn hdk hBN hBT hMW q4 hd hk0 hbx HK hok
          go_upto_if 32 with fail
          clear hW1' q0 q1 q2 q3
          go_cut [5] from 18 to 123 (fun pv wc => pv = .slice pp d pc ∧ wc = W1')
          case first =>
            by_cases hdl : d < op.length
            · have f1 : decide ((d : Int) < (op.length : Int)) = true := decide_eq_true (by omega)
              have f2 : decide (d < op.length) = true := decide_eq_true hdl
              clear hOl
              go_wp2_with fail
              go_meet
              exact ⟨rfl, rfl⟩
            · have hde : op.length = d := by omega
              have f1 : decide ((d : Int) < (op.length : Int)) = false := decide_eq_false (by omega)
              have f2 : decide (d < op.length) = false := decide_eq_false hdl
              have HDE := hid hde
              clear hOl hde
              go_wp2_with fail
              go_meet
              exact ⟨by rw [HDE.out], rfl⟩
          case rest =>
            obtain ⟨rfl, rfl⟩ := hcut
            clear hOl
            go_wp2_with fail
            refine HMO.out.mono ?_
            rintro e W2' ⟨rfl, rfl⟩
            go_upto_region 11 with fail
            obtain ⟨hst, hsh, hoq, hOl, hdk, hn, hok2, hk12⟩ := HST.out
            by_cases hn0 : n.n = []
            · -- a text
              have hst2 := hst
              rw [hdk] at hst2
              unfold fitN at hst2
              rw [if_pos hn0] at hst2
              have hop : openO OQ n = OQ := if_pos (.inl hn0)
              have hft : fitT n = (d : Int) := by unfold fitT; rw [if_pos hn0, hdk]
              rw [hop, hft] at hst2
              rw [decide_eq_true hn0] at eN
              have hnext : lastT ns (k + 1) = (d : Int) := by rw [lastT_at hn, hft]
              obtain ⟨AG, hAG⟩ : ∃ A, decide (lastT ns k = (d : Int)) = A := ⟨_, rfl⟩
              rw [hAG] at hst2
              rw [hop] at hsh
              have HQ := hid (And.intro hst2 (And.intro hsh (And.intro hoq (And.intro hnext (And.intro hOl (And.intro hok2 hk12))))))
              clear hst hst2 hsh hop hft hnext hok2 hk12 hOl
              have hcase : (k = 0 ∧ AG = false) ∨ (∃ m, ns[k - 1]? = some m ∧ 0 < k ∧ ((m.n ≠ [] ∧ AG = false) ∨ (m.n = [] ∧ m.k ≠ (d : Int) ∧ AG = false) ∨ (m.n = [] ∧ m.k = (d : Int) ∧ AG = true))) := by
                by_cases hk0 : k = 0
                · left
                  refine ⟨hk0, ?_⟩
                  rw [← hAG, hk0]
                  exact decide_eq_false (by show ¬ ((-1 : Int) = (d : Int)); omega)
                · right
                  obtain ⟨j, rfl⟩ : ∃ j, k = j + 1 := ⟨k - 1, by omega⟩
                  obtain ⟨m, hm⟩ : ∃ m, ns[j]? = some m := ⟨_, List.getElem?_eq_getElem (by omega)⟩
                  refine ⟨m, hm, by omega, ?_⟩
                  rw [lastT_at hm] at hAG
                  unfold fitT at hAG
                  by_cases hm0 : m.n = []
                  · rw [if_pos hm0] at hAG
                    by_cases hmd : m.k = (d : Int)
                    · exact .inr (.inr ⟨hm0, hmd, by rw [← hAG]; exact decide_eq_true hmd⟩)
                    · exact .inr (.inl ⟨hm0, hmd, by rw [← hAG]; exact decide_eq_false hmd⟩)
                  · rw [if_neg hm0] at hAG
                    exact .inl ⟨hm0, by rw [← hAG]; exact decide_eq_false (by omega)⟩
              have HCS := hid hcase
              clear hAG hcase hn hn0
              go_upto_region 12 with fail
              clear eN
              go_cut [9] from 18 to 123 (fun av wc => av = .bool AG ∧ Hid (∃ nq, wc = W2'.drewN nq))
              case first =>
                rcases HCS.out with ⟨hk0, rfl⟩ | ⟨m, hm, hk0, hc⟩
                case inl =>
                  have f1 : decide ((k : Int) > 0) = false := decide_eq_false (by omega)
                  have f2 : decide ((0 : Int) < (k : Int)) = false := decide_eq_false (by omega)
                  have f3 : decide (0 < k) = false := decide_eq_false (by omega)
                  clear hk0 HCS
                  go_quiet (fail)
                  go_wp2_with fail
                  go_meet
                  exact ⟨rfl, hid ⟨nq, rfl⟩⟩
                case inr =>
                  obtain ⟨b', o', u', he, y0, y1, _, _, _⟩ := HC.out (k - 1) m hm
                  cases he
                  replace y0 := cell_low y0 HX1.out.1.be (cell_block y0)
                  replace y1 := cell_low y1 HX1.out.1.be (cell_block y1)
                  have f1 : decide ((k : Int) > 0) = true := decide_eq_true (by omega)
                  have f2 : decide ((0 : Int) < (k : Int)) = true := decide_eq_true (by omega)
                  have f3 : decide (0 < k) = true := decide_eq_true hk0
                  have g1 : (0 : Int) ≤ (k : Int) - 1 := by omega
                  have g2 : (k : Int) - 1 < (ns.length : Int) := by omega
                  have g4 : 1 ≤ k := hk0
                  have g5 : k - 1 < ns.length := by omega
                  have hw1 : IntKind.i64.wrap ((k : Int) - 1) = (k : Int) - 1 := by rw [IntKind.wrap_i64]; omega
                  obtain ⟨Km, hKm⟩ : ∃ K, m.k = K := ⟨_, rfl⟩
                  obtain ⟨BM, hBM⟩ : ∃ K, bs m.n = K := ⟨_, rfl⟩
                  have eM : BM.toList.isEmpty = decide (m.n = []) := by rw [← hBM, bs_toList, Bool.eq_iff_iff, List.isEmpty_iff, decide_eq_true_iff]
                  rw [hKm] at y0 hc
                  rw [hBM] at y1
                  clear hBM hKm hm HCS hk0
                  rcases hc with ⟨h1, rfl⟩ | ⟨h1, h2, rfl⟩ | ⟨h1, h2, rfl⟩
                  · rw [decide_eq_false h1] at eM
                    clear h1
                    go_quiet (fail)
                    go_wp2_with fail
                    go_meet
                    exact ⟨rfl, hid ⟨nq, rfl⟩⟩
                  · rw [decide_eq_true h1] at eM
                    have eK : (Km == (d : Int)) = false := beq_eq_false_iff_ne.2 h2
                    clear h1 h2
                    go_quiet (fail)
                    go_wp2_with fail
                    go_meet
                    exact ⟨rfl, hid ⟨nq, rfl⟩⟩
                  · rw [decide_eq_true h1] at eM
                    have eK : (Km == (d : Int)) = true := beq_iff_eq.2 h2
                    clear h1 h2
                    go_quiet (fail)
                    go_wp2_with fail
                    go_meet
                    exact ⟨rfl, hid ⟨nq, rfl⟩⟩
              case rest =>
                obtain ⟨rfl, HWC⟩ := hcut
                clear HCS
                have hb6 : Below W2'.heap.size W2' wc := by obtain ⟨nq, rfl⟩ := HWC.out; exact below_drewN (Below.refl _ _) nq
                have hX6 := HX1.out.1.below hb6
                have n6 := (hb6.block _ (block_lt HX1.out.2.1)).trans HX1.out.2.1
                have nb6 := (hb6.block _ (block_lt HX1.out.2.2)).trans HX1.out.2.2
                have HX6 := hid (And.intro hX6 (And.intro n6 nb6))
                clear d0 d1 d2 d3
                obtain ⟨-, -, -, d3⟩ := evC_at n6
                rw [HBS.out.2] at d3
                clear hb6 hX6 n6 nb6 p0 p1 p2 p3 p4 HWC
                have hr := HQ.out.1
                cases AG with
                | true =>
                  rw [Bool.not_true, Bool.false_and, Bool.false_and] at hr
                  subst hr
                  have HB6 := hid HX6.out.1.be
                  clear HX6 HX1 HQ HST HMO HNT HFU HGT HCL HHO HVO
                  go_wp2_with fail
                  go_ret
                  exact ⟨rfl, HB6.out⟩
                | false =>
                  rw [Bool.not_false, Bool.true_and] at hr
                  by_cases ht0 : n.t = []
                  case pos =>
                    rw [decide_eq_true ht0] at eT
                    rw [decide_eq_false (fun h => h ht0), Bool.false_and, Bool.false_and] at hr
                    subst hr
                    have HB6 := hid HX6.out.1.be
                    clear HX6 HX1 HQ HST HMO HNT HFU HGT HCL HHO HVO ht0
                    go_wp2_with fail
                    go_ret
                    exact ⟨rfl, HB6.out⟩
                  case neg =>
                    rw [decide_eq_false ht0] at eT
                    rw [decide_eq_true ht0, Bool.true_and] at hr
                    have HG6 := hid (HGT.out wc)
                    have HR6 := hid hr
                    clear hr HGT HX1 HFU HCL HHO HVO HMO ht0
                    go_wp2_with fail
                    refine HG6.out.mono ?_
                    rintro e W7 ⟨rfl, hb7⟩
                    have HX7 := hid (And.intro (HX6.out.1.below hb7) ((hb7.block _ (block_lt HX6.out.2.2)).trans HX6.out.2.2))
                    have hr := HR6.out
                    generalize gt n.t = GT at hr HG6 ⊢
                    clear hb7 d3 HX6 HG6 HR6
                    cases GT with
                    | false =>
                      rw [Bool.false_and, Bool.false_and] at hr
                      subst hr
                      have HB7 := hid HX7.out.1.be
                      clear HX7 HQ HST HNT
                      go_wp2_with fail
                      go_ret
                      exact ⟨rfl, HB7.out⟩
                    | true =>
                      rw [Bool.true_and] at hr
                      have hnt := HNT.out 3 W7 (by omega)
                      rw [show bs (clsW 3) = ⟨#[116, 101, 120, 116]⟩ from rfl] at hnt
                      have hsay := sayM _ (nest_lt (modO OQ) 3)
                      obtain ⟨NP, hNP⟩ : ∃ N, nestP (modO OQ) 3 = N := ⟨_, rfl⟩
                      rw [hNP] at hnt hsay hr
                      obtain ⟨S, hS⟩ : ∃ S, bs (sayW NP) = S := ⟨_, rfl⟩
                      have hq1 : (S.toList == [116, 97, 107, 101]) = decide (NP = 2) := by rw [← hS, bs_toList]; exact hsay
                      rw [hS] at hnt
                      have HNT7 := hid hnt
                      clear hnt hsay hNP hS HNT HST
                      by_cases hn2 : NP = 2
                      · rw [decide_eq_true hn2] at hq1
                        rw [hn2, beq_self_eq_true, Bool.true_and] at hr
                        have HR7 := hid hr
                        clear hn2 hr
                        go_wp2_with fail
                        refine HNT7.out.mono ?_
                        rintro e W8 ⟨rfl, rfl⟩
                        go_wp2_with fail
                        have hlen2 : OQ.length ≤ 256 := by have := HQ.out.2.2.2.2.1; have := HQ.out.2.2.2.2.2; omega
                        go_roundw
                        case rel => exact ⟨k + 1, OQ, rfl, by omega, hlen2, hid HX7.out, hid ⟨HQ.out.2.2.1, HQ.out.2.1, by rw [HQ.out.2.2.2.1]; exact HR7.out.symm⟩⟩
                        case measure => simp [RowKit.intOf]; omega
                      · rw [decide_eq_false hn2] at hq1
                        rw [beq_eq_false_iff_ne.2 hn2, Bool.false_and] at hr
                        subst hr
                        have HB7 := hid HX7.out.1.be
                        clear hn2 HX7 HQ
                        go_wp2_with fail
                        refine HNT7.out.mono ?_
                        rintro e W8 ⟨rfl, rfl⟩
                        go_wp2_with fail
                        go_ret
                        exact ⟨rfl, HB7.out⟩
            · -- an element
              have hst2 := hst
              unfold fitN at hst2
              rw [if_neg hn0] at hst2
              have hft : fitT n = -1 := if_neg hn0
              rw [hft, hdk] at hst2
              rw [decide_eq_false hn0] at eN
              have hnext : lastT ns (k + 1) = -1 := by rw [lastT_at hn, hft]
              have hcw := cls_nilM n.n
              obtain ⟨CW, hCW⟩ : ∃ C, bs (clsW (clsX n.n)) = C := ⟨_, rfl⟩
              have eC : CW.toList.isEmpty = (elemL n.n).isNone := by rw [← hCW, bs_toList]; exact hcw
              rw [hCW] at HCL
              have HNE := hid (fun (_ : True) => And.intro hn0 (And.intro hCW (And.intro hsh (And.intro hoq (And.intro hnext (And.intro hOl (And.intro hok2 hk12)))))))
              clear hst hsh hoq hOl hdk hn hok2 hk12 hft hnext hcw hCW hn0
              by_cases hel : elemL n.n = none
              · rw [hel, Option.isNone_none] at eC
                rw [decide_eq_false (fun h => h hel), Bool.false_and, Bool.false_and] at hst2
                subst hst2
                have HB6 := hid HX1.out.1.be
                clear HX1 HST HMO HNT HFU HGT HHO HVO HNE hel
                go_wp2_with fail
                refine (HCL.out _).mono ?_
                rintro e W8 ⟨rfl, rfl⟩
                go_wp2_with fail
                go_ret
                exact ⟨rfl, HB6.out⟩
              · have heN : (elemL n.n).isNone = false := by cases h : elemL n.n with | none => exact absurd h hel | some _ => rfl
                rw [heN] at eC
                rw [decide_eq_true hel, Bool.true_and] at hst2
                have hnt := HNT.out (clsX n.n) W2' (cls_rangeM _ hel)
                rw [(HNE.out trivial).2.1] at hnt
                have hsay := sayM _ (nest_lt (modO OQ) (clsX n.n))
                obtain ⟨NP, hNP⟩ : ∃ N, nestP (modO OQ) (clsX n.n) = N := ⟨_, rfl⟩
                rw [hNP] at hnt hsay hst2
                obtain ⟨S, hS⟩ : ∃ S, bs (sayW NP) = S := ⟨_, rfl⟩
                have hq1 : (S.toList == [116, 97, 107, 101]) = decide (NP = 2) := by rw [← hS, bs_toList]; exact hsay
                rw [hS] at hnt
                have HNT7 := hid hnt
                have HEL := hid hel
                clear hnt hsay hNP hS HNT heN hel HGT HMO
                by_cases hn2 : NP = 2
                case neg =>
                  rw [decide_eq_false hn2] at hq1
                  rw [beq_eq_false_iff_ne.2 hn2, Bool.false_and, Bool.false_and] at hst2
                  subst hst2
                  have HB6 := hid HX1.out.1.be
                  clear HX1 HST HFU HHO HVO HNE hn2
                  go_wp2_with fail
                  refine (HCL.out _).mono ?_
                  rintro e W8 ⟨rfl, rfl⟩
                  go_wp2_with fail
                  refine (HCL.out _).mono ?_
                  rintro e W9 ⟨rfl, rfl⟩
                  go_wp2_with fail
                  refine HNT7.out.mono ?_
                  rintro e W10 ⟨rfl, rfl⟩
                  go_wp2_with fail
                  go_ret
                  exact ⟨rfl, HB6.out⟩
                case pos =>
                  rw [decide_eq_true hn2] at hq1
                  rw [hn2, beq_self_eq_true, Bool.true_and] at hst2
                  clear hn2
                  by_cases hdp : (d : Int) < P.depth
                  case neg =>
                    have f1 : decide ((d : Int) ≥ P.depth) = true := decide_eq_true (by omega)
                    have f2 : decide (P.depth ≤ (d : Int)) = true := decide_eq_true (by omega)
                    rw [decide_eq_false hdp, Bool.false_and, Bool.false_and] at hst2
                    subst hst2
                    have HB6 := hid HX1.out.1.be
                    clear HX1 HST HFU HHO HVO HNE hdp
                    go_wp2_with fail
                    refine (HCL.out _).mono ?_
                    rintro e W8 ⟨rfl, rfl⟩
                    go_wp2_with fail
                    refine (HCL.out _).mono ?_
                    rintro e W9 ⟨rfl, rfl⟩
                    go_wp2_with fail
                    refine HNT7.out.mono ?_
                    rintro e W10 ⟨rfl, rfl⟩
                    go_wp2_with fail
                    go_ret
                    exact ⟨rfl, HB6.out⟩
                  case pos =>
                    have f1 : decide ((d : Int) ≥ P.depth) = false := decide_eq_false (by omega)
                    have f2 : decide (P.depth ≤ (d : Int)) = false := decide_eq_false (by omega)
                    rw [decide_eq_true hdp, Bool.true_and] at hst2
                    have hdb : d + 1 ≤ 256 := by have := depth_le HC0.out; omega
                    have HS2 := hid (And.intro hst2 hdb)
                    clear hdp hst2 hdb
                    go_wp2_with fail
                    refine (HCL.out _).mono ?_
                    rintro e W8 ⟨rfl, rfl⟩
                    go_wp2_with fail
                    refine (HCL.out _).mono ?_
                    rintro e W9 ⟨rfl, rfl⟩
                    go_wp2_with fail
                    refine HNT7.out.mono ?_
                    rintro e W10 ⟨rfl, rfl⟩
                    go_wp2_with fail
                    refine HFU.out.mono ?_
                    rintro e W11 ⟨rfl, hb11⟩
                    have n11 := (hb11.block _ (block_lt HX1.out.2.1)).trans HX1.out.2.1
                    have HX11 := hid (And.intro (HX1.out.1.below hb11) ((hb11.block _ (block_lt HX1.out.2.2)).trans HX1.out.2.2))
                    clear d0 d1 d2 d3 p0 p1 p2 p3 p4
                    obtain ⟨-, d1, -, -⟩ := evC_at n11
                    rw [HBS.out.1] at d1
                    have hr := HS2.out.1
                    generalize ruleFits P n = RF at hr HFU ⊢
                    clear hb11 n11 HX1 HFU HCL HNT7 f1 f2 eC hq1
                    cases RF with
                    | false =>
                      rw [Bool.false_and, Bool.false_and] at hr
                      subst hr
                      have HB6 := hid HX11.out.1.be
                      clear HX11 HST HHO HVO HNE HS2
                      go_wp2_with fail
                      go_ret
                      exact ⟨rfl, HB6.out⟩
                    | true =>
                      rw [Bool.true_and] at hr
                      obtain ⟨AB, hAB⟩ : ∃ A, (n.n == [97] && OQ.contains [97]) = A := ⟨_, rfl⟩
                      rw [hAB] at hr
                      have HR := hid (And.intro hr hAB)
                      have hho := HHO.out W11 (Words.row HX11.out.1.r2)
                      rw [show (⟨#[97]⟩ : ByteArray).toList = [97] by decide +kernel] at hho
                      have eA : (BN.toList == [97]) = (n.n == [97]) := by rw [← HBS.out.1, bs_toList]
                      have HO11 := hid hho
                      clear hr hho HHO
                      go_upto_region 17 with fail
                      go_cut [114] from 18 to 123 (fun bv wc => bv = .bool AB ∧ wc = W11)
                      case first =>
                        have hab := HR.out.2
                        cases hA : (n.n == [97]) with
                        | false =>
                          rw [hA] at eA hab
                          rw [Bool.false_and] at hab
                          subst hab
                          clear hA
                          go_wp2_with fail
                          go_meet
                          exact ⟨rfl, rfl⟩
                        | true =>
                          rw [hA] at eA hab
                          rw [Bool.true_and] at hab
                          rw [hab] at HO11
                          clear hA hab
                          go_wp2_with fail
                          refine HO11.out.mono ?_
                          rintro e W12 ⟨rfl, rfl⟩
                          go_wp2_with fail
                          go_meet
                          exact ⟨rfl, rfl⟩
                      case rest =>
                        obtain ⟨rfl, rfl⟩ := hcut
                        have hr := HR.out.1
                        clear eA HO11
                        cases AB with
                        | true =>
                          rw [Bool.not_true, Bool.false_and] at hr
                          subst hr
                          have HB6 := hid HX11.out.1.be
                          clear HX11 HST HVO HNE HS2 HR
                          go_wp2_with fail
                          go_ret
                          exact ⟨rfl, HB6.out⟩
                        | false =>
                          rw [Bool.not_false, Bool.true_and] at hr
                          have hopk := open_ok (HNE.out trivial).2.2.2.1 (.inr HEL.out) HR.out.2
                          have hoo : openO OQ n = if n.n = [] ∨ voidL n.n = true then OQ else OQ ++ [n.n] := rfl
                          obtain ⟨OP, hOP⟩ : ∃ O, openO OQ n = O := ⟨_, rfl⟩
                          have hsh2 := (HNE.out trivial).2.2.1
                          rw [hOP] at hr hopk hoo hsh2
                          have hopl : OP.length ≤ 256 := by
                            have h1 := (HNE.out trivial).2.2.2.2.2.1
                            have h2 := HS2.out.2
                            rw [hoo]
                            split
                            · omega
                            · rw [List.length_append, List.length_singleton]; omega
                          obtain ⟨VD, hVD⟩ : ∃ V, voidL n.n = V := ⟨_, rfl⟩
                          rw [hVD] at hoo HVO
                          have HF := hid (And.intro hr (And.intro hopk (And.intro hsh2 (And.intro hopl hoo))))
                          clear hr hopk hoo hsh2 hopl hVD hOP HR HS2
                          go_wp2_with fail
                          refine (HVO.out _).mono ?_
                          rintro e W13 ⟨rfl, rfl⟩
                          cases VD with
                          | true =>
                            have hoo := HF.out.2.2.2.2
                            rw [if_pos (.inr rfl)] at hoo
                            have hX := HX11.out.1
                            rw [← hoo] at hX
                            have HX := hid (And.intro hX HX11.out.2)
                            clear hX hoo
                            go_wp2_with fail
                            go_roundw
                            case rel => exact ⟨k + 1, OP, rfl, by omega, HF.out.2.2.2.1, HX, hid ⟨HF.out.2.1, HF.out.2.2.1, by rw [(HNE.out trivial).2.2.2.2.1]; exact HF.out.1.symm⟩⟩
                            case measure => simp [RowKit.intOf]; omega
                          | false =>
                            have hoo := HF.out.2.2.2.2
                            rw [if_neg (fun h => h.elim (HNE.out trivial).1 (fun h => by cases h))] at hoo
                            have HOO := hid hoo
                            have hown := HX11.out.1.r2
                            have hbs1 := HX11.out.1.be.size
                            have hOl := (HNE.out trivial).2.2.2.2.2.1
                            have hok2 := (HNE.out trivial).2.2.2.2.2.2.1
                            have hk12 := (HNE.out trivial).2.2.2.2.2.2.2
                            obtain ⟨si, hsi, hs0, hs1, hs2⟩ := info_parts info_str
                            clear hoo
                            go_wp2_with (at_builtin; refine wpList_append_own _ rfl (.tmp 119) (.tmp 122) 41 rfl w.heap.size 9 si (.string ⟨#[]⟩) 1 16 Tryz.underlying41 hsi hs0 hs1 hs2 rfl (by decide) _ _ _ rfl (hown.alloc _) ⟨_, 0, none⟩ 1 1 [.string BN] rfl rfl (cells_newV _ _ _) (by simp [Value.oneCell']) (by unfold maxLen; omega) (by omega) (by simp; omega) ?_)
                            intro v4 W4 hown4 hgrow4 _
                            have hX := HX11.out.1.push (x := n.n) (by rw [HBS.out.1, hOl]; exact hown4) hgrow4
                            have hma := hown.alloc (.cells #[.string BN] 9)
                            have hn2 := (Go.Lib.alloc_old W13 (.cells #[.string BN] 9) _ (block_lt HX11.out.2)).trans HX11.out.2
                            have nb4 := grown_at hgrow4 hn2 (row_ne hma hn2 (by decide))
                            rw [← HOO.out] at hX
                            have HX := hid (And.intro hX nb4)
                            clear hX hma hn2 nb4 hown hown4 hgrow4 d1
                            go_wp2_with fail
                            go_roundw
                            case rel => exact ⟨k + 1, OP, rfl, by omega, HF.out.2.2.2.1, HX, hid ⟨HF.out.2.1, HF.out.2.2.1, by rw [(HNE.out trivial).2.2.2.2.1]; exact HF.out.1.symm⟩⟩
                            case measure => simp [RowKit.intOf]; omega
        · have hr := HK.out.2.2
          rw [List.drop_of_length_le (by omega)] at hr
          have hR : R = true := hr.symm
          subst hR
          have z1 : decide ((k : Int) < (ns.length : Int)) = false := decide_eq_false (by omega)
          have z2 : decide (k < ns.length) = false := decide_eq_false hkl
          have HZ := hid HX.out.1.be
          clear hr HX HK HC HFR
          go_wp2_with fail
          go_ret
          exact ⟨rfl, HZ.out⟩
end Go.Proofs.YtcncbhbdpcpkeaaGreatDoor
