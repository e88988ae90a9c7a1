/-
  Parts of the walk, joined: ParK.
-/
import Derived.Test.YtcncbhbdpcpkeaaGreatDoorPJBE
/-
  markup.cutToken: its walk. (Written by tools/gencut.py.)
-/
namespace Go.Proofs.YtcncbhbdpcpkeaaGreatDoor
open Go.RowKit Go.Lib Own Go.Sort

/-- behind the token: what lies in the two boxes -/
structure CutAt (w W : World) (l : List UInt8) (k : Nat) (n t rest : List UInt8) (g : Bool) (av : Value) (al : List AttrP) (NB TB : ByteArray) : Prop where
  nb : bs n = NB
  tb : bs t = TB
  res : W.heap[w.heap.size]? = some (.cells #[.int .i64 k, .string NB, av, .string TB] 60 (0, 0))
  rd : TrAt W (w.heap.size + 1) rest g
  row : W.ownsRow w.heap.size 122 2 av al.length (attrsV al)
  be : Below w.heap.size w W
  len : al.length ≤ l.length
  bad : g = true → tokP l = none
  ok : g = false → ∃ tok, tokP l = some (tok, rest) ∧ k = evK tok ∧ n = evN tok ∧ al = evA tok ∧ t = evT tok
theorem CutAt.below {w W W' : World} {l : List UInt8} {k : Nat} {n t rest : List UInt8} {g : Bool} {av : Value} {al : List AttrP} {NB TB : ByteArray} (h : CutAt w W l k n t rest g av al NB TB) (hb : Below W.heap.size W W') : CutAt w W' l k n t rest g av al NB TB :=
  ⟨h.nb, h.tb, (hb.block _ (block_lt h.res)).trans h.res, (TrOut.below h.rd hb).at_, row_below h.row hb, h.be.trans (hb.mono h.be.size), h.len, h.bad, h.ok⟩
/-- the end: the event is handed back -/
theorem CutAt.out {w W W8 : World} {l : List UInt8} {k v : Nat} {n t rest : List UInt8} {g : Bool} {av : Value} {al : List AttrP} {NB TB : ByteArray} (h : CutAt w W l k n t rest g av al NB TB) (hv : (g = true ∧ v = 1) ∨ (g = false ∧ v = if (al.map Prod.fst).Nodup then 0 else 2))
    (hj : Just W W8 w.heap.size #[.int .i64 k, .string NB, av, .string TB] 60) : TokOut w W8.drew l (.returned (.tuple #[.agg #[.int .i64 k, .string NB, av, .string TB], .string (bs rest), .int .i64 v])) := by
  obtain rfl := h.nb
  obtain rfl := h.tb
  refine ⟨k, v, n, t, rest, av, al, rfl, ?_, below_drewN (h.be.trans (just_low hj (Nat.le_refl _))) 1, h.len, fun h0 => ?_, fun tok r h0 => ?_⟩
  · have hrow := h.row.kept (just_grown hj) (.inr (row_ne h.row h.res (by decide)))
    exact hrow
  · rcases hv with ⟨_, h2⟩ | ⟨h1, _⟩
    · exact h2
    · obtain ⟨tok, h3, _⟩ := h.ok h1
      rw [h3] at h0; cases h0
  · rcases hv with ⟨h1, _⟩ | ⟨h1, h2⟩
    · rw [h.bad h1] at h0; cases h0
    · obtain ⟨tok', h3, h4, h5, h6, h7⟩ := h.ok h1
      rw [h3] at h0
      simp only [Option.some.injEq, Prod.mk.injEq] at h0
      obtain ⟨rfl, rfl⟩ := h0
      exact ⟨rfl, h4, h5, h6, h7, h2⟩
set_option maxHeartbeats 16000000 in
set_option maxRecDepth 100000 in
theorem cutToken_any (l : List UInt8) (m : Int) (w : World) (hs : l.length ≤ 80000000) (hM : MRefTab w) (hm : w.cell? ⟨4, 0, none⟩ = some (.int .i64 m)) :
    Calls Tryz.prog 34 #[.string (bs l)] w fun e w' => TokOut w w' l e := by
  obtain ⟨W1, hW1⟩ : ∃ W1, (w.alloc (.cells #[.int .i64 0, .string ⟨#[]⟩, .slice none 0 0, .string ⟨#[]⟩] 60)).alloc (.cells #[.string (bs l), .bool false] 131) = W1 := ⟨_, rfl⟩
  have hb1 : Below w.heap.size w W1 := by rw [← hW1]; exact ((Below.refl _ _).alloc (Nat.le_refl _) _).alloc (by simp) _
  have hr1 : W1.heap[w.heap.size]? = some (.cells #[.int .i64 0, .string ⟨#[]⟩, .slice none 0 0, .string ⟨#[]⟩] 60 (0, 0)) := by rw [← hW1]; exact (alloc_old _ _ _ (by simp)).trans (heap_alloc_new w _)
  have ht1 : TrAt W1 (w.heap.size + 1) l false := by
    have := heap_alloc_new (w.alloc (.cells #[.int .i64 0, .string ⟨#[]⟩, .slice none 0 0, .string ⟨#[]⟩] 60)) (.cells #[.string (bs l), .bool false] 131)
    rw [hW1] at this
    unfold TrAt
    simpa using this
  have hw1 : TrW w W1 (w.heap.size + 1) m := ⟨hb1, Nat.le_succ _, hM, hm⟩
  have hlt1 := block_lt ht1
  have hsk1 := skip_any (w.heap.size + 1) l [60, 47] false W1 ht1 (by omega)
  have e1 : bs ([60, 47] : List UInt8) = ⟨#[60, 47]⟩ := rfl
  have e2 : bs ([60] : List UInt8) = ⟨#[60]⟩ := rfl
  have e3 : bs ([62] : List UInt8) = ⟨#[62]⟩ := rfl
  have e4 : bs ([] : List UInt8) = ⟨#[]⟩ := rfl
  rw [e1] at hsk1
  have HK := hid (And.intro hb1 (And.intro hr1 (And.intro ht1 hw1)))
  have HSK := hid hsk1
  have HW1 := hid (fun (_ : True) => hW1)
  clear hW1 hb1 hr1 ht1 hw1 hsk1 hM hm
  go_enter Tryz.func34, Tryz.ntmps34
  go_upto_region 3 with fail
  have hW1 := HW1.out trivial
  (try simp only [hW1])
  clear hW1 HW1
  cases hp : ([60, 47] : List UInt8).isPrefixOf l with
  | true =>
    have htk := tok_etag hp
    rw [hp, if_pos rfl, show ([60, 47] : List UInt8).length = 2 from rfl] at HSK
    have hle2 : (l.drop 2).length ≤ l.length := by rw [List.length_drop]; omega
    generalize l.drop 2 = L2 at HSK htk hle2
    have hwd := fun W (hW : TrAt W (w.heap.size + 1) L2 false) => word_any (w.heap.size + 1) L2 [] false W hW (by omega)
    have hnd := fun W g (hW : TrAt W (w.heap.size + 1) (L2.drop (wordN [] L2)) g) => need_any (w.heap.size + 1) (L2.drop (wordN [] L2)) [62] g W hW (by rw [List.length_drop]; omega)
    rw [e4] at hwd
    rw [e3] at hnd
    generalize wordN [] L2 = n at hwd hnd htk
    have HWD := hid hwd
    have HND := hid hnd
    have HTK := hid htk
    clear hwd hnd htk hp e1 e2 e3 e4
    go_wp2_with fail
    refine HSK.out.mono ?_
    rintro e W2 ⟨rfl, ho1⟩
    have HO1 := hid ho1
    clear ho1 HSK
    go_wp2_with fail
    refine (HWD.out W2 HO1.out.at_).mono ?_
    rintro e W3 ⟨rfl, ho2⟩
    have ho12 := HO1.out.trans ho2
    have hr3 := (ho12.gr.block w.heap.size (by omega) (fun e => by have := Option.some.inj e; omega)).trans HK.out.2.1
    have y0 := cell_at hr3 (j := 0) rfl
    have y1 := cell_at hr3 (j := 1) rfl
    have y2 := cell_at hr3 (j := 2) rfl
    have y3 := cell_at hr3 (j := 3) rfl
    have z0 := free_at hr3 0
    have z1 := free_at hr3 1
    have z2 := free_at hr3 2
    have z3 := free_at hr3 3
    obtain ⟨NB, hNB⟩ : ∃ NB, bs (L2.take n) = NB := ⟨_, rfl⟩
    rw [hNB]
    have hj := just4 hr3 (.int .i64 2) (.string NB) (.slice none 0 0) (.string ⟨#[]⟩)
    have hat4 : TrAt _ (w.heap.size + 1) (L2.drop n) (false || n == 0) := (hj.other (w.heap.size + 1) (by omega)).trans ho12.at_
    have hb4 : Below w.heap.size w _ := (HK.out.1.trans (grown_below_lo ho12.gr (Nat.le_succ _) HK.out.1.size)).trans (just_low hj (Nat.le_refl _))
    have hnd4 := HND.out _ _ hat4
    have H4 := hid (And.intro hj.at_ (And.intro hat4 (And.intro hb4 hj.size)))
    have HN4 := hid hnd4
    have HNB := hid (fun (_ : True) => hNB)
    clear hj hat4 hb4 hnd4 hr3 ho12 ho2 HWD HND HO1 HK hNB
    go_upto_region 5 with fail
    generalize (((W3.setCell ⟨w.heap.size, 0, none⟩ (.int .i64 2)).setCell ⟨w.heap.size, 1, none⟩ (.string NB)).setCell ⟨w.heap.size, 2, none⟩ (.slice none 0 0)).setCell ⟨w.heap.size, 3, none⟩ (.string ⟨#[]⟩) = W4 at H4 HN4 ⊢
    clear y0 y1 y2 y3 z0 z1 z2 z3
    go_wp2_with fail
    refine HN4.out.mono ?_
    rintro e W9 ⟨rfl, ho3⟩
    have hNB := HNB.out trivial
    have H3 : Hid (CutAt w W9 l 2 (L2.take n) [] (if ([62] : List UInt8).isPrefixOf (L2.drop n) = true then (L2.drop n).drop ([62] : List UInt8).length else L2.drop n) ((false || n == 0) || !([62] : List UInt8).isPrefixOf (L2.drop n)) (.slice none 0 0) [] NB ⟨#[]⟩) := by
      refine hid ⟨hNB, rfl, ?_, ho3.at_, World.ownsRow_nil _ _ _ _, H4.out.2.2.1.trans (grown_below_lo ho3.gr (Nat.le_succ _) H4.out.2.2.1.size), Nat.zero_le _, fun hg => ?_, fun hg => ?_⟩
      · exact (ho3.gr.block w.heap.size (by have := block_lt H4.out.1; omega) (fun e => by have := Option.some.inj e; omega)).trans H4.out.1
      · rw [HTK.out, if_pos hg]
      · rw [HTK.out, if_neg (by rw [hg]; simp)]
        have hp2 : ([62] : List UInt8).isPrefixOf (L2.drop n) = true := by
          rw [Bool.or_eq_false_iff] at hg
          simpa using hg.2
        rw [hp2, if_pos rfl]
        exact ⟨_, rfl, rfl, rfl, rfl, rfl⟩
    generalize (if ([62] : List UInt8).isPrefixOf (L2.drop n) = true then (L2.drop n).drop ([62] : List UInt8).length else L2.drop n) = rest at H3 ho3
    generalize ((false || n == 0) || !([62] : List UInt8).isPrefixOf (L2.drop n)) = G9 at H3 ho3
    obtain ⟨RB, hRB⟩ : ∃ RB, bs rest = RB := ⟨_, rfl⟩
    clear hNB
    clear ho3 HN4 H4 HTK HNB
    cases G9 with
    | true =>
      have hjj := just4 H3.out.res (.int .i64 (2 : Nat)) (.string NB) (.slice none 0 0) (.string ⟨#[]⟩)
      have HZ := hid (H3.out.out (v := 1) (.inl ⟨rfl, rfl⟩) hjj)
      have HJ := hid hjj.at_
      obtain ⟨c0, c1, f0, f1⟩ := tr_cells H3.out.rd
      have x0 := cell_at H3.out.res (j := 0) rfl
      have x1 := cell_at H3.out.res (j := 1) rfl
      have x2 := cell_at H3.out.res (j := 2) rfl
      have x3 := cell_at H3.out.res (j := 3) rfl
      have z0 := free_at H3.out.res 0
      have z1 := free_at H3.out.res 1
      have z2 := free_at H3.out.res 2
      have z3 := free_at H3.out.res 3
      rw [hRB] at c0 HZ
      clear hjj H3
      go_wp2_with fail
      go_region
      all_goals
        go_wp2_with fail
        refine bodyPost_ret (v := .tuple #[.agg #[.int .i64 (2 : Nat), .string NB, .slice none 0 0, .string ⟨#[]⟩], .string RB, .int .i64 (1 : Nat)]) ?_ rfl HZ.out
        exact results_cell_two rfl _ _ _ _ _ _ _ _ _ rfl rfl rfl HJ.out Tryz.underlying60 rfl (by kernel_rfl)
    | false =>
      have hat9 := attrsR_row H3.out.row
      have hht := hasTwiceM_any _ _ W9 hat9 (by have := H3.out.len; omega)
      obtain ⟨c0, c1, f0, f1⟩ := tr_cells H3.out.rd
      have x2 := cell_at H3.out.res (j := 2) rfl
      have HHT := hid hht
      clear hht hat9
      by_cases hnd : (([] : List AttrP).map Prod.fst).Nodup
      · rw [decide_eq_true hnd] at HHT
        have HND := hid hnd
        clear hnd
        go_wp2_with fail
        refine HHT.out.mono ?_
        rintro e W10 ⟨rfl, hb10⟩
        have H3 := hid (H3.out.below hb10)
        clear hb10 HHT c0 c1 f0 f1 x2
        have hnd := HND.out
        have hjj := just4 H3.out.res (.int .i64 (2 : Nat)) (.string NB) (.slice none 0 0) (.string ⟨#[]⟩)
        have HZ := hid (H3.out.out (v := 0) (.inr ⟨rfl, by rw [if_pos hnd]⟩) hjj)
        have HJ := hid hjj.at_
        obtain ⟨c0, c1, f0, f1⟩ := tr_cells H3.out.rd
        have x0 := cell_at H3.out.res (j := 0) rfl
        have x1 := cell_at H3.out.res (j := 1) rfl
        have x2 := cell_at H3.out.res (j := 2) rfl
        have x3 := cell_at H3.out.res (j := 3) rfl
        have z0 := free_at H3.out.res 0
        have z1 := free_at H3.out.res 1
        have z2 := free_at H3.out.res 2
        have z3 := free_at H3.out.res 3
        rw [hRB] at c0 HZ
        clear hjj H3
        go_wp2_with fail
        go_region
        all_goals
          go_wp2_with fail
          refine bodyPost_ret (v := .tuple #[.agg #[.int .i64 (2 : Nat), .string NB, .slice none 0 0, .string ⟨#[]⟩], .string RB, .int .i64 (0 : Nat)]) ?_ rfl HZ.out
          exact results_cell_two rfl _ _ _ _ _ _ _ _ _ rfl rfl rfl HJ.out Tryz.underlying60 rfl (by kernel_rfl)
      · rw [decide_eq_false hnd] at HHT
        have HND := hid hnd
        clear hnd
        go_wp2_with fail
        refine HHT.out.mono ?_
        rintro e W10 ⟨rfl, hb10⟩
        have H3 := hid (H3.out.below hb10)
        clear hb10 HHT c0 c1 f0 f1 x2
        have hnd := HND.out
        have hjj := just4 H3.out.res (.int .i64 (2 : Nat)) (.string NB) (.slice none 0 0) (.string ⟨#[]⟩)
        have HZ := hid (H3.out.out (v := 2) (.inr ⟨rfl, by rw [if_neg hnd]⟩) hjj)
        have HJ := hid hjj.at_
        obtain ⟨c0, c1, f0, f1⟩ := tr_cells H3.out.rd
        have x0 := cell_at H3.out.res (j := 0) rfl
        have x1 := cell_at H3.out.res (j := 1) rfl
        have x2 := cell_at H3.out.res (j := 2) rfl
        have x3 := cell_at H3.out.res (j := 3) rfl
        have z0 := free_at H3.out.res 0
        have z1 := free_at H3.out.res 1
        have z2 := free_at H3.out.res 2
        have z3 := free_at H3.out.res 3
        rw [hRB] at c0 HZ
        clear hjj H3
        go_wp2_with fail
        go_region
        all_goals
          go_wp2_with fail
          refine bodyPost_ret (v := .tuple #[.agg #[.int .i64 (2 : Nat), .string NB, .slice none 0 0, .string ⟨#[]⟩], .string RB, .int .i64 (2 : Nat)]) ?_ rfl HZ.out
          exact results_cell_two rfl _ _ _ _ _ _ _ _ _ rfl rfl rfl HJ.out Tryz.underlying60 rfl (by kernel_rfl)
  | false =>
    rw [hp, if_neg (by simp)] at HSK
    have hsk2 := fun W (hW : TrAt W (w.heap.size + 1) l false) => skip_any (w.heap.size + 1) l [60] false W hW (by omega)
    rw [e2] at hsk2
    cases hp2 : ([60] : List UInt8).isPrefixOf l with
    | true =>
      rw [hp2, if_pos rfl] at hsk2
      have htk := tok_stag hp hp2
      have hd1 : l.drop ([60] : List UInt8).length = l.tail := by cases l <;> rfl
      rw [hd1] at hsk2
      have hle2 : l.tail.length ≤ l.length := by rw [List.length_tail]; omega
      generalize l.tail = L2 at hsk2 htk hle2
      have hst := fun W (hW : TrAt W (w.heap.size + 1) L2 false) (hT : TrW w W (w.heap.size + 1) m) => startTag2_any w (w.heap.size + 1) L2 m W hW hT (by omega)
      have HS2 := hid hsk2
      have HST := hid hst
      have HTK := hid htk
      clear hsk2 hst htk hp hp2 e1 e2 e3 e4 hd1
      go_wp2_with fail
      refine HSK.out.mono ?_
      rintro e W2 ⟨rfl, ho1⟩
      have HO1 := hid ho1
      clear ho1 HSK
      go_wp2_with fail
      refine (HS2.out W2 HO1.out.at_).mono ?_
      rintro e W3 ⟨rfl, ho2⟩
      have HO2 := hid (HO1.out.trans ho2)
      have hst3 := HST.out W3 ho2.at_ (HK.out.2.2.2.on (HO1.out.trans ho2).gr)
      have HS3 := hid hst3
      clear ho2 hst3 HST HS2 HO1
      go_wp2_with fail
      refine HS3.out.mono ?_
      rintro e W4 ⟨av, al, l', G9, rfl, ho4, hrow4, hbad, hok, hal, hl'⟩
      obtain ⟨avp, avc, rfl⟩ := row_shape hrow4
      have ho12 := HO2.out.trans ho4
      have hr3 := (ho12.gr.block w.heap.size (by omega) (fun e => by have := Option.some.inj e; omega)).trans HK.out.2.1
      have y0 := cell_at hr3 (j := 0) rfl
      have y1 := cell_at hr3 (j := 1) rfl
      have y2 := cell_at hr3 (j := 2) rfl
      have y3 := cell_at hr3 (j := 3) rfl
      have z0 := free_at hr3 0
      have z1 := free_at hr3 1
      have z2 := free_at hr3 2
      have z3 := free_at hr3 3
      obtain ⟨NB, hNB⟩ : ∃ NB, bs (L2.take (wordN [] L2)) = NB := ⟨_, rfl⟩
      rw [hNB]
      have hj := just4 hr3 (.int .i64 1) (.string NB) (.slice avp al.length avc) (.string ⟨#[]⟩)
      have hsz3 := ho12.gr.size
      have hrow4' := row_low hrow4 (show w.heap.size ≤ W3.heap.size by have := HO2.out.gr.size; omega)
      have H3 : Hid (CutAt w ((((W4.setCell ⟨w.heap.size, 0, none⟩ (.int .i64 1)).setCell ⟨w.heap.size, 1, none⟩ (.string NB)).setCell ⟨w.heap.size, 2, none⟩ (.slice avp al.length avc)).setCell ⟨w.heap.size, 3, none⟩ (.string ⟨#[]⟩)) l 1 (L2.take (wordN [] L2)) [] l' G9 (.slice avp al.length avc) al NB ⟨#[]⟩) := by
        refine hid ⟨hNB, rfl, hj.at_, (hj.other (w.heap.size + 1) (by omega)).trans ho12.at_, hrow4'.kept (just_grown hj) (.inr (row_ne hrow4' hr3 (by decide))), (HK.out.1.trans (grown_below_lo ho12.gr (Nat.le_succ _) HK.out.1.size)).trans (just_low hj (Nat.le_refl _)), by omega, fun hg => ?_, fun hg => ?_⟩
        · rw [HTK.out]
          rcases hbad hg with h0 | h0
          · rw [if_pos h0]
          · rw [h0]
            split <;> rfl
        · obtain ⟨h0, h1⟩ := hok hg
          rw [HTK.out, if_neg h0, h1]
          exact ⟨_, rfl, rfl, rfl, rfl, rfl⟩
      clear hj hsz3 hrow4' hrow4 hbad hok ho12 ho4 HO2 HK HTK HS3 hNB hr3
      go_upto_region 8 with fail
      generalize (((W4.setCell ⟨w.heap.size, 0, none⟩ (.int .i64 1)).setCell ⟨w.heap.size, 1, none⟩ (.string NB)).setCell ⟨w.heap.size, 2, none⟩ (.slice avp al.length avc)).setCell ⟨w.heap.size, 3, none⟩ (.string ⟨#[]⟩) = W9 at H3 ⊢
      clear y0 y1 y2 y3 z0 z1 z2 z3
      obtain ⟨RB, hRB⟩ : ∃ RB, bs l' = RB := ⟨_, rfl⟩
      cases G9 with
      | true =>
        have hjj := just4 H3.out.res (.int .i64 (1 : Nat)) (.string NB) (.slice avp al.length avc) (.string ⟨#[]⟩)
        have HZ := hid (H3.out.out (v := 1) (.inl ⟨rfl, rfl⟩) hjj)
        have HJ := hid hjj.at_
        obtain ⟨c0, c1, f0, f1⟩ := tr_cells H3.out.rd
        have x0 := cell_at H3.out.res (j := 0) rfl
        have x1 := cell_at H3.out.res (j := 1) rfl
        have x2 := cell_at H3.out.res (j := 2) rfl
        have x3 := cell_at H3.out.res (j := 3) rfl
        have z0 := free_at H3.out.res 0
        have z1 := free_at H3.out.res 1
        have z2 := free_at H3.out.res 2
        have z3 := free_at H3.out.res 3
        rw [hRB] at c0 HZ
        clear hjj H3
        go_wp2_with fail
        go_region
        all_goals
          go_wp2_with fail
          refine bodyPost_ret (v := .tuple #[.agg #[.int .i64 (1 : Nat), .string NB, .slice avp al.length avc, .string ⟨#[]⟩], .string RB, .int .i64 (1 : Nat)]) ?_ rfl HZ.out
          exact results_cell_two rfl _ _ _ _ _ _ _ _ _ rfl rfl rfl HJ.out Tryz.underlying60 rfl (by kernel_rfl)
      | false =>
        have hat9 := attrsR_row H3.out.row
        have hht := hasTwiceM_any _ _ W9 hat9 (by have := H3.out.len; omega)
        obtain ⟨c0, c1, f0, f1⟩ := tr_cells H3.out.rd
        have x2 := cell_at H3.out.res (j := 2) rfl
        have HHT := hid hht
        clear hht hat9
        by_cases hnd : ((al).map Prod.fst).Nodup
        · rw [decide_eq_true hnd] at HHT
          have HND := hid hnd
          clear hnd
          go_wp2_with fail
          refine HHT.out.mono ?_
          rintro e W10 ⟨rfl, hb10⟩
          have H3 := hid (H3.out.below hb10)
          clear hb10 HHT c0 c1 f0 f1 x2
          have hnd := HND.out
          have hjj := just4 H3.out.res (.int .i64 (1 : Nat)) (.string NB) (.slice avp al.length avc) (.string ⟨#[]⟩)
          have HZ := hid (H3.out.out (v := 0) (.inr ⟨rfl, by rw [if_pos hnd]⟩) hjj)
          have HJ := hid hjj.at_
          obtain ⟨c0, c1, f0, f1⟩ := tr_cells H3.out.rd
          have x0 := cell_at H3.out.res (j := 0) rfl
          have x1 := cell_at H3.out.res (j := 1) rfl
          have x2 := cell_at H3.out.res (j := 2) rfl
          have x3 := cell_at H3.out.res (j := 3) rfl
          have z0 := free_at H3.out.res 0
          have z1 := free_at H3.out.res 1
          have z2 := free_at H3.out.res 2
          have z3 := free_at H3.out.res 3
          rw [hRB] at c0 HZ
          clear hjj H3
          go_wp2_with fail
          go_region
          all_goals
            go_wp2_with fail
            refine bodyPost_ret (v := .tuple #[.agg #[.int .i64 (1 : Nat), .string NB, .slice avp al.length avc, .string ⟨#[]⟩], .string RB, .int .i64 (0 : Nat)]) ?_ rfl HZ.out
            exact results_cell_two rfl _ _ _ _ _ _ _ _ _ rfl rfl rfl HJ.out Tryz.underlying60 rfl (by kernel_rfl)
        · rw [decide_eq_false hnd] at HHT
          have HND := hid hnd
          clear hnd
          go_wp2_with fail
          refine HHT.out.mono ?_
          rintro e W10 ⟨rfl, hb10⟩
          have H3 := hid (H3.out.below hb10)
          clear hb10 HHT c0 c1 f0 f1 x2
          have hnd := HND.out
          have hjj := just4 H3.out.res (.int .i64 (1 : Nat)) (.string NB) (.slice avp al.length avc) (.string ⟨#[]⟩)
          have HZ := hid (H3.out.out (v := 2) (.inr ⟨rfl, by rw [if_neg hnd]⟩) hjj)
          have HJ := hid hjj.at_
          obtain ⟨c0, c1, f0, f1⟩ := tr_cells H3.out.rd
          have x0 := cell_at H3.out.res (j := 0) rfl
          have x1 := cell_at H3.out.res (j := 1) rfl
          have x2 := cell_at H3.out.res (j := 2) rfl
          have x3 := cell_at H3.out.res (j := 3) rfl
          have z0 := free_at H3.out.res 0
          have z1 := free_at H3.out.res 1
          have z2 := free_at H3.out.res 2
          have z3 := free_at H3.out.res 3
          rw [hRB] at c0 HZ
          clear hjj H3
          go_wp2_with fail
          go_region
          all_goals
            go_wp2_with fail
            refine bodyPost_ret (v := .tuple #[.agg #[.int .i64 (1 : Nat), .string NB, .slice avp al.length avc, .string ⟨#[]⟩], .string RB, .int .i64 (2 : Nat)]) ?_ rfl HZ.out
            exact results_cell_two rfl _ _ _ _ _ _ _ _ _ rfl rfl rfl HJ.out Tryz.underlying60 rfl (by kernel_rfl)
    | false =>
      rw [hp2, if_neg (by simp)] at hsk2
      have htk := tok_txt hp2
      have htx := fun W (hW : TrAt W (w.heap.size + 1) l false) (hT : TrW w W (w.heap.size + 1) m) => trText_any (w.heap.size + 1) l false m W hW (by omega) hT.tab hT.ne hT.max
      have HS2 := hid hsk2
      have HST := hid htx
      have HTK := hid htk
      clear hsk2 htx htk hp hp2 e1 e2 e3 e4
      go_wp2_with fail
      refine HSK.out.mono ?_
      rintro e W2 ⟨rfl, ho1⟩
      have HO1 := hid ho1
      clear ho1 HSK
      go_wp2_with fail
      refine (HS2.out W2 HO1.out.at_).mono ?_
      rintro e W3 ⟨rfl, ho2⟩
      have HO2 := hid (HO1.out.trans ho2)
      have hst3 := HST.out W3 ho2.at_ (HK.out.2.2.2.on (HO1.out.trans ho2).gr)
      have HS3 := hid hst3
      clear ho2 hst3 HST HS2 HO1
      go_wp2_with fail
      refine HS3.out.mono ?_
      rintro e W4 ⟨rfl, ho4⟩
      have ho12 := HO2.out.trans ho4
      have hr3 := (ho12.gr.block w.heap.size (by omega) (fun e => by have := Option.some.inj e; omega)).trans HK.out.2.1
      have y0 := cell_at hr3 (j := 0) rfl
      have y1 := cell_at hr3 (j := 1) rfl
      have y2 := cell_at hr3 (j := 2) rfl
      have y3 := cell_at hr3 (j := 3) rfl
      have z0 := free_at hr3 0
      have z1 := free_at hr3 1
      have z2 := free_at hr3 2
      have z3 := free_at hr3 3
      obtain ⟨TB, hTB⟩ : ∃ TB, bs (decR false (l.takeWhile noLt)) = TB := ⟨_, rfl⟩
      rw [hTB]
      have hj := just4 hr3 (.int .i64 3) (.string ⟨#[]⟩) (.slice none 0 0) (.string TB)
      have hsz3 := ho12.gr.size
      have H3 : Hid (CutAt w ((((W4.setCell ⟨w.heap.size, 0, none⟩ (.int .i64 3)).setCell ⟨w.heap.size, 1, none⟩ (.string ⟨#[]⟩)).setCell ⟨w.heap.size, 2, none⟩ (.slice none 0 0)).setCell ⟨w.heap.size, 3, none⟩ (.string TB)) l 3 [] (decR false (l.takeWhile noLt)) (l.drop (l.takeWhile noLt).length) (false || (decP (l.takeWhile noLt)).isNone) (.slice none 0 0) [] ⟨#[]⟩ TB) := by
        refine hid ⟨rfl, hTB, hj.at_, (hj.other (w.heap.size + 1) (by omega)).trans ho12.at_, World.ownsRow_nil _ _ _ _, (HK.out.1.trans (grown_below_lo ho12.gr (Nat.le_succ _) HK.out.1.size)).trans (just_low hj (Nat.le_refl _)), Nat.zero_le _, fun hg => ?_, fun hg => ?_⟩
        · rw [Bool.false_or, Option.isNone_iff_eq_none] at hg
          rw [HTK.out, hg]
          rfl
        · rw [Bool.false_or] at hg
          cases hd : decP (l.takeWhile noLt) with
          | none => rw [hd] at hg; cases hg
          | some v =>
            rw [HTK.out, hd, decR_some hd]
            exact ⟨_, rfl, rfl, rfl, rfl, rfl⟩
      clear hj hsz3 ho12 ho4 HO2 HK HTK HS3 hTB hr3
      generalize decR false (l.takeWhile noLt) = tt at H3
      generalize l.drop (l.takeWhile noLt).length = rest at H3
      generalize (false || (decP (l.takeWhile noLt)).isNone) = G9 at H3
      go_upto_region 8 with fail
      generalize (((W4.setCell ⟨w.heap.size, 0, none⟩ (.int .i64 3)).setCell ⟨w.heap.size, 1, none⟩ (.string ⟨#[]⟩)).setCell ⟨w.heap.size, 2, none⟩ (.slice none 0 0)).setCell ⟨w.heap.size, 3, none⟩ (.string TB) = W9 at H3 ⊢
      clear y0 y1 y2 y3 z0 z1 z2 z3
      obtain ⟨RB, hRB⟩ : ∃ RB, bs rest = RB := ⟨_, rfl⟩
      cases G9 with
      | true =>
        have hjj := just4 H3.out.res (.int .i64 (3 : Nat)) (.string ⟨#[]⟩) (.slice none 0 0) (.string TB)
        have HZ := hid (H3.out.out (v := 1) (.inl ⟨rfl, rfl⟩) hjj)
        have HJ := hid hjj.at_
        obtain ⟨c0, c1, f0, f1⟩ := tr_cells H3.out.rd
        have x0 := cell_at H3.out.res (j := 0) rfl
        have x1 := cell_at H3.out.res (j := 1) rfl
        have x2 := cell_at H3.out.res (j := 2) rfl
        have x3 := cell_at H3.out.res (j := 3) rfl
        have z0 := free_at H3.out.res 0
        have z1 := free_at H3.out.res 1
        have z2 := free_at H3.out.res 2
        have z3 := free_at H3.out.res 3
        rw [hRB] at c0 HZ
        clear hjj H3
        go_wp2_with fail
        go_region
        all_goals
          go_wp2_with fail
          refine bodyPost_ret (v := .tuple #[.agg #[.int .i64 (3 : Nat), .string ⟨#[]⟩, .slice none 0 0, .string TB], .string RB, .int .i64 (1 : Nat)]) ?_ rfl HZ.out
          exact results_cell_two rfl _ _ _ _ _ _ _ _ _ rfl rfl rfl HJ.out Tryz.underlying60 rfl (by kernel_rfl)
      | false =>
        have hat9 := attrsR_row H3.out.row
        have hht := hasTwiceM_any _ _ W9 hat9 (by have := H3.out.len; omega)
        obtain ⟨c0, c1, f0, f1⟩ := tr_cells H3.out.rd
        have x2 := cell_at H3.out.res (j := 2) rfl
        have HHT := hid hht
        clear hht hat9
        by_cases hnd : (([] : List AttrP).map Prod.fst).Nodup
        · rw [decide_eq_true hnd] at HHT
          have HND := hid hnd
          clear hnd
          go_wp2_with fail
          refine HHT.out.mono ?_
          rintro e W10 ⟨rfl, hb10⟩
          have H3 := hid (H3.out.below hb10)
          clear hb10 HHT c0 c1 f0 f1 x2
          have hnd := HND.out
          have hjj := just4 H3.out.res (.int .i64 (3 : Nat)) (.string ⟨#[]⟩) (.slice none 0 0) (.string TB)
          have HZ := hid (H3.out.out (v := 0) (.inr ⟨rfl, by rw [if_pos hnd]⟩) hjj)
          have HJ := hid hjj.at_
          obtain ⟨c0, c1, f0, f1⟩ := tr_cells H3.out.rd
          have x0 := cell_at H3.out.res (j := 0) rfl
          have x1 := cell_at H3.out.res (j := 1) rfl
          have x2 := cell_at H3.out.res (j := 2) rfl
          have x3 := cell_at H3.out.res (j := 3) rfl
          have z0 := free_at H3.out.res 0
          have z1 := free_at H3.out.res 1
          have z2 := free_at H3.out.res 2
          have z3 := free_at H3.out.res 3
          rw [hRB] at c0 HZ
          clear hjj H3
          go_wp2_with fail
          go_region
          all_goals
            go_wp2_with fail
            refine bodyPost_ret (v := .tuple #[.agg #[.int .i64 (3 : Nat), .string ⟨#[]⟩, .slice none 0 0, .string TB], .string RB, .int .i64 (0 : Nat)]) ?_ rfl HZ.out
            exact results_cell_two rfl _ _ _ _ _ _ _ _ _ rfl rfl rfl HJ.out Tryz.underlying60 rfl (by kernel_rfl)
        · rw [decide_eq_false hnd] at HHT
          have HND := hid hnd
          clear hnd
          go_wp2_with fail
          refine HHT.out.mono ?_
          rintro e W10 ⟨rfl, hb10⟩
          have H3 := hid (H3.out.below hb10)
          clear hb10 HHT c0 c1 f0 f1 x2
          have hnd := HND.out
          have hjj := just4 H3.out.res (.int .i64 (3 : Nat)) (.string ⟨#[]⟩) (.slice none 0 0) (.string TB)
          have HZ := hid (H3.out.out (v := 2) (.inr ⟨rfl, by rw [if_neg hnd]⟩) hjj)
          have HJ := hid hjj.at_
          obtain ⟨c0, c1, f0, f1⟩ := tr_cells H3.out.rd
          have x0 := cell_at H3.out.res (j := 0) rfl
          have x1 := cell_at H3.out.res (j := 1) rfl
          have x2 := cell_at H3.out.res (j := 2) rfl
          have x3 := cell_at H3.out.res (j := 3) rfl
          have z0 := free_at H3.out.res 0
          have z1 := free_at H3.out.res 1
          have z2 := free_at H3.out.res 2
          have z3 := free_at H3.out.res 3
          rw [hRB] at c0 HZ
          clear hjj H3
          go_wp2_with fail
          go_region
          all_goals
            go_wp2_with fail
            refine bodyPost_ret (v := .tuple #[.agg #[.int .i64 (3 : Nat), .string ⟨#[]⟩, .slice none 0 0, .string TB], .string RB, .int .i64 (2 : Nat)]) ?_ rfl HZ.out
            exact results_cell_two rfl _ _ _ _ _ _ _ _ _ rfl rfl rfl HJ.out Tryz.underlying60 rfl (by kernel_rfl)
end Go.Proofs.YtcncbhbdpcpkeaaGreatDoor
