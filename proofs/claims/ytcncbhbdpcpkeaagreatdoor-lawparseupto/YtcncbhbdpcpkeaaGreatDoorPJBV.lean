/-
  Parts of the walk, joined: RpS, PrB.
-/
import Derived.Test.YtcncbhbdpcpkeaaGreatDoorPJBU
import Derived.Test.YtcncbhbdpcpkeaaGreatDoorPJBR
import Derived.Test.YtcncbhbdpcpkeaaGreatDoorPJAX
/-
  The reference's tokenAt, of a start tag, and whole: its walk.
-/
namespace Go.Proofs.YtcncbhbdpcpkeaaGreatDoor
open Go.RowKit Go.Lib Own

/-- where the loop over the attributes stands -/
structure TkLoop (w wr : World) (T0 : Nat) (N : ByteArray) (Q : Option (List AttrP × List UInt8)) (l : List UInt8) (n : Nat) (av : Value) (al : List AttrP) : Prop where
  be : Below w.heap.size w wr
  res : wr.heap[w.heap.size]? = some (.cells #[.int .i64 0, .string ⟨#[]⟩, .slice none 0 0, .string ⟨#[]⟩, .int .i64 0] 112 (0, 0))
  tag : wr.heap[T0]? = some (.cells #[.int .i64 1, .string N, av, .string ⟨#[]⟩, .int .i64 0] 112 (0, 0))
  row : wr.ownsRow w.heap.size 122 2 av al.length (attrsV al)
  inv : TkInv Q l n al
  lo : w.heap.size < T0
theorem TkLoop.tag6 {w wr W3 w6 : World} {T0 n : Nat} {N : ByteArray} {Q : Option (List AttrP × List UInt8)} {l : List UInt8} {av : Value} {al : List AttrP} {X : Obj} (h : TkLoop w wr T0 N Q l n av al) (hb : Below wr.heap.size wr W3) :
    (W3.alloc X).heap[T0]? = some (.cells #[.int .i64 1, .string N, av, .string ⟨#[]⟩, .int .i64 0] 112 (0, 0)) ∧ ((W3.alloc X).grownBy w6 av.ownBlock → w6.heap[T0]? = some (.cells #[.int .i64 1, .string N, av, .string ⟨#[]⟩, .int .i64 0] 112 (0, 0))) := by
  have ht3 := (hb.block T0 (block_lt h.tag)).trans h.tag
  have ht4 := (alloc_old W3 X T0 (block_lt ht3)).trans ht3
  have nt : av.ownBlock ≠ some T0 := row_ne h.row h.tag (by decide)
  exact ⟨ht4, fun hg6 => (hg6.block T0 (block_lt ht4) (fun e => nt e.symm)).trans ht4⟩
theorem TkLoop.next {w wr W3 w6 : World} {T0 n : Nat} {N : ByteArray} {Q : Option (List AttrP × List UInt8)} {l : List UInt8} {av v' : Value} {al : List AttrP} {X : Obj} (h : TkLoop w wr T0 N Q l n av al) (h1 : 1 < n) (h62 : (l.drop n).head? ≠ some 62) (hb : Below wr.heap.size wr W3)
    (hr6 : w6.ownsRow w.heap.size 122 2 v' (al ++ [(attrW l n).1]).length (attrsV (al ++ [(attrW l n).1]))) (hg6 : (W3.alloc X).grownBy w6 av.ownBlock) :
    TkLoop w (w6.setCell ⟨T0, 2, none⟩ v') T0 N Q l (attrW l n).2 v' (al ++ [(attrW l n).1]) ∧ ((attrW l n).2 = 0 ∨ n < (attrW l n).2) := by
  have hat : ∀ g, av.ownBlock = some g → w.heap.size ≤ g := fun g hg => (h.row.lt g hg).1
  have ht6 := (h.tag6 (w6 := w6) (X := X) hb).2 hg6
  have hr3 := (hb.block _ (block_lt h.res)).trans h.res
  have hr4 := (alloc_old W3 X _ (block_lt hr3)).trans hr3
  have nr : av.ownBlock ≠ some w.heap.size := row_ne h.row h.res (by decide)
  have hrr6 := (hg6.block _ (block_lt hr4) (fun e => nr e.symm)).trans hr4
  have hj := just_put (j := 2) ht6 v' rfl
  have hlo := h.lo
  have hbs := h.be.size
  have hbs3 := hb.size
  have hbe6 : Below w.heap.size w w6 := (h.be.trans (hb.mono hbs)).trans (((Below.refl w.heap.size W3).alloc (by omega) X).grown hg6 (by simp; omega) (fun k hk => hat k hk))
  obtain ⟨hi, hm⟩ := h.inv.next h1 h62
  exact ⟨⟨hbe6.trans (just_low hj (by omega)), (hj.other _ (by omega)).trans hrr6, hj.at_, hr6.kept (just_grown hj) (.inr (row_ne hr6 ht6 (by decide))), hi, hlo⟩, hm⟩
def tkM (n len : Nat) : Nat := if n = 0 then 0 else len + 1 - n
theorem tkM_lt {n m len : Nat} (h : 0 < n) (h2 : n < len) (h3 : m = 0 ∨ n < m) : tkM m len < tkM n len := by
  unfold tkM
  rw [if_neg (show ¬ n = 0 by omega)]
  split <;> omega
/-- the end of the tag -/
theorem TkLoop.fin {w wr : World} {T0 n : Nat} {N : ByteArray} {l : List UInt8} {av : Value} {al : List AttrP} {wd : Nat} (h : TkLoop w wr T0 N (tagQ l wd) l n av al) (h1 : 1 < n) (h62 : (l.drop n).head? = some 62) (hwd : wordN [] l.tail = wd) (h60 : l.head? = some 60) (h47 : l.tail.head? ≠ some 47) (hN : bs (l.tail.take wd) = N) (hn : n < l.length) :
    (wr.setCell ⟨T0, 4, none⟩ (.int .i64 ((n : Int) + 1))).heap[T0]? = some (.cells #[.int .i64 1, .string N, av, .string ⟨#[]⟩, .int .i64 ((n : Int) + 1)] 112 (0, 0)) ∧
    (wr.setCell ⟨T0, 4, none⟩ (.int .i64 ((n : Int) + 1))).heap[w.heap.size]? = some (.cells #[.int .i64 0, .string ⟨#[]⟩, .slice none 0 0, .string ⟨#[]⟩, .int .i64 0] 112 (0, 0)) ∧
    ∀ W8, Just (wr.setCell ⟨T0, 4, none⟩ (.int .i64 ((n : Int) + 1))) W8 w.heap.size #[.int .i64 1, .string N, av, .string ⟨#[]⟩, .int .i64 ((n : Int) + 1)] 112 → GTokOut w W8 (tokV l) (.returned (.agg #[.int .i64 1, .string N, av, .string ⟨#[]⟩, .int .i64 ((n : Int) + 1)])) := by
  have hj := just_put (j := 4) h.tag (.int .i64 ((n : Int) + 1)) rfl
  have hlo := h.lo
  have hres := (hj.other _ (by omega)).trans h.res
  refine ⟨hj.at_, hres, fun W8 hj8 => ?_⟩
  have hrow := h.row.kept (just_grown hj) (.inr (row_ne h.row h.tag (by decide)))
  have hrow8 := hrow.kept (just_grown hj8) (.inr (row_ne hrow hres (by decide)))
  have hq := h.inv.fin h1 h62
  have ht := tok_startW h60 h47
  rw [hwd, hq] at ht
  have hv := tokV_some ht
  have e3 : l.length - (l.drop (n + 1)).length = n + 1 := by rw [List.length_drop]; omega
  simp only at hv
  rw [e3] at hv
  rw [hv]
  subst hN
  exact ⟨av, rfl, hrow8, (h.be.trans (just_low hj (by omega))).trans (just_low hj8 (Nat.le_refl _))⟩
theorem tokV_Q {l : List UInt8} {wd : Nat} (hwd : wordN [] l.tail = wd) (h60 : l.head? = some 60) (h47 : l.tail.head? ≠ some 47) (hq : tagQ l wd = none) : tokV l = noTok :=
  tokV_none (by rw [tok_startW h60 h47, hwd, hq]; rfl)
set_option maxHeartbeats 8000000 in
set_option maxRecDepth 100000 in
theorem tokStart (l : List UInt8) (w : World) (h60 : l.head? = some 60) (h47 : l.tail.head? ≠ some 47) (hs : l.length ≤ 4000000) :
    Calls Tryz.prog 60 #[.string (bs l)] w fun e w' => GTokOut w w' (tokV l) e := by
  obtain ⟨R, hR⟩ : ∃ R, tokV l = R := ⟨_, rfl⟩
  rw [hR]
  have HR := hid (fun (_ : True) => hR)
  clear hR
  have hsz := bs_size l
  have hl1 : 1 ≤ l.length := by
    match l, h60 with
    | a :: r, _ => simp
  have hz : 0 < (bs l).size := by omega
  have hg := index_bs hz (show l[0]? = some 60 by rw [← List.head?_eq_getElem?]; exact h60)
  have z0 : (((60 : UInt8).toNat : Int) != 60) = false := rfl
  have hway : (decide (((bs l).size : Int) > 1) = false ∧ decide ((1 : Int) < ((bs l).size : Int)) = false) ∨ ((decide (((bs l).size : Int) > 1) = true ∧ decide ((1 : Int) < ((bs l).size : Int)) = true) ∧ ∃ h : 1 < (bs l).size, (((bs l)[1].toNat : Int) == 47) = false) := by
    by_cases h : 1 < (bs l).size
    · obtain ⟨c, hc⟩ : ∃ c, l[1]? = some c := ⟨_, List.getElem?_eq_getElem (by omega)⟩
      refine .inr ⟨⟨decide_eq_true (by omega), decide_eq_true (by omega)⟩, h, ?_⟩
      rw [index_bs h hc, beq_eq_false_iff_ne]
      intro e
      refine h47 ?_
      rw [List.head?_tail, hc]
      exact congrArg some (u8_ext (by show c.toNat = 47; omega))
    · exact .inl ⟨decide_eq_false (by omega), decide_eq_false (by omega)⟩
  obtain ⟨J, hJ⟩ : ∃ J, 1 + wordN [] l.tail = J := ⟨_, rfl⟩
  have hJl : J ≤ l.length := by
    have h1 := wordN_le [] l.tail
    rw [List.length_tail] at h1
    omega
  obtain ⟨W1, hW1⟩ : ∃ W1, w.alloc (.cells #[.int .i64 0, .string ⟨#[]⟩, .slice none 0 0, .string ⟨#[]⟩, .int .i64 0] 112) = W1 := ⟨_, rfl⟩
  have hb1 : Below w.heap.size w W1 := by rw [← hW1]; exact (Below.refl _ _).alloc (Nat.le_refl _) _
  have n1 : W1.heap[w.heap.size]? = some (.cells #[.int .i64 0, .string ⟨#[]⟩, .slice none 0 0, .string ⟨#[]⟩, .int .i64 0] 112 (0, 0)) := by rw [← hW1]; exact heap_alloc_new _ _
  have hs1 : W1.heap.size = w.heap.size + 1 := by rw [← hW1]; simp
  have hne := nameEnd_any (bs l) 1 [] W1 (by omega) (by omega) (by decide)
  rw [bs_data, List.drop_one, hJ] at hne
  have hne' : Calls Tryz.prog 113 #[.string (bs l), .int .i64 1, .string ⟨#[97, 98, 99, 100, 101, 102, 103, 104, 105, 106, 107, 108, 109, 110, 111, 112, 113, 114, 115, 116, 117, 118, 119, 120, 121, 122, 48, 49, 50, 51, 52, 53, 54, 55, 56, 57]⟩] W1 fun e w' => e = .returned (.int .i64 (J : Int)) ∧ w' = W1 := hne
  have hx := mid_bs (bs l) 1 J
  rw [bs_data, List.drop_one, show J - 1 = wordN [] l.tail by omega] at hx
  obtain ⟨X, hX⟩ : ∃ X, bs (l.tail.take (wordN [] l.tail)) = X := ⟨_, rfl⟩
  rw [hX] at hx
  obtain ⟨W2, hW2⟩ : ∃ W2, W1.alloc (.cells #[.int .i64 1, .string X, .slice none 0 0, .string ⟨#[]⟩, .int .i64 0] 112) = W2 := ⟨_, rfl⟩
  have hloop : TkLoop w W2 W1.heap.size X (tagQ l (wordN [] l.tail)) l J (.slice none 0 0) [] := by
    rw [← hW2]
    refine ⟨hb1.trans ((Below.refl _ _).alloc (by omega) _), (alloc_old W1 _ _ (block_lt n1)).trans n1, heap_alloc_new W1 _, World.ownsRow_nil _ _ _ _, ?_, by omega⟩
    rw [← hJ]
    exact TkInv.start (by omega)
  have hidx : ∀ (n : Nat) (h : n < (bs l).size) (c : UInt8), l[n]? = some c → (bs l)[n]'h = c := fun n h c hc => index_bs h hc
  have hat := fun n W (hn : n ≤ (bs l).size) => attrToken_any (bs l) n W (by omega) hn
  rw [bs_data] at hat
  have HAT := hid hat
  have HNE := hid hne'
  have HL := hid hloop
  have HG := hid (And.intro hX (And.intro h60 h47))
  have HW2 := hid (fun (_ : True) => hW2)
  have HIX := hid hidx
  have hJ1 : 1 ≤ J := by omega
  have hJs : J ≤ (bs l).size := by omega
  generalize hWD : wordN [] l.tail = WD at hX HL hx hJ HG
  have HWD := hid (fun (_ : True) => hWD)
  have HSZ := hid (fun (_ : True) => hsz)
  clear hne hne' hX h60 h47 hb1 n1 hJ hloop hat hidx hW2 hWD
  clear hsz
  generalize hSB : bs l = S at *
  have HSB := hid (fun (_ : True) => hSB)
  clear hSB
  rcases hway with ⟨q1, q2⟩ | ⟨⟨q1, q2⟩, q3, q4⟩
  case' inl =>
    go_enter Tryz.func60, Tryz.ntmps60
    go_wp2_with fail
    refine HNE.out.mono ?_
    rintro e W1' ⟨rfl, rfl⟩
    go_upto_region 14 with fail
  case' inr =>
    go_enter Tryz.func60, Tryz.ntmps60
    go_wp2_with fail
    refine HNE.out.mono ?_
    rintro e W1' ⟨rfl, rfl⟩
    go_upto_region 14 with fail
  all_goals
    simp only [HW2.out trivial]
    rw [hs1] at HL
    obtain ⟨T0, hT0⟩ : ∃ T0, w.heap.size + 1 = T0 := ⟨_, rfl⟩
    rw [hT0] at HL
    simp only [hT0]
    clear HNE HW2 hT0 hW1 hs1 hx hg z0 q1 q2
    go_loopw [7] (fun nv wr => ∃ (n : Nat) (av : Value) (al : List AttrP), nv = .int .i64 n ∧ Hid (TkLoop w wr T0 X (tagQ l WD) l n av al)) (fun nv _ => tkM (RowKit.intOf nv).toNat l.length)
    case atStart => exact ⟨J, _, _, rfl, HL⟩
    case round =>
      clear HL
      obtain ⟨n, av, al, rfl, HX⟩ := hrel
      obtain ⟨ap, ac, rfl⟩ := row_shape HX.out.row
      have hnl := HX.out.inv.le
      have hszl := HSZ.out trivial
      by_cases h1 : 1 < n
      case neg =>
        have hq := HX.out.inv.off h1
        have hv := tokV_Q (HWD.out trivial) HG.out.2.1 HG.out.2.2 hq
        have HZ := hid (tok_zero HX.out.res HX.out.be)
        have n3 := HX.out.res
        have p1 : decide ((n : Int) > 1) = false := decide_eq_false (by omega)
        have p2 : decide ((1 : Int) < (n : Int)) = false := decide_eq_false (by omega)
        obtain rfl : R = noTok := (HR.out trivial).symm.trans hv
        have y0 := cell_at n3 (j := 0) rfl
        have y1 := cell_at n3 (j := 1) rfl
        have y2 := cell_at n3 (j := 2) rfl
        have y3 := cell_at n3 (j := 3) rfl
        have y4 := cell_at n3 (j := 4) rfl
        have g0 := free_at n3 0
        have g1 := free_at n3 1
        have g2 := free_at n3 2
        have g3 := free_at n3 3
        have g4 := free_at n3 4
        clear hq hv n3 HX HAT HG HWD hnl h1 hszl HR
        go_wp2_with fail
        refine bodyPost_ret (v := .agg #[.int .i64 0, .string ⟨#[]⟩, .slice none 0 0, .string ⟨#[]⟩, .int .i64 0]) ?_ rfl HZ.out.2
        exact results_cell_row rfl _ _ _ _ _ _ _ rfl HZ.out.1 Tryz.underlying112 rfl (by kernel_rfl)
      case pos =>
        have p1 : decide ((n : Int) > 1) = true := decide_eq_true (by omega)
        have p2 : decide ((1 : Int) < (n : Int)) = true := decide_eq_true (by omega)
        by_cases h2 : n = l.length
        case pos =>
          have hq := HX.out.inv
          rw [h2] at hq
          have hv := tokV_Q (HWD.out trivial) HG.out.2.1 HG.out.2.2 (hq.out (by omega))
          have HZ := hid (tok_zero HX.out.res HX.out.be)
          have n3 := HX.out.res
          have p3 : decide ((n : Int) < (S.size : Int)) = false := decide_eq_false (by omega)
          have p5 : ¬ n < S.size := by omega
          have p6 : decide (n < S.size) = false := decide_eq_false (by omega)
          have p7 : S.size ≤ n := by omega
          obtain rfl : R = noTok := (HR.out trivial).symm.trans hv
          have y0 := cell_at n3 (j := 0) rfl
          have y1 := cell_at n3 (j := 1) rfl
          have y2 := cell_at n3 (j := 2) rfl
          have y3 := cell_at n3 (j := 3) rfl
          have y4 := cell_at n3 (j := 4) rfl
          have g0 := free_at n3 0
          have g1 := free_at n3 1
          have g2 := free_at n3 2
          have g3 := free_at n3 3
          have g4 := free_at n3 4
          clear hq hv n3 HX HAT HG HWD hnl h1 h2 hszl HR
          go_wp2_with fail
          refine bodyPost_ret (v := .agg #[.int .i64 0, .string ⟨#[]⟩, .slice none 0 0, .string ⟨#[]⟩, .int .i64 0]) ?_ rfl HZ.out.2
          exact results_cell_row rfl _ _ _ _ _ _ _ rfl HZ.out.1 Tryz.underlying112 rfl (by kernel_rfl)
        case neg =>
          have hns : n < S.size := by omega
          have p3 : decide ((n : Int) < (S.size : Int)) = true := decide_eq_true (by omega)
          obtain ⟨c, hc⟩ : ∃ c, l[n]? = some c := ⟨_, List.getElem?_eq_getElem (by omega)⟩
          have hgn := HIX.out n hns c hc
          have hhd : (l.drop n).head? = some c := by rw [drop_at hc]; rfl
          have hwn : IntKind.i64.wrap ((n : Int) + 1) = (n : Int) + 1 := by rw [IntKind.wrap_i64]; omega
          by_cases h62 : c = 62
          case pos =>
            have p4 : ((c.toNat : Int) == 62) = true := by rw [h62]; rfl
            obtain ⟨k1, n3, k3⟩ := HX.out.fin h1 (by rw [hhd, h62]) (HWD.out trivial) HG.out.2.1 HG.out.2.2 HG.out.1 (by omega)
            rw [HR.out trivial] at k3
            have HZ := hid (k3 _ (just5 n3 (.int .i64 1) (.string X) (.slice ap al.length ac) (.string ⟨#[]⟩) (.int .i64 ((n : Int) + 1))))
            have HJ := hid (just5 n3 (.int .i64 1) (.string X) (.slice ap al.length ac) (.string ⟨#[]⟩) (.int .i64 ((n : Int) + 1))).at_
            have x0 := cell_at k1 (j := 0) rfl
            have x1 := cell_at k1 (j := 1) rfl
            have x2 := cell_at k1 (j := 2) rfl
            have x3 := cell_at k1 (j := 3) rfl
            have x4 := cell_at k1 (j := 4) rfl
            have t4 := cell_at HX.out.tag (j := 4) rfl
            have u4 := free_at HX.out.tag 4
            have y0 := cell_at n3 (j := 0) rfl
            have y1 := cell_at n3 (j := 1) rfl
            have y2 := cell_at n3 (j := 2) rfl
            have y3 := cell_at n3 (j := 3) rfl
            have y4 := cell_at n3 (j := 4) rfl
            have g0 := free_at n3 0
            have g1 := free_at n3 1
            have g2 := free_at n3 2
            have g3 := free_at n3 3
            have g4 := free_at n3 4
            clear k1 n3 k3 HX HAT HG HWD hnl h1 h2 hszl hc hhd h62
            go_wp2_with fail
            refine bodyPost_ret (v := .agg #[.int .i64 1, .string X, .slice ap al.length ac, .string ⟨#[]⟩, .int .i64 ((n : Int) + 1)]) ?_ rfl HZ.out
            exact results_cell_row rfl _ _ _ _ _ _ _ rfl HJ.out Tryz.underlying112 rfl (by kernel_rfl)
          case neg =>
            have p4 : ((c.toNat : Int) == 62) = false := by rw [beq_eq_false_iff_ne]; intro e; exact h62 (u8_ext (by show c.toNat = 62; omega))
            have hat := HAT.out n wr (by omega)
            have h62' : (l.drop n).head? ≠ some 62 := by rw [hhd]; simpa using h62
            obtain ⟨AW, hAW⟩ : ∃ AW, attrW l n = AW := ⟨_, rfl⟩
            rw [hAW] at hat
            have HA := hid hat
            have HN := hid (And.intro h1 (And.intro h62' hAW))
            have hall : al.length ≤ 4000000 := by have := HX.out.inv.few h1; omega
            have hnl2 : n < l.length := by omega
            clear hat h62' hAW HAT hc hhd h62 h2 hszl
            go_wp2_with fail
            refine HA.out.mono ?_
            rintro e w2 ⟨rfl, hb2⟩
            go_upto_region 19 with fail
            obtain ⟨X1, hX1⟩ : ∃ X1, bs AW.1.1 = X1 := ⟨_, rfl⟩
            obtain ⟨X2, hX2⟩ : ∃ X2, bs AW.1.2 = X2 := ⟨_, rfl⟩
            simp only [hX1, hX2]
            obtain ⟨W3, hW3⟩ : ∃ W3, w2.alloc (.cells #[.string X1, .string X2] 122) = W3 := ⟨_, rfl⟩
            have hb3 : Below wr.heap.size wr W3 := by rw [← hW3]; exact hb2.alloc (by have := hb2.size; omega) _
            have n4 : W3.heap[w2.heap.size]? = some (.cells #[.string X1, .string X2] 122 (0, 0)) := by rw [← hW3]; exact heap_alloc_new _ _
            simp only [hW3]
            clear hW3
            obtain ⟨EB, hEB⟩ : ∃ EB, w2.heap.size = EB := ⟨_, rfl⟩
            rw [hEB] at n4
            simp only [hEB]
            have b0 := cell_at n4 (j := 0) rfl
            have b1 := cell_at n4 (j := 1) rfl
            have hrow3 := (row_below HX.out.row hb3).alloc (.cells #[.string X1, .string X2] 122)
            have hat3 : AttrsR (W3.alloc (.cells #[.string X1, .string X2] 122)) (.slice (some ⟨W3.heap.size, 0, none⟩) 1 1) [AW.1] := attrs_oneP (by rw [hX1, hX2]; exact heap_alloc_new W3 _)
            have hsz3 : w.heap.size ≤ (W3.alloc (.cells #[.string X1, .string X2] 122)).heap.size := by
              have h1 := HX.out.be.size
              have h2 := hb3.size
              have h3 : (W3.alloc (.cells #[.string X1, .string X2] 122)).heap.size = W3.heap.size + 1 := by simp
              omega
            have htg := fun w6 => HX.out.tag6 (w6 := w6) (X := .cells #[.string X1, .string X2] 122) hb3
            have t2 := cell_at ((hb3.block T0 (block_lt HX.out.tag)).trans HX.out.tag) (j := 2) rfl
            have HTG := hid (fun w6 => (htg w6).2)
            have HRW := hid hrow3
            have HAR := hid hat3
            have HB3 := hid hb3
            clear hrow3 hat3 htg hb3 hb2 n4 hEB hX1 hX2 HA hns p1 p2 p3 p4 hgn
            go_wp2_with (at_builtin; refine wpList_append_attrs rfl (.tmp 89) (.tmp 91) rfl w.heap.size _ _ al [AW.1] rfl rfl (by exact HRW.out) (by exact HAR.out) hsz3 (by simp only [List.length_singleton]; omega) ?_)
            intro v7 w7 hrow7 hgr7
            obtain ⟨p7, c7, rfl⟩ := row_shape hrow7
            have ht7 := HTG.out w7 hgr7
            have k2 := cell_at ht7 (j := 2) rfl
            have z2 := free_at ht7 2
            have haw := HN.out.2.2
            have hnx := HX.out.next HN.out.1 HN.out.2.1 HB3.out (by rw [haw, List.length_append, List.length_singleton]; exact hrow7) hgr7
            rw [haw] at hnx
            have HN7 := hid hnx.1
            have hm7 := hnx.2
            clear hrow7 hgr7 ht7 t2 HRW HAR HTG hsz3 hnx haw b0 b1
            go_wp2_with fail
            go_roundw
            case rel => first | exact ⟨_, _, _, rfl, HN7⟩ | ((repeat apply Exists.intro); exact ⟨⟨_, _, _, rfl, HN7⟩, rfl⟩)
            case measure =>
              have h1 := HN.out.1
              have := tkM_lt (n := n) (m := AW.2) (len := l.length) (by omega) hnl2 hm7
              simpa [RowKit.intOf] using this
theorem tokenAt_any (l : List UInt8) (w : World) (h0 : l ≠ []) (hs : l.length ≤ 4000000) :
    Calls Tryz.prog 60 #[.string (bs l)] w fun e w' => GTokOut w w' (tokV l) e := by
  by_cases h60 : l.head? = some 60
  · by_cases h47 : l.tail.head? = some 47
    · exact tokStop l w h60 h47 hs
    · exact tokStart l w h60 h47 hs
  · exact tokText l w h0 h60 hs
end Go.Proofs.YtcncbhbdpcpkeaaGreatDoor

/-
  markup.Parse: its walk.
-/
namespace Go.Proofs.YtcncbhbdpcpkeaaGreatDoor
open Go.RowKit Go.Lib Own

theorem tok_stop_ne {l r x : List UInt8} (h : tokP l = some (.stop x, r)) : x ≠ [] := by
  unfold tokP at h
  split at h
  · split at h
    · split at h
      · cases h
      · rename_i h1
        simp only [Option.some.injEq, Prod.mk.injEq, Ev.stop.injEq] at h
        obtain ⟨rfl, _⟩ := h
        intro e
        have h2 := congrArg List.length e
        have h3 := wordN_le [] (l.drop 2)
        rw [List.length_take] at h2
        simp only [List.length_nil] at h2
        exact h1 (.inl (by omega))
    · split at h
      · cases h
      · obtain ⟨y, _, hx⟩ := Option.map_eq_some_iff.1 h
        simp at hx
  · obtain ⟨y, _, hx⟩ := Option.map_eq_some_iff.1 h
    simp at hx
theorem tok_evT {l r : List UInt8} {t : Ev} (h : tokP l = some (t, r)) : (evT t).length ≤ l.length := by
  unfold tokP at h
  split at h
  · split at h
    · split at h
      · cases h
      · simp only [Option.some.injEq, Prod.mk.injEq] at h
        obtain ⟨rfl, _⟩ := h
        exact Nat.zero_le _
    · split at h
      · cases h
      · obtain ⟨y, _, hx⟩ := Option.map_eq_some_iff.1 h
        simp only [Prod.mk.injEq] at hx
        obtain ⟨rfl, _⟩ := hx
        exact Nat.zero_le _
  · obtain ⟨y, hy, hx⟩ := Option.map_eq_some_iff.1 h
    simp only [Prod.mk.injEq] at hx
    obtain ⟨rfl, _⟩ := hx
    exact Nat.le_trans (decP_len _ _ _ (Nat.le_refl _) hy).1 (takeWhile_len _ _)
theorem step_few (s : PS) (t : Ev) : (stepP s t).2.ns.length ≤ s.ns.length + 1 := by
  cases t with
  | text t =>
    unfold stepP
    dsimp only
    split
    · exact Nat.le_succ _
    · split
      · exact Nat.le_succ _
      · simp
  | stop x =>
    unfold stepP
    dsimp only
    split
    · exact Nat.le_succ _
    · split <;> exact Nat.le_succ _
  | start x al =>
    unfold stepP
    dsimp only
    split
    · exact Nat.le_succ _
    · split
      · exact Nat.le_succ _
      · simp
/-- what Parse answers -/
structure ParseOut (w w' : World) (l : List UInt8) (e : Ending) : Prop where
  it : ∃ nv prs, e = .returned (.agg #[.int .i64 (parseP l).1, nv]) ∧ MadeN w' w.heap.size nv prs ∧ prs.map Prod.fst = (parseP l).2 ∧ Below w.heap.size w w'
theorem parse_end {K : Nat → Array Value → Prop} {w W0 wr : World} {b : Nat} {op : List (List UInt8)} {prs : List (EvP × Value)} {eat : Bool} {ov nv : Value} (hW0 : w.alloc (.cells #[.int .i64 0, .slice none 0 0] 31) = W0) (h : PrS K W0 wr b op prs eat ov nv) (v u : Value) :
    ((wr.setCell ⟨w.heap.size, 0, none⟩ v).setCell ⟨w.heap.size, 1, none⟩ u).heap[w.heap.size]? = some (.cells #[v, u] 31 (0, 0)) ∧ Below w.heap.size w ((wr.setCell ⟨w.heap.size, 0, none⟩ v).setCell ⟨w.heap.size, 1, none⟩ u) ∧ MadeN ((wr.setCell ⟨w.heap.size, 0, none⟩ v).setCell ⟨w.heap.size, 1, none⟩ u) w.heap.size nv prs := by
  subst hW0
  have hsz : (w.alloc (.cells #[.int .i64 0, .slice none 0 0] 31)).heap.size = w.heap.size + 1 := by simp
  have hn := heap_alloc_new w (.cells #[.int .i64 0, .slice none 0 0] 31)
  have hres := (h.be.block w.heap.size (by rw [hsz]; omega)).trans hn
  have hj1 := just_put (j := 0) hres v rfl
  have hj2 := just_put (j := 1) hj1.at_ u rfl
  have hj := hj1.andThen hj2
  have hlo : w.heap.size ≤ (w.alloc (.cells #[.int .i64 0, .slice none 0 0] 31)).heap.size := by rw [hsz]; omega
  refine ⟨hj.at_, ?_, ?_⟩
  · exact (((Below.refl w.heap.size w).alloc (Nat.le_refl _) _).trans (h.be.mono hlo)).trans (just_low hj (Nat.le_refl _))
  · have hm : MadeN wr w.heap.size nv prs := ⟨row_low h.nodes.row hlo, fun k x hx => row_low (h.nodes.own k x hx) hlo, h.nodes.ap⟩
    exact hm.keep (fun _ _ _ hr => row_just hr hres (by decide) hj.other) (fun _ _ _ hr => row_just hr hres (by decide) hj.other)
theorem parseS_nil2 (s : PS) (h : s.op ≠ []) : parseS s [] = (10, []) := (parseS_nil s).trans (if_neg h)
theorem parseS_nil1 (s : PS) (h : s.op = []) : parseS s [] = (0, s.ns) := (parseS_nil s).trans (if_pos h)
theorem parseS_none (s : PS) {l : List UInt8} (h0 : l ≠ []) (h : tokP l = none) : parseS s l = (1, []) := by rw [parseS_step s h0, h]
theorem parseS_some (s : PS) {l r : List UInt8} {t : Ev} (h0 : l ≠ []) (h : tokP l = some (t, r)) : parseS s l = if (stepP s t).1 = 0 then parseS (stepP s t).2 r else ((stepP s t).1, []) := by rw [parseS_step s h0, h]
theorem step_twice {s : PS} {t : Ev} (h : ¬ ((evA t).map Prod.fst).Nodup) : (stepP s t).1 = 2 := by
  cases t with
  | text t => exact absurd List.nodup_nil h
  | stop x => exact absurd List.nodup_nil h
  | start x al =>
    have h2 : ¬ (al.map Prod.fst).Nodup := h
    unfold stepP
    dsimp only
    rw [if_pos h2]
/-- the parser at work, and what is left to read -/
structure ParseAt (w W0 wr : World) (b : Nat) (r : List UInt8) (R : Nat × List EvP) (op : List (List UInt8)) (prs : List (EvP × Value)) (eat : Bool) (ov nv : Value) : Prop where
  pr : PrS (fun _ _ => False) W0 wr b op prs eat ov nv
  res : parseS ⟨op, prs.map Prod.fst, eat⟩ r = R
  len : prs.length + r.length ≤ 80000000
theorem parse_no {w W0 wr : World} {b : Nat} {l : List UInt8} {op : List (List UInt8)} {prs : List (EvP × Value)} {eat : Bool} {ov nv : Value} {v : Nat} (hW0 : w.alloc (.cells #[.int .i64 0, .slice none 0 0] 31) = W0) (h : PrS (fun _ _ => False) W0 wr b op prs eat ov nv) (hv : parseP l = (v, [])) :
    ((wr.setCell ⟨w.heap.size, 0, none⟩ (.int .i64 v)).setCell ⟨w.heap.size, 1, none⟩ (.slice none 0 0)).heap[w.heap.size]? = some (.cells #[.int .i64 v, .slice none 0 0] 31 (0, 0)) ∧
    ParseOut w ((wr.setCell ⟨w.heap.size, 0, none⟩ (.int .i64 v)).setCell ⟨w.heap.size, 1, none⟩ (.slice none 0 0)) l (.returned (.agg #[.int .i64 v, .slice none 0 0])) := by
  have hp := parse_end hW0 h (.int .i64 v) (.slice none 0 0)
  exact ⟨hp.1, ⟨_, [], by rw [hv], MadeN.nil _ _, by rw [hv]; rfl, hp.2.1⟩⟩
set_option maxHeartbeats 8000000 in
set_option maxRecDepth 100000 in
theorem parse_any (l : List UInt8) (m : Int) (w : World) (hs : l.length ≤ 80000000) (hM : MRefTab w) (hm : w.cell? ⟨4, 0, none⟩ = some (.int .i64 m)) (hK : KindsTab w) :
    Calls Tryz.prog 11 #[.string (bs l)] w fun e w' => ParseOut w w' l e := by
  obtain ⟨W0, hW0⟩ : ∃ W0, w.alloc (.cells #[.int .i64 0, .slice none 0 0] 31) = W0 := ⟨_, rfl⟩
  have hz0 : W0.heap.size = w.heap.size + 1 := by rw [← hW0]; simp
  have hb0 : Below w.heap.size w W0 := by rw [← hW0]; exact (Below.refl _ _).alloc (Nat.le_refl _) _
  obtain ⟨W1, hW1⟩ : ∃ W1, W0.alloc (.cells #[.slice none 0 0, .slice none 0 0, .bool false] 82) = W1 := ⟨_, rfl⟩
  have n1 : W1.heap[w.heap.size + 1]? = some (.cells #[.slice none 0 0, .slice none 0 0, .bool false] 82 (0, 0)) := by rw [← hW1, ← hz0]; exact heap_alloc_new _ _
  have hb1 : Below W0.heap.size W0 W1 := by rw [← hW1]; exact (Below.refl _ _).alloc (Nat.le_refl _) _
  have hp1 : PrS (fun _ _ => False) W0 W1 (w.heap.size + 1) [] [] false (.slice none 0 0) (.slice none 0 0) := ⟨n1, World.ownsRow_nil _ _ _ _, MadeN.nil _ _, by simp, hb1, hK.below hb0, by omega, fun _ _ h => h.elim⟩
  obtain ⟨R, hR⟩ : ∃ R, parseP l = R := ⟨_, rfl⟩
  have H1 : Hid (ParseAt w W0 W1 (w.heap.size + 1) l R [] [] false (.slice none 0 0) (.slice none 0 0)) := hid ⟨hp1, hR, by simp; omega⟩
  have HR := hid (fun (_ : True) => hR)
  have HG := hid (And.intro hM (And.intro hm (And.intro hb0 hz0)))
  have HW0 := hid (fun (_ : True) => hW0)
  rw [← hW0] at hW1
  clear hM hm hK hb0 hz0 n1 hb1 hp1 hR hW0
  go_enter Tryz.func11, Tryz.ntmps11
  go_wp2_with fail
  go_loopw [0] (fun tv wr => ∃ r op prs eat ov nv, tv = .string (bs r) ∧ Hid (ParseAt w W0 wr (w.heap.size + 1) r R op prs eat ov nv)) (fun tv _ => strN tv)
  case atStart => exact ⟨l, [], [], false, _, _, rfl, H1⟩
  case round =>
    clear H1 hW1
    obtain ⟨r, op, prs, eat, ov, nv, rfl, HP⟩ := hrel
    obtain ⟨np, nc, rfl⟩ := row_shape HP.out.pr.nodes.row
    obtain ⟨oq, oc, rfl⟩ := HP.out.pr.row.shape
    have hres : wr.heap[w.heap.size]? = some (.cells #[.int .i64 0, .slice none 0 0] 31 (0, 0)) := by
      have := HP.out.pr.be.block w.heap.size (by rw [HG.out.2.2.2]; omega)
      rw [this, ← HW0.out trivial]
      exact heap_alloc_new _ _
    by_cases h0 : r = []
    · subst h0
      have z1 : (bs ([] : List UInt8)).toList = [] := bs_toList []
      have z2 : ((bs ([] : List UInt8)).toList != []) = false := by rw [z1]; rfl
      have z3 : ((bs ([] : List UInt8)).toList == []) = true := by rw [z1]; rfl
      have hr := HP.out.res
      have c0 := cell_at HP.out.pr.at_ (j := 0) rfl
      have c1 := cell_at HP.out.pr.at_ (j := 1) rfl
      have y0 := cell_at hres (j := 0) rfl
      have y1 := cell_at hres (j := 1) rfl
      have g0 := free_at hres 0
      have g1 := free_at hres 1
      by_cases ho : op = []
      · rw [parseS_nil1 _ ho] at hr
        have hpe := parse_end (HW0.out trivial) HP.out.pr (.int .i64 0) (.slice np prs.length nc)
        have HZ : Hid (ParseOut w ((wr.setCell ⟨w.heap.size, 0, none⟩ (.int .i64 0)).setCell ⟨w.heap.size, 1, none⟩ (.slice np prs.length nc)) l (.returned (.agg #[.int .i64 0, .slice np prs.length nc]))) := hid ⟨_, prs, by rw [HR.out trivial, ← hr]; rfl, hpe.2.2, by rw [HR.out trivial, ← hr], hpe.2.1⟩
        have HY := hid hpe.1
        have d1 : decide ((op.length : Int) > 0) = false := decide_eq_false (by rw [ho]; simp)
        have d2 : decide ((0 : Int) < (op.length : Int)) = false := decide_eq_false (by rw [ho]; simp)
        have d3 : decide (0 < op.length) = false := decide_eq_false (by rw [ho]; simp)
        clear hpe hr HP hres z1 ho HG
        go_wp2_with fail
        refine bodyPost_ret (v := .agg #[.int .i64 0, .slice np prs.length nc]) ?_ rfl HZ.out
        exact results_cell_row rfl _ _ _ _ _ _ _ rfl HY.out Tryz.underlying31 rfl (by kernel_rfl)
      · rw [parseS_nil2 _ ho] at hr
        have hpn := parse_no (HW0.out trivial) HP.out.pr (l := l) ((HR.out trivial).trans hr.symm)
        have HZ := hid hpn
        have hol : 0 < op.length := List.length_pos_iff.2 ho
        have d1 : decide ((op.length : Int) > 0) = true := decide_eq_true (by omega)
        have d2 : decide ((0 : Int) < (op.length : Int)) = true := decide_eq_true (by omega)
        have d3 : decide (0 < op.length) = true := decide_eq_true hol
        clear hpn hr HP hres z1 ho HG
        go_wp2_with fail
        refine bodyPost_ret (v := .agg #[.int .i64 10, .slice none 0 0]) ?_ rfl HZ.out.2
        exact results_cell_row rfl _ _ _ _ _ _ _ rfl HZ.out.1 Tryz.underlying31 rfl (by kernel_rfl)
    · have z2 : ((bs r).toList != []) = true := by rw [bs_toList, bne_iff_ne]; exact h0
      have z3 : ((bs r).toList == []) = false := by rw [bs_toList, beq_eq_false_iff_ne]; exact h0
      have hbw : Below w.heap.size w wr := HG.out.2.2.1.trans (HP.out.pr.be.mono HG.out.2.2.1.size)
      have hct := cutToken_any r m wr (by have := HP.out.len; omega) (HG.out.1.below hbw) (cell_low HG.out.2.1 hbw (cell_block HG.out.2.1))
      have HC := hid hct
      have H0 := hid (fun (_ : True) => h0)
      clear hct hbw h0 hres
      go_wp2_with fail
      refine HC.out.mono ?_
      rintro e W2 ⟨k, v, n, t, rest, av, al, rfl, hrow, hb2, hal, hnone, hsome⟩
      obtain ⟨ap, ac, rfl⟩ := row_shape hrow
      go_upto_region 4 with fail
      obtain ⟨W3, hW3⟩ : ∃ W3, W2.alloc (.cells #[.int .i64 k, .string (bs n), .slice ap al.length ac, .string (bs t)] 60) = W3 := ⟨_, rfl⟩
      have hb3 : Below W2.heap.size W2 W3 := by rw [← hW3]; exact (Below.refl _ _).alloc (Nat.le_refl _) _
      have n3 : W3.heap[W2.heap.size]? = some (.cells #[.int .i64 k, .string (bs n), .slice ap al.length ac, .string (bs t)] 60 (0, 0)) := by rw [← hW3]; exact heap_alloc_new _ _
      simp only [hW3]
      clear hW3
      have hb23 := hb2.trans (hb3.mono hb2.size)
      have e0 := cell_at n3 (j := 0) rfl
      have e1 := cell_at n3 (j := 1) rfl
      have e2 := cell_at n3 (j := 2) rfl
      have e3 := cell_at n3 (j := 3) rfl
      have hp3 := HP.out.pr.below hb23
      have hfr := HP.out.pr.nodes.fresh (u := .slice ap al.length ac) (fun g hg => (hrow.lt g hg).1)
      have hro3 := row_low (row_below hrow hb3) HP.out.pr.base
      have H3 := hid (And.intro hp3 (And.intro hfr hro3))
      have hres : W3.heap[w.heap.size]? = some (.cells #[.int .i64 0, .slice none 0 0] 31 (0, 0)) := by
        have := hp3.be.block w.heap.size (by rw [HG.out.2.2.2]; omega)
        rw [this, ← HW0.out trivial]
        exact heap_alloc_new _ _
      have y0 := cell_at hres (j := 0) rfl
      have y1 := cell_at hres (j := 1) rfl
      have g0 := free_at hres 0
      have g1 := free_at hres 1
      obtain ⟨EB, hEB⟩ : ∃ n, W2.heap.size = n := ⟨_, rfl⟩
      rw [hEB] at e0 e1 e2 e3
      simp only [hEB]
      clear hEB hb2 hb3 hb23 hp3 hfr hro3 hrow n3 HC hres z2 z3
      cases htk : tokP r with
      | none =>
        have hv := hnone htk
        have hr := HP.out.res
        rw [parseS_none _ (H0.out trivial) htk] at hr
        have HZ := hid (parse_no (HW0.out trivial) H3.out.1 (l := l) ((HR.out trivial).trans hr.symm))
        subst hv
        clear hnone hsome hr htk HP H3 HG
        go_wp2_with fail
        refine bodyPost_ret (v := .agg #[.int .i64 1, .slice none 0 0]) ?_ rfl HZ.out.2
        exact results_cell_row rfl _ _ _ _ _ _ _ rfl HZ.out.1 Tryz.underlying31 rfl (by kernel_rfl)
      | some x =>
        obtain ⟨tok, r'⟩ := x
        obtain ⟨rfl, rfl, rfl, rfl, rfl, hv⟩ := hsome tok r' htk
        clear hnone hsome
        by_cases hnd : ((evA tok).map Prod.fst).Nodup
        case neg =>
          rw [if_neg hnd] at hv
          have hr := HP.out.res
          rw [parseS_some _ (H0.out trivial) htk, if_neg (by rw [step_twice hnd]; decide), step_twice hnd] at hr
          have HZ := hid (parse_no (HW0.out trivial) H3.out.1 (l := l) ((HR.out trivial).trans hr.symm))
          subst hv
          clear hr htk HP H3 HG hnd
          go_wp2_with fail
          refine bodyPost_ret (v := .agg #[.int .i64 2, .slice none 0 0]) ?_ rfl HZ.out.2
          exact results_cell_row rfl _ _ _ _ _ _ _ rfl HZ.out.1 Tryz.underlying31 rfl (by kernel_rfl)
        case pos =>
          rw [if_pos hnd] at hv
          subst hv
          have htl := tok_len htk (H0.out trivial)
          have hln := HP.out.len
          have hta := prTake_any _ W0 (w.heap.size + 1) op prs eat _ _ tok _ W3 H3.out.1 H3.out.2.2 H3.out.2.1 (by omega) (by have := tok_evT htk; omega) (fun x hx => tok_stop_ne (by rw [← hx]; exact htk)) hnd
          have HT := hid hta
          have hr := HP.out.res
          rw [parseS_some _ (H0.out trivial) htk] at hr
          have hfw := step_few ⟨op, prs.map Prod.fst, eat⟩ tok
          have HS := hid (And.intro hr (And.intro hfw (And.intro htl hln)))
          have HGG := HG
          clear hta hr hfw htl hln htk H3 HP hnd y0 y1 g0 g1
          go_wp2_with fail
          refine HT.out.mono ?_
          rintro e W4 ⟨rfl, op', ns', eat', ⟨prs', ov', nv', hp, hns⟩, hst⟩
          have hres : W4.heap[w.heap.size]? = some (.cells #[.int .i64 0, .slice none 0 0] 31 (0, 0)) := by
            have := hp.be.block w.heap.size (by rw [HGG.out.2.2.2]; omega)
            rw [this, ← HW0.out trivial]
            exact heap_alloc_new _ _
          have y0 := cell_at hres (j := 0) rfl
          have y1 := cell_at hres (j := 1) rfl
          have g0 := free_at hres 0
          have g1 := free_at hres 1
          have HPP := hid hp
          have HST := hid (And.intro hst hns)
          clear hp hst hns hres HT HG HGG
          obtain ⟨V, hV⟩ : ∃ V, (stepP ⟨op, prs.map Prod.fst, eat⟩ tok).1 = V := ⟨_, rfl⟩
          have HV := hid (fun (_ : True) => hV)
          simp only [hV]
          clear hV
          by_cases hv : V = 0
          · have hr := HS.out.1
            have hs2 := HST.out.1 ((HV.out trivial).trans hv)
            rw [if_pos ((HV.out trivial).trans hv), hs2] at hr
            have hfw := HS.out.2.1
            rw [hs2] at hfw
            have HNX : Hid (ParseAt w W0 W4 (w.heap.size + 1) rest R op' prs' eat' ov' nv') := hid ⟨HPP.out, by rw [HST.out.2]; exact hr, by
              have h1 := HS.out.2.2.1
              have h2 := HS.out.2.2.2
              have h3 := congrArg List.length HST.out.2
              simp only [List.length_map] at hfw h3
              omega⟩
            have hlt := HS.out.2.2.1
            subst hv
            clear hr hs2 hfw HS HST HV HPP
            go_wp2_with fail
            go_roundw
            case rel => exact ⟨rest, op', prs', eat', ov', nv', rfl, HNX⟩
            case measure => simp only [strN, bs_size]; omega
          · have hr := HS.out.1
            rw [if_neg (fun e => hv ((HV.out trivial).symm.trans e)), HV.out trivial] at hr
            have HZ := hid (parse_no (HW0.out trivial) HPP.out (l := l) ((HR.out trivial).trans hr.symm))
            have q1 : ((V : Int) == 0) = false := beq_eq_false_iff_ne.2 (by omega)
            have q2 : ((V : Int) != 0) = true := by rw [bne_iff_ne]; omega
            clear hr HS HST HV HPP hv
            go_wp2_with fail
            refine bodyPost_ret (v := .agg #[.int .i64 V, .slice none 0 0]) ?_ rfl HZ.out.2
            exact results_cell_row rfl _ _ _ _ _ _ _ rfl HZ.out.1 Tryz.underlying31 rfl (by kernel_rfl)
end Go.Proofs.YtcncbhbdpcpkeaaGreatDoor
