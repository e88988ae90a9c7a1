/-
  Parts of the walk, joined: RpN.
-/
import Derived.Test.YtcncbhbdpcpkeaaGreatDoorPJBS
/-
  The reference's tokenAt: its walk.
-/
namespace Go.Proofs.YtcncbhbdpcpkeaaGreatDoor
open Go.RowKit Go.Lib Own

theorem just5 {W : World} {b : Nat} {a0 a1 a2 a3 a4 : Value} {T : TypeId} (h : W.heap[b]? = some (.cells #[a0, a1, a2, a3, a4] T (0, 0))) (x0 x1 x2 x3 x4 : Value) :
    Just W (((((W.setCell ⟨b, 0, none⟩ x0).setCell ⟨b, 1, none⟩ x1).setCell ⟨b, 2, none⟩ x2).setCell ⟨b, 3, none⟩ x3).setCell ⟨b, 4, none⟩ x4) b #[x0, x1, x2, x3, x4] T := by
  have h1 := just_put (j := 0) h x0 rfl
  have h2 := just_put (j := 1) h1.at_ x1 rfl
  have h3 := just_put (j := 2) h2.at_ x2 rfl
  have h4 := just_put (j := 3) h3.at_ x3 rfl
  have h5 := just_put (j := 4) h4.at_ x4 rfl
  exact (((h1.andThen h2).andThen h3).andThen h4).andThen h5
/-- what tokenAt answers -/
structure GTokOut (w w' : World) (T : TokV) (e : Ending) : Prop where
  it : ∃ av, e = .returned (.agg #[.int .i64 T.k, .string (bs T.n), av, .string (bs T.t), .int .i64 T.sz]) ∧ w'.ownsRow w.heap.size 122 2 av T.al.length (attrsV T.al) ∧ Below w.heap.size w w'
def noTok : TokV := ⟨0, [], [], [], 0⟩
theorem bs_nil : bs [] = ⟨#[]⟩ := rfl
theorem tok_put {w W : World} (hn : W.heap[w.heap.size]? = some (.cells #[.int .i64 0, .string ⟨#[]⟩, .slice none 0 0, .string ⟨#[]⟩, .int .i64 0] 112 (0, 0))) (hb : Below w.heap.size w W) (T : TokV) (av : Value) (hr : W.ownsRow w.heap.size 122 2 av T.al.length (attrsV T.al)) :
    (((((W.setCell ⟨w.heap.size, 0, none⟩ (.int .i64 T.k)).setCell ⟨w.heap.size, 1, none⟩ (.string (bs T.n))).setCell ⟨w.heap.size, 2, none⟩ av).setCell ⟨w.heap.size, 3, none⟩ (.string (bs T.t))).setCell ⟨w.heap.size, 4, none⟩ (.int .i64 T.sz)).heap[w.heap.size]? = some (.cells #[.int .i64 T.k, .string (bs T.n), av, .string (bs T.t), .int .i64 T.sz] 112 (0, 0)) ∧
    GTokOut w (((((W.setCell ⟨w.heap.size, 0, none⟩ (.int .i64 T.k)).setCell ⟨w.heap.size, 1, none⟩ (.string (bs T.n))).setCell ⟨w.heap.size, 2, none⟩ av).setCell ⟨w.heap.size, 3, none⟩ (.string (bs T.t))).setCell ⟨w.heap.size, 4, none⟩ (.int .i64 T.sz)) T (.returned (.agg #[.int .i64 T.k, .string (bs T.n), av, .string (bs T.t), .int .i64 T.sz])) := by
  have hj := just5 hn (.int .i64 T.k) (.string (bs T.n)) av (.string (bs T.t)) (.int .i64 T.sz)
  exact ⟨hj.at_, ⟨av, rfl, hr.kept (just_grown hj) (.inr (row_ne hr hn (by decide))), hb.trans (just_low hj (Nat.le_refl _))⟩⟩
/-- no token -/
theorem tok_zero {w W : World} (hn : W.heap[w.heap.size]? = some (.cells #[.int .i64 0, .string ⟨#[]⟩, .slice none 0 0, .string ⟨#[]⟩, .int .i64 0] 112 (0, 0))) (hb : Below w.heap.size w W) :
    (((((W.setCell ⟨w.heap.size, 0, none⟩ (.int .i64 0)).setCell ⟨w.heap.size, 1, none⟩ (.string ⟨#[]⟩)).setCell ⟨w.heap.size, 2, none⟩ (.slice none 0 0)).setCell ⟨w.heap.size, 3, none⟩ (.string ⟨#[]⟩)).setCell ⟨w.heap.size, 4, none⟩ (.int .i64 0)).heap[w.heap.size]? = some (.cells #[.int .i64 0, .string ⟨#[]⟩, .slice none 0 0, .string ⟨#[]⟩, .int .i64 0] 112 (0, 0)) ∧
    GTokOut w (((((W.setCell ⟨w.heap.size, 0, none⟩ (.int .i64 0)).setCell ⟨w.heap.size, 1, none⟩ (.string ⟨#[]⟩)).setCell ⟨w.heap.size, 2, none⟩ (.slice none 0 0)).setCell ⟨w.heap.size, 3, none⟩ (.string ⟨#[]⟩)).setCell ⟨w.heap.size, 4, none⟩ (.int .i64 0)) noTok (.returned (.agg #[.int .i64 0, .string ⟨#[]⟩, .slice none 0 0, .string ⟨#[]⟩, .int .i64 0])) :=
  tok_put hn hb noTok (.slice none 0 0) (World.ownsRow_nil _ _ _ _)
theorem index_bs {l : List UInt8} {i : Nat} {c : UInt8} (h : i < (bs l).size) (hc : l[i]? = some c) : (bs l)[i]'h = c := by
  have := getElem_list h rfl
  rw [bs_data, hc] at this
  exact (Option.some.inj this).symm
set_option maxHeartbeats 8000000 in
set_option maxRecDepth 100000 in
/-- a text -/
theorem tokText (l : List UInt8) (w : World) (h0 : l ≠ []) (h60 : l.head? ≠ some 60) (hs : l.length ≤ 4000000) :
    Calls Tryz.prog 60 #[.string (bs l)] w fun e w' => GTokOut w w' (tokV l) e := by
  have hl := List.length_pos_iff.2 h0
  obtain ⟨R, hR⟩ : ∃ R, tokV l = R := ⟨_, rfl⟩
  rw [hR]
  have hsz := bs_size l
  obtain ⟨c, hc⟩ : ∃ c, l[0]? = some c := ⟨_, List.getElem?_eq_getElem hl⟩
  have hz : 0 < (bs l).size := by omega
  have hg := index_bs hz hc
  have hne : c ≠ 60 := by
    rw [List.head?_eq_getElem?, hc] at h60
    exact fun e => h60 (by rw [e])
  have z1 : ((c.toNat : Int) != 60) = true := by rw [bne_iff_ne]; intro e; exact hne (u8_ext (by show c.toNat = 60; omega))
  obtain ⟨J, hJ⟩ : ∃ J, (l.takeWhile noLt).length = J := ⟨_, rfl⟩
  have hJl : J ≤ l.length := by rw [← hJ]; exact takeWhile_len _ _
  have hx := mid_bs (bs l) 0 J
  rw [List.drop_zero, Nat.sub_zero, bs_data, ← hJ, takeWhile_take, hJ] at hx
  obtain ⟨W1, hW1⟩ : ∃ W1, w.alloc (.cells #[.int .i64 0, .string ⟨#[]⟩, .slice none 0 0, .string ⟨#[]⟩, .int .i64 0] 112) = W1 := ⟨_, rfl⟩
  have hb1 : Below w.heap.size w W1 := by rw [← hW1]; exact (Below.refl _ _).alloc (Nat.le_refl _) _
  have n1 : W1.heap[w.heap.size]? = some (.cells #[.int .i64 0, .string ⟨#[]⟩, .slice none 0 0, .string ⟨#[]⟩, .int .i64 0] 112 (0, 0)) := by rw [← hW1]; exact heap_alloc_new _ _
  have hun := until_at (bs l) 0 [60] (Nat.zero_le _) (by omega) (by decide) 0 rfl _ (List.drop_zero) J (by rw [lt_until, bs_data, hJ, Nat.zero_add]) W1
  have huo := unitsOf_any (l.takeWhile noLt) W1 (by omega)
  have htk := tok_textW h60
  obtain ⟨X, hX⟩ : ∃ X, bs (l.takeWhile noLt) = X := ⟨_, rfl⟩
  rw [hX] at hx huo
  have HU := hid hun
  have HUO := hid huo
  have HW := hid (And.intro hb1 n1)
  have HR := hid (fun (_ : True) => hR)
  have HT := hid (fun (_ : True) => htk)
  have HJ := hid (fun (_ : True) => And.intro hJ hJl)
  generalize bs l = S at hz hg hx HU hsz ⊢
  clear hun huo hb1 n1 hR htk hJ hc hne h60 hX
  have hjs : J ≤ S.size := by omega
  clear hsz hJl hl h0
  cases hdc : decP (l.takeWhile noLt) with
  | none =>
    have hr : R = noTok := by rw [← HR.out trivial]; exact tokV_none (by rw [HT.out trivial, hdc]; rfl)
    subst hr
    rw [hdc] at HUO
    clear HR HT HJ hdc
    go_enter Tryz.func60, Tryz.ntmps60
    go_wp2_with fail
    refine HU.out.mono ?_
    rintro e W2 ⟨rfl, rfl⟩
    go_wp2_with fail
    refine HUO.out.mono ?_
    rintro e W3 ⟨rfl, hb3⟩
    unfold unitsV
    have n3 := (hb3.block w.heap.size (block_lt HW.out.2)).trans HW.out.2
    have HZ := hid (tok_zero n3 (HW.out.1.trans (hb3.mono HW.out.1.size)))
    have y0 := cell_at n3 (j := 0) rfl
    have y1 := cell_at n3 (j := 1) rfl
    have y2 := cell_at n3 (j := 2) rfl
    have y3 := cell_at n3 (j := 3) rfl
    have y4 := cell_at n3 (j := 4) rfl
    have g0 := free_at n3 0
    have g1 := free_at n3 1
    have g2 := free_at n3 2
    have g3 := free_at n3 3
    have g4 := free_at n3 4
    clear n3 hb3 HW HUO HU
    dsimp only
    go_wp2_with fail
    refine bodyPost_ret (v := .agg #[.int .i64 0, .string ⟨#[]⟩, .slice none 0 0, .string ⟨#[]⟩, .int .i64 0]) ?_ rfl HZ.out.2
    exact results_cell_row rfl _ _ _ _ _ _ _ rfl HZ.out.1 Tryz.underlying112 rfl (by kernel_rfl)
  | some v =>
    have hr : R = ⟨3, [], [], v, J⟩ := by
      rw [← HR.out trivial, tokV_some (by rw [HT.out trivial, hdc]; rfl)]
      obtain ⟨h1, h2⟩ := HJ.out trivial
      have e3 : l.length - (l.drop (l.takeWhile noLt).length).length = J := by rw [List.length_drop, h1]; omega
      rw [e3]
      rfl
    subst hr
    rw [hdc] at HUO
    clear HR HT HJ hdc
    go_enter Tryz.func60, Tryz.ntmps60
    go_wp2_with fail
    refine HU.out.mono ?_
    rintro e W2 ⟨rfl, rfl⟩
    go_wp2_with fail
    refine HUO.out.mono ?_
    rintro e W3 ⟨rfl, hb3⟩
    unfold unitsV
    have n3 := (hb3.block w.heap.size (block_lt HW.out.2)).trans HW.out.2
    have hz3 := tok_put n3 (HW.out.1.trans (hb3.mono HW.out.1.size)) ⟨3, [], [], v, J⟩ (.slice none 0 0) (World.ownsRow_nil _ _ _ _)
    simp only [bs_nil] at hz3
    have HZ := hid hz3
    have y0 := cell_at n3 (j := 0) rfl
    have y1 := cell_at n3 (j := 1) rfl
    have y2 := cell_at n3 (j := 2) rfl
    have y3 := cell_at n3 (j := 3) rfl
    have y4 := cell_at n3 (j := 4) rfl
    have g0 := free_at n3 0
    have g1 := free_at n3 1
    have g2 := free_at n3 2
    have g3 := free_at n3 3
    have g4 := free_at n3 4
    clear n3 hb3 HW HUO HU hz3
    dsimp only
    go_wp2_with fail
    refine bodyPost_ret (v := .agg #[.int .i64 3, .string ⟨#[]⟩, .slice none 0 0, .string (bs v), .int .i64 J]) ?_ rfl HZ.out.2
    exact results_cell_row rfl _ _ _ _ _ _ _ rfl HZ.out.1 Tryz.underlying112 rfl (by kernel_rfl)
set_option maxHeartbeats 8000000 in
set_option maxRecDepth 100000 in
/-- an end tag -/
theorem tokStop (l : List UInt8) (w : World) (h60 : l.head? = some 60) (h47 : l.tail.head? = some 47) (hs : l.length ≤ 4000000) :
    Calls Tryz.prog 60 #[.string (bs l)] w fun e w' => GTokOut w w' (tokV l) e := by
  obtain ⟨R, hR⟩ : ∃ R, tokV l = R := ⟨_, rfl⟩
  rw [hR]
  have hsz := bs_size l
  have hl2 : 2 ≤ l.length := by
    match l, h60, h47 with
    | a :: b :: r, _, _ => simp
  have hz : 0 < (bs l).size := by omega
  have hg := index_bs hz (show l[0]? = some 60 by rw [← List.head?_eq_getElem?]; exact h60)
  have hz1 : 1 < (bs l).size := by omega
  have hg1 := index_bs hz1 (show l[1]? = some 47 by
    match l, h47 with
    | a :: b :: r, h => simpa using h)
  have z0 : (((60 : UInt8).toNat : Int) != 60) = false := rfl
  have z1 : decide (((bs l).size : Int) > 1) = true := decide_eq_true (by omega)
  have z2 : decide ((1 : Int) < ((bs l).size : Int)) = true := decide_eq_true (by omega)
  have z3 : decide (1 < (bs l).size) = true := decide_eq_true (by omega)
  have z4 : (((47 : UInt8).toNat : Int) == 47) = true := rfl
  obtain ⟨J, hJ⟩ : ∃ J, 2 + wordN [] (l.drop 2) = J := ⟨_, rfl⟩
  have hJl : J ≤ l.length := by
    have h1 := wordN_le [] (l.drop 2)
    rw [List.length_drop] at h1
    omega
  obtain ⟨W1, hW1⟩ : ∃ W1, w.alloc (.cells #[.int .i64 0, .string ⟨#[]⟩, .slice none 0 0, .string ⟨#[]⟩, .int .i64 0] 112) = W1 := ⟨_, rfl⟩
  have hb1 : Below w.heap.size w W1 := by rw [← hW1]; exact (Below.refl _ _).alloc (Nat.le_refl _) _
  have n3 : W1.heap[w.heap.size]? = some (.cells #[.int .i64 0, .string ⟨#[]⟩, .slice none 0 0, .string ⟨#[]⟩, .int .i64 0] 112 (0, 0)) := by rw [← hW1]; exact heap_alloc_new _ _
  have hne := nameEnd_any (bs l) 2 [] W1 (by omega) (by omega) (by decide)
  rw [bs_data, hJ] at hne
  have hne' : Calls Tryz.prog 113 #[.string (bs l), .int .i64 2, .string ⟨#[97, 98, 99, 100, 101, 102, 103, 104, 105, 106, 107, 108, 109, 110, 111, 112, 113, 114, 115, 116, 117, 118, 119, 120, 121, 122, 48, 49, 50, 51, 52, 53, 54, 55, 56, 57]⟩] W1 fun e w' => e = .returned (.int .i64 (J : Int)) ∧ w' = W1 := hne
  have htk := tok_stopW h60 h47
  rw [hJ] at htk
  have hx := mid_bs (bs l) 2 J
  rw [bs_data, show J - 2 = wordN [] (l.drop 2) by omega] at hx
  have hwj : IntKind.i64.wrap ((J : Int) + 1) = (J : Int) + 1 := by rw [IntKind.wrap_i64]; omega
  have HNE := hid hne'
  have HR := hid (fun (_ : True) => hR)
  have HT := hid (fun (_ : True) => htk)
  have HZ0 := hid (tok_zero n3 hb1)
  have HP := hid (And.intro n3 hb1)
  have HJ := hid (fun (_ : True) => hJ)
  have hq : ∀ (h : J < (bs l).size) (c : UInt8), l[J]? = some c → (bs l)[J]'h = c := fun h c hc => index_bs h hc
  have y0 := cell_at n3 (j := 0) rfl
  have y1 := cell_at n3 (j := 1) rfl
  have y2 := cell_at n3 (j := 2) rfl
  have y3 := cell_at n3 (j := 3) rfl
  have y4 := cell_at n3 (j := 4) rfl
  have g0 := free_at n3 0
  have g1 := free_at n3 1
  have g2 := free_at n3 2
  have g3 := free_at n3 3
  have g4 := free_at n3 4
  clear hne hne' hR htk hb1 n3 hJ h60 h47
  by_cases h2 : J = 2
  · have hr : R = noTok := by rw [← HR.out trivial]; exact tokV_none (by rw [HT.out trivial, if_pos (.inl (by have := HJ.out trivial; omega))])
    subst hr
    subst h2
    clear HR HT HP HJ hq hx hwj hsz hl2
    generalize bs l = S at *
    go_enter Tryz.func60, Tryz.ntmps60
    go_wp2_with fail
    refine HNE.out.mono ?_
    rintro e W2 ⟨rfl, rfl⟩
    go_wp2_with fail
    refine bodyPost_ret (v := .agg #[.int .i64 0, .string ⟨#[]⟩, .slice none 0 0, .string ⟨#[]⟩, .int .i64 0]) ?_ rfl HZ0.out.2
    exact results_cell_row rfl _ _ _ _ _ _ _ rfl HZ0.out.1 Tryz.underlying112 rfl (by kernel_rfl)
  · have z5 : ((J : Int) == 2) = false := beq_eq_false_iff_ne.2 (by omega)
    by_cases h3 : J = l.length
    · have hr : R = noTok := by rw [← HR.out trivial]; exact tokV_none (by rw [HT.out trivial, if_pos (.inr (by rw [h3, List.drop_length]; simp))])
      subst hr
      have z6 : decide ((J : Int) ≥ ((bs l).size : Int)) = true := decide_eq_true (by omega)
      have z7 : decide (((bs l).size : Int) ≤ (J : Int)) = true := decide_eq_true (by omega)
      have z8 : decide ((bs l).size ≤ J) = true := decide_eq_true (by omega)
      clear HR HT HP HJ hq hx hwj h3 hJl h2 hl2
      clear hsz
      generalize bs l = S at *
      go_enter Tryz.func60, Tryz.ntmps60
      go_wp2_with fail
      refine HNE.out.mono ?_
      rintro e W2 ⟨rfl, rfl⟩
      go_wp2_with fail
      refine bodyPost_ret (v := .agg #[.int .i64 0, .string ⟨#[]⟩, .slice none 0 0, .string ⟨#[]⟩, .int .i64 0]) ?_ rfl HZ0.out.2
      exact results_cell_row rfl _ _ _ _ _ _ _ rfl HZ0.out.1 Tryz.underlying112 rfl (by kernel_rfl)
    · have hJs : J < (bs l).size := by omega
      obtain ⟨c, hc⟩ : ∃ c, l[J]? = some c := ⟨_, List.getElem?_eq_getElem (by omega)⟩
      have hgJ := hq hJs c hc
      have hhd : (l.drop J).head? = some c := by rw [drop_at hc]; rfl
      have z6 : decide ((J : Int) ≥ ((bs l).size : Int)) = false := decide_eq_false (by omega)
      have z7 : decide (((bs l).size : Int) ≤ (J : Int)) = false := decide_eq_false (by omega)
      have z8 : decide ((bs l).size ≤ J) = false := decide_eq_false (by omega)
      by_cases h62 : c = 62
      · have z9 : ((c.toNat : Int) != 62) = false := by rw [h62]; rfl
        have hr : R = ⟨2, (l.drop 2).take (wordN [] (l.drop 2)), [], [], J + 1⟩ := by
          rw [← HR.out trivial, tokV_some (by rw [HT.out trivial, if_neg (fun h => h.elim (fun h => by have := HJ.out trivial; omega) (fun h => h (by rw [hhd, h62])))])]
          have e3 : l.length - (l.drop (J + 1)).length = J + 1 := by rw [List.length_drop]; omega
          rw [e3]
          rfl
        subst hr
        have hz3 := tok_put HP.out.1 HP.out.2 ⟨2, (l.drop 2).take (wordN [] (l.drop 2)), [], [], J + 1⟩ (.slice none 0 0) (World.ownsRow_nil _ _ _ _)
        simp only [bs_nil] at hz3
        rw [show ((J + 1 : Nat) : Int) = (J : Int) + 1 from rfl] at hz3
        obtain ⟨X, hX⟩ : ∃ X, bs ((l.drop 2).take (wordN [] (l.drop 2))) = X := ⟨_, rfl⟩
        rw [hX] at hx hz3
        have HZ := hid hz3
        have hJ2 : 2 ≤ J := by have := HJ.out trivial; omega
        clear hz3 HR HT HP HJ hq h3 hJl h2 hl2 hc hhd h62 HZ0
        clear hsz
        generalize bs l = S at *
        go_enter Tryz.func60, Tryz.ntmps60
        go_wp2_with fail
        refine HNE.out.mono ?_
        rintro e W2 ⟨rfl, rfl⟩
        go_wp2_with fail
        refine bodyPost_ret (v := .agg #[.int .i64 2, .string X, .slice none 0 0, .string ⟨#[]⟩, .int .i64 ((J : Int) + 1)]) ?_ rfl ?_
        · exact results_cell_row rfl _ _ _ _ _ _ _ rfl HZ.out.1 Tryz.underlying112 rfl (by kernel_rfl)
        · rw [← hX] at HZ ⊢
          exact HZ.out.2
      · have z9 : ((c.toNat : Int) != 62) = true := by rw [bne_iff_ne]; intro e; exact h62 (u8_ext (by show c.toNat = 62; omega))
        have hr : R = noTok := by rw [← HR.out trivial]; exact tokV_none (by rw [HT.out trivial, if_pos (.inr (by rw [hhd]; simpa using h62))])
        subst hr
        clear HR HT HP HJ hq h3 hJl h2 hl2 hc hhd h62 hx
        clear hsz
        generalize bs l = S at *
        go_enter Tryz.func60, Tryz.ntmps60
        go_wp2_with fail
        refine HNE.out.mono ?_
        rintro e W2 ⟨rfl, rfl⟩
        go_wp2_with fail
        refine bodyPost_ret (v := .agg #[.int .i64 0, .string ⟨#[]⟩, .slice none 0 0, .string ⟨#[]⟩, .int .i64 0]) ?_ rfl HZ0.out.2
        exact results_cell_row rfl _ _ _ _ _ _ _ rfl HZ0.out.1 Tryz.underlying112 rfl (by kernel_rfl)
end Go.Proofs.YtcncbhbdpcpkeaaGreatDoor
