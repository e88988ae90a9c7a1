/-
  Parts of the walk, joined: RefWrC.
-/
import Derived.Test.YtcncbhbdpcpkeaaGreatDoorPJAY
/-
  The reference's Write, tagFits: their walks.
-/
namespace Go.Proofs.YtcncbhbdpcpkeaaGreatDoor
open Go.RowKit Go.Lib Own

theorem evs_single' {W : World} {g : Nat} {e : EvP} {u : Value} {T : TypeId} (h : W.heap[g]? = some (.cells (evC e u) T (0, 0))) (hu : AttrsR W u e.a) : EvsR W (.slice (some ⟨g, 0, none⟩) 1 1) [e] := by
  refine ⟨_, 1, rfl, Nat.le_refl _, by omega, fun j x hj => ?_⟩
  obtain ⟨c0, c1, c2, c3⟩ := evC_at h
  cases j with
  | zero =>
    simp only [List.getElem?_cons_zero, Option.some.injEq] at hj
    subst hj
    exact ⟨g, 0, u, rfl, c0, c1, c2, c3, hu⟩
  | succ j => simp at hj
theorem pieceR_len (e : EvP) (r : List EvP) : (pieceR e r).length ≤ 6 * (e.n.length + e.t.length + bulkA e.a + 1) := by
  have h1 := attrs_len e.a
  have h2 := esc_len false _ e.t (Nat.le_refl _)
  have h3 : (openL e.n e.a).length = 2 + e.n.length + (e.a.flatMap attrL).length := by unfold openL; simp only [List.length_append, List.length_cons, List.length_nil]; omega
  have h4 : (etagL e.n).length = 3 + e.n.length := by unfold etagL; simp only [List.length_append, List.length_cons, List.length_nil]; omega
  have h5 : ∀ c : Prop, [Decidable c] → (if c then [(10 : UInt8)] else []).length ≤ 1 := by intro c _; split <;> simp
  have h6 := h5 (eatsL e.n = true ∧ nlAhead r = true)
  unfold pieceR
  split
  · rw [List.length_append]; omega
  · split
    · omega
    · split
      · omega
      · simp
theorem writeR_len : ∀ es : List EvP, (writeR es).length ≤ 6 * bulkE es
  | [] => by simp [writeR]
  | e :: r => by
    have h1 := pieceR_len e r
    have h2 := writeR_len r
    rw [show writeR (e :: r) = pieceR e r ++ writeR r from rfl, List.length_append, bulkE_cons]
    omega

set_option maxHeartbeats 8000000 in
set_option maxRecDepth 100000 in
theorem refWrite_any (ev : Value) (es : List EvP) (w : World) (h : EvsR w ev es) (hs : bulkE es ≤ 3000000) :
    Calls Tryz.prog 48 #[ev] w fun r w' => r = .returned (.string (bs (writeR es))) ∧ Below w.heap.size w w' := by
  have hE := h
  obtain ⟨p, c, rfl, hl, hcm, hcell⟩ := h
  have hlen := bulkE_len es
  have hwl := writeR_len es
  obtain ⟨R, hR⟩ : ∃ R, writeR es = R := ⟨_, rfl⟩
  rw [hR] at hwl ⊢
  have HR : Hid (True → [] ++ writeR (es.drop 0) = R) := fun _ => hR
  have HE := hid hE
  have HC := hid hcell
  have HS := hid hs
  have HWL := hid (show R.length ≤ 18000000 by omega)
  have hln : es.length ≤ 3000000 := by omega
  have hts : ∀ e ∈ es, e.t.length ≤ 100000000 := fun e he => by
    obtain ⟨k, hk⟩ := List.getElem?_of_mem he
    have := bulkE_get hk
    omega
  have HTS := hid hts
  obtain ⟨i0, hi, hz0, hz1, hz2⟩ := info_parts info_u8
  clear hE hcell hs hwl hR hlen hts
  go_enter Tryz.func48, Tryz.ntmps48
  go_wp2_with fail
  go_loopw [3, 4] (fun bv iv wr => ∃ (k : Nat) (acc : List UInt8), iv = .int .i64 k ∧ k ≤ es.length ∧ Hid (wr.ownsRowF w.heap.size 5 1 bv acc.length (byteCells acc) ∧ Below w.heap.size w wr) ∧ Hid (True → acc ++ writeR (es.drop k) = R)) (fun _ iv _ => es.length - (RowKit.intOf iv).toNat)
  case atStart => exact ⟨0, [], rfl, Nat.zero_le _, hid ⟨World.ownsRowF_of (World.ownsRow_nil _ _ _ _), Below.refl _ _⟩, HR⟩
  case round =>
    obtain ⟨k, acc, rfl, hk, HX, HK⟩ := hrel
    obtain ⟨bp, bc, rfl⟩ := row_shapeF HX.out.1
    clear HR
    by_cases hkl : k < es.length
    · obtain ⟨e, he⟩ : ∃ e, es[k]? = some e := ⟨_, List.getElem?_eq_getElem hkl⟩
      obtain ⟨b, o, u, rfl, q0, q1, q2, q3, q4⟩ := HC.out k e he
      obtain ⟨hown, hbw⟩ := HX.out
      have hab := bulkE_get he
      have hSS := HS.out
      have hq4 := q4.below hbw
      replace q0 := cell_low q0 hbw (cell_block q0)
      replace q1 := cell_low q1 hbw (cell_block q1)
      replace q2 := cell_low q2 hbw (cell_block q2)
      replace q3 := cell_low q3 hbw (cell_block q3)
      obtain ⟨up, uc, rfl⟩ := q4.len
      have hd := HK.out trivial
      rw [drop_at he, show writeR (e :: es.drop (k + 1)) = pieceR e (es.drop (k + 1)) ++ writeR (es.drop (k + 1)) from rfl] at hd
      obtain ⟨W4, hW4⟩ : ∃ W4, wr.alloc (.cells (evC e (.slice up e.a.length uc)) 60) = W4 := ⟨_, rfl⟩
      have hb4 : Below wr.heap.size wr W4 := by rw [← hW4]; exact (Below.refl _ _).alloc (Nat.le_refl _) _
      have hn4 : W4.heap[wr.heap.size]? = some (.cells (evC e (.slice up e.a.length uc)) 60 (0, 0)) := by rw [← hW4]; exact heap_alloc_new _ _
      have hbw4 := hbw.trans (hb4.mono hbw.size)
      have hop := refOpener_any e (.slice up e.a.length uc) W4 (hq4.below hb4) (by omega)
      have hea := fun W => refEatsW_any (bs e.n) W
      rw [bs_toList] at hea
      have hfa := fun W (hb : Below w.heap.size w W) => feedAhead_any (.slice (some ⟨b, o, none⟩) es.length c) es k W (HE.out.below hb) hkl HTS.out
      have hes := fun W => refEscaped_any (bs e.t) false W (by rw [bs_size]; omega)
      rw [bs_data] at hes
      have hdl := congrArg List.length hd
      have hRl := HWL.out
      simp only [List.length_append] at hdl
      have hown4 : W4.ownsRowF w.heap.size 5 1 (.slice bp acc.length bc) acc.length (byteCells acc) := hown.kept (row := none) ⟨hb4.os, hb4.tape, hb4.output, hb4.size, fun k hk _ => hb4.block k hk⟩ (Classical.em _)
      have H4 := hid (And.intro hown4 hbw4)
      -- the end of a round: a text behind the row
      have fin : ∀ (S : ByteArray) (L : List UInt8) (W : World), bs L = S → L = pieceR e (es.drop (k + 1)) → Below W4.heap.size W4 W → ∀ (v' : Value) (W' : World), W'.ownsRowF w.heap.size 5 1 v' (acc.length + S.size) (byteCells acc ++ strCells S) → W.grownBy W' (Value.slice bp acc.length bc).ownBlock →
          Hid (W'.ownsRowF w.heap.size 5 1 v' (acc ++ L).length (byteCells (acc ++ L)) ∧ Below w.heap.size w W') ∧ Hid (True → (acc ++ L) ++ writeR (es.drop (k + 1)) = R) := by
        intro S L W hS hL hb v' W' ho hg
        have hoW : W.ownsRowF w.heap.size 5 1 (.slice bp acc.length bc) acc.length (byteCells acc) := hown4.kept (row := none) ⟨hb.os, hb.tape, hb.output, hb.size, fun k hk _ => hb.block k hk⟩ (Classical.em _)
        refine ⟨⟨?_, (hbw4.trans (hb.mono hbw4.size)).grown hg (Nat.le_trans hbw4.size hb.size) (fun k hk => (hoW.lt k hk).1)⟩, fun _ => by rw [List.append_assoc, hL]; exact hd⟩
        rw [List.length_append, Lib.byteCells_append]
        subst hS
        rw [bs_size, show strCells (bs L) = byteCells L from strCells_byte _] at ho
        exact ho
      have FIN := hid fin
      have hownW : ∀ W, Below W4.heap.size W4 W → W.ownsRowF w.heap.size 5 1 (.slice bp acc.length bc) acc.length (byteCells acc) := fun W hb => hown4.kept (row := none) ⟨hb.os, hb.tape, hb.output, hb.size, fun k hk _ => hb.block k hk⟩ (Classical.em _)
      have HOW := hid hownW
      have hwsz : w.heap.size ≤ W4.heap.size := hbw4.size
      obtain ⟨d0, d1, d2, d3⟩ := evC_at hn4
      have HEA := hid hea
      have HFA := hid hfa
      have HOP := hid hop
      have HES := hid hes
      have HAB := hid (fun (_ : True) => hab)
      have hal : acc.length ≤ 18000000 := by omega
      have hpl : (pieceR e (es.drop (k + 1))).length ≤ 18000000 := by omega
      have HPL := hid hpl
      clear hd hdl hRl hab hSS hq4 q4 hea hfa hop hes fin hownW hown4 hbw4 hn4 hb4 hpl hown hbw HX HK HC he HTS HE HS
      by_cases k1 : e.k = 1
      · have ep : pieceR e (es.drop (k + 1)) = openL e.n e.a ++ (if eatsL e.n = true ∧ nlAhead (es.drop (k + 1)) = true then [10] else []) := by unfold pieceR; rw [if_pos k1]
        have hPL := HPL.out
        rw [ep, List.length_append] at hPL
        have hOL : (openL e.n e.a).length ≤ 18000000 := by omega
        obtain ⟨ea, hea⟩ : ∃ ea, eatsL e.n = ea := ⟨_, rfl⟩
        obtain ⟨fa, hfa⟩ : ∃ fa, nlAhead (es.drop (k + 1)) = fa := ⟨_, rfl⟩
        rw [hea] at HEA ep
        rw [hfa] at HFA ep
        obtain ⟨O, hO⟩ : ∃ O, bs (openL e.n e.a) = O := ⟨_, rfl⟩
        have hOz : O.size ≤ 18000000 := by rw [← hO, bs_size]; exact hOL
        rw [hO] at HOP
        have HO := hid hO
        have HEP := hid ep
        unfold evC at hW4 HOP
        rw [k1] at d0 hW4 q0
        simp only [k1] at HOP
        clear hPL hOL hea hfa ep hO k1
        go_upto_region 8 with fail
        clear hW4 q0 q1 q2 q3
        go_upto_region 9 with fail
        go_wp2_with fail
        refine HOP.out.mono ?_
        rintro r W5 ⟨rfl, b5⟩
        have HB5 := hid b5
        obtain ⟨d0, d1, d2, d3⟩ := (⟨cell_low d0 b5 (cell_block d0), cell_low d1 b5 (cell_block d1), cell_low d2 b5 (cell_block d2), cell_low d3 b5 (cell_block d3)⟩ : W5.cell? ⟨wr.heap.size, 0, none⟩ = some (.int .i64 1) ∧ W5.cell? ⟨wr.heap.size, 1, none⟩ = some (.string (bs e.n)) ∧ W5.cell? ⟨wr.heap.size, 2, none⟩ = some (.slice up e.a.length uc) ∧ W5.cell? ⟨wr.heap.size, 3, none⟩ = some (.string (bs e.t)))
        have hown5 := HOW.out W5 b5
        have hwsz5 : w.heap.size ≤ W5.heap.size := Nat.le_trans hwsz b5.size
        have hbw5 := hid (H4.out.2.trans (b5.mono H4.out.2.size))
        clear b5
        go_wp2_with fail
        refine (HEA.out _).mono ?_
        rintro r W6 ⟨rfl, rfl⟩
        cases ea with
        | false =>
          go_wp2_with (at_builtin; refine Lib.wpList_append_own_stringF _ rfl _ _ 65 9 rfl w.heap.size 5 i0 Tryz.underlying65 Tryz.underlying9 hi hz0 hz1 hz2 _ _ _ rfl hown5 O rfl (by unfold maxLen; omega) (by omega) (by omega) ?_)
          intro v' W' ho hg _
          obtain ⟨HZ, HZ2⟩ := FIN.out O _ W6 HO.out (by rw [HEP.out]; simp) HB5.out v' W' ho hg
          clear ho hg FIN HOW HEA HFA HOP HES hown5
          go_wp2
          go_roundw
          case rel => exact ⟨k + 1, _, rfl, by omega, HZ, HZ2⟩
          case measure => simp [RowKit.intOf]; omega
        | true =>
          go_wp2_with fail
          refine (HFA.out _ hbw5.out).mono ?_
          rintro r W7 ⟨rfl, rfl⟩
          cases fa with
          | false =>
            go_wp2_with (at_builtin; refine Lib.wpList_append_own_stringF _ rfl _ _ 65 9 rfl w.heap.size 5 i0 Tryz.underlying65 Tryz.underlying9 hi hz0 hz1 hz2 _ _ _ rfl hown5 O rfl (by unfold maxLen; omega) (by omega) (by omega) ?_)
            intro v' W' ho hg _
            obtain ⟨HZ, HZ2⟩ := FIN.out O _ W7 HO.out (by rw [HEP.out]; simp) HB5.out v' W' ho hg
            clear ho hg FIN HOW HEA HFA HOP HES hown5
            go_wp2
            go_roundw
            case rel => exact ⟨k + 1, _, rfl, by omega, HZ, HZ2⟩
            case measure => simp [RowKit.intOf]; omega
          | true =>
            obtain ⟨O2, hO2⟩ : ∃ O2, O ++ (⟨#[10]⟩ : ByteArray) = O2 := ⟨_, rfl⟩
            have hO3 : bs (openL e.n e.a ++ [10]) = O2 := by rw [← hO2, ← HO.out, show (⟨#[10]⟩ : ByteArray) = bs [10] from rfl, bs_cat]
            have hO2z : O2.size ≤ 18000001 := by rw [← hO3, bs_size, List.length_append]; have := congrArg ByteArray.size HO.out; rw [bs_size] at this; simp; omega
            have HO3 := hid hO3
            clear hO3
            go_wp2_with (at_builtin; refine Lib.wpList_append_own_stringF _ rfl _ _ 65 9 rfl w.heap.size 5 i0 Tryz.underlying65 Tryz.underlying9 hi hz0 hz1 hz2 _ _ _ rfl hown5 O2 rfl (by unfold maxLen; omega) (by omega) (by omega) ?_)
            intro v' W' ho hg _
            obtain ⟨HZ, HZ2⟩ := FIN.out O2 _ W7 HO3.out (by rw [HEP.out]; simp) HB5.out v' W' ho hg
            clear ho hg FIN HOW HEA HFA HOP HES hown5
            go_wp2
            go_roundw
            case rel => exact ⟨k + 1, _, rfl, by omega, HZ, HZ2⟩
            case measure => simp [RowKit.intOf]; omega
      have n1 := int_ne k1
      by_cases k2 : e.k = 2
      · have ep : pieceR e (es.drop (k + 1)) = etagL e.n := by unfold pieceR; rw [if_neg k1, if_pos k2]
        have hPL := HPL.out
        rw [ep] at hPL
        obtain ⟨N, hN⟩ : ∃ N, bs e.n = N := ⟨_, rfl⟩
        have hNz : N.size ≤ 18000000 := by rw [← hN, bs_size]; unfold etagL at hPL; simp only [List.length_append, List.length_cons, List.length_nil] at hPL; omega
        obtain ⟨O, hO⟩ : ∃ O, (⟨#[60, 47]⟩ : ByteArray) ++ N ++ (⟨#[62]⟩ : ByteArray) = O := ⟨_, rfl⟩
        have hO3 : bs (etagL e.n) = O := by rw [← hO, ← hN, show (⟨#[60, 47]⟩ : ByteArray) = bs [60, 47] from rfl, show (⟨#[62]⟩ : ByteArray) = bs [62] from rfl, bs_cat, bs_cat]; rfl
        have hOz : O.size ≤ 18000000 := by rw [← hO3, bs_size]; exact hPL
        have HO3 := hid hO3
        have HEP := hid ep
        unfold evC at hW4
        rw [k2] at d0 hW4 n1 q0
        rw [hN] at d1 q1
        simp only [hN] at hW4
        have hown5 := HOW.out W4 (Below.refl _ _)
        clear hPL ep hO3 k1 k2
        go_upto_region 8 with fail
        clear hW4 q0 q1 q2 q3 hN
        go_wp2_with (at_builtin; refine Lib.wpList_append_own_stringF _ rfl _ _ 65 9 rfl w.heap.size 5 i0 Tryz.underlying65 Tryz.underlying9 hi hz0 hz1 hz2 _ _ _ rfl hown5 O rfl (by unfold maxLen; omega) (by omega) (by omega) ?_)
        intro v' W' ho hg _
        obtain ⟨HZ, HZ2⟩ := FIN.out O _ W4 HO3.out HEP.out.symm (Below.refl _ _) v' W' ho hg
        clear ho hg FIN HOW HEA HFA HOP HES hown5
        go_wp2
        go_roundw
        case rel => exact ⟨k + 1, _, rfl, by omega, HZ, HZ2⟩
        case measure => simp [RowKit.intOf]; omega
      have n2 := int_ne k2
      by_cases k3 : e.k = 3
      · have ep : pieceR e (es.drop (k + 1)) = escL false e.t := by unfold pieceR; rw [if_neg k1, if_neg k2, if_pos k3]
        have hPL := HPL.out
        rw [ep] at hPL
        obtain ⟨O, hO⟩ : ∃ O, bs (escL false e.t) = O := ⟨_, rfl⟩
        have hOz : O.size ≤ 18000000 := by rw [← hO, bs_size]; exact hPL
        rw [hO] at HES
        have HO3 := hid hO
        have HEP := hid ep
        unfold evC at hW4
        rw [k3] at d0 hW4 n1 n2 q0
        clear hPL ep hO k1 k2 k3
        go_upto_region 8 with fail
        clear hW4 q0 q1 q2 q3
        go_wp2_with fail
        refine (HES.out _).mono ?_
        rintro r W5 ⟨rfl, b5⟩
        have HB5 := hid b5
        have hown5 := HOW.out W5 b5
        have hwsz5 : w.heap.size ≤ W5.heap.size := Nat.le_trans hwsz b5.size
        clear b5
        go_wp2_with (at_builtin; refine Lib.wpList_append_own_stringF _ rfl _ _ 65 9 rfl w.heap.size 5 i0 Tryz.underlying65 Tryz.underlying9 hi hz0 hz1 hz2 _ _ _ rfl hown5 O rfl (by unfold maxLen; omega) (by omega) (by omega) ?_)
        intro v' W' ho hg _
        obtain ⟨HZ, HZ2⟩ := FIN.out O _ W5 HO3.out HEP.out.symm HB5.out v' W' ho hg
        clear ho hg FIN HOW HEA HFA HOP HES hown5
        go_wp2
        go_roundw
        case rel => exact ⟨k + 1, _, rfl, by omega, HZ, HZ2⟩
        case measure => simp [RowKit.intOf]; omega
      · have n3 := int_ne k3
        have ep : pieceR e (es.drop (k + 1)) = [] := by unfold pieceR; rw [if_neg k1, if_neg k2, if_neg k3]
        have HEP := hid ep
        unfold evC at hW4
        have hown5 := HOW.out W4 (Below.refl _ _)
        have hOz : (⟨#[]⟩ : ByteArray).size = 0 := rfl
        clear ep k1 k2 k3
        go_upto_region 8 with fail
        clear hW4 q0 q1 q2 q3
        go_wp2_with (at_builtin; refine Lib.wpList_append_own_stringF _ rfl _ _ 65 9 rfl w.heap.size 5 i0 Tryz.underlying65 Tryz.underlying9 hi hz0 hz1 hz2 _ _ _ rfl hown5 ⟨#[]⟩ rfl (by unfold maxLen; omega) (by omega) (by omega) ?_)
        intro v' W' ho hg _
        obtain ⟨HZ, HZ2⟩ := FIN.out ⟨#[]⟩ _ W4 (show bs [] = ⟨#[]⟩ from rfl) HEP.out.symm (Below.refl _ _) v' W' ho hg
        clear ho hg FIN HOW HEA HFA HOP HES hown5
        go_wp2
        go_roundw
        case rel => exact ⟨k + 1, _, rfl, by omega, HZ, HZ2⟩
        case measure => simp [RowKit.intOf]; omega
    · obtain rfl : acc = R := by
        have := HK.out trivial
        rw [List.drop_of_length_le (by omega)] at this
        rwa [show writeR [] = [] from rfl, List.append_nil] at this
      have ht := own_textF wr _ _ acc HX.out.1
      clear HK HC HE HS HTS
      go_wp2
      go_ret
      exact ⟨rfl, HX.out.2⟩

theorem writeR_start (e : EvP) (h : e.k = 1) : writeR [e] = openL e.n e.a := by
  show pieceR e [] ++ [] = _
  unfold pieceR
  rw [if_pos h, if_neg (fun q => by cases q.2), List.append_nil, List.append_nil]
set_option maxHeartbeats 4000000 in
set_option maxRecDepth 100000 in
theorem tagFits_any (e : EvP) (u : Value) (window : Int) (w : World) (hk : e.k = 1) (hu : AttrsR w u e.a) (hs : e.n.length + e.t.length + bulkA e.a ≤ 2000000) :
    Calls Tryz.prog 92 #[.agg (evC e u), .int .i64 window] w fun r w' => r = .returned (.bool (decide (((openL e.n e.a).length : Int) ≤ window))) ∧ Below w.heap.size w w' := by
  obtain ⟨up, uc, rfl⟩ := hu.len
  obtain ⟨W1, hW1⟩ : ∃ W1, (w.alloc (.cells (evC e (.slice up e.a.length uc)) 60)).alloc (.cells (evC e (.slice up e.a.length uc)) 60) = W1 := ⟨_, rfl⟩
  have hB : Below w.heap.size w W1 := by rw [← hW1]; exact ((Below.refl w.heap.size w).alloc (Nat.le_refl _) _).alloc (by simp) _
  have b1 : W1.heap[w.heap.size + 1]? = some (.cells (evC e (.slice up e.a.length uc)) 60 (0, 0)) := by
    rw [← hW1]
    have := heap_alloc_new (w.alloc (.cells (evC e (.slice up e.a.length uc)) 60)) (.cells (evC e (.slice up e.a.length uc)) 60)
    simpa using this
  have hev := evs_single' (e := e) b1 (hu.below hB)
  have hwr := refWrite_any (.slice (some ⟨w.heap.size + 1, 0, none⟩) 1 1) [e] W1 hev (by rw [bulkE_cons]; show _ + bulkE [] ≤ _; rw [show bulkE [] = 0 from rfl]; omega)
  rw [writeR_start e hk] at hwr
  obtain ⟨S, hS⟩ : ∃ S, bs (openL e.n e.a) = S := ⟨_, rfl⟩
  have hSz : S.size = (openL e.n e.a).length := by rw [← hS, bs_size]
  rw [hS] at hwr
  rw [← hSz]
  have hSb : S.size ≤ 20000000 := by
    rw [hSz]
    have := attrs_len e.a
    unfold openL
    simp only [List.length_append, List.length_cons, List.length_nil]
    omega
  have HWR := hid hwr
  have HB := hid hB
  unfold evC at hW1 ⊢
  clear hS hSz hwr hev b1 hB hu hs hk
  go_enter Tryz.func92, Tryz.ntmps92
  go_wp2_with fail
  refine HWR.out.mono ?_
  rintro r W2 ⟨rfl, b2⟩
  have HB2 := hid (HB.out.trans (b2.mono HB.out.size))
  clear b2
  go_wp2_with fail
  go_ret
  exact ⟨rfl, HB2.out⟩
end Go.Proofs.YtcncbhbdpcpkeaaGreatDoor
