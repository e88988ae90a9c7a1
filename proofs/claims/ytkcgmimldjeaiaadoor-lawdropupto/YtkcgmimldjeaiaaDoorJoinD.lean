/-
  Parts of the walk, joined: OrdX.
-/
import Derived.Test.YtkcgmimldjeaiaaDoorJoinB
import Derived.Laws.Rows
import Derived.Deep.Cut
import Derived.Deep.CutRange
import Derived.Deep.RegionWith
import Derived.Deep.AppendLies
/-
  The statements' ordered: its walk.
-/
namespace Go.Proofs.YtkcgmimldjeaiaaDoor
open Go.RowKit Go.Lib Own

theorem withinG_below (n lo hi : Int) (h0 : -9223372036854775808 ≤ n) (h1 : n ≤ 9223372036854775807) (b0 : 0 ≤ lo) (b1 : lo ≤ hi) (b2 : hi ≤ 1000000000000) (w : World) :
    Calls Tryd.prog 33 #[.int .i64 n, .int .i64 lo, .int .i64 hi] w fun e w' => e = .returned (.int .i64 (withinP n lo hi)) ∧ Below w.heap.size w w' :=
  (withinG_any n lo hi h0 h1 b0 b1 b2 w).mono (fun e w' h => ⟨h.1, by rw [h.2]; exact Below.refl _ _⟩)
theorem utf_ul : (⟨#[117, 108]⟩ : ByteArray).toList = [117, 108] := by rw [Lib.toList_data]
theorem utf_ol : (⟨#[111, 108]⟩ : ByteArray).toList = [111, 108] := by rw [Lib.toList_data]
theorem utf_table : (⟨#[116, 97, 98, 108, 101]⟩ : ByteArray).toList = [116, 97, 98, 108, 101] := by rw [Lib.toList_data]

set_option maxHeartbeats 16000000 in
set_option maxRecDepth 100000 in
theorem ordered_any (vr vs vd : Value) (P : PolP) (w : World) (h : PolR w vr vs vd P) (hF : P.Few) (hs : attrsM P.rules ≤ 100000000) (hT : OrdTabs w) :
    Calls Tryd.prog 12 #[.agg (polC vr vs vd P)] w fun e w' => ∃ v1 v2 v3, e = .returned (.agg (polC v1 v2 v3 (orderedP P))) ∧ PolR w' v1 v2 v3 (orderedP P) ∧ Below w.heap.size w w' := by
  obtain ⟨rp, rc, hvr, _⟩ := id h.rules
  obtain ⟨sp, sc, hvs, _⟩ := id h.schemes
  obtain ⟨dp, dc, hvd, _⟩ := id h.drop
  subst hvr hvs hvd
  have HP := hid h
  have HT := hid hT
  have hb0 := OrdA.start w (polC (.slice rp P.rules.length rc) (.slice sp P.schemes.length sc) (.slice dp P.drop.length dc) P)
  have hw1 := fun W => withinG_below P.depth 1 256 hF.d0 hF.d1 (by decide) (by decide) (by decide) W
  have hw2 := fun W => withinG_below P.window 32 4096 hF.w0 hF.w1 (by decide) (by decide) (by decide) W
  have HW1 := hid hw1
  have HW2 := hid hw2
  have hwt := fun x W (hW : Below w.heap.size w W) => wanted_any (.slice rp P.rules.length rc) (.slice sp P.schemes.length sc) (.slice dp P.drop.length dc) P x W (h.rules.below hW) hs
  have HWT := hid hwt
  clear hw1 hw2 hwt hT h hF hs
  unfold polC at hb0 HWT ⊢
  go_enter Tryd.func12, Tryd.ntmps12
  go_upto_region 1 with fail
  obtain ⟨W0, hW0⟩ : ∃ W0, ((w.alloc (.cells #[.slice rp P.rules.length rc, .slice sp P.schemes.length sc, .slice dp P.drop.length dc, .int .i64 P.depth, .int .i64 P.window] 35)).alloc (.cells #[.slice none 0 0, .slice none 0 0, .slice none 0 0, .int .i64 0, .int .i64 0] 35)) = W0 := ⟨_, rfl⟩
  rw [hW0] at hb0
  simp only [hW0]
  obtain ⟨DE, hDE⟩ : ∃ DE, withinP P.depth 1 256 = DE := ⟨_, rfl⟩
  obtain ⟨WI, hWI⟩ : ∃ WI, withinP P.window 32 4096 = WI := ⟨_, rfl⟩
  rw [hDE] at HW1
  rw [hWI] at HW2
  go_cut [3] from 22 (fun qv wc => ∃ q, qv = .pointer (some ⟨q, 0, none⟩) ∧ Hid (OrdB w wc #[.slice rp P.rules.length rc, .slice sp P.schemes.length sc, .slice dp P.drop.length dc, .int .i64 P.depth, .int .i64 P.window] #[.slice none 0 0, .slice none 0 0, .slice none 0 0, .int .i64 DE, .int .i64 WI] q))
  case first =>
    obtain ⟨c0, c1, c2, c3, c4⟩ := polC_at (P := P) hb0.b0
    have hlt0 := block_lt hb0.b0
    have HB := hid hb0
    clear hW0 hb0
    go_region_with (first
      | (go_at_call_of 33 (Value.int IntKind.i64 P.depth); refine (HW1.out _).mono ?_; rintro e W8 ⟨rfl, b8⟩; have hB8 := OrdA.below (by first | exact HB.out.drew | exact HB.out.drew.alloc _) b8; obtain ⟨c0, c1, c2, c3, c4⟩ := polC_at (P := P) hB8.b0; have hlt8 := block_lt hB8.b0; have HB8 := hid hB8; clear hB8; try (have HZ8 : Hid (W8.heap[W0.heap.size]? = some (.cells #[.slice none 0 0, .slice none 0 0, .slice none 0 0, .int .i64 0, .int .i64 0] 35 (0, 0)) ∧ w.heap.size + 2 ≤ W0.heap.size) := ⟨(b8.block _ (alloc_lt W0.drew _)).trans (heap_alloc_new W0.drew (.cells #[.slice none 0 0, .slice none 0 0, .slice none 0 0, .int .i64 0, .int .i64 0] 35)), by have := block_lt HB.out.b1; omega⟩; obtain ⟨z0, z1, z2, z3, z4, y0, y1, y2, y3, y4⟩ := po_cells HZ8.out.1))
      | (go_at_call_of 33 (Value.int IntKind.i64 P.window); refine (HW2.out _).mono ?_; rintro e W9 ⟨rfl, b9⟩; first | (have HZ9 : Hid (W9.heap[W0.heap.size]? = some (.cells #[.slice none 0 0, .slice none 0 0, .slice none 0 0, .int .i64 0, .int .i64 0] 35 (0, 0)) ∧ w.heap.size + 2 ≤ W0.heap.size) := hid ⟨(b9.block _ (block_lt HZ8.out.1)).trans HZ8.out.1, HZ8.out.2⟩; obtain ⟨z0, z1, z2, z3, z4, y0, y1, y2, y3, y4⟩ := po_cells HZ9.out.1) | (have HZ9 : Hid (W9.heap[W8.heap.size]? = some (.cells #[.slice none 0 0, .slice none 0 0, .slice none 0 0, .int .i64 0, .int .i64 0] 35 (0, 0)) ∧ w.heap.size + 2 ≤ W8.heap.size) := ⟨(b9.block _ (alloc_lt W8 _)).trans (heap_alloc_new W8 (.cells #[.slice none 0 0, .slice none 0 0, .slice none 0 0, .int .i64 0, .int .i64 0] 35)), by have := block_lt HB8.out.b1; omega⟩; obtain ⟨z0, z1, z2, z3, z4, y0, y1, y2, y3, y4⟩ := po_cells HZ9.out.1) | skip))
    all_goals
      have hB9 := OrdA.below (by first | exact HB8.out | exact HB8.out.alloc _) b9
      have HB9 := hid hB9
      clear hB9 b8 b9
      go_wp2_with fail
      go_meet
      refine ⟨_, rfl, hid ?_⟩
      first
        | with_reducible exact OrdB.new HB9.out
        | with_reducible exact OrdB.set HB9.out HZ9.out.1 HZ9.out.2
  case rest =>
    obtain ⟨q, rfl, HB⟩ := hcut
    clear hb0 hW0 HW1 HW2
    have hw1 := HWT.out ⟨#[117, 108]⟩
    have hw2 := HWT.out ⟨#[111, 108]⟩
    have hw3 := HWT.out ⟨#[116, 97, 98, 108, 101]⟩
    rw [utf_ul] at hw1
    rw [utf_ol] at hw2
    rw [utf_table] at hw3
    obtain ⟨UL, hUL⟩ : ∃ UL, (wantedL P.rules [117, 108]).2 = UL := ⟨_, rfl⟩
    obtain ⟨OL, hOL⟩ : ∃ OL, (wantedL P.rules [111, 108]).2 = OL := ⟨_, rfl⟩
    obtain ⟨TB, hTB⟩ : ∃ TB, (wantedL P.rules [116, 97, 98, 108, 101]).2 = TB := ⟨_, rfl⟩
    rw [hUL] at hw1
    rw [hOL] at hw2
    rw [hTB] at hw3
    have HPL := hid (And.intro hUL (And.intro hOL hTB))
    have H1 := hid hw1
    have H2 := hid hw2
    have H3 := hid hw3
    clear hw1 hw2 hw3 hUL hOL hTB
    obtain ⟨c0, c1, c2, c3, c4⟩ := polC_at (P := P) HB.out.b0
    go_wp2_with fail
    refine (H1.out _ HB.out.be).mono ?_
    rintro e w1 ⟨v1, rfl, -, b1⟩
    have HB1 := hid (HB.out.below b1)
    clear b1 c0 c1 c2 c3 c4 HB
    obtain ⟨c0, c1, c2, c3, c4⟩ := polC_at (P := P) HB1.out.b0
    go_wp2_with fail
    refine (H2.out _ HB1.out.be).mono ?_
    rintro e w2 ⟨v2, rfl, -, b2⟩
    have HB2 := hid (HB1.out.below b2)
    clear b2 c0 c1 c2 c3 c4 HB1
    obtain ⟨c0, c1, c2, c3, c4⟩ := polC_at (P := P) HB2.out.b0
    go_wp2_with fail
    refine (H3.out _ HB2.out.be).mono ?_
    rintro e w3 ⟨v3, rfl, -, b3⟩
    have HB3 := hid (HB2.out.below b3)
    clear b3 c0 c1 c2 c3 c4 HB2 H1 H2 H3
    -- the tables
    have hT3 := HT.out.below HB3.out.be
    have HT3 := hid hT3
    have hix := fun k s h W => index_ordE k s h W
    have hat := hT3.e
    obtain ⟨L, hLt⟩ : ∃ L, (ordE.map fun s => Value.string (bs s)) = L := ⟨_, rfl⟩
    rw [hLt] at hix hat
    have hlen : L.length = 37 := by rw [← hLt]; rfl
    have HIX := hid hix
    clear hT3 hix hLt
    go_upto_region 5 with fail
    apply wp_region_lit
    refine wpList_load_mid rfl 71 _ rfl 0 0 rfl L (.array 37 9) hat Tryd.underlying71 rfl (by rw [hlen]; kernel_rfl) ?_
    clear hat
    go_wp2_with fail
    go_loopw [45] (fun iv wr => ∃ (k : Nat) (rv : Value) (prs : List (RuleP × Value)), iv = .int .i64 k ∧ k ≤ 37 ∧ Hid (prs.map Prod.fst = (ordE.take k).filterMap (ordR P.rules)) ∧ Hid (Phase q 0 73 2 w3 wr #[rv, .slice none 0 0, .slice none 0 0, .int .i64 DE, .int .i64 WI] rv prs.length (rcells prs)) ∧ Hid (∀ x ∈ prs, wr.ownsRow w3.heap.size 9 1 x.2 x.1.2.length (wordsV x.1.2))) (fun iv _ => 37 - (RowKit.intOf iv).toNat)
    case atStart => exact ⟨0, _, [], rfl, Nat.zero_le _, hid rfl, hid ⟨ButBox.refl _ _, HB3.out.bx, World.ownsRow_nil _ _ _ _⟩, hid (fun x h => by cases h)⟩
    case round =>
      obtain ⟨k, rv, prs, rfl, hk, HPF, HX, HU⟩ := hrel
      by_cases hkl : k < 37
      · obtain ⟨s, hs⟩ : ∃ s, ordE[k]? = some s := ⟨_, List.getElem?_eq_getElem (show k < ordE.length from hkl)⟩
        have hix := fun W => HIX.out k s hs W
        have hbt := bs_toList s
        obtain ⟨S, hS⟩ : ∃ S, bs s = S := ⟨_, rfl⟩
        rw [hS] at hbt hix
        have HI := hid hix
        clear hix
        go_wp2_with fail
        rw [HI.out]
        simp only [Result.andThen]
        rw [Oper.upon_value]
        have HBk := hid (HB3.out.but HX.out.but HX.out.bx)
        obtain ⟨c0, c1, c2, c3, c4⟩ := polC_at (P := P) HBk.out.b0
        have hw := HWT.out S wr HBk.out.be
        rw [hbt] at hw
        have HW := hid hw
        clear hw
        go_wp2_with fail
        refine HW.out.mono ?_
        rintro e w4 ⟨av, rfl, har, b4⟩
        obtain ⟨FD, hFD⟩ : ∃ FD, (wantedL P.rules s).2 = FD := ⟨_, rfl⟩
        rw [hFD]
        have HFD := hid hFD
        have HSS := hid hS
        have HA := hid har
        have HX4 := hid (HX.out.below b4)
        have HB4 := hid (HBk.out.below b4)
        have HU4 := hid (fun x hx => row_below (HU.out x hx) b4)
        clear har b4 HX HBk HU c0 c1 c2 c3 c4 HW
        go_upto_region 9 with fail
        obtain ⟨B1, hB1⟩ : ∃ b, (S.toList == [108, 105]) = b := ⟨_, rfl⟩
        obtain ⟨B2, hB2⟩ : ∃ b, (S.toList == [116, 98, 111, 100, 121]) = b := ⟨_, rfl⟩
        obtain ⟨B3, hB3⟩ : ∃ b, (S.toList == [116, 114]) = b := ⟨_, rfl⟩
        obtain ⟨B4, hB4⟩ : ∃ b, (S.toList == [116, 100]) = b := ⟨_, rfl⟩
        have hpb : partL P.rules s = ((UL || OL) && B1 || (TB && (B2 || (B3 || B4)))) := by
          unfold partL
          rw [HPL.out.1, HPL.out.2.1, HPL.out.2.2, ← hbt, hB1, hB2, hB3, hB4]
        have HPB := hid hpb
        have HBT := hid hbt
        clear hpb hbt hS hFD
        go_cut [14, 45] from 45 to 103 (fun pv iv wx => pv = .bool (partL P.rules s) ∧ iv = .int .i64 (k : Int) ∧ wx = w4)
        case first =>
          cases UL with
          | true =>
            cases B1 with
            | true => (go_wp2_with fail; go_meet; exact ⟨by rw [HPB.out]; rfl, rfl, rfl⟩)
            | false =>
              cases TB with
              | false => (go_wp2_with fail; go_meet; exact ⟨by rw [HPB.out]; rfl, rfl, rfl⟩)
              | true =>
                cases B2 with
                | true => (go_wp2_with fail; go_meet; exact ⟨by rw [HPB.out]; rfl, rfl, rfl⟩)
                | false =>
                  cases B3 with
                  | true => (go_wp2_with fail; go_meet; exact ⟨by rw [HPB.out]; rfl, rfl, rfl⟩)
                  | false =>
                    cases B4 with
                    | true => (go_wp2_with fail; go_meet; exact ⟨by rw [HPB.out]; rfl, rfl, rfl⟩)
                    | false => (go_wp2_with fail; go_meet; exact ⟨by rw [HPB.out]; rfl, rfl, rfl⟩)
          | false =>
            cases OL with
            | true =>
              cases B1 with
              | true => (go_wp2_with fail; go_meet; exact ⟨by rw [HPB.out]; rfl, rfl, rfl⟩)
              | false =>
                cases TB with
                | false => (go_wp2_with fail; go_meet; exact ⟨by rw [HPB.out]; rfl, rfl, rfl⟩)
                | true =>
                  cases B2 with
                  | true => (go_wp2_with fail; go_meet; exact ⟨by rw [HPB.out]; rfl, rfl, rfl⟩)
                  | false =>
                    cases B3 with
                    | true => (go_wp2_with fail; go_meet; exact ⟨by rw [HPB.out]; rfl, rfl, rfl⟩)
                    | false =>
                      cases B4 with
                      | true => (go_wp2_with fail; go_meet; exact ⟨by rw [HPB.out]; rfl, rfl, rfl⟩)
                      | false => (go_wp2_with fail; go_meet; exact ⟨by rw [HPB.out]; rfl, rfl, rfl⟩)
            | false =>
              cases TB with
              | false => (go_wp2_with fail; go_meet; exact ⟨by rw [HPB.out]; rfl, rfl, rfl⟩)
              | true =>
                cases B2 with
                | true => (go_wp2_with fail; go_meet; exact ⟨by rw [HPB.out]; rfl, rfl, rfl⟩)
                | false =>
                  cases B3 with
                  | true => (go_wp2_with fail; go_meet; exact ⟨by rw [HPB.out]; rfl, rfl, rfl⟩)
                  | false =>
                    cases B4 with
                    | true => (go_wp2_with fail; go_meet; exact ⟨by rw [HPB.out]; rfl, rfl, rfl⟩)
                    | false => (go_wp2_with fail; go_meet; exact ⟨by rw [HPB.out]; rfl, rfl, rfl⟩)
        case rest =>
          obtain ⟨rfl, rfl, rfl⟩ := hcut
          clear HPB hB1 hB2 hB3 hB4
          obtain ⟨PT, hPT⟩ : ∃ b, partL P.rules s = b := ⟨_, rfl⟩
          rw [hPT]
          go_upto_region 10 with fail
          go_cut [45, 80] from 45 to 103 (fun iv bv wx => iv = .int .i64 (k : Int) ∧ bv = .bool (FD || PT) ∧ wx = wc)
          case first =>
            cases FD with
            | true => (go_wp2_with fail; go_meet; exact ⟨rfl, rfl, rfl⟩)
            | false => (go_wp2_with fail; go_meet; exact ⟨rfl, by rw [Bool.false_or], rfl⟩)
          case rest =>
            obtain ⟨rfl, rfl, rfl⟩ := hcut
            obtain ⟨KB, hKB⟩ : ∃ b, (FD || PT) = b := ⟨_, rfl⟩
            rw [hKB]
            have hko : ordR P.rules s = if KB = true then some (s, ordA.filter fun a => (wantedL P.rules s).1.contains a) else none := by
              unfold ordR
              rw [HFD.out, hPT, hKB]
            have hnext := ordR_next (rs := P.rules) hs
            rw [hko, ← HPF.out] at hnext
            obtain ⟨AT, hAT⟩ : ∃ l, (wantedL P.rules s).1 = l := ⟨_, rfl⟩
            have haw : Words wc av (wantedL P.rules s).1 := Words.row HA.out
            rw [hAT] at haw hnext
            have HAW := hid haw
            have HNX := hid hnext
            have hpl : prs.length ≤ 37 := by
              have h1 : (prs.map Prod.fst).length ≤ (ordE.take k).length := by rw [HPF.out]; exact List.length_filterMap_le _ _
              rw [List.length_map, List.length_take] at h1
              omega
            have HSB := hid (And.intro HSS.out HBT.out)
            clear hKB hko hnext hAT haw HA HSS HBT HFD hPT HPF hs HI HPL
            cases KB with
            | false =>
              go_wp2_with fail
              go_roundw
              case rel => exact ⟨k + 1, rv, prs, rfl, by omega, hid (by rw [HNX.out]; exact (List.append_nil _).symm), HX4, HU4⟩
              case measure => simp [RowKit.intOf]; omega
            | true =>
              obtain ⟨rp1, rc1, rfl⟩ := row_shape HX4.out.row
              obtain ⟨ap1, ac1, rfl, _⟩ := HAW.out.len
              -- the rule's box
              go_upto_region 12 with fail
              obtain ⟨W5, hW5⟩ : ∃ W5, wc.alloc (.cells #[.string S, .slice none 0 0] 73) = W5 := ⟨_, rfl⟩
              have hra : RuleAt wc.heap.size wc W5 s (.slice none 0 0) [] := by
                rw [← hW5, ← HSB.out.1]
                exact ⟨(Below.refl _ _).alloc (Nat.le_refl _) _, Nat.le_refl _, heap_alloc_new _ _, World.ownsRow_nil _ _ _ _⟩
              have HRA := hid hra
              simp only [hW5]
              clear hW5
              have hat2 := (HT.out.below (HB4.out.below hra.be).be).a
              have hix2 := fun k s h W => index_ordA k s h W
              obtain ⟨L2, hLt2⟩ : ∃ L, (ordA.map fun s => Value.string (bs s)) = L := ⟨_, rfl⟩
              rw [hLt2] at hix2 hat2
              have hlen2 : L2.length = 15 := by rw [← hLt2]; rfl
              have HIX2 := hid hix2
              clear hra hix2 hLt2
              apply wp_region_lit
              refine wpList_load_mid rfl 74 _ rfl 1 0 rfl L2 (.array 15 9) hat2 Tryd.underlying74 rfl (by rw [hlen2]; kernel_rfl) ?_
              clear hat2
              obtain ⟨BR, hBR⟩ : ∃ n, wc.heap.size = n := ⟨_, rfl⟩
              rw [hBR] at HRA
              simp only [hBR]
              go_wp2_with fail
              go_loopw [84] (fun jv wr => ∃ (m : Nat) (v : Value) (acc : List (List UInt8)), jv = .int .i64 m ∧ m ≤ 15 ∧ Hid ((ordA.take m).filter (fun a => AT.contains a) = acc) ∧ Hid (RuleAt BR wc wr s v acc)) (fun jv _ => 15 - (RowKit.intOf jv).toNat)
              case atStart => exact ⟨0, _, [], rfl, Nat.zero_le _, hid rfl, HRA⟩
              case round =>
                clear HRA
                obtain ⟨m, v, acc, rfl, hm, HAC, HRA⟩ := hrel
                obtain ⟨vp, vc, rfl⟩ := row_shape HRA.out.row
                by_cases hml : m < 15
                · obtain ⟨a, ha⟩ : ∃ a, ordA[m]? = some a := ⟨_, List.getElem?_eq_getElem (show m < ordA.length from hml)⟩
                  have hix := fun W => HIX2.out m a ha W
                  have hbt := bs_toList a
                  have hlt : acc.length ≤ 15 := by
                    have h1 := List.length_filter_le (fun a => AT.contains a) (ordA.take m)
                    rw [HAC.out, List.length_take] at h1
                    omega
                  have hacn := filter_take_next (p := fun a => AT.contains a) ha
                  rw [HAC.out] at hacn
                  obtain ⟨A, hA⟩ : ∃ A, bs a = A := ⟨_, rfl⟩
                  rw [hA] at hbt hix
                  have hls := listed_any (.slice ap1 AT.length ac1) AT A wr (HAW.out.below HRA.out.be)
                  rw [hbt] at hls
                  obtain ⟨R, hR⟩ : ∃ R, AT.contains a = R := ⟨_, rfl⟩
                  rw [hR] at hls
                  simp only [hR] at hacn
                  have HI := hid hix
                  have HL := hid hls
                  have HN := hid hacn
                  have HAA := hid hA
                  clear hix hls ha hbt hR hacn hA HAC
                  go_wp2_with fail
                  rw [HI.out]
                  simp only [Result.andThen]
                  rw [Oper.upon_value]
                  go_wp2_with fail
                  refine HL.out.mono ?_
                  rintro e w6 ⟨rfl, rfl⟩
                  cases R with
                  | false =>
                    go_wp2_with fail
                    go_roundw
                    case rel => exact ⟨m + 1, _, acc, rfl, by omega, hid (by rw [HN.out]; exact List.append_nil _), HRA⟩
                    case measure => simp [RowKit.intOf]; omega
                  | true =>
                    have hr := HRA.out
                    have hrs := hr.be.size
                    have z1 := cell_at hr.bx (j := 1) rfl
                    have hown := hr.row
                    obtain ⟨i0, hi, hz0, hz1, hz2⟩ := info_parts info_str
                    clear hr
                    go_wp2_with (at_builtin; refine wpList_append_own _ rfl (.tmp 91) (.tmp 93) 23 rfl wc.heap.size 9 i0 (.string ⟨#[]⟩) 1 16 Tryd.underlying23 hi hz0 hz1 hz2 rfl (by decide) _ _ _ rfl (hown.alloc _) ⟨_, 0, none⟩ 1 1 [.string A] rfl rfl (cells_newV _ _ _) (by simp [Value.oneCell']) (by unfold maxLen; omega) (by omega) (by simp; omega) ?_)
                    intro v' W2 hown2 hgrow2 _
                    obtain ⟨vp', vc', rfl⟩ := row_shape hown2
                    have hbx2 := HRA.out.grown hgrow2
                    rw [← HAA.out] at hown2
                    have hmo := HRA.out.more (s := a) (v' := .slice vp' (acc.length + 1) vc') hgrow2 (by rw [List.length_append, wordsV_app, hBR]; exact hown2)
                    replace z1 := cell_at hbx2 (j := 1) rfl
                    have y1 := free_at hbx2 1
                    have HMO := hid hmo
                    clear hown2 hgrow2 hbx2 hmo hown HRA
                    go_wp2_with fail
                    go_roundw
                    case rel => exact ⟨m + 1, _, acc ++ [a], rfl, by omega, hid (by rw [HN.out]; rfl), HMO⟩
                    case measure => simp [RowKit.intOf]; omega
                · obtain rfl : m = 15 := by omega
                  have hac := HAC.out
                  rw [show (15 : Nat) = ordA.length from rfl, List.take_length] at hac
                  rw [hac] at HNX
                  have hr := HRA.out
                  have hX5 := HX4.out.below hr.be
                  have hU5 := fun x hx => row_below (HU4.out x hx) hr.be
                  have hB5 := HB4.out.below hr.be
                  have hlo5 : w3.heap.size ≤ wc.heap.size := HX4.out.but.size
                  have hsz5 := hX5.but.size
                  have r0 := cell_at hr.bx (j := 0) rfl
                  have r1 := cell_at hr.bx (j := 1) rfl
                  have z0 := cell_at hX5.bx (j := 0) rfl
                  have hown := hX5.row
                  rw [HSB.out.1] at r0
                  obtain ⟨j0, hj, hj0, hj1, hj2⟩ := info_parts info_rule
                  have HX5 := hid hX5
                  have HU5 := hid hU5
                  have hrl := row_low hr.row hlo5
                  have HRL := hid hrl
                  have hlb := cell_block z0
                  have hlr := cell_block r0
                  clear hr hX5 hU5 hB5 HAC hac hrl HRA HX4 HU4
                  go_wp2_with (at_builtin; refine wpList_append_own _ rfl (.tmp 98) (.tmp 100) 33 rfl w3.heap.size 73 j0 (.agg #[.string ⟨#[]⟩, .slice none 0 0]) 2 40 Tryd.underlying33 hj hj0 hj1 hj2 rfl (by decide) _ _ _ rfl (hown.alloc _) ⟨_, 0, none⟩ 1 1 [.string S, .slice vp acc.length vc] rfl rfl (cells_newV _ _ _) (by simp [Value.oneCell']) (by unfold maxLen; omega) (by omega) (by simp; omega) ?_)
                  intro v' W2 hown2 hgrow2 _
                  obtain ⟨vp', vc', rfl⟩ := row_shape hown2
                  have hbq2 := HX5.out.grown (by decide) hgrow2
                  have hmo := HX5.out.more (i := 0) (v' := .slice vp' (prs.length + 1) vc') (n' := (prs ++ [((s, acc), Value.slice vp acc.length vc)]).length) (xs' := rcells (prs ++ [((s, acc), Value.slice vp acc.length vc)])) (cs' := #[.slice vp' (prs.length + 1) vc', .slice none 0 0, .slice none 0 0, .int .i64 DE, .int .i64 WI]) (by decide) hgrow2 (by rw [rcells_app, List.length_append]; rw [← HSB.out.1] at hown2; exact hown2) (by simp)
                  have hku : ∀ y ∈ prs ++ [((s, acc), Value.slice vp acc.length vc)], (W2.setCell ⟨q, 0, none⟩ (.slice vp' (prs.length + 1) vc')).ownsRow w3.heap.size 9 1 y.2 y.1.2.length (wordsV y.1.2) := fun y hy => by
                    rcases List.mem_append.1 hy with h1 | h1
                    · exact HX5.out.keeps (i := 0) (by decide) hgrow2 (HU5.out y h1) (by decide) (by decide)
                    · rw [List.mem_singleton.1 h1]
                      exact HX5.out.keeps (i := 0) (by decide) hgrow2 HRL.out (by decide) (by decide)
                  replace z0 := cell_at hbq2 (j := 0) rfl
                  have y0 := free_at hbq2 0
                  have HMO := hid hmo
                  have HKU := hid hku
                  clear hown2 hgrow2 hbq2 hmo hown HX5 HU5 HRL hku r0 r1
                  go_wp2_with fail
                  go_roundw
                  case rel => exact ⟨k + 1, _, prs ++ [((s, acc), Value.slice vp acc.length vc)], rfl, by omega, hid (by rw [HNX.out, List.map_append]; rfl), HMO, HKU⟩
                  case measure => simp [RowKit.intOf]; omega
      · obtain rfl : k = 37 := by omega
        have hpf := HPF.out
        rw [show (37 : Nat) = ordE.length from rfl, List.take_length] at hpf
        have HB5 := hid (HB3.out.but HX.out.but HX.out.bx)
        have HR5 := hid (And.intro HX.out.row (And.intro HU.out hpf))
        clear HPF hpf HX HU HIX
        obtain ⟨w5, h5⟩ : ∃ w5, w5 = wr := ⟨_, rfl⟩
        subst h5
        have hat1 := (HT.out.below HB5.out.be).s
        have hix1 := fun k s h W => index_ordS k s h W
        obtain ⟨L3, hLt1⟩ : ∃ L, (ordS.map fun s => Value.string (bs s)) = L := ⟨_, rfl⟩
        rw [hLt1] at hix1 hat1
        have hlen1 : L3.length = 6 := by rw [← hLt1]; rfl
        have HIX1 := hid hix1
        clear hix1 hLt1
        go_upto_region 20 with fail
        apply wp_region_lit
        refine wpList_load_mid rfl 76 _ rfl 2 0 rfl L3 (.array 6 9) hat1 Tryd.underlying76 rfl (by rw [hlen1]; kernel_rfl) ?_
        clear hat1
        go_wp2_with fail
        go_loopw [105] (fun jv wr => ∃ (m : Nat) (v : Value) (acc : List (List UInt8)), jv = .int .i64 m ∧ m ≤ 6 ∧ Hid ((ordS.take m).filter P.schemes.contains = acc) ∧ Hid (Phase q 1 9 1 w5 wr #[rv, v, .slice none 0 0, .int .i64 DE, .int .i64 WI] v acc.length (wordsV acc))) (fun jv _ => 6 - (RowKit.intOf jv).toNat)
        case atStart => exact ⟨0, _, [], rfl, Nat.zero_le _, hid rfl, hid ⟨ButBox.refl _ _, HB5.out.bx, World.ownsRow_nil _ _ _ _⟩⟩
        case round =>
          obtain ⟨m, v, acc, rfl, hm, HAC, HX⟩ := hrel
          obtain ⟨vp, vc, rfl⟩ := row_shape HX.out.row
          by_cases hml : m < 6
          · obtain ⟨a, ha⟩ : ∃ a, ordS[m]? = some a := ⟨_, List.getElem?_eq_getElem (show m < ordS.length from hml)⟩
            have hix := fun W => HIX1.out m a ha W
            have hbt := bs_toList a
            have hlt : acc.length ≤ 6 := by
              have h1 := List.length_filter_le P.schemes.contains (ordS.take m)
              rw [HAC.out, List.length_take] at h1
              omega
            have hacn := filter_take_next (p := P.schemes.contains) ha
            rw [HAC.out] at hacn
            obtain ⟨A, hA⟩ : ∃ A, bs a = A := ⟨_, rfl⟩
            rw [hA] at hbt hix
            have HBk := hid (HB5.out.but HX.out.but HX.out.bx)
            obtain ⟨c0, c1, c2, c3, c4⟩ := polC_at (P := P) HBk.out.b0
            have hls := listed_any (.slice sp P.schemes.length sc) P.schemes A wr (HP.out.schemes.below HBk.out.be)
            rw [hbt] at hls
            obtain ⟨R, hR⟩ : ∃ R, P.schemes.contains a = R := ⟨_, rfl⟩
            rw [hR] at hls
            simp only [hR] at hacn
            have HI := hid hix
            have HL := hid hls
            have HN := hid hacn
            have HAA := hid hA
            clear hix hls ha hbt hR hacn hA HAC
            go_wp2_with fail
            rw [HI.out]
            simp only [Result.andThen]
            rw [Oper.upon_value]
            go_wp2_with fail
            refine HL.out.mono ?_
            rintro e w9 ⟨rfl, rfl⟩
            cases R with
            | false =>
              go_wp2_with fail
              go_roundw
              case rel => exact ⟨m + 1, _, acc, rfl, by omega, hid (by rw [HN.out]; exact List.append_nil _), HX⟩
              case measure => simp [RowKit.intOf]; omega
            | true =>
              have hXs := HX.out.but.size
              have z1 := cell_at HX.out.bx (j := 1) rfl
              have hown := HX.out.row
              obtain ⟨i0, hi, hz0, hz1, hz2⟩ := info_parts info_str
              clear c0 c1 c2 c3 c4
              go_wp2_with (at_builtin; refine wpList_append_own _ rfl (.tmp 113) (.tmp 115) 23 rfl w5.heap.size 9 i0 (.string ⟨#[]⟩) 1 16 Tryd.underlying23 hi hz0 hz1 hz2 rfl (by decide) _ _ _ rfl (hown.alloc _) ⟨_, 0, none⟩ 1 1 [.string A] rfl rfl (cells_newV _ _ _) (by simp [Value.oneCell']) (by unfold maxLen; omega) (by omega) (by simp; omega) ?_)
              intro v' W2 hown2 hgrow2 _
              obtain ⟨vp', vc', rfl⟩ := row_shape hown2
              have hbq2 := HX.out.grown (by decide) hgrow2
              rw [← HAA.out] at hown2
              have hmo := HX.out.more (i := 1) (v' := .slice vp' (acc.length + 1) vc') (n' := (acc ++ [a]).length) (xs' := wordsV (acc ++ [a])) (cs' := #[rv, .slice vp' (acc.length + 1) vc', .slice none 0 0, .int .i64 DE, .int .i64 WI]) (by decide) hgrow2 (by rw [List.length_append, wordsV_app]; exact hown2) (by simp)
              replace z1 := cell_at hbq2 (j := 1) rfl
              have y1 := free_at hbq2 1
              have HMO := hid hmo
              clear hown2 hgrow2 hbq2 hmo hown HX HBk
              go_wp2_with fail
              go_roundw
              case rel => exact ⟨m + 1, _, acc ++ [a], rfl, by omega, hid (by rw [HN.out]; rfl), HMO⟩
              case measure => simp [RowKit.intOf]; omega
          · obtain rfl : m = 6 := by omega
            have hac := HAC.out
            rw [show (6 : Nat) = ordS.length from rfl, List.take_length] at hac
            have HB6 := hid (HB5.out.but HX.out.but HX.out.bx)
            have HR6 := hid (And.intro (HX.out.but.row HB5.out.bx HR5.out.1 (by decide)) (And.intro (fun x hx => HX.out.but.row HB5.out.bx (HR5.out.2.1 x hx) (by decide)) HR5.out.2.2))
            have HS6 := hid (And.intro HX.out.row hac)
            clear HAC hac HX HIX1 HR5
            obtain ⟨w6, h6⟩ : ∃ w6, w6 = wr := ⟨_, rfl⟩
            subst h6
            obtain ⟨svp, hsvp⟩ : ∃ p, p = vp := ⟨_, rfl⟩
            obtain ⟨svc, hsvc⟩ : ∃ p, p = vc := ⟨_, rfl⟩
            obtain ⟨accS, hacs⟩ : ∃ p, p = acc := ⟨_, rfl⟩
            subst hsvp hsvc hacs
            have hat2 := (HT.out.below HB6.out.be).d
            have hix2 := fun k s h W => index_ordD k s h W
            obtain ⟨L4, hLt2⟩ : ∃ L, (ordD.map fun s => Value.string (bs s)) = L := ⟨_, rfl⟩
            rw [hLt2] at hix2 hat2
            have hlen2 : L4.length = 8 := by rw [← hLt2]; rfl
            have HIX2 := hid hix2
            clear hix2 hLt2
            go_upto_region 26 with fail
            apply wp_region_lit
            refine wpList_load_mid rfl 77 _ rfl 3 0 rfl L4 (.array 8 9) hat2 Tryd.underlying77 rfl (by rw [hlen2]; kernel_rfl) ?_
            clear hat2
            go_wp2_with fail
            go_loopw [120] (fun jv wr => ∃ (m : Nat) (v : Value) (acc : List (List UInt8)), jv = .int .i64 m ∧ m ≤ 8 ∧ Hid ((ordD.take m).filter P.drop.contains = acc) ∧ Hid (Phase q 2 9 1 w6 wr #[rv, .slice svp accS.length svc, v, .int .i64 DE, .int .i64 WI] v acc.length (wordsV acc))) (fun jv _ => 8 - (RowKit.intOf jv).toNat)
            case atStart => exact ⟨0, _, [], rfl, Nat.zero_le _, hid rfl, hid ⟨ButBox.refl _ _, HB6.out.bx, World.ownsRow_nil _ _ _ _⟩⟩
            case round =>
              obtain ⟨m, v, acc, rfl, hm, HAC, HX⟩ := hrel
              obtain ⟨vp, vc, rfl⟩ := row_shape HX.out.row
              by_cases hml : m < 8
              · obtain ⟨a, ha⟩ : ∃ a, ordD[m]? = some a := ⟨_, List.getElem?_eq_getElem (show m < ordD.length from hml)⟩
                have hix := fun W => HIX2.out m a ha W
                have hbt := bs_toList a
                have hlt : acc.length ≤ 8 := by
                  have h1 := List.length_filter_le P.drop.contains (ordD.take m)
                  rw [HAC.out, List.length_take] at h1
                  omega
                have hacn := filter_take_next (p := P.drop.contains) ha
                rw [HAC.out] at hacn
                obtain ⟨A, hA⟩ : ∃ A, bs a = A := ⟨_, rfl⟩
                rw [hA] at hbt hix
                have HBk := hid (HB6.out.but HX.out.but HX.out.bx)
                obtain ⟨c0, c1, c2, c3, c4⟩ := polC_at (P := P) HBk.out.b0
                have hls := listed_any (.slice dp P.drop.length dc) P.drop A wr (HP.out.drop.below HBk.out.be)
                rw [hbt] at hls
                obtain ⟨R, hR⟩ : ∃ R, P.drop.contains a = R := ⟨_, rfl⟩
                rw [hR] at hls
                simp only [hR] at hacn
                have HI := hid hix
                have HL := hid hls
                have HN := hid hacn
                have HAA := hid hA
                clear hix hls ha hbt hR hacn hA HAC
                go_wp2_with fail
                rw [HI.out]
                simp only [Result.andThen]
                rw [Oper.upon_value]
                go_wp2_with fail
                refine HL.out.mono ?_
                rintro e w9 ⟨rfl, rfl⟩
                cases R with
                | false =>
                  go_wp2_with fail
                  go_roundw
                  case rel => exact ⟨m + 1, _, acc, rfl, by omega, hid (by rw [HN.out]; exact List.append_nil _), HX⟩
                  case measure => simp [RowKit.intOf]; omega
                | true =>
                  have hXs := HX.out.but.size
                  have z1 := cell_at HX.out.bx (j := 2) rfl
                  have hown := HX.out.row
                  obtain ⟨i0, hi, hz0, hz1, hz2⟩ := info_parts info_str
                  clear c0 c1 c2 c3 c4
                  go_wp2_with (at_builtin; refine wpList_append_own _ rfl (.tmp 128) (.tmp 130) 23 rfl w6.heap.size 9 i0 (.string ⟨#[]⟩) 1 16 Tryd.underlying23 hi hz0 hz1 hz2 rfl (by decide) _ _ _ rfl (hown.alloc _) ⟨_, 0, none⟩ 1 1 [.string A] rfl rfl (cells_newV _ _ _) (by simp [Value.oneCell']) (by unfold maxLen; omega) (by omega) (by simp; omega) ?_)
                  intro v' W2 hown2 hgrow2 _
                  obtain ⟨vp', vc', rfl⟩ := row_shape hown2
                  have hbq2 := HX.out.grown (by decide) hgrow2
                  rw [← HAA.out] at hown2
                  have hmo := HX.out.more (i := 2) (v' := .slice vp' (acc.length + 1) vc') (n' := (acc ++ [a]).length) (xs' := wordsV (acc ++ [a])) (cs' := #[rv, .slice svp accS.length svc, .slice vp' (acc.length + 1) vc', .int .i64 DE, .int .i64 WI]) (by decide) hgrow2 (by rw [List.length_append, wordsV_app]; exact hown2) (by simp)
                  replace z1 := cell_at hbq2 (j := 2) rfl
                  have y1 := free_at hbq2 2
                  have HMO := hid hmo
                  clear hown2 hgrow2 hbq2 hmo hown HX HBk
                  go_wp2_with fail
                  go_roundw
                  case rel => exact ⟨m + 1, _, acc ++ [a], rfl, by omega, hid (by rw [HN.out]; rfl), HMO⟩
                  case measure => simp [RowKit.intOf]; omega
              · obtain rfl : m = 8 := by omega
                have hac := HAC.out
                rw [show (8 : Nat) = ordD.length from rfl, List.take_length] at hac
                obtain ⟨rvp, rvn, rvc, rfl⟩ : ∃ p n c, rv = .slice p n c := by obtain ⟨p, c, e⟩ := row_shape HR6.out.1; exact ⟨p, _, c, e⟩
                have hB7 := HB6.out.but HX.out.but HX.out.bx
                have hR7 := HX.out.but.row HB6.out.bx HR6.out.1 (by decide)
                have hU7 := fun x hx => HX.out.but.row HB6.out.bx (HR6.out.2.1 x hx) (by decide)
                have hS7 := HX.out.but.row HB6.out.bx HS6.out.1 (by decide)
                have hD7 := HX.out.row
                obtain ⟨z0, z1, z2, z3, z4, -⟩ := po_cells hB7.bx
                obtain ⟨x0, x1, x2, x3, x4, y0, y1, y2, y3, y4⟩ := po_cells hB7.b1
                have hj := five_put (p0 := .slice rvp rvn rvc) (p1 := .slice svp accS.length svc) (p2 := .slice vp acc.length vc) (p3 := .int .i64 DE) (p4 := .int .i64 WI) hB7.b1
                have hfin : ∀ W, Just wr W (w.heap.size + 1) #[.slice rvp rvn rvc, .slice svp accS.length svc, .slice vp acc.length vc, .int .i64 DE, .int .i64 WI] 35 → PolR W (.slice rvp rvn rvc) (.slice svp accS.length svc) (.slice vp acc.length vc) (orderedP P) ∧ Below w.heap.size w W := fun W j => by
                  refine ⟨⟨?_, ?_, ?_⟩, hB7.be.trans (just_low j (by omega))⟩
                  · have h1 := rulesR_row (row_just hR7 hB7.b1 (by decide) j.other) (fun x hx => Words.row (row_just (hU7 x hx) hB7.b1 (by decide) j.other))
                    rw [HR6.out.2.2] at h1
                    exact h1
                  · have h1 := Words.row (row_just hS7 hB7.b1 (by decide) j.other)
                    rw [show (orderedP P).schemes = accS from HS6.out.2]
                    exact h1
                  · have h1 := Words.row (row_just hD7 hB7.b1 (by decide) j.other)
                    rw [show (orderedP P).drop = acc from hac]
                    exact h1
                have HJ := hid hj
                have HFIN := hid hfin
                have hbq := block_lt hB7.bx
                have hlq := hB7.lo
                clear hj hfin hD7 hS7 hU7 hR7 hB7 hac HAC HX HR6 HS6 HB6
                go_wp2_with fail
                obtain ⟨W9, hW9⟩ : ∃ W9, ((((wr.setCell ⟨w.heap.size + 1, 0, none⟩ (.slice rvp rvn rvc)).setCell ⟨w.heap.size + 1, 1, none⟩ (.slice svp accS.length svc)).setCell ⟨w.heap.size + 1, 2, none⟩ (.slice vp acc.length vc)).setCell ⟨w.heap.size + 1, 3, none⟩ (.int .i64 DE)).setCell ⟨w.heap.size + 1, 4, none⟩ (.int .i64 WI) = W9 := ⟨_, rfl⟩
                rw [hW9] at HJ
                simp only [hW9]
                clear hW9
                obtain ⟨f1, f2⟩ := HFIN.out W9 HJ.out
                subst hDE hWI
                refine bodyPost_ret (v := .agg #[.slice rvp rvn rvc, .slice svp accS.length svc, .slice vp acc.length vc, .int .i64 (withinP P.depth 1 256), .int .i64 (withinP P.window 32 4096)]) ?_ rfl ⟨_, _, _, rfl, f1, f2⟩
                exact results_cell_row rfl _ _ _ _ _ _ _ rfl HJ.out.at_ Tryd.underlying35 rfl (by kernel_rfl)
end Go.Proofs.YtkcgmimldjeaiaaDoor
