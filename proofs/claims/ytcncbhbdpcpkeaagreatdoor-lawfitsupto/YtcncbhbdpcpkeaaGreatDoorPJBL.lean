/-
  Parts of the walk, joined: FiltR.
-/
import Derived.Test.YtcncbhbdpcpkeaaGreatDoorPJBK
import Derived.Test.YtcncbhbdpcpkeaaGreatDoorPJBH
import Derived.Test.YtcncbhbdpcpkeaaGreatDoorPJBC
import Derived.Test.YtcncbhbdpcpkeaaGreatDoorPJAZ
import Derived.Test.YtcncbhbdpcpkeaaGreatDoorPJBE
/-
  The reference's ruleOf, keptAttrs, dropEnd, tagFits, Filter: their walks.
-/
namespace Go.Proofs.YtcncbhbdpcpkeaaGreatDoor
open Go.RowKit Go.Lib Own

theorem refLink_any (x : ByteArray) (w : World) : Calls Tryz.prog 158 #[.string x] w fun e w' => e = .returned (.bool (isLinkL x.toList)) ∧ w' = w := by
  unfold isLinkL
  by_cases h1 : (x.toList == [99, 105, 116, 101]) = true
  · rw [h1, Bool.true_or]
    go_enter Tryz.func158, Tryz.ntmps158
    go_wp2
    go_ret
    exact ⟨rfl, rfl⟩
  rw [Bool.not_eq_true] at h1
  rw [h1, Bool.false_or]
  by_cases h2 : (x.toList == [104, 114, 101, 102]) = true
  · rw [h2, Bool.true_or]
    go_enter Tryz.func158, Tryz.ntmps158
    go_wp2
    go_ret
    exact ⟨rfl, rfl⟩
  rw [Bool.not_eq_true] at h2
  rw [h2, Bool.false_or]
  obtain ⟨R, hR⟩ : ∃ R, (x.toList == [115, 114, 99]) = R := ⟨_, rfl⟩
  rw [hR]
  go_enter Tryz.func158, Tryz.ntmps158
  go_wp2
  go_ret
  exact ⟨rfl, rfl⟩

/-- what ruleOf answers -/
def RuleO (W : World) : Option (List (List UInt8)) → Value → Prop
  | none, v => v = .tuple #[.slice none 0 0, .bool false]
  | some l, v => ∃ u, v = .tuple #[u, .bool true] ∧ Words W u l

theorem ruleL_cons (r : RuleP) (rs : List RuleP) (n : List UInt8) : ruleL (r :: rs) n = if r.1 = n then some r.2 else ruleL rs n := rfl
set_option maxHeartbeats 4000000 in
set_option maxRecDepth 100000 in
theorem ruleOf_any (vr vs vd : Value) (P : PolP) (x : ByteArray) (w : World) (h : PolR w vr vs vd P) :
    Calls Tryz.prog 90 #[.agg (polC vr vs vd P), .string x] w fun e w' => ∃ v, e = .returned v ∧ RuleO w (ruleL P.rules x.toList) v ∧ Below w.heap.size w w' := by
  obtain ⟨rp, rc, hvr, _, hrm, hcell⟩ := h.rules
  obtain ⟨s1, s2, s3, hvs⟩ := h.schemes.shape
  obtain ⟨d1, d2, d3, hvd⟩ := h.drop.shape
  subst hvr hvs hvd
  obtain ⟨R, hR⟩ : ∃ R, ruleL P.rules x.toList = R := ⟨_, rfl⟩
  have HR : Hid (True → ruleL (P.rules.drop 0) x.toList = R) := fun _ => hR
  rw [hR]
  have HC := hid hcell
  obtain ⟨W1, hW1⟩ : ∃ W1, w.alloc (.cells (polC (.slice rp P.rules.length rc) (.slice s1 s2 s3) (.slice d1 d2 d3) P) 43) = W1 := ⟨_, rfl⟩
  have hB : Below w.heap.size w W1 := by rw [← hW1]; exact (Below.refl w.heap.size w).alloc (Nat.le_refl _) _
  have b0 : W1.heap[w.heap.size]? = some (.cells (polC (.slice rp P.rules.length rc) (.slice s1 s2 s3) (.slice d1 d2 d3) P) 43 (0, 0)) := by rw [← hW1]; exact heap_alloc_new w _
  obtain ⟨c0, -, -, -, -⟩ := polC_at (P := P) b0
  have HB := hid hB
  unfold polC at hW1 ⊢
  clear hcell hR h b0 hB
  go_enter Tryz.func90, Tryz.ntmps90
  go_upto_region 1 with fail
  clear hW1
  go_wp2_with fail
  go_loopw [6] (fun iv wr => ∃ k : Nat, iv = .int .i64 k ∧ k ≤ P.rules.length ∧ wr = W1 ∧ Hid (True → ruleL (P.rules.drop k) x.toList = R)) (fun iv _ => P.rules.length - (RowKit.intOf iv).toNat)
  case atStart => exact ⟨0, rfl, Nat.zero_le _, rfl, HR⟩
  case round =>
    obtain ⟨k, rfl, hk, rfl, HK⟩ := hrel
    by_cases hkl : k < P.rules.length
    · obtain ⟨r, hr⟩ : ∃ r, P.rules[k]? = some r := ⟨_, List.getElem?_eq_getElem hkl⟩
      obtain ⟨b, o, u, rfl, q1, q2, q3⟩ := HC.out k r hr
      replace q1 := cell_low q1 HB.out (cell_block q1)
      replace q2 := cell_low q2 HB.out (cell_block q2)
      obtain ⟨up, uc, rfl, _⟩ := q3.len
      have hd := HK.out trivial
      rw [drop_at hr, ruleL_cons] at hd
      have HQ := hid q3
      have hbt := bs_toList r.1
      obtain ⟨S, hS⟩ : ∃ S, bs r.1 = S := ⟨_, rfl⟩
      rw [hS] at hbt q1
      by_cases e : r.1 = x.toList
      · have q : (S.toList == x.toList) = true := by rw [hbt]; exact beq_iff_eq.2 e
        rw [if_pos e] at hd
        subst hd
        clear hr hbt hS e HK HC HR q3
        go_wp2_with fail
        go_ret2
        exact ⟨_, rfl, ⟨_, rfl, HQ.out⟩, HB.out⟩
      · have q : (S.toList == x.toList) = false := by rw [hbt]; exact beq_eq_false_iff_ne.2 e
        rw [if_neg e] at hd
        have HD := hid (fun (_ : True) => hd)
        clear hr hbt hS e HK HC HR hd q3 q2
        go_wp2_with fail
        go_roundw
        case rel => exact ⟨k + 1, rfl, by omega, by first | rfl | trivial, HD⟩
        case measure => simp [RowKit.intOf]; omega
    · have hd := HK.out trivial
      rw [List.drop_of_length_le (by omega)] at hd
      obtain rfl : none = R := hd
      clear HK HC HR
      go_wp2_with fail
      go_ret2
      exact ⟨_, rfl, rfl, HB.out⟩

set_option maxHeartbeats 8000000 in
set_option maxRecDepth 100000 in
theorem keptAttrs_any (vr vs vd : Value) (P : PolP) (ru : Value) (listed : List (List UInt8)) (av : Value) (al : List AttrP) (w : World) (h : PolR w vr vs vd P) (hF : P.schemes.length ≤ 2000000) (hr : Words w ru listed) (hll : listed.length ≤ 100000000) (ha : AttrsR w av al) (hl : bulkA al ≤ 4000000) :
    Calls Tryz.prog 91 #[.agg (polC vr vs vd P), ru, av] w fun e w' => ∃ v, e = .returned v ∧ w'.ownsRow w.heap.size 122 2 v (keptA P.schemes listed [] al).length (attrsV (keptA P.schemes listed [] al)) ∧ Below w.heap.size w w' := by
  obtain ⟨ap, ac, rfl, _, _, hcell, _⟩ := ha
  obtain ⟨rp, rc, rfl, _⟩ := hr.len
  obtain ⟨r1, r2, r3, hvr⟩ := h.rules.shape
  obtain ⟨s2, s3, hvs, _⟩ := h.schemes.len
  obtain ⟨d1, d2, d3, hvd⟩ := h.drop.shape
  subst hvr hvs hvd
  obtain ⟨R, hR⟩ : ∃ R, keptA P.schemes listed [] al = R := ⟨_, rfl⟩
  rw [hR]
  obtain ⟨W0, hW0⟩ : ∃ W0, w.alloc (.cells (polC (.slice r1 r2 r3) (.slice s2 P.schemes.length s3) (.slice d1 d2 d3) P) 43) = W0 := ⟨_, rfl⟩
  have hB : Below w.heap.size w W0 := by rw [← hW0]; exact (Below.refl w.heap.size w).alloc (Nat.le_refl _) _
  have b0 : W0.heap[w.heap.size]? = some (.cells (polC (.slice r1 r2 r3) (.slice s2 P.schemes.length s3) (.slice d1 d2 d3) P) 43 (0, 0)) := by rw [← hW0]; exact heap_alloc_new w _
  have H0 := hid (And.intro hB b0)
  have HSC := hid h.schemes
  have HC := hid hcell
  have HW := hid hr
  have HR := hid (fun (_ : True) => (hR : [] ++ keptA P.schemes listed [] (al.drop 0) = R))
  have hall := bulkA_len al
  have hlen : al.length ≤ 4000000 := by omega
  have HL := hid hl
  obtain ⟨si, hsi, hs0, hs1, hs2⟩ := info_parts info_str
  obtain ⟨ai, hai, ha0, ha1, ha2⟩ := info_parts info_attr
  unfold polC at hW0 ⊢
  clear h hcell hr hR hB b0 hall hl
  go_enter Tryz.func91, Tryz.ntmps91
  go_upto_region 1 with fail
  clear hW0
  go_wp2_with fail
  go_loopw [7, 8, 9] (fun cv mv iv wr => ∃ (k : Nat) (kept : List AttrP) (seen : List (List UInt8)), iv = .int .i64 k ∧ k ≤ al.length ∧ Hid (wr.ownsRow w.heap.size 122 2 cv kept.length (attrsV kept) ∧ wr.ownsRow w.heap.size 9 1 mv seen.length (wordsV seen) ∧ Below w.heap.size w wr ∧ wr.heap[w.heap.size]? = some (.cells (polC (.slice r1 r2 r3) (.slice s2 P.schemes.length s3) (.slice d1 d2 d3) P) 43 (0, 0)) ∧ kept.length ≤ k ∧ seen.length ≤ k) ∧ Hid (True → kept ++ keptA P.schemes listed seen (al.drop k) = R)) (fun _ _ iv _ => al.length - (RowKit.intOf iv).toNat)
  case atStart => exact ⟨0, [], [], rfl, Nat.zero_le _, hid ⟨World.ownsRow_nil _ _ _ _, World.ownsRow_nil _ _ _ _, H0.out.1, H0.out.2, Nat.le_refl _, Nat.le_refl _⟩, HR⟩
  case round =>
    obtain ⟨k, kept, seen, rfl, hk, HX, HK⟩ := hrel
    obtain ⟨cp, cc, rfl⟩ := row_shape HX.out.1
    obtain ⟨mp, mc, rfl⟩ := row_shape HX.out.2.1
    clear H0 HR
    by_cases hkl : k < al.length
    · obtain ⟨a, hak⟩ : ∃ a, al[k]? = some a := ⟨_, List.getElem?_eq_getElem hkl⟩
      obtain ⟨bb, o, rfl, q1, q2⟩ := HC.out k a hak
      obtain ⟨hown, hmet, hbw, hbox, hkn, hsn⟩ := HX.out
      have hwlt : w.heap.size < wr.heap.size := block_lt hbox
      have HSO : Hid (∀ g, (Value.slice cp kept.length cc).ownBlock = some g → g < wr.heap.size) := hid (fun g hg => (hown.lt g hg).2)
      have hab := bulkA_get hak
      have hLL := HL.out
      replace q1 := cell_low q1 hbw (cell_block q1)
      replace q2 := cell_low q2 hbw (cell_block q2)
      have hd := HK.out trivial
      rw [drop_at hak, keptA_cons] at hd
      obtain ⟨W1, hW1⟩ : ∃ W1, wr.alloc (.cells #[.string (bs a.1), .string (bs a.2)] 122) = W1 := ⟨_, rfl⟩
      have hb1 : Below wr.heap.size wr W1 := by rw [← hW1]; exact (Below.refl _ _).alloc (Nat.le_refl _) _
      have hn1 : W1.heap[wr.heap.size]? = some (.cells #[.string (bs a.1), .string (bs a.2)] 122 (0, 0)) := by rw [← hW1]; exact heap_alloc_new _ _
      have hbw1 := hbw.trans (hb1.mono hbw.size)
      have hbox1 := (hb1.block _ (block_lt hbox)).trans hbox
      have hown1 := row_below hown hb1
      have hmet1 := row_below hmet hb1
      have hmw : Words W1 (.slice mp seen.length mc) seen := Words.row hmet1
      have hct1 := holds_any (.slice rp listed.length rc) listed (bs a.1) W1 (HW.out.below hbw1) hll
      have hct2 := holds_any (.slice mp seen.length mc) seen (bs a.1) W1 hmw (by omega)
      rw [bs_toList] at hct1 hct2
      have hlk := fun W => refLink_any (bs a.1) W
      rw [bs_toList] at hlk
      have hcl := fun W hb => refClean_any (.slice s2 P.schemes.length s3) P.schemes (bs a.2) W (HSC.out.below hb) hF (by rw [bs_size]; omega)
      rw [bs_data] at hcl
      have d0 := cell_at hn1 (j := 0) rfl
      have d1' := cell_at hn1 (j := 1) rfl
      have HCL := hid hcl
      have HLK := hid hlk
      have HCT1 := hid hct1
      have HCT2 := hid hct2
      have H1 := hid (And.intro hown1 (And.intro hmet1 (And.intro hbw1 (And.intro hbox1 hn1))))
      obtain ⟨c1, hc1⟩ : ∃ c1, listed.contains a.1 = c1 := ⟨_, rfl⟩
      obtain ⟨c2, hc2⟩ : ∃ c2, seen.contains a.1 = c2 := ⟨_, rfl⟩
      rw [hc1] at HCT1 hd
      rw [hc2] at HCT2 hd
      clear hcl hlk hct1 hct2 hmw hown hmet hbw hbox hown1 hmet1 hbw1 hbox1 hn1 hb1 hak hab hLL hc1 hc2 HX HK HC
      go_upto_region 7 with fail
      clear hW1 q1 q2
      cases c1 with
      | false =>
        rw [if_pos (.inl rfl)] at hd
        have HD := hid (fun (_ : True) => hd)
        clear hd HCL HLK HCT2
        go_wp2_with fail
        refine HCT1.out.mono ?_
        rintro r W2 ⟨rfl, rfl⟩
        go_wp2_with fail
        go_roundw
        case rel => exact ⟨k + 1, kept, seen, rfl, by omega, hid ⟨H1.out.1, H1.out.2.1, H1.out.2.2.1, H1.out.2.2.2.1, by omega, by omega⟩, HD⟩
        case measure => simp [RowKit.intOf]; omega
      | true =>
        go_wp2_with fail
        refine HCT1.out.mono ?_
        rintro r W2 ⟨rfl, rfl⟩
        cases c2 with
        | true =>
          rw [if_pos (.inr rfl)] at hd
          have HD := hid (fun (_ : True) => hd)
          clear hd HCL HLK
          go_wp2_with fail
          refine HCT2.out.mono ?_
          rintro r W2 ⟨rfl, rfl⟩
          go_wp2_with fail
          go_roundw
          case rel => exact ⟨k + 1, kept, seen, rfl, by omega, hid ⟨H1.out.1, H1.out.2.1, H1.out.2.2.1, H1.out.2.2.2.1, by omega, by omega⟩, HD⟩
          case measure => simp [RowKit.intOf]; omega
        | false =>
          rw [if_neg (by simp)] at hd
          have HD := hid (fun (_ : True) => hd)
          clear hd
          go_wp2_with fail
          refine HCT2.out.mono ?_
          rintro r W2 ⟨rfl, rfl⟩
          obtain ⟨hown, hmet, hbw, hbox, hn1⟩ := H1.out
          have hbs := hbw.size
          have hbx := block_lt hn1
          clear HCT1 HCT2
          go_wp2_with (at_builtin; refine wpList_append_own _ rfl (.tmp 34) (.tmp 37) 41 rfl w.heap.size 9 si (.string ⟨#[]⟩) 1 16 Tryz.underlying41 hsi hs0 hs1 hs2 rfl (by decide) _ _ _ rfl (hmet.alloc _) ⟨_, 0, none⟩ 1 1 [.string (bs a.1)] rfl rfl (cells_newV _ _ _) (by simp [Value.oneCell']) (by unfold maxLen; omega) (by omega) (by simp; omega) ?_)
          intro v3 W3 hown3 hgrow3 _
          have hma := hmet.alloc (.cells #[.string (bs a.1)] 9)
          have hn3 := grown_at hgrow3 ((Go.Lib.alloc_old _ (.cells #[.string (bs a.1)] 9) _ (block_lt hn1)).trans hn1) (row_ne hma ((Go.Lib.alloc_old _ _ _ (block_lt hn1)).trans hn1) (by decide))
          have hbox3 := grown_at hgrow3 ((Go.Lib.alloc_old _ (.cells #[.string (bs a.1)] 9) _ (block_lt hbox)).trans hbox) (row_ne hma ((Go.Lib.alloc_old _ _ _ (block_lt hbox)).trans hbox) (by decide))
          have hown3k := (hown.alloc (.cells #[.string (bs a.1)] 9)).kept hgrow3 (rows_ne (hown.alloc _) hma (by decide))
          have hbw3 := (hbw.alloc hbs (.cells #[.string (bs a.1)] 9)).grown hgrow3 (by simp; omega) (fun k hk => (hma.lt k hk).1)
          have hmet3 : W3.ownsRow w.heap.size 9 1 v3 (seen ++ [a.1]).length (wordsV (seen ++ [a.1])) := by
            rw [List.length_append, wordsV_app]
            exact hown3
          have hcl := HCL.out W3 hbw3
          obtain ⟨vp3, vc3, rfl⟩ := row_shape hown3
          have d0 := cell_at hn3 (j := 0) rfl
          have d1' := cell_at hn3 (j := 1) rfl
          have y1 := free_at hn3 1
          obtain ⟨-, e1, -, -, -⟩ := polC_at (P := P) hbox3
          have hsl : (seen ++ [a.1]).length = seen.length + 1 := by rw [List.length_append]; rfl
          have HSL := hid hsl
          have hneo : ∀ g, (Value.slice cp kept.length cc).ownBlock = some g → g ≠ wr.heap.size := fun g hg e => by
            have := (HSO.out _ hg)
            omega
          have HD3 := hid (And.intro hown3k (And.intro hmet3 (And.intro hbw3 (And.intro hbox3 hn3))))
          have HCL3 := hid hcl
          clear hma hn3 hbox3 hown3k hbw3 hcl hmet3 hown3 hgrow3 hown hmet hbw hbox hn1 H1 HCL hsl
          go_wp2_with fail
          refine (HLK.out _).mono ?_
          rintro r W4 ⟨rfl, rfl⟩
          cases hlk : isLinkL a.1 with
          | false =>
            have hv : valueA P.schemes a = (a.2, true) := by unfold valueA; rw [hlk]; rfl
            have HD4 := hid (fun (_ : True) => (by have := HD.out trivial; rw [hv, if_pos rfl, ← List.append_assoc] at this; exact this : (kept ++ [(a.1, a.2)]) ++ keptA P.schemes listed (seen ++ [a.1]) (al.drop (k + 1)) = R))
            obtain ⟨x1, hx1⟩ : ∃ x1, a.2 = x1 := ⟨_, rfl⟩
            obtain ⟨X, hX⟩ : ∃ X, bs a.2 = X := ⟨_, rfl⟩
            rw [hX] at d1'
            have HXX : Hid (bs x1 = X) := hid (by rw [← hx1]; exact hX)
            rw [hx1] at HD4
            obtain ⟨hown4, hmet4, hbw4, hbox4, hn4⟩ := HD3.out
            clear HD hlk HLK HCL3 hX hx1 HD3 e1 y1 hv
            have hbs4 := hbw4.size
            go_wp2_with (at_builtin; refine wpList_append_own _ rfl (.tmp 54) (.tmp 56) 36 rfl w.heap.size 122 ai (.agg #[.string ⟨#[]⟩, .string ⟨#[]⟩]) 2 32 Tryz.underlying36 hai ha0 ha1 ha2 rfl (by decide) _ _ _ rfl (hown4.alloc _) ⟨_, 0, none⟩ 1 1 [.string (bs a.1), .string X] rfl rfl (cells_newV _ _ _) (by simp [Value.oneCell']) (by unfold maxLen; omega) (by omega) (by simp; omega) ?_)
            intro v5 W5 hown5 hgrow5 _
            have hma := hown4.alloc (.cells #[.string (bs a.1), .string X] 122)
            have hbox5 := grown_at hgrow5 ((Go.Lib.alloc_old _ (.cells #[.string (bs a.1), .string X] 122) _ (block_lt hbox4)).trans hbox4) (row_ne hma ((Go.Lib.alloc_old _ _ _ (block_lt hbox4)).trans hbox4) (by decide))
            have hmet5 := (hmet4.alloc (.cells #[.string (bs a.1), .string X] 122)).kept hgrow5 (rows_ne (hmet4.alloc _) hma (by decide))
            have hbw5 := (hbw4.alloc hbs4 (.cells #[.string (bs a.1), .string X] 122)).grown hgrow5 (by simp; omega) (fun k hk => (hma.lt k hk).1)
            have hkept5 : W5.ownsRow w.heap.size 122 2 v5 (kept ++ [(a.1, x1)]).length (attrsV (kept ++ [(a.1, x1)])) := by
              rw [List.length_append, attrsV_app, show attrsV [(a.1, x1)] = [.string (bs a.1), .string X] by rw [← HXX.out]; rfl]
              exact hown5
            have HZ := hid (And.intro hkept5 (And.intro hmet5 (And.intro hbw5 (And.intro hbox5 (And.intro (show (kept ++ [(a.1, x1)]).length ≤ k + 1 by rw [List.length_append]; simp; omega) (show (seen ++ [a.1]).length ≤ k + 1 by rw [HSL.out]; omega))))))
            clear hown4 hmet4 hbw4 hbox4 hma hbox5 hmet5 hbw5 hkept5 hown5 hgrow5
            go_wp2
            go_roundw
            case rel => exact ⟨k + 1, _, _, rfl, by omega, HZ, HD4⟩
            case measure => simp [RowKit.intOf]; omega
          | true =>
            have hv : valueA P.schemes a = linkL P.schemes a.2 := by unfold valueA; rw [hlk]; rfl
            have hcl := HCL3.out
            rw [hv] at HD
            clear hv
            generalize linkL P.schemes a.2 = q at hcl HD
            obtain ⟨x1, x2⟩ := q
            simp only at hcl HD
            obtain ⟨X, hX⟩ : ∃ X, bs x1 = X := ⟨_, rfl⟩
            rw [hX] at hcl
            have HXX := hid hX
            have HCL4 := hid hcl
            clear hcl hX HCL3 HLK hlk
            go_wp2_with fail
            refine HCL4.out.mono ?_
            rintro r W4 ⟨rfl, b4⟩
            obtain ⟨hown3k, hmet3, hbw3, hbox3, hn3⟩ := HD3.out
            have hown4 := row_below hown3k b4
            have hmet4 := row_below hmet3 b4
            have hbw4 := hbw3.trans (b4.mono hbw3.size)
            have hbox4 := (b4.block _ (block_lt hbox3)).trans hbox3
            have hn4 := (b4.block _ (block_lt hn3)).trans hn3
            clear hown3k hmet3 hbw3 hbox3 hn3 b4 d1' HD3 HCL4 e1 d0 y1
            cases x2 with
            | false =>
              have HD4 := hid (fun (_ : True) => (by have := HD.out trivial; rw [if_neg (by simp), List.nil_append] at this; exact this : kept ++ keptA P.schemes listed (seen ++ [a.1]) (al.drop (k + 1)) = R))
              have HZ := hid (And.intro hown4 (And.intro hmet4 (And.intro hbw4 (And.intro hbox4 (And.intro (show kept.length ≤ k + 1 by omega) (show (seen ++ [a.1]).length ≤ k + 1 by rw [HSL.out]; omega))))))
              clear hown4 hmet4 hbw4 hbox4 hn4 HD
              go_wp2_with fail
              go_roundw
              case rel => exact ⟨k + 1, kept, seen ++ [a.1], rfl, by omega, HZ, HD4⟩
              case measure => simp [RowKit.intOf]; omega
            | true =>
              have HD4 := hid (fun (_ : True) => (by have := HD.out trivial; rw [if_pos rfl, ← List.append_assoc] at this; exact this : (kept ++ [(a.1, x1)]) ++ keptA P.schemes listed (seen ++ [a.1]) (al.drop (k + 1)) = R))
              have hj := just_put (j := 1) (cs2 := #[.string (bs a.1), .string X]) hn4 (.string X) (by simp)
              have y1 := free_at hn4 1
              have d1' := cell_at hn4 (j := 1) rfl
              have hown4' := row_of_block hown4 (fun g hg => hj.other g (hneo g hg))
              have hmet4' := row_just hmet4 hn4 (by decide) hj.other
              have hbw4' := hbw4.trans (just_low hj (by omega))
              have hbox4' := (hj.other w.heap.size (by have := block_lt hbox4; omega)).trans hbox4
              have hat := hj.at_
              have H5 := hid (And.intro hown4' (And.intro hmet4' (And.intro hbw4' (And.intro hbox4' hat))))
              clear hown4 hmet4 hbw4 hbox4 hn4 HD hown4' hmet4' hbw4' hbox4' hat hj
              go_upto_region 13 with fail
              obtain ⟨W6, hW6⟩ : ∃ W6, W4.setCell ⟨wr.heap.size, 1, none⟩ (.string X) = W6 := ⟨_, rfl⟩
              simp only [hW6] at H5 ⊢
              obtain ⟨hown4, hmet4, hbw4, hbox4, hn6⟩ := H5.out
              clear y1 d1' hW6 H5
              have d0 := cell_at hn6 (j := 0) rfl
              have d1' := cell_at hn6 (j := 1) rfl
              clear hn6
              have hbs4 := hbw4.size
              go_wp2_with (at_builtin; refine wpList_append_own _ rfl (.tmp 54) (.tmp 56) 36 rfl w.heap.size 122 ai (.agg #[.string ⟨#[]⟩, .string ⟨#[]⟩]) 2 32 Tryz.underlying36 hai ha0 ha1 ha2 rfl (by decide) _ _ _ rfl (hown4.alloc _) ⟨_, 0, none⟩ 1 1 [.string (bs a.1), .string X] rfl rfl (cells_newV _ _ _) (by simp [Value.oneCell']) (by unfold maxLen; omega) (by omega) (by simp; omega) ?_)
              intro v5 W5 hown5 hgrow5 _
              have hma := hown4.alloc (.cells #[.string (bs a.1), .string X] 122)
              have hbox5 := grown_at hgrow5 ((Go.Lib.alloc_old _ (.cells #[.string (bs a.1), .string X] 122) _ (block_lt hbox4)).trans hbox4) (row_ne hma ((Go.Lib.alloc_old _ _ _ (block_lt hbox4)).trans hbox4) (by decide))
              have hmet5 := (hmet4.alloc (.cells #[.string (bs a.1), .string X] 122)).kept hgrow5 (rows_ne (hmet4.alloc _) hma (by decide))
              have hbw5 := (hbw4.alloc hbs4 (.cells #[.string (bs a.1), .string X] 122)).grown hgrow5 (by simp; omega) (fun k hk => (hma.lt k hk).1)
              have hkept5 : W5.ownsRow w.heap.size 122 2 v5 (kept ++ [(a.1, x1)]).length (attrsV (kept ++ [(a.1, x1)])) := by
                rw [List.length_append, attrsV_app, show attrsV [(a.1, x1)] = [.string (bs a.1), .string X] by rw [← HXX.out]; rfl]
                exact hown5
              have HZ := hid (And.intro hkept5 (And.intro hmet5 (And.intro hbw5 (And.intro hbox5 (And.intro (show (kept ++ [(a.1, x1)]).length ≤ k + 1 by rw [List.length_append]; simp; omega) (show (seen ++ [a.1]).length ≤ k + 1 by rw [HSL.out]; omega))))))
              clear hown4 hmet4 hbw4 hbox4 hma hbox5 hmet5 hbw5 hkept5 hown5 hgrow5
              go_wp2
              go_roundw
              case rel => exact ⟨k + 1, _, _, rfl, by omega, HZ, HD4⟩
              case measure => simp [RowKit.intOf]; omega
    · obtain rfl : kept = R := by
        have := HK.out trivial
        rw [List.drop_of_length_le (by omega)] at this
        rwa [show keptA P.schemes listed seen [] = [] by rw [keptA], List.append_nil] at this
      have HZ := hid (And.intro HX.out.1 HX.out.2.2.1)
      clear HK HX HC HW
      go_wp2_with fail
      go_ret
      exact ⟨_, rfl, HZ.out.1, HZ.out.2⟩
end Go.Proofs.YtcncbhbdpcpkeaaGreatDoor
