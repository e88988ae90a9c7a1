/-
  Parts of the walk, joined: SieveB, SieveC, SieveD.
-/
import Derived.Test.YtkcgmimldjeaiaaGreatDoorJoinJ
import Derived.Test.YtkcgmimldjeaiaaGreatDoorJoinF
/-
  Package sieve: an attribute's value, the attributes that stay: their walks.
-/
namespace Go.Proofs.YtkcgmimldjeaiaaGreatDoor
open Go.RowKit Go.Lib Own

/-- the value that an attribute is to have, and whether it stays -/
def valueA (schemes : List (List UInt8)) (a : AttrP) : List UInt8 × Bool := if isLinkL a.1 = true then linkL schemes a.2 else (a.2, true)
theorem keptA_cons (schemes listed seen : List (List UInt8)) (a : AttrP) (r : List AttrP) : keptA schemes listed seen (a :: r) =
    if listed.contains a.1 = false ∨ seen.contains a.1 = true then keptA schemes listed seen r else (if (valueA schemes a).2 = true then [(a.1, (valueA schemes a).1)] else []) ++ keptA schemes listed (seen ++ [a.1]) r := by
  rw [keptA]
  unfold valueA
  split
  · rfl
  · split
    · split <;> rfl
    · rfl
theorem ret_sb {a b : ByteArray} {x y : Bool} (h : a = b) (k : x = y) : Ending.returned (.tuple #[.string a, .bool x]) = .returned (.tuple #[.string b, .bool y]) := by rw [h, k]

set_option maxHeartbeats 4000000 in
set_option maxRecDepth 100000 in
theorem cleanValue_any (w0 : World) (b : Nat) (vr vs vd : Value) (P : PolP) (sk : List UInt8) (cnt : Nat) (a : AttrP) (w : World) (h : SvAt w0 w b vr vs vd P sk cnt) (ha : a.2.length ≤ 4000000) :
    Calls Tryz.prog 79 #[.pointer (some ⟨b, 0, none⟩), .agg #[.string (bs a.1), .string (bs a.2)]] w fun e w' => e = .returned (.tuple #[.string (bs (valueA P.schemes a).1), .bool (valueA P.schemes a).2]) ∧ Below w.heap.size w w' := by
  have hlk := fun W => isLink_any (bs a.1) W
  rw [bs_toList] at hlk
  have hB : Below w.heap.size w (w.alloc (.cells #[.string (bs a.1), .string (bs a.2)] 66)) := (Below.refl w.heap.size w).alloc (Nat.le_refl _) _
  have b0 := heap_alloc_new w (.cells #[.string (bs a.1), .string (bs a.2)] 66)
  obtain ⟨W1, hW1⟩ : ∃ W1, w.alloc (.cells #[.string (bs a.1), .string (bs a.2)] 66) = W1 := ⟨_, rfl⟩
  rw [hW1] at hB b0
  have hS1 := h.below hB
  obtain ⟨sp, sc, hvs, _⟩ := hS1.cur.schemes.len
  subst hvs
  have c1 := cell_at hS1.at_ (j := 1) rfl
  have hcl := fun W hW => cleanURL_any (.slice sp P.schemes.length sc) P.schemes (bs a.2) W hW (by rw [bs_size]; omega)
  rw [bs_data] at hcl
  have hw1 := hS1.cur.schemes
  have d0 := cell_at b0 (j := 0) rfl
  have d1 := cell_at b0 (j := 1) rfl
  unfold valueA
  obtain ⟨S1, hS1'⟩ : ∃ S, bs a.1 = S := ⟨_, rfl⟩
  obtain ⟨S2, hS2'⟩ : ∃ S, bs a.2 = S := ⟨_, rfl⟩
  rw [hS1', hS2'] at hW1
  rw [hS1'] at hlk d0
  rw [hS2'] at hcl d1
  have HB := hid hB
  have HS2 := hid hS2'
  rw [hS1', hS2']
  have HLK := hid hlk
  have HW1 := hid hw1
  clear hlk hS1 hB b0 h hS1' hS2' hw1
  by_cases hl : isLinkL a.1 = true
  · rw [if_pos hl]
    rw [hl] at HLK
    generalize linkL P.schemes a.2 = q at hcl ⊢
    obtain ⟨q1, q2⟩ := q
    simp only at hcl ⊢
    obtain ⟨Q, hQ⟩ : ∃ Q, bs q1 = Q := ⟨_, rfl⟩
    rw [hQ] at hcl ⊢
    have HCL := hid hcl
    clear hcl hQ HS2
    go_enter Tryz.func79, Tryz.ntmps79
    go_upto_region 1 with fail
    clear hW1
    go_wp2_with fail
    refine (HLK.out _).mono ?_
    rintro e W2 ⟨rfl, rfl⟩
    go_wp2_with fail
    go_region_with (first | (go_at_call 91; refine (HCL.out _ (by exact HW1.out)).mono ?_; rintro e W3 ⟨rfl, b3⟩; have HB3 : Hid (Below W2.heap.size W2 W3) := ⟨b3.os, b3.tape, b3.output, b3.size, b3.block⟩; clear b3))
    all_goals
      go_wp2_with fail
      go_ret2
      exact ⟨rfl, HB.out.trans (HB3.out.mono HB.out.size)⟩
  · rw [if_neg hl]
    rw [Bool.not_eq_true] at hl
    rw [hl] at HLK
    clear hcl HW1 c1
    simp only
    go_enter Tryz.func79, Tryz.ntmps79
    go_upto_region 1 with fail
    clear hW1
    go_wp2_with fail
    refine (HLK.out _).mono ?_
    rintro e W2 ⟨rfl, rfl⟩
    go_wp2_with fail
    go_ret2
    exact ⟨ret_sb HS2.out.symm rfl, HB.out⟩

set_option maxHeartbeats 8000000 in
set_option maxRecDepth 100000 in
theorem cleanAttrs_any (w0 : World) (b : Nat) (vr vs vd : Value) (P : PolP) (sk : List UInt8) (cnt : Nat) (rn : List UInt8) (ru : Value) (listed : List (List UInt8)) (av : Value) (al : List AttrP) (w : World) (h : SvAt w0 w b vr vs vd P sk cnt) (hr : Words w ru listed) (ha : AttrsR w av al) (hl : bulkA al ≤ 4000000) :
    Calls Tryz.prog 67 #[.pointer (some ⟨b, 0, none⟩), .agg #[.string (bs rn), ru], av] w fun e w' => ∃ v, e = .returned v ∧ w'.ownsRow w.heap.size 66 2 v (keptA P.schemes listed [] al).length (attrsV (keptA P.schemes listed [] al)) ∧ Below w.heap.size w w' := by
  obtain ⟨ap, ac, rfl, _, _, hcell, _⟩ := ha
  obtain ⟨rp, rc, rfl, _⟩ := hr.len
  obtain ⟨R, hR⟩ : ∃ R, keptA P.schemes listed [] al = R := ⟨_, rfl⟩
  have hRb : R.length ≤ 4000000 := by rw [← hR]; have := (keptA_bulk P.schemes listed al []).2; have := bulkA_len al; omega
  rw [hR]
  have hB : Below w.heap.size w (w.alloc (.cells #[.string (bs rn), .slice rp listed.length rc] 53)) := (Below.refl w.heap.size w).alloc (Nat.le_refl _) _
  have b0 := heap_alloc_new w (.cells #[.string (bs rn), .slice rp listed.length rc] 53)
  have H0 := hid (And.intro hB b0)
  have HS := hid h
  have HC := hid hcell
  have HW := hid hr
  have HR := hid (fun (_ : True) => (hR : [] ++ keptA P.schemes listed [] (al.drop 0) = R))
  have HRB := hid hRb
  have hall := bulkA_len al
  have hlen : al.length ≤ 4000000 := by omega
  have HL := hid hl
  obtain ⟨si, hsi, hs0, hs1, hs2⟩ := info_parts info_str
  obtain ⟨ai, hai, ha0, ha1, ha2⟩ := info_parts info_attr
  clear h hcell hr hR hB b0 hRb hall hl
  go_enter Tryz.func67, Tryz.ntmps67
  go_wp2_with fail
  go_loopw [7, 8, 15] (fun cv mv iv wr => ∃ (k : Nat) (kept : List AttrP) (seen : List (List UInt8)), iv = .int .i64 k ∧ k ≤ al.length ∧ Hid (wr.ownsRow w.heap.size 66 2 cv kept.length (attrsV kept) ∧ wr.ownsRow w.heap.size 9 1 mv seen.length (wordsV seen) ∧ Below w.heap.size w wr ∧ wr.heap[w.heap.size]? = some (.cells #[.string (bs rn), .slice rp listed.length rc] 53 (0, 0)) ∧ kept.length ≤ k ∧ seen.length ≤ k) ∧ Hid (True → kept ++ keptA P.schemes listed seen (al.drop k) = R)) (fun _ _ iv _ => al.length - (RowKit.intOf iv).toNat)
  case atStart => exact ⟨0, [], [], rfl, Nat.zero_le _, hid ⟨World.ownsRow_nil _ _ _ _, World.ownsRow_nil _ _ _ _, H0.out.1, H0.out.2, Nat.le_refl _, Nat.le_refl _⟩, HR⟩
  case round =>
    obtain ⟨k, kept, seen, rfl, hk, HX, HK⟩ := hrel
    obtain ⟨cp, cc, rfl⟩ := row_shape HX.out.1
    obtain ⟨mp, mc, rfl⟩ := row_shape HX.out.2.1
    clear H0 HR
    by_cases hkl : k < al.length
    · obtain ⟨a, hak⟩ : ∃ a, al[k]? = some a := ⟨_, List.getElem?_eq_getElem hkl⟩
      obtain ⟨bb, o, rfl, q1, q2⟩ := HC.out k a hak
      obtain ⟨hown, hmet, hbw, hbox, hkn, hsn⟩ := HX.out
      have hab := bulkA_get hak
      have hLL := HL.out
      replace q1 := cell_low q1 hbw (cell_block q1)
      replace q2 := cell_low q2 hbw (cell_block q2)
      have hd := HK.out trivial
      rw [drop_at hak, keptA_cons] at hd
      -- the box of the attribute
      obtain ⟨W1, hW1⟩ : ∃ W1, wr.alloc (.cells #[.string (bs a.1), .string (bs a.2)] 66) = W1 := ⟨_, rfl⟩
      have hb1 : Below wr.heap.size wr W1 := by rw [← hW1]; exact (Below.refl _ _).alloc (Nat.le_refl _) _
      have hn1 : W1.heap[wr.heap.size]? = some (.cells #[.string (bs a.1), .string (bs a.2)] 66 (0, 0)) := by rw [← hW1]; exact heap_alloc_new _ _
      have hbw1 := hbw.trans (hb1.mono hbw.size)
      have hbox1 := (hb1.block _ (block_lt hbox)).trans hbox
      have hown1 := row_below hown hb1
      have hmet1 := row_below hmet hb1
      have hmw : Words W1 (.slice mp seen.length mc) seen := Words.row hmet1
      have hct1 := slContains_any (.slice rp listed.length rc) listed (bs a.1) W1 (HW.out.below hbw1)
      have hct2 := slContains_any (.slice mp seen.length mc) seen (bs a.1) W1 hmw
      rw [bs_toList] at hct1 hct2
      have hcv := fun W hb => cleanValue_any w0 b vr vs vd P sk cnt a W (HS.out.below hb) (by omega)
      have d0 := cell_at hn1 (j := 0) rfl
      have d1 := cell_at hn1 (j := 1) rfl
      have e1 := cell_at hbox1 (j := 1) rfl
      have HCV := hid hcv
      have HCT1 := hid hct1
      have HCT2 := hid hct2
      have H1 := hid (And.intro hown1 (And.intro hmet1 (And.intro hbw1 (And.intro hbox1 hn1))))
      obtain ⟨c1, hc1⟩ : ∃ c1, listed.contains a.1 = c1 := ⟨_, rfl⟩
      obtain ⟨c2, hc2⟩ : ∃ c2, seen.contains a.1 = c2 := ⟨_, rfl⟩
      rw [hc1] at HCT1 hd
      rw [hc2] at HCT2 hd
      clear hcv hct1 hct2 hmw hown hmet hbw hbox hown1 hmet1 hbw1 hbox1 hn1 hb1 hak hab hLL hc1 hc2 HX HK HC
      go_upto_region 6 with fail
      clear hW1 q1 q2
      cases c1 with
      | false =>
        rw [if_pos (.inl rfl)] at hd
        have HD := hid (fun (_ : True) => hd)
        clear hd HCV HCT2
        go_wp2_with fail
        refine HCT1.out.mono ?_
        rintro r W2 ⟨rfl, rfl⟩
        go_wp2_with fail
        go_roundw
        case rel => exact ⟨k + 1, kept, seen, rfl, by omega, hid ⟨H1.out.1, H1.out.2.1, H1.out.2.2.1, H1.out.2.2.2.1, by omega, by omega⟩, HD⟩
        case measure => simp [RowKit.intOf]; omega
      | true =>
        go_wp2_with fail
        refine HCT1.out.mono ?_
        rintro r W2 ⟨rfl, rfl⟩
        cases c2 with
        | true =>
          rw [if_pos (.inr rfl)] at hd
          have HD := hid (fun (_ : True) => hd)
          clear hd HCV
          go_wp2_with fail
          refine HCT2.out.mono ?_
          rintro r W2 ⟨rfl, rfl⟩
          go_wp2_with fail
          go_roundw
          case rel => exact ⟨k + 1, kept, seen, rfl, by omega, hid ⟨H1.out.1, H1.out.2.1, H1.out.2.2.1, H1.out.2.2.2.1, by omega, by omega⟩, HD⟩
          case measure => simp [RowKit.intOf]; omega
        | false =>
          rw [if_neg (by simp)] at hd
          have HD := hid (fun (_ : True) => hd)
          clear hd
          go_wp2_with fail
          refine HCT2.out.mono ?_
          rintro r W2 ⟨rfl, rfl⟩
          obtain ⟨hown, hmet, hbw, hbox, hn1⟩ := H1.out
          have hbs := hbw.size
          have hbx := block_lt hn1
          clear HCT1 HCT2 e1
          go_wp2_with (at_builtin; refine wpList_append_own _ rfl (.tmp 31) (.tmp 34) 23 rfl w.heap.size 9 si (.string ⟨#[]⟩) 1 16 Tryz.underlying23 hsi hs0 hs1 hs2 rfl (by decide) _ _ _ rfl (hmet.alloc _) ⟨_, 0, none⟩ 1 1 [.string (bs a.1)] rfl rfl (cells_newV _ _ _) (by simp [Value.oneCell']) (by unfold maxLen; omega) (by omega) (by simp; omega) ?_)
          intro v3 W3 hown3 hgrow3 _
          have hma := hmet.alloc (.cells #[.string (bs a.1)] 9)
          have hn3 := grown_at hgrow3 ((Go.Lib.alloc_old _ (.cells #[.string (bs a.1)] 9) _ (block_lt hn1)).trans hn1) (row_ne hma ((Go.Lib.alloc_old _ _ _ (block_lt hn1)).trans hn1) (by decide))
          have hbox3 := grown_at hgrow3 ((Go.Lib.alloc_old _ (.cells #[.string (bs a.1)] 9) _ (block_lt hbox)).trans hbox) (row_ne hma ((Go.Lib.alloc_old _ _ _ (block_lt hbox)).trans hbox) (by decide))
          have hown3k := (hown.alloc (.cells #[.string (bs a.1)] 9)).kept hgrow3 (rows_ne (hown.alloc _) hma (by decide))
          have hbw3 := (hbw.alloc hbs (.cells #[.string (bs a.1)] 9)).grown hgrow3 (by simp; omega) (fun k hk => (hma.lt k hk).1)
          have hcv := HCV.out W3 (by
            refine ⟨hbw3.os, hbw3.tape, hbw3.output, hbw3.size, hbw3.block⟩)
          have hmet3 : W3.ownsRow w.heap.size 9 1 v3 (seen ++ [a.1]).length (wordsV (seen ++ [a.1])) := by
            rw [List.length_append, wordsV_app]
            exact hown3
          obtain ⟨vp3, vc3, rfl⟩ := row_shape hown3
          have d0 := cell_at hn3 (j := 0) rfl
          have d1 := cell_at hn3 (j := 1) rfl
          have HD3 := hid (And.intro hown3k (And.intro hmet3 (And.intro hbw3 (And.intro hbox3 hn3))))
          generalize valueA P.schemes a = q at hcv HD
          obtain ⟨x1, x2⟩ := q
          simp only at hcv HD
          obtain ⟨X, hX⟩ : ∃ X, bs x1 = X := ⟨_, rfl⟩
          rw [hX] at hcv
          have HCV3 := hid hcv
          have HXX := hid hX
          clear hma hn3 hbox3 hown3k hbw3 hcv hmet3 hown3 hgrow3 hown hmet hbw hbox hn1 H1 HCV hX
          go_wp2_with fail
          refine HCV3.out.mono ?_
          rintro r W4 ⟨rfl, b4⟩
          obtain ⟨hown3k, hmet3, hbw3, hbox3, hn3⟩ := HD3.out
          have hown4 := row_below hown3k b4
          have hmet4 := row_below hmet3 b4
          have hbw4 := hbw3.trans (b4.mono hbw3.size)
          have hbox4 := (b4.block _ (block_lt hbox3)).trans hbox3
          have hn4 := (b4.block _ (block_lt hn3)).trans hn3
          replace d0 := cell_at hn4 (j := 0) rfl
          have hsl : (seen ++ [a.1]).length = seen.length + 1 := by rw [List.length_append]; rfl
          have HSL := hid hsl
          clear hown3k hmet3 hbw3 hbox3 hn3 b4 d1 HD3 HCV3 hsl
          cases x2 with
          | false =>
            have HD4 := hid (fun (_ : True) => (by have := HD.out trivial; rwa [if_neg (by simp), List.nil_append] at this : kept ++ keptA P.schemes listed (seen ++ [a.1]) (al.drop (k + 1)) = R))
            have HZ := hid (And.intro hown4 (And.intro hmet4 (And.intro hbw4 (And.intro hbox4 (And.intro (show kept.length ≤ k + 1 by omega) (show (seen ++ [a.1]).length ≤ k + 1 by rw [HSL.out]; omega))))))
            clear hown4 hmet4 hbw4 hbox4 hn4 HD d0
            go_wp2_with fail
            go_roundw
            case rel => exact ⟨k + 1, kept, seen ++ [a.1], rfl, by omega, HZ, HD4⟩
            case measure => simp [RowKit.intOf]; omega
          | true =>
            have HD4 := hid (fun (_ : True) => (by have := HD.out trivial; rwa [if_pos rfl, ← List.append_assoc] at this : (kept ++ [(a.1, x1)]) ++ keptA P.schemes listed (seen ++ [a.1]) (al.drop (k + 1)) = R))
            have hbs4 := hbw4.size
            clear HD
            go_wp2_with (at_builtin; refine wpList_append_own _ rfl (.tmp 43) (.tmp 48) 42 rfl w.heap.size 66 ai (.agg #[.string ⟨#[]⟩, .string ⟨#[]⟩]) 2 32 Tryz.underlying42 hai ha0 ha1 ha2 rfl (by decide) _ _ _ rfl (hown4.alloc _) ⟨_, 0, none⟩ 1 1 [.string (bs a.1), .string X] rfl rfl (cells_newV _ _ _) (by simp [Value.oneCell']) (by unfold maxLen; omega) (by omega) (by simp; omega) ?_)
            intro v5 W5 hown5 hgrow5 _
            have hma := hown4.alloc (.cells #[.string (bs a.1), .string X] 66)
            have hbox5 := grown_at hgrow5 ((Go.Lib.alloc_old _ (.cells #[.string (bs a.1), .string X] 66) _ (block_lt hbox4)).trans hbox4) (row_ne hma ((Go.Lib.alloc_old _ _ _ (block_lt hbox4)).trans hbox4) (by decide))
            have hmet5 := (hmet4.alloc (.cells #[.string (bs a.1), .string X] 66)).kept hgrow5 (rows_ne (hmet4.alloc _) hma (by decide))
            have hbw5 := (hbw4.alloc hbs4 (.cells #[.string (bs a.1), .string X] 66)).grown hgrow5 (by simp; omega) (fun k hk => (hma.lt k hk).1)
            have hkept5 : W5.ownsRow w.heap.size 66 2 v5 (kept ++ [(a.1, x1)]).length (attrsV (kept ++ [(a.1, x1)])) := by
              rw [List.length_append, attrsV_app, show attrsV [(a.1, x1)] = [.string (bs a.1), .string X] by rw [← HXX.out]; rfl]
              exact hown5
            have HZ := hid (And.intro hkept5 (And.intro hmet5 (And.intro hbw5 (And.intro hbox5 (And.intro (show (kept ++ [(a.1, x1)]).length ≤ k + 1 by rw [List.length_append]; simp; omega) (show (seen ++ [a.1]).length ≤ k + 1 by rw [HSL.out]; omega))))))
            clear hown4 hmet4 hbw4 hbox4 hn4 d0 hma hbox5 hmet5 hbw5 hkept5 hown5 hgrow5
            go_wp2
            go_roundw
            case rel => exact ⟨k + 1, _, _, rfl, by omega, HZ, HD4⟩
            case measure => simp [RowKit.intOf]; omega
    · obtain rfl : kept = R := by
        have := HK.out trivial
        rw [List.drop_of_length_le (by omega)] at this
        rwa [show keptA P.schemes listed seen [] = [] by rw [keptA], List.append_nil] at this
      have HZ := hid (And.intro HX.out.1 HX.out.2.2.1)
      clear HK HX HC HS HW
      go_wp2_with fail
      go_ret
      exact ⟨_, rfl, HZ.out.1, HZ.out.2⟩
end Go.Proofs.YtkcgmimldjeaiaaGreatDoor

/-
  Package sieve: an event within a skip, a Start outside of one: their walks.
-/
namespace Go.Proofs.YtkcgmimldjeaiaaGreatDoor
open Go.RowKit Go.Lib Own

def zeroEv : Array Value := #[.int .i64 0, .string ⟨#[]⟩, .slice none 0 0, .string ⟨#[]⟩]
/-- what is left of an event -/
def TakeV (W : World) (base : Nat) : Option Ev → Value → Prop
  | none, v => v = .tuple #[.agg zeroEv, .bool false]
  | some ev, v => ∃ k n p m c t, v = .tuple #[.agg #[.int .i64 k, .string n, .slice p m c, .string t], .bool true] ∧ EvsAt W base [.int .i64 k, .string n, .slice p m c, .string t] [ev]

theorem grown_drewN {w W : World} {r : Option Nat} (h : w.grownBy W r) (q : Nat) : w.grownBy (W.drewN q) r := ⟨h.os, h.tape, h.output, h.size, h.block⟩
theorem int_ne' {a b : Int} (h : a ≠ b) : (a == b) = false := beq_eq_false_iff_ne.2 h
theorem sieve_cells {W : World} {b : Nat} {vr vs vd : Value} {P : PolP} {sk : List UInt8} {n : Nat} (h : W.heap[b]? = some (.cells (sieveC vr vs vd P sk n) 77 (0, 0))) :
    W.cell? ⟨b, 2, none⟩ = some vd ∧ W.cell? ⟨b, 4, none⟩ = some (.int .i64 P.window) ∧ W.cell? ⟨b, 5, none⟩ = some (.string (bs sk)) ∧ W.cell? ⟨b, 6, none⟩ = some (.int .i64 n) ∧ W.frozen? ⟨b, 5, none⟩ = false ∧ W.frozen? ⟨b, 6, none⟩ = false :=
  ⟨cell_at h rfl, cell_at h rfl, cell_at h rfl, cell_at h rfl, free_at h 5, free_at h 6⟩
theorem sieve_count {W : World} {b : Nat} {vr vs vd : Value} {P : PolP} {sk : List UInt8} {n : Nat} (h : W.heap[b]? = some (.cells (sieveC vr vs vd P sk n) 77 (0, 0))) (m : Nat) : Just W (W.setCell ⟨b, 6, none⟩ (.int .i64 m)) b (sieveC vr vs vd P sk m) 77 :=
  just_put h _ (by unfold sieveC; simp)
theorem sieve_begin {W : World} {b : Nat} {vr vs vd : Value} {P : PolP} {sk : List UInt8} {n : Nat} (h : W.heap[b]? = some (.cells (sieveC vr vs vd P sk n) 77 (0, 0))) (x : ByteArray) (m : Nat) : Just W ((W.setCell ⟨b, 5, none⟩ (.string x)).setCell ⟨b, 6, none⟩ (.int .i64 m)) b (sieveC vr vs vd P x.data.toList m) 77 := by
  have h0 := just_put (j := 5) (cs2 := sieveC vr vs vd P x.data.toList n) h (.string x) (by unfold sieveC; simp [bs_of])
  exact h0.andThen (sieve_count h0.at_ m)

set_option maxHeartbeats 4000000 in
set_option maxRecDepth 100000 in
theorem sieveSkip_any (w0 : World) (b : Nat) (vr vs vd : Value) (P : PolP) (sk : List UInt8) (cnt : Nat) (e : EvP) (u : Value) (w : World) (h : SvAt w0 w b vr vs vd P sk cnt) (hu : ∃ p n c, u = .slice p n c) (hc0 : 0 < cnt) (hc : cnt ≤ 1000000000) :
    Calls Tryz.prog 42 #[.pointer (some ⟨b, 0, none⟩), .agg (evC e u)] w fun r w' => r = .returned (.tuple #[]) ∧ w'.heap[b]? = some (.cells (sieveC vr vs vd P sk (skipF (sk, cnt) e)) 77 (0, 0)) ∧ w.grownBy w' (some b) := by
  obtain ⟨p, n, c, rfl⟩ := hu
  have hB : Below w.heap.size w (w.alloc (.cells (evC e (.slice p n c)) 44)) := (Below.refl w.heap.size w).alloc (Nat.le_refl _) _
  have b0 := heap_alloc_new w (.cells (evC e (.slice p n c)) 44)
  obtain ⟨W1, hW1⟩ : ∃ W1, w.alloc (.cells (evC e (.slice p n c)) 44) = W1 := ⟨_, rfl⟩
  rw [hW1] at hB b0
  have hS1 := (h.below hB).at_
  obtain ⟨-, -, c5, c6, -, f6⟩ := sieve_cells hS1
  obtain ⟨d0, d1, -, -⟩ := evC_at b0
  have hne1 := bs_toList e.n
  have hne2 := bs_toList sk
  unfold evC at hW1 ⊢
  obtain ⟨N, hN⟩ : ∃ N, bs e.n = N := ⟨_, rfl⟩
  obtain ⟨S, hS⟩ : ∃ S, bs sk = S := ⟨_, rfl⟩
  rw [hN] at d1 hne1
  rw [hS] at c5 hne2
  simp only [hN] at hW1 ⊢
  have hg1 := grown_below hB (some b)
  have HX := hid (And.intro hS1 hg1)
  have fin : ∀ (m q : Nat), Hid (Just (W1.drewN q) ((W1.drewN q).setCell ⟨b, 6, none⟩ (.int .i64 m)) b (sieveC vr vs vd P sk m) 77) := fun m q => sieve_count (by exact hS1) m
  clear hS1 hg1 hN hS hB b0 h
  by_cases q : e.n = sk
  · have q2 : (N.toList == S.toList) = true := by rw [hne1, hne2, q]; simp
    have hsz : cnt < 9223372036854775807 := by omega
    by_cases k1 : e.k = 1
    · have es : skipF (sk, cnt) e = cnt + 1 := by unfold skipF; rw [if_pos ⟨q, k1⟩]
      rw [es]
      rw [k1] at d0 hW1
      simp only [k1]
      have FIN := fin (cnt + 1)
      clear hne1 hne2 q es k1 fin
      go_enter Tryz.func42, Tryz.ntmps42
      go_upto_region 1 with fail
      clear hW1
      go_quiet (fail)
      go_wp2
      go_end0
      have hj := (FIN nq).out
      exact ⟨rfl, hj.at_, (grown_drewN HX.out.2 nq).trans (just_grown hj)⟩
    · have n1 := int_ne' k1
      by_cases k2 : e.k = 2
      · have es : skipF (sk, cnt) e = cnt - 1 := by unfold skipF; rw [if_neg (fun h => k1 h.2), if_pos ⟨q, k2⟩]
        rw [es]
        rw [k2] at d0 hW1 n1
        simp only [k2]
        have FIN := fin (cnt - 1)
        have hcc : ((cnt - 1 : Nat) : Int) = (cnt : Int) - 1 := by omega
        rw [hcc] at FIN
        clear hne1 hne2 q es k1 k2 fin hcc
        go_enter Tryz.func42, Tryz.ntmps42
        go_upto_region 1 with fail
        clear hW1
        go_quiet (fail)
        go_wp2
        go_end0
        have hj := (FIN nq).out
        exact ⟨rfl, hj.at_, (grown_drewN HX.out.2 nq).trans (just_grown hj)⟩
      · have n2 := int_ne' k2
        have es : skipF (sk, cnt) e = cnt := by unfold skipF; rw [if_neg (fun h => k1 h.2), if_neg (fun h => k2 h.2)]
        rw [es]
        clear hne1 hne2 q es k1 k2 fin
        go_enter Tryz.func42, Tryz.ntmps42
        go_upto_region 1 with fail
        clear hW1
        go_quiet (fail)
        go_wp2
        go_end0
        exact ⟨rfl, HX.out.1, grown_drewN HX.out.2 nq⟩
  · have q2 : (N.toList == S.toList) = false := by rw [hne1, hne2]; exact beq_eq_false_iff_ne.2 q
    have es : skipF (sk, cnt) e = cnt := by unfold skipF; rw [if_neg (fun h => q h.1), if_neg (fun h => q h.1)]
    rw [es]
    clear hne1 hne2 q es fin
    go_enter Tryz.func42, Tryz.ntmps42
    go_upto_region 1 with fail
    clear hW1
    go_quiet (fail)
    go_wp2
    go_end0
    exact ⟨rfl, HX.out.1, grown_drewN HX.out.2 nq⟩
end Go.Proofs.YtkcgmimldjeaiaaGreatDoor

/-
  Package sieve: a Start outside of a skip: its walk.
-/
namespace Go.Proofs.YtkcgmimldjeaiaaGreatDoor
open Go.RowKit Go.Lib Own

theorem zero_just {W : World} {b : Nat} {a0 a1 a2 a3 p0 p1 p2 p3 : Value} {T : TypeId} (h : W.heap[b]? = some (.cells #[a0, a1, a2, a3] T (0, 0))) :
    Just W ((((W.setCell ⟨b, 0, none⟩ p0).setCell ⟨b, 1, none⟩ p1).setCell ⟨b, 2, none⟩ p2).setCell ⟨b, 3, none⟩ p3) b #[p0, p1, p2, p3] T := by
  have h0 := just_put (j := 0) (cs2 := #[p0, a1, a2, a3]) h p0 (by simp)
  have h1 := just_put (j := 1) (cs2 := #[p0, p1, a2, a3]) h0.at_ p1 (by simp)
  have h2 := just_put (j := 2) (cs2 := #[p0, p1, p2, a3]) h1.at_ p2 (by simp)
  have h3 := just_put (j := 3) (cs2 := #[p0, p1, p2, p3]) h2.at_ p3 (by simp)
  exact ((h0.andThen h1).andThen h2).andThen h3
/-- where a call's own boxes stand: the event's, the answer's, and the Sieve's cells -/
structure StA (w W : World) (b : Nat) (e : EvP) (u : Value) (cs : Array Value) : Prop where
  g : w.grownBy W (some b)
  s : W.heap[b]? = some (.cells cs 77 (0, 0))
  b0 : W.heap[w.heap.size]? = some (.cells (evC e u) 44 (0, 0))
  b1 : W.heap[w.heap.size + 1]? = some (.cells zeroEv 44 (0, 0))
  bb : b < w.heap.size
theorem StA.below {w W W' : World} {b : Nat} {e : EvP} {u : Value} {cs : Array Value} (h : StA w W b e u cs) (hb : Below W.heap.size W W') : StA w W' b e u cs :=
  ⟨h.g.trans (grown_below hb _), (hb.block _ (block_lt h.s)).trans h.s, (hb.block _ (block_lt h.b0)).trans h.b0, (hb.block _ (block_lt h.b1)).trans h.b1, h.bb⟩
theorem StA.drewN {w W : World} {b : Nat} {e : EvP} {u : Value} {cs : Array Value} (h : StA w W b e u cs) (q : Nat) : StA w (W.drewN q) b e u cs := ⟨grown_drewN h.g q, h.s, h.b0, h.b1, h.bb⟩
/-- the answer is written -/
theorem StA.done {w W : World} {b : Nat} {e : EvP} {u : Value} {cs : Array Value} (h : StA w W b e u cs) (p0 p1 p2 p3 : Value) :
    Hid (((((W.setCell ⟨w.heap.size + 1, 0, none⟩ p0).setCell ⟨w.heap.size + 1, 1, none⟩ p1).setCell ⟨w.heap.size + 1, 2, none⟩ p2).setCell ⟨w.heap.size + 1, 3, none⟩ p3).heap[w.heap.size + 1]? = some (.cells #[p0, p1, p2, p3] 44 (0, 0)) ∧
      ((((W.setCell ⟨w.heap.size + 1, 0, none⟩ p0).setCell ⟨w.heap.size + 1, 1, none⟩ p1).setCell ⟨w.heap.size + 1, 2, none⟩ p2).setCell ⟨w.heap.size + 1, 3, none⟩ p3).heap[b]? = some (.cells cs 77 (0, 0)) ∧
      w.grownBy ((((W.setCell ⟨w.heap.size + 1, 0, none⟩ p0).setCell ⟨w.heap.size + 1, 1, none⟩ p1).setCell ⟨w.heap.size + 1, 2, none⟩ p2).setCell ⟨w.heap.size + 1, 3, none⟩ p3) (some b)) := by
  have hb1 := h.b1
  unfold zeroEv at hb1
  have j := zero_just (p0 := p0) (p1 := p1) (p2 := p2) (p3 := p3) hb1
  have hbb := h.bb
  refine ⟨j.at_, (j.other b (by omega)).trans h.s, ?_⟩
  have hg := h.g
  exact ⟨j.os.trans hg.os, j.tape.trans hg.tape, j.output.trans hg.output, by rw [j.size]; exact hg.size, fun k hk hne => (j.other k (by omega)).trans (hg.block k hk hne)⟩
theorem StA.cells {w W : World} {b : Nat} {e : EvP} {u : Value} {cs : Array Value} (h : StA w W b e u cs) :
    W.cell? ⟨w.heap.size + 1, 0, none⟩ = some (.int .i64 0) ∧ W.cell? ⟨w.heap.size + 1, 1, none⟩ = some (.string ⟨#[]⟩) ∧ W.cell? ⟨w.heap.size + 1, 2, none⟩ = some (.slice none 0 0) ∧ W.cell? ⟨w.heap.size + 1, 3, none⟩ = some (.string ⟨#[]⟩) ∧
    W.frozen? ⟨w.heap.size + 1, 0, none⟩ = false ∧ W.frozen? ⟨w.heap.size + 1, 1, none⟩ = false ∧ W.frozen? ⟨w.heap.size + 1, 2, none⟩ = false ∧ W.frozen? ⟨w.heap.size + 1, 3, none⟩ = false :=
  ⟨cell_at h.b1 rfl, cell_at h.b1 rfl, cell_at h.b1 rfl, cell_at h.b1 rfl, free_at h.b1 0, free_at h.b1 1, free_at h.b1 2, free_at h.b1 3⟩

set_option maxHeartbeats 8000000 in
set_option maxRecDepth 100000 in
theorem start_any (w0 : World) (b : Nat) (vr vs vd : Value) (P : PolP) (sk : List UInt8) (e : EvP) (u : Value) (m : Int) (w : World) (h : SvAt w0 w b vr vs vd P sk 0) (hF : P.Few) (hu : AttrsR w u e.a) (hs : e.n.length + bulkA e.a ≤ 4000000) (hk : e.k = 1)
    (hm : w.cell? ⟨4, 0, none⟩ = some (.int .i64 m)) :
    Calls Tryz.prog 43 #[.pointer (some ⟨b, 0, none⟩), .agg (evC e u)] w fun r w' => ∃ v, r = .returned v ∧ TakeV w' w.heap.size (sieveL P (sk, 0) e).2 v ∧ w'.heap[b]? = some (.cells (sieveC vr vs vd P (sieveL P (sk, 0) e).1.1 (sieveL P (sk, 0) e).1.2) 77 (0, 0)) ∧ w.grownBy w' (some b) := by
  obtain ⟨up, uc, rfl⟩ := hu.len
  have f3 := hF.drop
  have w0' := hF.w0
  have w1' := hF.w1
  obtain ⟨W1, hW1⟩ : ∃ W1, (w.alloc (.cells (evC e (.slice up e.a.length uc)) 44)).alloc (.cells zeroEv 44) = W1 := ⟨_, rfl⟩
  have hB : Below w.heap.size w W1 := by rw [← hW1]; exact ((Below.refl w.heap.size w).alloc (Nat.le_refl _) _).alloc (by simp) _
  have hA : StA w W1 b e (.slice up e.a.length uc) (sieveC vr vs vd P sk 0) := by
    refine ⟨grown_below hB _, (hB.block b (block_lt h.at_)).trans h.at_, ?_, ?_, block_lt h.at_⟩
    · rw [← hW1]; exact (Go.Lib.alloc_old _ _ _ (by simp)).trans (heap_alloc_new w _)
    · rw [← hW1]; exact heap_two_new w _ _ _
  have hS1 := h.below hB
  obtain ⟨dp, dc, hvd, _⟩ := hS1.cur.drop.len
  subst hvd
  have hct := fun q => slContains_any (.slice dp P.drop.length dc) P.drop (bs e.n) (W1.drewN q) (hS1.cur.drop.drewN q)
  rw [bs_toList] at hct
  have hru := fun q => rule_any w0 b vr vs (.slice dp P.drop.length dc) P sk 0 (bs e.n) (W1.drewN q) ⟨hS1.at_, hS1.pol, ⟨hS1.be.os, hS1.be.tape, hS1.be.output, hS1.be.size, hS1.be.block⟩, hS1.lo⟩ hF
  rw [bs_toList] at hru
  have hcl := fun W (hb : Below W1.heap.size W1 W) ru listed (hr : Words W ru listed) => cleanAttrs_any w0 b vr vs (.slice dp P.drop.length dc) P sk 0 e.n ru listed (.slice up e.a.length uc) e.a W (hS1.below hb) hr ((hu.below hB).below hb) (by omega)
  have hst := fun W v al (ha : AttrsR W v al) (hbk : bulkA al ≤ bulkA e.a) hmm => startTag_any (bs e.n) v al m W (by rw [bs_size]; omega) ha (by omega) hmm
  rw [bs_data] at hst
  obtain ⟨d0, d1, d2, d3⟩ := evC_at hA.b0
  obtain ⟨c2, c4, c5, c6, f5, f6⟩ := sieve_cells hA.s
  obtain ⟨z0, z1, z2, z3, y0, y1, y2, y3⟩ := hA.cells
  have HA := hid hA
  have HM := hid (cell_low hm hB (cell_block hm))
  have HRU := hid hru
  have HCL := hid hcl
  have HST := hid hst
  have e1 : sieveL P (sk, 0) e = if P.drop.contains e.n = true then ((e.n, 1), none) else ((sk, 0), ruledF P e) := by
    unfold sieveL outL
    rw [if_neg (Nat.lt_irrefl 0), if_pos hk]
    by_cases hd : P.drop.contains e.n = true
    · rw [if_pos ⟨hk, hd⟩, if_pos hd]
    · rw [if_neg (fun h => hd h.2), if_neg hd]
  rw [e1]
  rw [hk] at d0
  obtain ⟨ro, hro⟩ : ∃ ro, ruledF P e = ro := ⟨_, rfl⟩
  rw [hro]
  have HRO := hid hro
  clear hro
  obtain ⟨cd, hcd⟩ : ∃ cd, P.drop.contains e.n = cd := ⟨_, rfl⟩
  rw [hcd] at hct ⊢
  have hnb := bs_data e.n
  obtain ⟨N, hN⟩ : ∃ N, bs e.n = N := ⟨_, rfl⟩
  rw [hN] at hct hnb d1
  simp only [hN] at HRU HST
  unfold evC zeroEv at hW1
  unfold evC
  simp only [hN] at hW1 ⊢
  simp only [hk] at hW1 ⊢
  have HCT := hid hct
  have HNB := hid hnb
  have HNN := hid hN
  clear hct hnb hN hcd e1 hA hS1 hru hcl hst h hu hF hm hB d3
  go_enter Tryz.func43, Tryz.ntmps43
  go_upto_region 1 with fail
  clear hW1
  go_quiet (first | (go_at_call 60; exact Calls.quiet_of_same (HCT.out _)))
  have HAq := HA.out.drewN nq
  cases cd with
  | true =>
    have hj := sieve_begin HAq.s N 1
    have hA2 : StA w (((W1.drewN nq).setCell ⟨b, 5, none⟩ (.string N)).setCell ⟨b, 6, none⟩ (.int .i64 (1 : Nat))) b e (.slice up e.a.length uc) (sieveC vr vs (.slice dp P.drop.length dc) P N.data.toList 1) :=
      ⟨HAq.g.trans (just_grown hj), hj.at_, (hj.other _ (by have := HAq.bb; omega)).trans HAq.b0, (hj.other _ (by have := HAq.bb; omega)).trans HAq.b1, HAq.bb⟩
    have HA2 := hid hA2
    clear hj hA2 HAq HRU HCL HST HM HA HCT
    go_upto_region 3 with fail
    obtain ⟨W3, hW3⟩ : ∃ W3, ((W1.drewN nq).setCell ⟨b, 5, none⟩ (.string N)).setCell ⟨b, 6, none⟩ (.int .i64 (1 : Nat)) = W3 := ⟨_, rfl⟩
    have hW3' : ((W1.drewN nq).setCell ⟨b, 5, none⟩ (.string N)).setCell ⟨b, 6, none⟩ (.int .i64 1) = W3 := hW3
    rw [hW3] at HA2
    simp only [hW3']
    clear hW3 hW3' z0 z1 z2 z3 y0 y1 y2 y3 c2 c4 c5 c6 f5 f6 d0 d1 d2
    obtain ⟨z0, z1, z2, z3, y0, y1, y2, y3⟩ := HA2.out.cells
    have HD := HA2.out.done (.int .i64 0) (.string ⟨#[]⟩) (.slice none 0 0) (.string ⟨#[]⟩)
    go_wp2_with fail
    refine bodyPost_ret (v := .tuple #[.agg zeroEv, .bool false]) (results_two rfl _ _ _ _ _ _ _ rfl HD.out.1 Tryz.underlying44 rfl (by kernel_rfl) _ rfl) rfl ⟨_, rfl, rfl, ?_, HD.out.2.2⟩
    have := HD.out.2.1
    rw [HNB.out] at this
    exact this
  | false =>
    clear HCT HA c5 c6 f5 f6
    go_wp2_with fail
    refine (HRU.out nq).mono ?_
    rintro r W2 ⟨rv, rfl, hrv, b2⟩
    have hA2 := HAq.below b2
    have b2' : Below W1.heap.size W1 W2 := ⟨b2.os, b2.tape, b2.output, b2.size, b2.block⟩
    have HM2 := hid (cell_low HM.out b2' (cell_block HM.out))
    clear HAq HM HRU z0 z1 z2 z3 y0 y1 y2 y3 c2 c4 d0 d1 d2
    cases hrl : ruleL P.rules e.n with
    | none =>
      rw [hrl] at hrv
      obtain rfl : rv = _ := hrv
      obtain rfl : ro = none := HRO.out.symm.trans (ruledF_none hrl)
      have hA3 : StA w (W2.alloc (.cells #[.string ⟨#[]⟩, .slice none 0 0] 53)) b e (.slice up e.a.length uc) (sieveC vr vs (.slice dp P.drop.length dc) P sk 0) := hA2.below ((Below.refl _ _).alloc (Nat.le_refl _) _)
      obtain ⟨z0, z1, z2, z3, y0, y1, y2, y3⟩ := hA3.cells
      have HD := hA3.done (.int .i64 0) (.string ⟨#[]⟩) (.slice none 0 0) (.string ⟨#[]⟩)
      clear hA2 hA3 hrl HM2 HCL HST b2 b2'
      go_wp2_with fail
      refine bodyPost_ret (v := .tuple #[.agg zeroEv, .bool false]) (results_two rfl _ _ _ _ _ _ _ rfl HD.out.1 Tryz.underlying44 rfl (by kernel_rfl) _ rfl) rfl ⟨_, rfl, rfl, HD.out.2⟩
    | some l =>
      rw [hrl] at hrv
      obtain ⟨ru, rfl, hwr⟩ := hrv
      have HRL := hid hrl
      obtain ⟨rp, rc, rfl, _⟩ := hwr.len
      have hwr2 : Words W2 (.slice rp l.length rc) l := hwr.below b2
      obtain ⟨W3, hW3⟩ : ∃ W3, W2.alloc (.cells #[.string (bs e.n), .slice rp l.length rc] 53) = W3 := ⟨_, rfl⟩
      have hb3 : Below W2.heap.size W2 W3 := by rw [← hW3]; exact (Below.refl _ _).alloc (Nat.le_refl _) _
      have hA3 := hA2.below hb3
      have hb13 := b2'.trans (hb3.mono b2'.size)
      have hcl := HCL.out W3 hb13 (.slice rp l.length rc) l (hwr2.below hb3)
      rw [HNN.out] at hcl
      obtain ⟨d0, d1, d2, -⟩ := evC_at hA3.b0
      have hr3 : W3.heap[W2.heap.size]? = some (.cells #[.string (bs e.n), .slice rp l.length rc] 53 (0, 0)) := by rw [← hW3]; exact heap_alloc_new _ _
      have r0 := cell_at hr3 (j := 0) rfl
      have r1 := cell_at hr3 (j := 1) rfl
      simp only [HNN.out] at hW3 r0 ⊢
      have HA3 := hid hA3
      have HM3 := hid (cell_low HM2.out hb3 (cell_block HM2.out))
      have HCL3 := hid hcl
      clear hA2 hA3 hrl HM2 HCL b2 b2' hb3 hb13 hcl hwr hwr2 hr3
      go_upto_region 7 with fail
      clear hW3
      go_wp2_with fail
      refine HCL3.out.mono ?_
      rintro r W4 ⟨av, rfl, hrow, b4⟩
      have hA4 := HA3.out.below b4
      have hkb := keptA_bulk P.schemes l e.a []
      have hat := attrsR_row hrow
      have hrow4 := row_low hrow HA3.out.g.size
      have hsf : ro = startF P e l := HRO.out.symm.trans (ruledF_some HRL.out)
      unfold startF at hsf
      generalize keptA P.schemes l [] e.a = K at hrow hkb hat hrow4 hsf
      obtain ⟨kp, kc, rfl⟩ := row_shape hrow
      have hm4 := cell_low HM3.out b4 (cell_block HM3.out)
      have hst := fun W (hb : Below W4.heap.size W4 W) => HST.out W (.slice kp K.length kc) K (hat.below hb) hkb.1 (cell_low hm4 hb (cell_block hm4))
      obtain ⟨S, hS⟩ : ∃ S, bs (openL e.n K) = S := ⟨_, rfl⟩
      have hSz : S.size = (openL e.n K).length := by rw [← hS, bs_size]
      rw [← hSz] at hsf
      simp only [hS] at hst
      have HST4 := hid hst
      obtain ⟨d0, d1, d2, -⟩ := evC_at hA4.b0
      rw [HNN.out] at d1
      obtain ⟨c2, c4, c5, c6, f5, f6⟩ := sieve_cells hA4.s
      obtain ⟨z0, z1, z2, z3, y0, y1, y2, y3⟩ := hA4.cells
      have HR4 := hid hrow4
      have HA4 := hid hA4
      have HSF := hid hsf
      clear hrow hkb hat hrow4 hsf hm4 hst hS hSz hA4 b4 HA3 HM3 HCL3 HST c2 c5 c6 f5 f6 r0 r1
      go_upto_region 8 with fail
      go_region_with (first | (go_at_call 68; refine (HST4.out _ (by exact ⟨rfl, rfl, rfl, Nat.le_refl _, fun _ _ => rfl⟩)).mono ?_; rintro r W5 ⟨rfl, b5⟩; have HB5 : Hid (Below W4.heap.size W4 W5) := ⟨b5.os, b5.tape, b5.output, b5.size, b5.block⟩; clear b5; obtain ⟨d0, d1, d2, -⟩ := evC_at (HA4.out.below HB5.out).b0; rw [HNN.out] at d1; have c4 := (sieve_cells (HA4.out.below HB5.out).s).2.1))
      all_goals
        have hA5 := HA4.out.below HB5.out
        have hrow5 := row_below HR4.out HB5.out
        clear z0 z1 z2 z3 y0 y1 y2 y3
        obtain ⟨z0, z1, z2, z3, y0, y1, y2, y3⟩ := hA5.cells
        by_cases hle : (S.size : Int) ≤ P.window
        · obtain rfl : ro = some (.start e.n K) := by have := HSF.out; rwa [if_pos hle] at this
          have q1 : ¬ ((S.size : Int) > P.window) := by omega
          have HD := hA5.done (.int .i64 1) (.string N) (.slice kp K.length kc) (.string ⟨#[]⟩)
          have hj := zero_just (p0 := .int .i64 1) (p1 := .string N) (p2 := .slice kp K.length kc) (p3 := .string ⟨#[]⟩) (by have := hA5.b1; unfold zeroEv at this; exact this)
          have hrow6 := row_of_block hrow5 (fun g hg => hj.other g (fun e => row_ne hrow5 hA5.b1 (by decide) (by rw [hg, e])))
          have HR6 := hid hrow6
          clear hA5 hrow5 hj hrow6 hle HSF
          go_wp2_with fail
          refine bodyPost_ret (v := .tuple #[.agg #[.int .i64 1, .string N, .slice kp K.length kc, .string ⟨#[]⟩], .bool true]) (results_two rfl _ _ _ _ _ _ _ rfl HD.out.1 Tryz.underlying44 rfl (by kernel_rfl) _ rfl) rfl ⟨_, rfl, ⟨1, N, kp, K.length, kc, ⟨#[]⟩, rfl, ⟨rfl, by rw [← HNN.out]; rfl, HR6.out, rfl⟩, trivial⟩, HD.out.2⟩
        · obtain rfl : ro = none := by have := HSF.out; rwa [if_neg hle] at this
          have q1 : (S.size : Int) > P.window := by omega
          have HD := hA5.done (.int .i64 0) (.string ⟨#[]⟩) (.slice none 0 0) (.string ⟨#[]⟩)
          clear hA5 hrow5 hle HSF
          go_wp2_with fail
          refine bodyPost_ret (v := .tuple #[.agg zeroEv, .bool false]) (results_two rfl _ _ _ _ _ _ _ rfl HD.out.1 Tryz.underlying44 rfl (by kernel_rfl) _ rfl) rfl ⟨_, rfl, rfl, HD.out.2⟩
end Go.Proofs.YtkcgmimldjeaiaaGreatDoor
