/-
  Parts of the walk, joined: PolCodeD, PolCodeE, RefBM, RefBN.
-/
import Derived.BigQuiet
import Derived.Test.YtcncbhbdpcpkeaaGreatDoorPJAP
import Derived.Test.YtcncbhbdpcpkeaaGreatDoorPJBE
/-
  policy.Check: names and drops: their walks.
-/
namespace Go.Proofs.YtcncbhbdpcpkeaaGreatDoor
open Go.RowKit Go.Lib Own

set_option maxHeartbeats 2000000 in
set_option maxRecDepth 100000 in
theorem ruleNames_any (vr : Value) (rs : List RuleP) (w : World) (h : RulesR w vr rs) (hn : rs.length ≤ 2000000) :
    Calls Tryz.prog 97 #[vr] w fun e w' => ∃ v, e = .returned v ∧ Words w' v (rs.map Prod.fst) ∧ Below w.heap.size w w' := by
  obtain ⟨i0, hi, hz0, hz1, hz2⟩ := info_parts info_str
  obtain ⟨rp, rc, rfl, hr1, hr2, hr3⟩ := h
  have HR := hid hr3
  have H0 : Hid (Below w.heap.size w w ∧ w.ownsRow w.heap.size 9 1 (.slice none 0 0) 0 (((rs.take 0).map Prod.fst).map fun s => .string (bs s))) := ⟨Below.refl _ _, World.ownsRow_nil _ _ _ _⟩
  clear hr3
  go_enter Tryz.func97, Tryz.ntmps97
  go_wp2_with fail
  go_loopw [3, 5, 8] (fun nv _ iv wr => ∃ k : Nat, iv = .int .i64 k ∧ k ≤ rs.length ∧ Hid (Below w.heap.size w wr ∧ wr.ownsRow w.heap.size 9 1 nv k (((rs.take k).map Prod.fst).map fun s => .string (bs s)))) (fun _ _ iv _ => rs.length - (RowKit.intOf iv).toNat)
  case atStart => exact ⟨0, rfl, Nat.zero_le _, H0⟩
  case round =>
    obtain ⟨k, rfl, hk, HX⟩ := hrel
    obtain ⟨np, nc, rfl⟩ := row_shape HX.out.2
    by_cases hkl : k < rs.length
    · obtain ⟨r, hr⟩ : ∃ r, rs[k]? = some r := ⟨_, List.getElem?_eq_getElem hkl⟩
      obtain ⟨b, o, u, rfl, hc1, hc3, hwu⟩ := HR.out k r hr
      have hc2 := cell_low hc1 HX.out.1 (cell_block hc1)
      replace hc3 := cell_low hc3 HX.out.1 (cell_block hc3)
      obtain ⟨up, uc, rfl, _⟩ := hwu.len
      obtain ⟨S, hS⟩ : ∃ S, bs r.1 = S := ⟨_, rfl⟩
      rw [hS] at hc2
      have hown := HX.out.2
      have hbs := HX.out.1.size
      have hst : ((rs.take (k + 1)).map Prod.fst).map (fun s => Value.string (bs s)) = ((rs.take k).map Prod.fst).map (fun s => Value.string (bs s)) ++ [.string S] := by
        rw [List.take_add_one, hr, ← hS]
        simp
      obtain ⟨LK, hLK⟩ : ∃ LK, ((rs.take k).map Prod.fst).map (fun s => Value.string (bs s)) = LK := ⟨_, rfl⟩
      rw [hLK] at hst hown
      have HST := hid (fun (_ : True) => hst)
      clear hr hc1 hS hst H0 hLK hwu
      have hcn : ∀ j u, [Value.string S][j]? = some u → ((wr.alloc (.cells #[.string S, .slice up r.2.length uc] 97)).alloc (.cells #[.string S] 9)).cell? ((⟨wr.heap.size + 1, 0, none⟩ : Addr).add j) = some u := by
        have := cells_newV [.string S] 9 (wr.alloc (.cells #[.string S, .slice up r.2.length uc] 97))
        simpa using this
      have HCN := hid hcn
      clear hcn
      go_wp2_with (at_builtin; refine wpList_append_own _ rfl (.tmp 12) (.tmp 15) 41 rfl w.heap.size 9 i0 (.string ⟨#[]⟩) 1 16 Tryz.underlying41 hi hz0 hz1 hz2 rfl (by decide) _ _ _ rfl ((hown.alloc _).alloc _) ⟨_, 0, none⟩ 1 1 [.string S] rfl rfl HCN.out (by simp [Value.oneCell']) (by unfold maxLen; omega) (by omega) (by simp; omega) ?_)
      intro v' w2 hown2 hgrow2 _
      have hbel2 : Below w.heap.size w w2 := ((HX.out.1.alloc hbs _).alloc (by simp; omega) _).grown hgrow2 (by simp; omega) (fun k hk => (hown.lt k hk).1)
      rw [← HST.out trivial] at hown2
      have HZ := hid (And.intro hbel2 hown2)
      clear hbel2 hown2 hgrow2 hown HX hc2 hc3 HCN
      go_wp2_with fail
      go_roundw
      case rel => first | exact ⟨k + 1, rfl, by omega, HZ⟩ | ((repeat apply Exists.intro); exact ⟨⟨k + 1, rfl, by omega, HZ⟩, rfl⟩)
      case measure => simp [RowKit.intOf]; omega
    · obtain rfl : k = rs.length := by omega
      have hw : Words wr (.slice np rs.length nc) (rs.map Prod.fst) := by
        have := HX.out.2
        rw [List.take_length] at this
        exact Words.row (by rw [List.length_map]; exact this)
      have HW := hid (And.intro hw HX.out.1)
      clear hw HX H0
      go_wp2_with fail
      go_ret
      exact ⟨_, rfl, HW.out.1, HW.out.2⟩

set_option maxHeartbeats 2000000 in
set_option maxRecDepth 100000 in
theorem hasBadDrop_any (vd vn : Value) (ds names : List (List UInt8)) (w : World) (h : Words w vd ds) (hn : Words w vn names) (hs : ∀ s ∈ ds, s.length ≤ 1000000000) (hl : ds.length ≤ 2000000) :
    Calls Tryz.prog 105 #[vd, vn] w fun e w' => e = .returned (.bool ((decide (64 < ds.length) || twiceL ds) || ds.any (wrongDropP names))) ∧ Below w.heap.size w w' := by
  have hb := (Below.refl w.heap.size w).alloc (Nat.le_refl _) (.cells #[vn] 41)
  have hw := heap_alloc_new w (.cells #[vn] 41)
  have htw := hasTwice_any vd ds _ (h.below hb)
  have hcf := slContainsFunc_any 166 #[.pointer (some ⟨w.heap.size, 0, none⟩)] (enters_of Tryz.func166 (by kernel_rfl) rfl) _ vd ds _ (h.below hb) (predDrop _ ds w.heap.size vn names hs (cell_at hw rfl) (hn.below hb))
  obtain ⟨dp, dc, rfl, _⟩ := h.len
  obtain ⟨np, nc, rfl, _⟩ := hn.len
  generalize twiceL ds = b1 at htw ⊢
  generalize ds.any (wrongDropP names) = b2 at hcf ⊢
  have HT := hid htw
  have HC := hid hcf
  have HB := hid hb
  have hmf : ∀ (fn : Fn) (first cap : Array Value) (w : World), (Instr.makeFunc fn first cap).run Tryz.prog w = .ok (.func fn first cap) w := fun _ _ _ _ => rfl
  clear htw hcf h hn hw hb
  by_cases h64 : 64 < ds.length
  · rw [decide_eq_true h64]
    have z : (ds.length : Int) > 64 := by omega
    go_enter Tryz.func105, Tryz.ntmps105
    go_wp2_with fail
    go_ret
    exact ⟨rfl, HB.out⟩
  · rw [decide_eq_false h64]
    have z : ¬ ((ds.length : Int) > 64) := by omega
    cases b1
    · go_enter Tryz.func105, Tryz.ntmps105
      go_wp2_with (first | (go_at_call 100; refine HT.out.mono ?_; rintro e w1 ⟨rfl, rfl⟩) | (go_at_call 98; refine HC.out.mono ?_; rintro e w1 ⟨rfl, b1⟩))
      go_ret
      exact ⟨rfl, HB.out.trans (b1.mono HB.out.size)⟩
    · go_enter Tryz.func105, Tryz.ntmps105
      go_wp2_with (go_at_call 100; refine HT.out.mono ?_; rintro e w1 ⟨rfl, rfl⟩)
      go_ret
      exact ⟨rfl, HB.out⟩
end Go.Proofs.YtcncbhbdpcpkeaaGreatDoor

/-
  policy.Check: its walk.
-/
namespace Go.Proofs.YtcncbhbdpcpkeaaGreatDoor
open Go.RowKit Go.Lib Own

/-- the first line that is true, as the code asks -/
def checkC (P : PolP) : Nat :=
  if P.depth < 1 ∨ 256 < P.depth then 1 else if P.window < 32 ∨ 4096 < P.window then 2 else if (P.rules.map Prod.fst).any (fun s => classL s == 0) = true then 3 else if twiceL (P.rules.map Prod.fst) = true then 4
  else if P.rules.any (fun r => r.2.any fun a => !attrT.contains a) = true then 5 else if P.rules.any (fun r => twiceL r.2) = true then 6 else if (decide (32 < P.schemes.length) || P.schemes.any wrongSchemeP) = true then 7
  else if twiceL P.schemes = true then 8 else if ((decide (64 < P.drop.length) || twiceL P.drop) || P.drop.any (wrongDropP (P.rules.map Prod.fst))) = true then 9 else if partsP (P.rules.map Prod.fst) = true then 10 else 0
theorem anyWrong3 (P : PolP) : anyWrongP 3 P = (P.rules.map Prod.fst).any (fun s => classL s == 0) := by
  unfold anyWrongP
  rw [decide_eq_false (by decide), decide_eq_false (by decide), Bool.false_and, Bool.false_and, Bool.or_false, Bool.or_false, List.any_map]
  rfl
theorem anyWrong5 (P : PolP) : anyWrongP 5 P = P.rules.any (fun r => r.2.any fun a => !attrT.contains a) := by
  unfold anyWrongP
  rw [decide_eq_false (by decide), decide_eq_false (by decide), Bool.false_and, Bool.false_and, Bool.or_false, Bool.or_false]
  congr 1
theorem anyWrong6 (P : PolP) : anyWrongP 6 P = P.rules.any (fun r => twiceL r.2) := by
  unfold anyWrongP
  rw [decide_eq_false (by decide), decide_eq_false (by decide), Bool.false_and, Bool.false_and, Bool.or_false, Bool.or_false]
  rfl
theorem any_false {α : Type} {p : α → Bool} {l : List α} (h : ∀ x, p x = false) : l.any p = false := by
  rw [List.any_eq_false]
  intro x _
  rw [h x]; simp
theorem anyWrong7 (P : PolP) : anyWrongP 7 P = P.schemes.any wrongSchemeP := by
  unfold anyWrongP
  rw [decide_eq_true rfl, decide_eq_false (by decide), Bool.false_and, Bool.or_false, Bool.true_and, any_false (p := wrongRuleP 7) (fun r => rfl), Bool.false_or]
theorem anyWrong9 (P : PolP) : anyWrongP 9 P = P.drop.any (wrongDropP (P.rules.map Prod.fst)) := by
  unfold anyWrongP
  rw [decide_eq_false (by decide), decide_eq_true rfl, Bool.false_and, Bool.false_or, Bool.true_and, any_false (p := wrongRuleP 9) (fun r => rfl), Bool.false_or]
theorem check_same (P : PolP) : checkC P = checkP P := by
  have h1 : wrongP 1 P = decide (P.depth < 1 ∨ 256 < P.depth) := rfl
  have h2 : wrongP 2 P = decide (P.window < 32 ∨ 4096 < P.window) := rfl
  have h3 : wrongP 3 P = (P.rules.map Prod.fst).any (fun s => classL s == 0) := anyWrong3 P
  have h4 : wrongP 4 P = twiceL (P.rules.map Prod.fst) := rfl
  have h5 : wrongP 5 P = P.rules.any (fun r => r.2.any fun a => !attrT.contains a) := anyWrong5 P
  have h6 : wrongP 6 P = P.rules.any (fun r => twiceL r.2) := anyWrong6 P
  have h7 : wrongP 7 P = (decide (32 < P.schemes.length) || P.schemes.any wrongSchemeP) := by show (_ || anyWrongP 7 P) = _; rw [anyWrong7]
  have h8 : wrongP 8 P = twiceL P.schemes := rfl
  have h9 : wrongP 9 P = ((decide (64 < P.drop.length) || twiceL P.drop) || P.drop.any (wrongDropP (P.rules.map Prod.fst))) := by show ((_ || _) || anyWrongP 9 P) = _; rw [anyWrong9]
  have h10 : wrongP 10 P = partsP (P.rules.map Prod.fst) := rfl
  unfold checkC checkP
  rw [← h3, ← h4, ← h5, ← h6, ← h7, ← h8, ← h9, ← h10]
  have d1 : (P.depth < 1 ∨ 256 < P.depth) = (wrongP 1 P = true) := by rw [h1, decide_eq_true_eq]
  have d2 : (P.window < 32 ∨ 4096 < P.window) = (wrongP 2 P = true) := by rw [h2, decide_eq_true_eq]
  simp only [checkFrom, d1, d2]
set_option maxHeartbeats 4000000 in
set_option maxRecDepth 100000 in
theorem check_any (vr vs vd : Value) (P : PolP) (w : World) (h : PolR w vr vs vd P) (hF : P.Few) (hK : KindsTab w) (hV : VAttrTab w) :
    Calls Tryz.prog 51 #[.agg (polC vr vs vd P)] w fun e w' => e = .returned (.int .i64 (checkC P)) ∧ Below w.heap.size w w' := by
  have hb0 := heap_alloc_new w (.cells (polC vr vs vd P) 43)
  have hbel0 : Below w.heap.size w (w.alloc (.cells (polC vr vs vd P) 43)) := (Below.refl w.heap.size w).alloc (Nat.le_refl _) _
  obtain ⟨W1, hW1⟩ : ∃ W1, w.alloc (.cells (polC vr vs vd P) 43) = W1 := ⟨_, rfl⟩
  rw [hW1] at hb0 hbel0
  obtain ⟨rp, rc, hvr, _⟩ := h.rules
  obtain ⟨sp, sc, hvs, _⟩ := h.schemes
  obtain ⟨dp, dc, hvd, _⟩ := h.drop
  subst hvr hvs hvd
  have g0 := hF.d0
  have g1 := hF.d1
  have g2 := hF.w0
  have g3 := hF.w1
  have f2 := hF.schemes
  have hrn := ruleNames_any _ P.rules W1 (h.rules.below hbel0) hF.rules
  -- at a world behind the names: each call
  have hst : ∀ W nv, Words W nv (P.rules.map Prod.fst) → Below w.heap.size w W → W.heap[w.heap.size]? = some (.cells (polC (.slice rp P.rules.length rc) (.slice sp P.schemes.length sc) (.slice dp P.drop.length dc) P) 43 (0, 0)) → True := fun _ _ _ _ _ => trivial
  have cEl := fun W nv (hn : Words W nv (P.rules.map Prod.fst)) hk => slContainsFunc_any 99 #[] (enters_of Tryz.func99 (by kernel_rfl) rfl) _ nv _ W hn (predEl W _ hk)
  have cTw := fun W nv (hn : Words W nv (P.rules.map Prod.fst)) => hasTwice_any nv _ W hn
  have cUn := fun W (hr : RulesR W (.slice rp P.rules.length rc) P.rules) hv => ruContainsFunc_any 102 #[] (enters_of Tryz.func102 (by kernel_rfl) rfl) _ _ _ W hr (predUnk W P.rules hv)
  have cRt := fun W (hr : RulesR W (.slice rp P.rules.length rc) P.rules) => ruContainsFunc_any 103 #[] (enters_of Tryz.func103 (by kernel_rfl) rfl) _ _ _ W hr (predTw W P.rules)
  have cSc := fun W (hr : Words W (.slice sp P.schemes.length sc) P.schemes) => slContainsFunc_any 104 #[] (enters_of Tryz.func104 (by kernel_rfl) rfl) _ _ _ W hr (predSch W P.schemes (fun s hs => Nat.le_trans (hF.slen s hs) (by omega)))
  have cSt := fun W (hr : Words W (.slice sp P.schemes.length sc) P.schemes) => hasTwice_any _ _ W hr
  have cDr := fun W nv (hd : Words W (.slice dp P.drop.length dc) P.drop) (hn : Words W nv (P.rules.map Prod.fst)) => hasBadDrop_any _ nv P.drop _ W hd hn (fun s hs => Nat.le_trans (hF.dlen s hs) (by omega)) hF.drop
  have cPa := fun W nv (hn : Words W nv (P.rules.map Prod.fst)) => lacksParts_any nv _ W hn
  obtain ⟨R, hR⟩ : ∃ R, checkC P = R := ⟨_, rfl⟩
  rw [hR]
  unfold checkC at hR
  generalize (P.rules.map Prod.fst).any (fun s => classL s == 0) = b3 at cEl hR
  generalize twiceL (P.rules.map Prod.fst) = b4 at cTw hR
  generalize P.rules.any (fun r => r.2.any fun a => !attrT.contains a) = b5 at cUn hR
  generalize P.rules.any (fun r => twiceL r.2) = b6 at cRt hR
  generalize P.schemes.any wrongSchemeP = b7 at cSc hR
  generalize twiceL P.schemes = b8 at cSt hR
  generalize ((decide (64 < P.drop.length) || twiceL P.drop) || P.drop.any (wrongDropP (P.rules.map Prod.fst))) = b9 at cDr hR
  generalize partsP (P.rules.map Prod.fst) = b10 at cPa hR
  have HR := hid (fun (_ : True) => hR)
  have HP := hid h
  have HK := hid hK
  have HV := hid hV
  have HRN := hid hrn
  have HEl := hid cEl
  have HTw := hid cTw
  have HUn := hid cUn
  have HRt := hid cRt
  have HSc := hid cSc
  have HSt := hid cSt
  have HDr := hid cDr
  have HPa := hid cPa
  have H0 := hid (And.intro hbel0 hb0)
  clear hst cEl cTw cUn cRt cSc cSt cDr cPa hR h hK hV hrn hF hb0 hbel0
  unfold polC at hW1 ⊢
  go_enter Tryz.func51, Tryz.ntmps51
  have c0 := (polC_at (P := P) H0.out.2).1
  go_wp2_with fail
  refine HRN.out.mono ?_
  rintro e w1 ⟨nv, rfl, hnw, bb1⟩
  have H1 := hid (And.intro (H0.out.1.trans (bb1.mono H0.out.1.size)) (And.intro ((bb1.block _ (block_lt H0.out.2)).trans H0.out.2) hnw))
  obtain ⟨np, nc, hnv, _⟩ := hnw.len
  rw [List.length_map] at hnv
  subst hnv
  clear hnw bb1 HRN c0 H0
  obtain ⟨c0, c1, c2, c3, c4⟩ := polC_at (P := P) H1.out.2.1
  by_cases z1 : P.depth < 1
  · go_wp2_with fail
    go_ret
    exact ⟨ret_intS (by rw [← HR.out trivial, if_pos (.inl z1)]; rfl), H1.out.1⟩
  by_cases z2 : 256 < P.depth
  · go_wp2_with fail
    go_ret
    exact ⟨ret_intS (by rw [← HR.out trivial, if_pos (.inr z2)]; rfl), H1.out.1⟩
  by_cases z3 : P.window < 32
  · go_wp2_with fail
    go_ret
    exact ⟨ret_intS (by rw [← HR.out trivial, if_neg (by omega), if_pos (.inl z3)]; rfl), H1.out.1⟩
  by_cases z4 : 4096 < P.window
  · go_wp2_with fail
    go_ret
    exact ⟨ret_intS (by rw [← HR.out trivial, if_neg (by omega), if_pos (.inr z4)]; rfl), H1.out.1⟩
  have HR2 := hid (fun (_ : True) => (by have := HR.out trivial; rwa [if_neg (by omega), if_neg (by omega)] at this))
  go_wp2_with fail
  refine (HEl.out _ _ H1.out.2.2 (HK.out.below H1.out.1)).mono ?_
  rintro e w2 ⟨rfl, bb2⟩
  have H2 := hid (And.intro (H1.out.1.trans (bb2.mono H1.out.1.size)) (And.intro ((bb2.block _ (block_lt H1.out.2.1)).trans H1.out.2.1) (H1.out.2.2.below bb2)))
  clear bb2 c0 c1 c2 c3 c4
  obtain ⟨c0, c1, c2, c3, c4⟩ := polC_at (P := P) H2.out.2.1
  cases b3 with
  | true =>
    go_wp2_with fail
    go_ret
    exact ⟨ret_intS (by rw [← HR2.out trivial]; rfl), H2.out.1⟩
  | false =>
    go_wp2_with fail
    refine (HTw.out _ _ H2.out.2.2).mono ?_
    rintro e ww ⟨rfl, rfl⟩
    cases b4 with
    | true =>
      go_wp2_with fail
      go_ret
      exact ⟨ret_intS (by rw [← HR2.out trivial]; rfl), H2.out.1⟩
    | false =>
      go_wp2_with fail
      refine (HUn.out _ (HP.out.rules.below H2.out.1) (HV.out.below H2.out.1)).mono ?_
      rintro e w3 ⟨rfl, bb3⟩
      have H3 := hid (And.intro (H2.out.1.trans (bb3.mono H2.out.1.size)) (And.intro ((bb3.block _ (block_lt H2.out.2.1)).trans H2.out.2.1) (H2.out.2.2.below bb3)))
      clear bb3 c0 c1 c2 c3 c4
      obtain ⟨c0, c1, c2, c3, c4⟩ := polC_at (P := P) H3.out.2.1
      cases b5 with
      | true =>
        go_wp2_with fail
        go_ret
        exact ⟨ret_intS (by rw [← HR2.out trivial]; rfl), H3.out.1⟩
      | false =>
        go_wp2_with fail
        refine (HRt.out _ (HP.out.rules.below H3.out.1)).mono ?_
        rintro e w4 ⟨rfl, bb4⟩
        have H4 := hid (And.intro (H3.out.1.trans (bb4.mono H3.out.1.size)) (And.intro ((bb4.block _ (block_lt H3.out.2.1)).trans H3.out.2.1) (H3.out.2.2.below bb4)))
        clear bb4 c0 c1 c2 c3 c4
        obtain ⟨c0, c1, c2, c3, c4⟩ := polC_at (P := P) H4.out.2.1
        cases b6 with
        | true =>
          go_wp2_with fail
          go_ret
          exact ⟨ret_intS (by rw [← HR2.out trivial]; rfl), H4.out.1⟩
        | false =>
          by_cases z7 : 32 < P.schemes.length
          · have y7 : (P.schemes.length : Int) > 32 := by omega
            go_wp2_with fail
            go_ret
            exact ⟨ret_intS (by rw [← HR2.out trivial, decide_eq_true z7]; rfl), H4.out.1⟩
          have y7 : ¬ ((P.schemes.length : Int) > 32) := by omega
          replace HR2 := hid (fun (_ : True) => (by have := HR2.out trivial; rwa [decide_eq_false z7, Bool.false_or] at this))
          go_wp2_with fail
          refine (HSc.out _ (HP.out.schemes.below H4.out.1)).mono ?_
          rintro e w5 ⟨rfl, bb5⟩
          have H5 := hid (And.intro (H4.out.1.trans (bb5.mono H4.out.1.size)) (And.intro ((bb5.block _ (block_lt H4.out.2.1)).trans H4.out.2.1) (H4.out.2.2.below bb5)))
          clear bb5 c0 c1 c2 c3 c4
          obtain ⟨c0, c1, c2, c3, c4⟩ := polC_at (P := P) H5.out.2.1
          cases b7 with
          | true =>
            go_wp2_with fail
            go_ret
            exact ⟨ret_intS (by rw [← HR2.out trivial]; rfl), H5.out.1⟩
          | false =>
            go_wp2_with fail
            refine (HSt.out _ (HP.out.schemes.below H5.out.1)).mono ?_
            rintro e ww ⟨rfl, rfl⟩
            cases b8 with
            | true =>
              go_wp2_with fail
              go_ret
              exact ⟨ret_intS (by rw [← HR2.out trivial]; rfl), H5.out.1⟩
            | false =>
              go_wp2_with fail
              refine (HDr.out _ _ (HP.out.drop.below H5.out.1) H5.out.2.2).mono ?_
              rintro e w6 ⟨rfl, bb6⟩
              have H6 := hid (And.intro (H5.out.1.trans (bb6.mono H5.out.1.size)) (And.intro ((bb6.block _ (block_lt H5.out.2.1)).trans H5.out.2.1) (H5.out.2.2.below bb6)))
              clear bb6 c0 c1 c2 c3 c4
              obtain ⟨c0, c1, c2, c3, c4⟩ := polC_at (P := P) H6.out.2.1
              cases b9 with
              | true =>
                go_wp2_with fail
                go_ret
                exact ⟨ret_intS (by rw [← HR2.out trivial]; rfl), H6.out.1⟩
              | false =>
                go_wp2_with fail
                refine (HPa.out _ _ H6.out.2.2).mono ?_
                rintro e w7 ⟨rfl, bb7⟩
                have H7 := hid (And.intro (H6.out.1.trans (bb7.mono H6.out.1.size)) (And.intro ((bb7.block _ (block_lt H6.out.2.1)).trans H6.out.2.1) (H6.out.2.2.below bb7)))
                clear bb7 c0 c1 c2 c3 c4
                obtain ⟨c0, c1, c2, c3, c4⟩ := polC_at (P := P) H7.out.2.1
                cases b10 with
                | true =>
                  go_wp2_with fail
                  go_ret
                  exact ⟨ret_intS (by rw [← HR2.out trivial]; rfl), H7.out.1⟩
                | false =>
                  go_wp2_with fail
                  go_ret
                  exact ⟨ret_intS (by rw [← HR2.out trivial]; rfl), H7.out.1⟩
end Go.Proofs.YtcncbhbdpcpkeaaGreatDoor

/-
  The reference's modelOf, isTable, modelAt, impliedCount: their walks.
-/
namespace Go.Proofs.YtcncbhbdpcpkeaaGreatDoor
open Go.RowKit Go.Lib Own

theorem known_all (p : List UInt8 → Prop) (h : ∀ x ∈ classT.map Prod.fst, p x) (x : List UInt8) (hx : elemL x ≠ none) : p x := by
  revert hx
  exact elem_all (fun x => elemL x ≠ none → p x) (fun x hx _ => h x hx) (fun x h1 _ h2 => absurd h1 h2) x
set_option maxHeartbeats 16000000 in
set_option maxRecDepth 100000 in
theorem modelOf_any (x : List UInt8) (w : World) (hx : elemL x ≠ none) :
    Calls Tryz.prog 86 #[.string (bs x)] w fun e w' => e = .returned (.string (bs (modW (modX x)))) ∧ w' = w := by
  revert w
  refine known_all (fun x => ∀ w, Calls Tryz.prog 86 #[.string (bs x)] w fun e w' => e = .returned (.string (bs (modW (modX x)))) ∧ w' = w) ?_ x hx
  intro x hx w
  have hcl := fun W => classOf_any (bs x) W
  rw [bs_toList, class_word] at hcl
  simp only [classT, List.map_cons, List.map_nil, List.mem_cons, List.not_mem_nil, or_false] at hx
  have e0 : bs ([] : List UInt8) = ⟨#[]⟩ := rfl
  rcases hx with rfl | rfl | rfl | rfl | rfl | rfl | rfl | rfl | rfl | rfl | rfl | rfl | rfl | rfl | rfl | rfl | rfl | rfl | rfl | rfl | rfl | rfl | rfl | rfl | rfl | rfl | rfl | rfl | rfl | rfl | rfl | rfl | rfl | rfl | rfl | rfl | rfl
  all_goals have HC := hid hcl
  all_goals clear hcl e0
  all_goals unfold bs at *
  all_goals go_enter Tryz.func86, Tryz.ntmps86
  all_goals go_wp2_with fail
  all_goals first
    | (go_ret; exact ⟨rfl, rfl⟩)
    | (refine (HC.out _).mono ?_; rintro e W1 ⟨rfl, rfl⟩; go_wp2_with fail; go_ret; exact ⟨rfl, rfl⟩)
end Go.Proofs.YtcncbhbdpcpkeaaGreatDoor

/-
  The reference's isTable, modelAt, impliedCount, closes: their walks.
-/
namespace Go.Proofs.YtcncbhbdpcpkeaaGreatDoor
open Go.RowKit Go.Lib Own

theorem modO_take_pos {op : List (List UInt8)} {n : Nat} {x : List UInt8} (h : op[n]? = some x) : modO (op.take (n + 1)) = modX x := by
  have h2 : (op.take (n + 1)).getLast? = some x := by
    rw [List.take_add_one, h]
    simp
  unfold modO
  rw [h2]
theorem modO_zero (op : List (List UInt8)) : modO (op.take 0) = 1 := rfl
set_option maxHeartbeats 2000000 in
set_option maxRecDepth 100000 in
theorem modelAt_any (pv : Value) (op : List (List UInt8)) (n : Nat) (w : World) (h : Words w pv op) (ho : ∀ x ∈ op, elemL x ≠ none) (hn : n ≤ op.length) (hl : op.length ≤ 1000000) :
    Calls Tryz.prog 40 #[pv, .int .i64 n] w fun e w' => e = .returned (.string (bs (modW (modO (op.take n))))) ∧ w' = w := by
  obtain ⟨p, c, rfl, hc, hm, hcell, _⟩ := h
  cases n with
  | zero =>
    rw [modO_zero]
    clear hcell
    go_enter Tryz.func40, Tryz.ntmps40
    go_wp2
    go_ret
    exact ⟨rfl, rfl⟩
  | succ n =>
    obtain ⟨x, hx⟩ : ∃ x, op[n]? = some x := ⟨_, List.getElem?_eq_getElem (by omega)⟩
    obtain ⟨b, o, rfl, hc1⟩ := hcell n x hx
    have hmo := fun W => modelOf_any x W (ho x (List.mem_of_getElem? hx))
    rw [modO_take_pos hx]
    have HM := hid hmo
    have w1 : IntKind.i64.wrap (((n + 1 : Nat) : Int) - 1) = (n : Int) := by rw [IntKind.wrap_i64]; omega
    have d1 : ¬ (((n + 1 : Nat) : Int) < 1) := by omega
    have d2 : ¬ ((op.length : Int) < ((n + 1 : Nat) : Int)) := by omega
    have hnc : n < c := by omega
    have hno : n < op.length := by omega
    obtain ⟨BX, hBX⟩ : ∃ n, bs x = n := ⟨_, rfl⟩
    rw [hBX] at hc1 HM
    clear hcell hx hmo ho hBX
    go_enter Tryz.func40, Tryz.ntmps40
    go_wp2_with fail
    refine (HM.out _).mono ?_
    rintro e W1 ⟨rfl, rfl⟩
    go_wp2_with fail
    go_ret
    exact ⟨rfl, rfl⟩
end Go.Proofs.YtcncbhbdpcpkeaaGreatDoor
