/-
  Parts of the walk, joined: LacksP, PolCodeE, Fresh.
-/
import Derived.Test.YtkcgmimldjeaiaaGreatDoorJoinG
import Derived.Test.YtkcgmimldjeaiaaGreatDoorJoinJ
/-
  policy.Check: the parts of lists and tables: its walk.
-/
namespace Go.Proofs.YtkcgmimldjeaiaaGreatDoor
open Go.RowKit Go.Lib Own

set_option maxHeartbeats 8000000 in
set_option maxRecDepth 100000 in
theorem lacksParts_any (vn : Value) (names : List (List UInt8)) (w : World) (hn : Words w vn names) :
    Calls Tryz.prog 41 #[vn] w fun e w' => e = .returned (.bool (partsP names)) ∧ Below w.heap.size w w' := by
  have hb := (Below.refl w.heap.size w).alloc (Nat.le_refl _) (.cells #[vn] 23)
  have hw := heap_alloc_new w (.cells #[vn] 23)
  have hone := fun X => partsOne_any X w.heap.size vn names _ (cell_at hw rfl) (hn.below hb)
  obtain ⟨np, nc, rfl, _⟩ := hn.len
  obtain ⟨f, hf⟩ : ∃ f : ByteArray → Bool, (fun X : ByteArray => names.contains X.toList) = f := ⟨_, rfl⟩
  have hone2 : ∀ X : ByteArray, Calls Tryz.prog 66 #[.string X, .pointer (some ⟨w.heap.size, 0, none⟩)] (w.alloc (.cells #[.slice np names.length nc] 23)) fun e w' => e = .returned (.bool (f X)) ∧ w' = w.alloc (.cells #[.slice np names.length nc] 23) := fun X => by rw [← hf]; exact hone X
  unfold partsP
  have eul : names.contains [117, 108] = f ⟨#[117, 108]⟩ := by rw [← hf]; show _ = names.contains (bs [117, 108]).toList; rw [bs_toList]
  have eol : names.contains [111, 108] = f ⟨#[111, 108]⟩ := by rw [← hf]; show _ = names.contains (bs [111, 108]).toList; rw [bs_toList]
  have eli : names.contains [108, 105] = f ⟨#[108, 105]⟩ := by rw [← hf]; show _ = names.contains (bs [108, 105]).toList; rw [bs_toList]
  have eta : names.contains [116, 97, 98, 108, 101] = f ⟨#[116, 97, 98, 108, 101]⟩ := by rw [← hf]; show _ = names.contains (bs [116, 97, 98, 108, 101]).toList; rw [bs_toList]
  have etb : names.contains [116, 98, 111, 100, 121] = f ⟨#[116, 98, 111, 100, 121]⟩ := by rw [← hf]; show _ = names.contains (bs [116, 98, 111, 100, 121]).toList; rw [bs_toList]
  have etr : names.contains [116, 114] = f ⟨#[116, 114]⟩ := by rw [← hf]; show _ = names.contains (bs [116, 114]).toList; rw [bs_toList]
  have etd : names.contains [116, 100] = f ⟨#[116, 100]⟩ := by rw [← hf]; show _ = names.contains (bs [116, 100]).toList; rw [bs_toList]
  rw [eul, eol, eli, eta, etb, etr, etd]
  obtain ⟨ul, hul⟩ : ∃ ul, f ⟨#[117, 108]⟩ = ul := ⟨_, rfl⟩
  obtain ⟨ol, hol⟩ : ∃ ol, f ⟨#[111, 108]⟩ = ol := ⟨_, rfl⟩
  obtain ⟨li, hli⟩ : ∃ li, f ⟨#[108, 105]⟩ = li := ⟨_, rfl⟩
  obtain ⟨ta, hta⟩ : ∃ ta, f ⟨#[116, 97, 98, 108, 101]⟩ = ta := ⟨_, rfl⟩
  obtain ⟨tb, htb⟩ : ∃ tb, f ⟨#[116, 98, 111, 100, 121]⟩ = tb := ⟨_, rfl⟩
  obtain ⟨tr, htr⟩ : ∃ tr, f ⟨#[116, 114]⟩ = tr := ⟨_, rfl⟩
  obtain ⟨td, htd⟩ : ∃ td, f ⟨#[116, 100]⟩ = td := ⟨_, rfl⟩
  rw [hul, hol, hli, hta, htb, htr, htd]
  have HONE := hid hone2
  have HB := hid hb
  have hmf : ∀ (fn : Fn) (first cap : Array Value) (w : World), (Instr.makeFunc fn first cap).run Tryz.prog w = .ok (.func fn first cap) w := fun _ _ _ _ => rfl
  have eg := enters_of Tryz.func66 (by kernel_rfl) rfl
  clear hone hone2 hf hn hw hb eul eol eli eta etb etr etd
  cases ul
  · cases ol
    · cases ta
      · go_enter Tryz.func41, Tryz.ntmps41
        go_wp2_with (go_at_call 66; refine (HONE.out _).mono ?_; rintro e w' ⟨rfl, rfl⟩)
        go_ret
        exact ⟨ret_bool (by simp), HB.out⟩
      · cases tb
        · go_enter Tryz.func41, Tryz.ntmps41
          go_wp2_with (go_at_call 66; refine (HONE.out _).mono ?_; rintro e w' ⟨rfl, rfl⟩)
          go_ret
          exact ⟨ret_bool (by simp), HB.out⟩
        · cases tr
          · go_enter Tryz.func41, Tryz.ntmps41
            go_wp2_with (go_at_call 66; refine (HONE.out _).mono ?_; rintro e w' ⟨rfl, rfl⟩)
            go_ret
            exact ⟨ret_bool (by simp), HB.out⟩
          · cases td
            · go_enter Tryz.func41, Tryz.ntmps41
              go_wp2_with (go_at_call 66; refine (HONE.out _).mono ?_; rintro e w' ⟨rfl, rfl⟩)
              go_ret
              exact ⟨ret_bool (by simp), HB.out⟩
            · go_enter Tryz.func41, Tryz.ntmps41
              go_wp2_with (go_at_call 66; refine (HONE.out _).mono ?_; rintro e w' ⟨rfl, rfl⟩)
              go_ret
              exact ⟨ret_bool (by simp), HB.out⟩
    · cases li
      · go_enter Tryz.func41, Tryz.ntmps41
        go_wp2_with (go_at_call 66; refine (HONE.out _).mono ?_; rintro e w' ⟨rfl, rfl⟩)
        go_ret
        exact ⟨ret_bool (by simp), HB.out⟩
      · cases ta
        · go_enter Tryz.func41, Tryz.ntmps41
          go_wp2_with (go_at_call 66; refine (HONE.out _).mono ?_; rintro e w' ⟨rfl, rfl⟩)
          go_ret
          exact ⟨ret_bool (by simp), HB.out⟩
        · cases tb
          · go_enter Tryz.func41, Tryz.ntmps41
            go_wp2_with (go_at_call 66; refine (HONE.out _).mono ?_; rintro e w' ⟨rfl, rfl⟩)
            go_ret
            exact ⟨ret_bool (by simp), HB.out⟩
          · cases tr
            · go_enter Tryz.func41, Tryz.ntmps41
              go_wp2_with (go_at_call 66; refine (HONE.out _).mono ?_; rintro e w' ⟨rfl, rfl⟩)
              go_ret
              exact ⟨ret_bool (by simp), HB.out⟩
            · cases td
              · go_enter Tryz.func41, Tryz.ntmps41
                go_wp2_with (go_at_call 66; refine (HONE.out _).mono ?_; rintro e w' ⟨rfl, rfl⟩)
                go_ret
                exact ⟨ret_bool (by simp), HB.out⟩
              · go_enter Tryz.func41, Tryz.ntmps41
                go_wp2_with (go_at_call 66; refine (HONE.out _).mono ?_; rintro e w' ⟨rfl, rfl⟩)
                go_ret
                exact ⟨ret_bool (by simp), HB.out⟩
  · cases li
    · go_enter Tryz.func41, Tryz.ntmps41
      go_wp2_with (go_at_call 66; refine (HONE.out _).mono ?_; rintro e w' ⟨rfl, rfl⟩)
      go_ret
      exact ⟨ret_bool (by simp), HB.out⟩
    · cases ta
      · go_enter Tryz.func41, Tryz.ntmps41
        go_wp2_with (go_at_call 66; refine (HONE.out _).mono ?_; rintro e w' ⟨rfl, rfl⟩)
        go_ret
        exact ⟨ret_bool (by simp), HB.out⟩
      · cases tb
        · go_enter Tryz.func41, Tryz.ntmps41
          go_wp2_with (go_at_call 66; refine (HONE.out _).mono ?_; rintro e w' ⟨rfl, rfl⟩)
          go_ret
          exact ⟨ret_bool (by simp), HB.out⟩
        · cases tr
          · go_enter Tryz.func41, Tryz.ntmps41
            go_wp2_with (go_at_call 66; refine (HONE.out _).mono ?_; rintro e w' ⟨rfl, rfl⟩)
            go_ret
            exact ⟨ret_bool (by simp), HB.out⟩
          · cases td
            · go_enter Tryz.func41, Tryz.ntmps41
              go_wp2_with (go_at_call 66; refine (HONE.out _).mono ?_; rintro e w' ⟨rfl, rfl⟩)
              go_ret
              exact ⟨ret_bool (by simp), HB.out⟩
            · go_enter Tryz.func41, Tryz.ntmps41
              go_wp2_with (go_at_call 66; refine (HONE.out _).mono ?_; rintro e w' ⟨rfl, rfl⟩)
              go_ret
              exact ⟨ret_bool (by simp), HB.out⟩
end Go.Proofs.YtkcgmimldjeaiaaGreatDoor

/-
  policy.Check: its walk.
-/
namespace Go.Proofs.YtkcgmimldjeaiaaGreatDoor
open Go.RowKit Go.Lib Own

/-- the first line that is true, as the code asks -/
def checkC (P : PolP) : Nat :=
  if P.depth < 1 ∨ 256 < P.depth then 1 else if P.window < 32 ∨ 4096 < P.window then 2 else if (P.rules.map Prod.fst).any (fun s => classL s == 0) = true then 3 else if twiceL (P.rules.map Prod.fst) = true then 4
  else if P.rules.any (fun r => r.2.any fun a => !attrT.contains a) = true then 5 else if P.rules.any (fun r => twiceL r.2) = true then 6 else if (decide (32 < P.schemes.length) || P.schemes.any wrongSchemeP) = true then 7
  else if twiceL P.schemes = true then 8 else if ((decide (64 < P.drop.length) || twiceL P.drop) || P.drop.any (wrongDropP (P.rules.map Prod.fst))) = true then 9 else if partsP (P.rules.map Prod.fst) = true then 10 else 0
theorem anyWrong3 (P : PolP) : anyWrongP 3 P = (P.rules.map Prod.fst).any (fun s => classL s == 0) := by
  unfold anyWrongP
  rw [decide_eq_false (by decide), decide_eq_false (by decide), Bool.false_and, Bool.false_and, Bool.or_false, Bool.or_false, List.any_map]
  rfl
theorem anyWrong5 (P : PolP) : anyWrongP 5 P = P.rules.any (fun r => r.2.any fun a => !attrT.contains a) := by
  unfold anyWrongP
  rw [decide_eq_false (by decide), decide_eq_false (by decide), Bool.false_and, Bool.false_and, Bool.or_false, Bool.or_false]
  congr 1
theorem anyWrong6 (P : PolP) : anyWrongP 6 P = P.rules.any (fun r => twiceL r.2) := by
  unfold anyWrongP
  rw [decide_eq_false (by decide), decide_eq_false (by decide), Bool.false_and, Bool.false_and, Bool.or_false, Bool.or_false]
  rfl
theorem any_false {α : Type} {p : α → Bool} {l : List α} (h : ∀ x, p x = false) : l.any p = false := by
  rw [List.any_eq_false]
  intro x _
  rw [h x]; simp
theorem anyWrong7 (P : PolP) : anyWrongP 7 P = P.schemes.any wrongSchemeP := by
  unfold anyWrongP
  rw [decide_eq_true rfl, decide_eq_false (by decide), Bool.false_and, Bool.or_false, Bool.true_and, any_false (p := wrongRuleP 7) (fun r => rfl), Bool.false_or]
theorem anyWrong9 (P : PolP) : anyWrongP 9 P = P.drop.any (wrongDropP (P.rules.map Prod.fst)) := by
  unfold anyWrongP
  rw [decide_eq_false (by decide), decide_eq_true rfl, Bool.false_and, Bool.false_or, Bool.true_and, any_false (p := wrongRuleP 9) (fun r => rfl), Bool.false_or]
theorem check_same (P : PolP) : checkC P = checkP P := by
  have h1 : wrongP 1 P = decide (P.depth < 1 ∨ 256 < P.depth) := rfl
  have h2 : wrongP 2 P = decide (P.window < 32 ∨ 4096 < P.window) := rfl
  have h3 : wrongP 3 P = (P.rules.map Prod.fst).any (fun s => classL s == 0) := anyWrong3 P
  have h4 : wrongP 4 P = twiceL (P.rules.map Prod.fst) := rfl
  have h5 : wrongP 5 P = P.rules.any (fun r => r.2.any fun a => !attrT.contains a) := anyWrong5 P
  have h6 : wrongP 6 P = P.rules.any (fun r => twiceL r.2) := anyWrong6 P
  have h7 : wrongP 7 P = (decide (32 < P.schemes.length) || P.schemes.any wrongSchemeP) := by show (_ || anyWrongP 7 P) = _; rw [anyWrong7]
  have h8 : wrongP 8 P = twiceL P.schemes := rfl
  have h9 : wrongP 9 P = ((decide (64 < P.drop.length) || twiceL P.drop) || P.drop.any (wrongDropP (P.rules.map Prod.fst))) := by show ((_ || _) || anyWrongP 9 P) = _; rw [anyWrong9]
  have h10 : wrongP 10 P = partsP (P.rules.map Prod.fst) := rfl
  unfold checkC checkP
  rw [← h3, ← h4, ← h5, ← h6, ← h7, ← h8, ← h9, ← h10]
  have d1 : (P.depth < 1 ∨ 256 < P.depth) = (wrongP 1 P = true) := by rw [h1, decide_eq_true_eq]
  have d2 : (P.window < 32 ∨ 4096 < P.window) = (wrongP 2 P = true) := by rw [h2, decide_eq_true_eq]
  simp only [checkFrom, d1, d2]
set_option maxHeartbeats 4000000 in
set_option maxRecDepth 100000 in
theorem check_any (vr vs vd : Value) (P : PolP) (w : World) (h : PolR w vr vs vd P) (hF : P.Few) (hK : KindsTab w) (hV : VAttrTab w) :
    Calls Tryz.prog 20 #[.agg (polC vr vs vd P)] w fun e w' => e = .returned (.int .i64 (checkC P)) ∧ Below w.heap.size w w' := by
  have hb0 := heap_alloc_new w (.cells (polC vr vs vd P) 25)
  have hbel0 : Below w.heap.size w (w.alloc (.cells (polC vr vs vd P) 25)) := (Below.refl w.heap.size w).alloc (Nat.le_refl _) _
  obtain ⟨W1, hW1⟩ : ∃ W1, w.alloc (.cells (polC vr vs vd P) 25) = W1 := ⟨_, rfl⟩
  rw [hW1] at hb0 hbel0
  obtain ⟨rp, rc, hvr, _⟩ := h.rules
  obtain ⟨sp, sc, hvs, _⟩ := h.schemes
  obtain ⟨dp, dc, hvd, _⟩ := h.drop
  subst hvr hvs hvd
  have g0 := hF.d0
  have g1 := hF.d1
  have g2 := hF.w0
  have g3 := hF.w1
  have f2 := hF.schemes
  have hrn := ruleNames_any _ P.rules W1 (h.rules.below hbel0) hF.rules
  -- at a world behind the names: each call
  have hst : ∀ W nv, Words W nv (P.rules.map Prod.fst) → Below w.heap.size w W → W.heap[w.heap.size]? = some (.cells (polC (.slice rp P.rules.length rc) (.slice sp P.schemes.length sc) (.slice dp P.drop.length dc) P) 25 (0, 0)) → True := fun _ _ _ _ _ => trivial
  have cEl := fun W nv (hn : Words W nv (P.rules.map Prod.fst)) hk => slContainsFunc_any 34 #[] (enters_of Tryz.func34 (by kernel_rfl) rfl) _ nv _ W hn (predEl W _ hk)
  have cTw := fun W nv (hn : Words W nv (P.rules.map Prod.fst)) => hasTwice_any nv _ W hn
  have cUn := fun W (hr : RulesR W (.slice rp P.rules.length rc) P.rules) hv => ruContainsFunc_any 37 #[] (enters_of Tryz.func37 (by kernel_rfl) rfl) _ _ _ W hr (predUnk W P.rules hv)
  have cRt := fun W (hr : RulesR W (.slice rp P.rules.length rc) P.rules) => ruContainsFunc_any 38 #[] (enters_of Tryz.func38 (by kernel_rfl) rfl) _ _ _ W hr (predTw W P.rules)
  have cSc := fun W (hr : Words W (.slice sp P.schemes.length sc) P.schemes) => slContainsFunc_any 39 #[] (enters_of Tryz.func39 (by kernel_rfl) rfl) _ _ _ W hr (predSch W P.schemes (fun s hs => Nat.le_trans (hF.slen s hs) (by omega)))
  have cSt := fun W (hr : Words W (.slice sp P.schemes.length sc) P.schemes) => hasTwice_any _ _ W hr
  have cDr := fun W nv (hd : Words W (.slice dp P.drop.length dc) P.drop) (hn : Words W nv (P.rules.map Prod.fst)) => hasBadDrop_any _ nv P.drop _ W hd hn (fun s hs => Nat.le_trans (hF.dlen s hs) (by omega)) hF.drop
  have cPa := fun W nv (hn : Words W nv (P.rules.map Prod.fst)) => lacksParts_any nv _ W hn
  obtain ⟨R, hR⟩ : ∃ R, checkC P = R := ⟨_, rfl⟩
  rw [hR]
  unfold checkC at hR
  generalize (P.rules.map Prod.fst).any (fun s => classL s == 0) = b3 at cEl hR
  generalize twiceL (P.rules.map Prod.fst) = b4 at cTw hR
  generalize P.rules.any (fun r => r.2.any fun a => !attrT.contains a) = b5 at cUn hR
  generalize P.rules.any (fun r => twiceL r.2) = b6 at cRt hR
  generalize P.schemes.any wrongSchemeP = b7 at cSc hR
  generalize twiceL P.schemes = b8 at cSt hR
  generalize ((decide (64 < P.drop.length) || twiceL P.drop) || P.drop.any (wrongDropP (P.rules.map Prod.fst))) = b9 at cDr hR
  generalize partsP (P.rules.map Prod.fst) = b10 at cPa hR
  have HR := hid (fun (_ : True) => hR)
  have HP := hid h
  have HK := hid hK
  have HV := hid hV
  have HRN := hid hrn
  have HEl := hid cEl
  have HTw := hid cTw
  have HUn := hid cUn
  have HRt := hid cRt
  have HSc := hid cSc
  have HSt := hid cSt
  have HDr := hid cDr
  have HPa := hid cPa
  have H0 := hid (And.intro hbel0 hb0)
  clear hst cEl cTw cUn cRt cSc cSt cDr cPa hR h hK hV hrn hF hb0 hbel0
  unfold polC at hW1 ⊢
  go_enter Tryz.func20, Tryz.ntmps20
  have c0 := (polC_at (P := P) H0.out.2).1
  go_wp2_with fail
  refine HRN.out.mono ?_
  rintro e w1 ⟨nv, rfl, hnw, bb1⟩
  have H1 := hid (And.intro (H0.out.1.trans (bb1.mono H0.out.1.size)) (And.intro ((bb1.block _ (block_lt H0.out.2)).trans H0.out.2) hnw))
  obtain ⟨np, nc, hnv, _⟩ := hnw.len
  rw [List.length_map] at hnv
  subst hnv
  clear hnw bb1 HRN c0 H0
  obtain ⟨c0, c1, c2, c3, c4⟩ := polC_at (P := P) H1.out.2.1
  by_cases z1 : P.depth < 1
  · go_wp2_with fail
    go_ret
    exact ⟨ret_intS (by rw [← HR.out trivial, if_pos (.inl z1)]; rfl), H1.out.1⟩
  by_cases z2 : 256 < P.depth
  · go_wp2_with fail
    go_ret
    exact ⟨ret_intS (by rw [← HR.out trivial, if_pos (.inr z2)]; rfl), H1.out.1⟩
  by_cases z3 : P.window < 32
  · go_wp2_with fail
    go_ret
    exact ⟨ret_intS (by rw [← HR.out trivial, if_neg (by omega), if_pos (.inl z3)]; rfl), H1.out.1⟩
  by_cases z4 : 4096 < P.window
  · go_wp2_with fail
    go_ret
    exact ⟨ret_intS (by rw [← HR.out trivial, if_neg (by omega), if_pos (.inr z4)]; rfl), H1.out.1⟩
  have HR2 := hid (fun (_ : True) => (by have := HR.out trivial; rwa [if_neg (by omega), if_neg (by omega)] at this))
  go_wp2_with fail
  refine (HEl.out _ _ H1.out.2.2 (HK.out.below H1.out.1)).mono ?_
  rintro e w2 ⟨rfl, bb2⟩
  have H2 := hid (And.intro (H1.out.1.trans (bb2.mono H1.out.1.size)) (And.intro ((bb2.block _ (block_lt H1.out.2.1)).trans H1.out.2.1) (H1.out.2.2.below bb2)))
  clear bb2 c0 c1 c2 c3 c4
  obtain ⟨c0, c1, c2, c3, c4⟩ := polC_at (P := P) H2.out.2.1
  cases b3 with
  | true =>
    go_wp2_with fail
    go_ret
    exact ⟨ret_intS (by rw [← HR2.out trivial]; rfl), H2.out.1⟩
  | false =>
    go_wp2_with fail
    refine (HTw.out _ _ H2.out.2.2).mono ?_
    rintro e ww ⟨rfl, rfl⟩
    cases b4 with
    | true =>
      go_wp2_with fail
      go_ret
      exact ⟨ret_intS (by rw [← HR2.out trivial]; rfl), H2.out.1⟩
    | false =>
      go_wp2_with fail
      refine (HUn.out _ (HP.out.rules.below H2.out.1) (HV.out.below H2.out.1)).mono ?_
      rintro e w3 ⟨rfl, bb3⟩
      have H3 := hid (And.intro (H2.out.1.trans (bb3.mono H2.out.1.size)) (And.intro ((bb3.block _ (block_lt H2.out.2.1)).trans H2.out.2.1) (H2.out.2.2.below bb3)))
      clear bb3 c0 c1 c2 c3 c4
      obtain ⟨c0, c1, c2, c3, c4⟩ := polC_at (P := P) H3.out.2.1
      cases b5 with
      | true =>
        go_wp2_with fail
        go_ret
        exact ⟨ret_intS (by rw [← HR2.out trivial]; rfl), H3.out.1⟩
      | false =>
        go_wp2_with fail
        refine (HRt.out _ (HP.out.rules.below H3.out.1)).mono ?_
        rintro e w4 ⟨rfl, bb4⟩
        have H4 := hid (And.intro (H3.out.1.trans (bb4.mono H3.out.1.size)) (And.intro ((bb4.block _ (block_lt H3.out.2.1)).trans H3.out.2.1) (H3.out.2.2.below bb4)))
        clear bb4 c0 c1 c2 c3 c4
        obtain ⟨c0, c1, c2, c3, c4⟩ := polC_at (P := P) H4.out.2.1
        cases b6 with
        | true =>
          go_wp2_with fail
          go_ret
          exact ⟨ret_intS (by rw [← HR2.out trivial]; rfl), H4.out.1⟩
        | false =>
          by_cases z7 : 32 < P.schemes.length
          · have y7 : (P.schemes.length : Int) > 32 := by omega
            go_wp2_with fail
            go_ret
            exact ⟨ret_intS (by rw [← HR2.out trivial, decide_eq_true z7]; rfl), H4.out.1⟩
          have y7 : ¬ ((P.schemes.length : Int) > 32) := by omega
          replace HR2 := hid (fun (_ : True) => (by have := HR2.out trivial; rwa [decide_eq_false z7, Bool.false_or] at this))
          go_wp2_with fail
          refine (HSc.out _ (HP.out.schemes.below H4.out.1)).mono ?_
          rintro e w5 ⟨rfl, bb5⟩
          have H5 := hid (And.intro (H4.out.1.trans (bb5.mono H4.out.1.size)) (And.intro ((bb5.block _ (block_lt H4.out.2.1)).trans H4.out.2.1) (H4.out.2.2.below bb5)))
          clear bb5 c0 c1 c2 c3 c4
          obtain ⟨c0, c1, c2, c3, c4⟩ := polC_at (P := P) H5.out.2.1
          cases b7 with
          | true =>
            go_wp2_with fail
            go_ret
            exact ⟨ret_intS (by rw [← HR2.out trivial]; rfl), H5.out.1⟩
          | false =>
            go_wp2_with fail
            refine (HSt.out _ (HP.out.schemes.below H5.out.1)).mono ?_
            rintro e ww ⟨rfl, rfl⟩
            cases b8 with
            | true =>
              go_wp2_with fail
              go_ret
              exact ⟨ret_intS (by rw [← HR2.out trivial]; rfl), H5.out.1⟩
            | false =>
              go_wp2_with fail
              refine (HDr.out _ _ (HP.out.drop.below H5.out.1) H5.out.2.2).mono ?_
              rintro e w6 ⟨rfl, bb6⟩
              have H6 := hid (And.intro (H5.out.1.trans (bb6.mono H5.out.1.size)) (And.intro ((bb6.block _ (block_lt H5.out.2.1)).trans H5.out.2.1) (H5.out.2.2.below bb6)))
              clear bb6 c0 c1 c2 c3 c4
              obtain ⟨c0, c1, c2, c3, c4⟩ := polC_at (P := P) H6.out.2.1
              cases b9 with
              | true =>
                go_wp2_with fail
                go_ret
                exact ⟨ret_intS (by rw [← HR2.out trivial]; rfl), H6.out.1⟩
              | false =>
                go_wp2_with fail
                refine (HPa.out _ _ H6.out.2.2).mono ?_
                rintro e w7 ⟨rfl, bb7⟩
                have H7 := hid (And.intro (H6.out.1.trans (bb7.mono H6.out.1.size)) (And.intro ((bb7.block _ (block_lt H6.out.2.1)).trans H6.out.2.1) (H6.out.2.2.below bb7)))
                clear bb7 c0 c1 c2 c3 c4
                obtain ⟨c0, c1, c2, c3, c4⟩ := polC_at (P := P) H7.out.2.1
                cases b10 with
                | true =>
                  go_wp2_with fail
                  go_ret
                  exact ⟨ret_intS (by rw [← HR2.out trivial]; rfl), H7.out.1⟩
                | false =>
                  go_wp2_with fail
                  go_ret
                  exact ⟨ret_intS (by rw [← HR2.out trivial]; rfl), H7.out.1⟩
end Go.Proofs.YtkcgmimldjeaiaaGreatDoor

/-
  The statements' freshEvents: its walk.
-/
namespace Go.Proofs.YtkcgmimldjeaiaaGreatDoor
open Go.RowKit Go.Lib Own

/-- the lists of attributes of events' cells -/
def colA : List Value → List Value
  | _ :: _ :: a :: _ :: r => a :: colA r
  | _ => []
theorem colA_get {W : World} {base : Nat} : ∀ (xs : List Value) (l : List Ev) (k : Nat), EvsAt W base xs l → k < l.length → (colA xs)[k]? = xs[k * 4 + 2]?
  | [], [], k, _, h => by simp at h
  | _ :: _ :: a :: _ :: r, e :: l, 0, _, _ => rfl
  | x0 :: x1 :: a :: x3 :: r, e :: l, k + 1, ⟨_, h2⟩, h => by
    have := colA_get r l k h2 (by simpa using h)
    show (a :: colA r)[k + 1]? = _
    rw [List.getElem?_cons_succ, this, show (k + 1) * 4 + 2 = k * 4 + 2 + 4 by omega]
    rfl
  | [], _ :: _, _, h, _ => h.elim
  | [_], _, _, h, _ => by cases ‹List Ev› <;> exact h.elim
  | [_, _], _, _, h, _ => by cases ‹List Ev› <;> exact h.elim
  | [_, _, _], _, _, h, _ => by cases ‹List Ev› <;> exact h.elim
  | _ :: _ :: _ :: _ :: _, [], _, h, _ => h.elim
theorem colA_len {W : World} {base : Nat} : ∀ (xs : List Value) (l : List Ev), EvsAt W base xs l → (colA xs).length = l.length
  | [], [], _ => rfl
  | _ :: _ :: a :: _ :: r, e :: l, ⟨_, h2⟩ => by
    have := colA_len r l h2
    show (a :: colA r).length = _
    simp [this]
  | [], _ :: _, h => h.elim
  | [_], _, h => by cases ‹List Ev› <;> exact h.elim
  | [_, _], _, h => by cases ‹List Ev› <;> exact h.elim
  | [_, _, _], _, h => by cases ‹List Ev› <;> exact h.elim
  | _ :: _ :: _ :: _ :: _, [], h => h.elim
theorem notIn_col {g : Nat} : ∀ (xs : List Value), NotIn g xs → ∀ (k : Nat) (v : Value), (colA xs)[k]? = some v → v.ownBlock ≠ some g
  | _ :: _ :: a :: _ :: r, h, 0, v, hv => by
    have : a = v := by simpa [colA] using hv
    rw [← this]
    exact h.1
  | _ :: _ :: a :: _ :: r, h, k + 1, v, hv => notIn_col r h.2 k v (by simpa [colA] using hv)
  | [], _, k, v, hv => by simp [colA] at hv
  | [_], _, k, v, hv => by simp [colA] at hv
  | [_, _], _, k, v, hv => by simp [colA] at hv
  | [_, _, _], _, k, v, hv => by simp [colA] at hv
theorem dist_of : ∀ (xs : List Value), Apart xs → Dist (colA xs)
  | _ :: _ :: a :: _ :: r, h => by
    have ih := dist_of r h.2
    intro j k v u hj hk hne g hg
    cases j with
    | zero =>
      cases k with
      | zero => exact absurd rfl hne
      | succ k =>
        have e1 : a = v := by simpa [colA] using hj
        rw [← e1] at hg
        exact notIn_col r (h.1 g hg) k u (by simpa [colA] using hk)
    | succ j =>
      cases k with
      | zero =>
        have e1 : a = u := by simpa [colA] using hk
        intro e2
        rw [← e1] at e2
        exact notIn_col r (h.1 g e2) j v (by simpa [colA] using hj) hg
      | succ k => exact ih j k v u (by simpa [colA] using hj) (by simpa [colA] using hk) (by omega) g hg
  | [], _ => fun j k v u hj => by simp [colA] at hj
  | [_], _ => fun j k v u hj => by simp [colA] at hj
  | [_, _], _ => fun j k v u hj => by simp [colA] at hj
  | [_, _, _], _ => fun j k v u hj => by simp [colA] at hj

theorem four_set {sc r : List Value} {i : Nat} {k n a t k' n' a' t' : Value} (h : sc.length = i * 4) : ((((sc ++ k :: n :: a :: t :: r).set (i * 4) k').set (i * 4 + 1) n').set (i * 4 + 2) a').set (i * 4 + 3) t' = sc ++ [k', n', a', t'] ++ r := by
  rw [← h, List.set_append, if_neg (by omega), Nat.sub_self, List.set_cons_zero, List.set_append, if_neg (by omega), Nat.add_sub_cancel_left, List.set_append, if_neg (by omega), Nat.add_sub_cancel_left, List.set_append, if_neg (by omega), Nat.add_sub_cancel_left]
  simp
/-- the rows of the attributes -/
def Rows4 (W : World) (base : Nat) (J : List Ev) (vs : List Value) : Prop := ∀ (k : Nat) (e : Ev) (v : Value), J[k]? = some e → vs[k]? = some v → W.ownsRow base 66 2 v (evA e).length (attrsV (evA e))
theorem rows4_of {W : World} {base : Nat} {xs : List Value} {J : List Ev} (h : EvsAt W base xs J) : Rows4 W base J (colA xs) := by
  intro k e v he hv
  have hk : k < J.length := (List.getElem?_eq_some_iff.1 he).1
  rw [colA_get xs J k h hk] at hv
  obtain ⟨a, _, _, h3, _, h5, _⟩ := evs_get xs J k e h he
  rw [h3] at hv
  obtain rfl := Option.some.inj hv
  exact h5
theorem Rows4.mono {W W' : World} {base : Nat} {J : List Ev} {vs : List Value} (h : Rows4 W base J vs) (hr : ∀ a n ys, W.ownsRow base 66 2 a n ys → W'.ownsRow base 66 2 a n ys) : Rows4 W' base J vs :=
  fun k e v he hv => hr _ _ _ (h k e v he hv)

/-- what freshEvents holds on its way -/
structure Frs (w W : World) (base : Nat) (J : List Ev) (vs : List Value) (gv : Value) (n : Nat) (cs : List Value) (lgv : Value) (i : Nat) : Prop where
  be : Below base w W
  got : W.ownsRow base 44 4 gv n cs
  lg : W.ownsRow base 42 1 lgv i (vs.take i)
  rows : Rows4 W base J vs
  kp : KeepT w W
/-- a list more -/
theorem Frs.list {w W w2 : World} {base : Nat} {J : List Ev} {vs : List Value} {gv lgv lgv2 v : Value} {n i : Nat} {cs : List Value} {X : Obj} (h : Frs w W base J vs gv n cs lgv i) (hb : base ≤ w.heap.size) (hv : vs[i]? = some v)
    (h2 : w2.ownsRow base 42 1 lgv2 (i + 1) (vs.take i ++ [v])) (hg : (W.alloc X).grownBy w2 lgv.ownBlock) : Frs w w2 base J vs gv n cs lgv2 (i + 1) := by
  have hbs := h.be.size
  have hlg := h.lg.alloc X
  refine ⟨h.be.trans (((Below.refl base W).alloc (by omega) X).grown hg (by simp; omega) (fun k hk => (hlg.lt k hk).1)), (h.got.alloc X).kept hg (rows_ne (h.got.alloc X) hlg (by decide)), ?_, h.rows.mono (fun a n ys hr => (hr.alloc X).kept hg (rows_ne (hr.alloc X) hlg (by decide))), h.kp.trans (KeepT.row h.lg (.inr (.inr rfl)) (fun k hk hne => (hg.block k (by simp; omega) (fun e => hne e.symm)).trans (Go.Lib.alloc_old W X k hk)))⟩
  rw [List.take_add_one, hv]
  exact h2
/-- an event is written over -/
theorem Frs.over {w W : World} {base g n c : Nat} {J : List Ev} {vs : List Value} {lgv : Value} {i l : Nat} {sc r : List Value} {k m a t k' m' a' t' : Value} (h : Frs w W base J vs (.slice (some ⟨g, 0, none⟩) n c) n (sc ++ k :: m :: a :: t :: r) lgv l) (hsc : sc.length = i * 4) (hgb : base ≤ g) :
    Frs w ((((W.setCell ⟨g, i * 4, none⟩ k').setCell ⟨g, i * 4 + 1, none⟩ m').setCell ⟨g, i * 4 + 2, none⟩ a').setCell ⟨g, i * 4 + 3, none⟩ t') base J vs (.slice (some ⟨g, 0, none⟩) n c) n (sc ++ [k', m', a', t'] ++ r) lgv l := by
  have h1 := ((((((h.got.stored (i * 4) k').1.stored (i * 4 + 1) m').1.stored (i * 4 + 2) a').1.stored (i * 4 + 3) t').1))
  rw [four_set hsc] at h1
  obtain ⟨cur, hcur⟩ : ∃ cur, W.heap[g]? = some (.cells cur 44 (0, 0)) := by
    rcases h.got.2 with ⟨e, _⟩ | ⟨g2, cap2, cur, e, _, hh, _⟩
    · cases e
    · cases e
      exact ⟨cur, hh⟩
  have hk : ∀ k2, k2 ≠ g → ((((W.setCell ⟨g, i * 4, none⟩ k').setCell ⟨g, i * 4 + 1, none⟩ m').setCell ⟨g, i * 4 + 2, none⟩ a').setCell ⟨g, i * 4 + 3, none⟩ t').heap[k2]? = W.heap[k2]? := fun k2 hne => by
    rw [heap_setCell_other _ _ _ _ hne, heap_setCell_other _ _ _ _ hne, heap_setCell_other _ _ _ _ hne, heap_setCell_other _ _ _ _ hne]
  exact ⟨(((h.be.setCell hgb _).setCell hgb _).setCell hgb _).setCell hgb _, h1, row_just h.lg hcur (by decide) hk, h.rows.mono (fun a n ys hr => row_just hr hcur (by decide) hk), h.kp.trans (KeepT.row h.got (.inl rfl) (fun k2 _ hne => hk k2 (fun e => hne (by rw [e]; rfl))))⟩
/-- the answer grows -/
theorem Frs.more {w W w2 : World} {base : Nat} {J : List Ev} {vs : List Value} {gv gv2 lgv : Value} {n i : Nat} {cs news : List Value} {X : Obj} (h : Frs w W base J vs gv n cs lgv i) (hb : base ≤ w.heap.size)
    (h2 : w2.ownsRow base 44 4 gv2 (n + 1) (cs ++ news)) (hg : (W.alloc X).grownBy w2 gv.ownBlock) : Frs w w2 base J vs gv2 (n + 1) (cs ++ news) lgv i := by
  have hbs := h.be.size
  have hgt := h.got.alloc X
  exact ⟨h.be.trans (((Below.refl base W).alloc (by omega) X).grown hg (by simp; omega) (fun k hk => (hgt.lt k hk).1)), h2, (h.lg.alloc X).kept hg (rows_ne (h.lg.alloc X) hgt (by decide)), h.rows.mono (fun a n ys hr => (hr.alloc X).kept hg (rows_ne (hr.alloc X) hgt (by decide))), h.kp.trans (KeepT.row h.got (.inl rfl) (fun k hk hne => (hg.block k (by simp; omega) (fun e => hne e.symm)).trans (Go.Lib.alloc_old W X k hk)))⟩

theorem drop_four {xs : List Value} {N i : Nat} (h : xs.length = N * 4) (hi : i < N) : ∃ k n a t, xs.drop (i * 4) = k :: n :: a :: t :: xs.drop ((i + 1) * 4) ∧ xs[i * 4 + 2]? = some a := by
  have h0 : i * 4 < xs.length := by omega
  have h1 : i * 4 + 1 < xs.length := by omega
  have h2 : i * 4 + 1 + 1 < xs.length := by omega
  have h3 : i * 4 + 1 + 1 + 1 < xs.length := by omega
  refine ⟨xs[i * 4], xs[i * 4 + 1], xs[i * 4 + 1 + 1], xs[i * 4 + 1 + 1 + 1], ?_, List.getElem?_eq_getElem h2⟩
  rw [List.drop_eq_getElem_cons h0, List.drop_eq_getElem_cons h1, List.drop_eq_getElem_cons h2, List.drop_eq_getElem_cons h3, show i * 4 + 1 + 1 + 1 + 1 = (i + 1) * 4 by omega]
theorem ev4_at {sc r : List Value} {i : Nat} {k n a t : Value} (h : sc.length = i * 4) : (sc ++ k :: n :: a :: t :: r)[i * 4]? = some k ∧ (sc ++ k :: n :: a :: t :: r)[i * 4 + 1]? = some n ∧ (sc ++ k :: n :: a :: t :: r)[i * 4 + 2]? = some a ∧ (sc ++ k :: n :: a :: t :: r)[i * 4 + 3]? = some t := by
  rw [← h]
  refine ⟨?_, ?_, ?_, ?_⟩
  · rw [List.getElem?_append_right (by omega), Nat.sub_self]; rfl
  · rw [List.getElem?_append_right (by omega), Nat.add_sub_cancel_left]; rfl
  · rw [List.getElem?_append_right (by omega), Nat.add_sub_cancel_left]; rfl
  · rw [List.getElem?_append_right (by omega), Nat.add_sub_cancel_left]; rfl

set_option maxHeartbeats 8000000 in
set_option maxRecDepth 100000 in
theorem fresh_any (base B2 : Nat) (gv dv : Value) (xs ys : List Value) (J : List Ev) (a : Option Addr) (mc : Nat) (ss : List ByteArray) (w : World) (hg : w.ownsRow base 44 4 gv J.length xs) (he : EvsAt w base xs J) (hap : Apart xs) (hd : w.ownsRow B2 44 4 dv J.length ys) (hde : EvsAt w B2 ys J)
    (hJ : J.length ≤ 5000000) (hA : ∀ e ∈ J, (evA e).length ≤ 5000000) (hb : base ≤ w.heap.size) (hs : ss.length ≤ 5000000) (hw : WordsAt w base a ss) (hP : PowB base w) :
    Calls Tryz.prog 8 #[gv, dv, .slice a ss.length mc] w fun e w' => e = .returned (.bool true) ∧ Below base w w' ∧ KeepT w w' := by
  have hsame := sameEvents_any base B2 gv dv xs ys J w hg he hd hde
  obtain ⟨p, c, rfl⟩ := row_shape hg
  obtain ⟨p2, c2, rfl⟩ := row_shape hd
  obtain ⟨vs, hvs⟩ : ∃ vs, colA xs = vs := ⟨_, rfl⟩
  have hvl : vs.length = J.length := by rw [← hvs]; exact colA_len xs J he
  have hcol : ∀ k, k < J.length → vs[k]? = xs[k * 4 + 2]? := fun k hk => by rw [← hvs]; exact colA_get xs J k he hk
  have hD : Dist vs := by rw [← hvs]; exact dist_of xs hap
  have hR4 : Rows4 w base J vs := by rw [← hvs]; exact rows4_of he
  have hxl : xs.length = J.length * 4 := evs_len xs J he
  have hns : ∀ k, k < J.length → ((J[k]?.map fun e => (evA e).length).getD 0) ≤ 5000000 := fun k hk => by
    rw [List.getElem?_eq_getElem hk]
    exact hA _ (List.getElem_mem hk)
  have hfam : ∀ W, Rows4 W base J vs → Fam W base vs (fun k => (J[k]?.map fun e => (evA e).length).getD 0) 0 := fun W h => ⟨fun k v hk => by
    have hkl : k < J.length := by rw [← hvl]; exact (List.getElem?_eq_some_iff.1 hk).1
    refine ⟨fun h => absurd h (Nat.not_lt_zero _), attrsV (evA J[k]), ?_⟩
    have := h k J[k] v (List.getElem?_eq_getElem hkl) hk
    simp only [List.getElem?_eq_getElem hkl, Option.map_some, Option.getD_some]
    exact this⟩
  have hone : ∀ k, k < J.length → ∀ W, Rows4 W base J vs → ∀ v, vs[k]? = some v → ∃ p n c, v = .slice p n c := fun k hk W h v hv => by
    obtain ⟨p, c, e⟩ := row_shape (h k J[k] v (List.getElem?_eq_getElem hk) hv)
    exact ⟨p, _, c, e⟩
  obtain ⟨N, hN⟩ : ∃ N, J.length = N := ⟨_, rfl⟩
  rw [hN] at hsame hg hd hJ hvl hcol hxl hns hone ⊢
  have hfin : ∀ lv W, Frs w W base J vs (.slice p N c) N xs lv N → True := fun _ _ _ => trivial
  have hend : ∀ (lp : Option Addr) (lc : Nat) (gv2 : Value) (n2 : Nat) (cs2 : List Value) (W : World), Frs w W base J vs gv2 n2 cs2 (.slice lp N lc) N → Calls Tryz.prog 23 #[.slice lp N lc, .slice a ss.length mc] W fun e w' => e = .returned (.bool true) ∧ Below base w w' ∧ KeepT w w' := fun lp lc gv2 n2 cs2 W h => by
    have hl := h.lg
    have hbs := h.be.size
    rw [List.take_of_length_le (by omega)] at hl
    have := apart_any base (.slice lp N lc) vs (fun k => (J[k]?.map fun e => (evA e).length).getD 0) a mc ss W (by rw [hvl]; exact hl) (hfam W h.rows) hD (by rw [hvl]; exact hns) (by omega) (by omega) hs (hw.below h.be) (hP.below h.be)
    exact this.mono fun e w' h2 => ⟨h2.1, h.be.trans h2.2.1, h.kp.trans h2.2.2⟩
  have H0 : ∀ nd, Frs w (w.drewN nd) base J vs (.slice p N c) N xs (.slice none 0 0) 0 := fun nd => ⟨below_drewN (Below.refl base w) nd, hg, World.ownsRow_nil _ _ _ _, hR4, KeepT.refl _⟩
  obtain ⟨li0, lhi, lhz0, lhz1, lhz2⟩ := info_parts info_list
  obtain ⟨ei0, ehi, ehz0, ehz1, ehz2⟩ := info_parts info_event
  have HS := hid hsame
  have H0 := hid H0
  have HEND := hid hend
  have HONE := hid hone
  have HCOL := hid hcol
  have HXL := hid (fun (_ : True) => hxl)
  have HVL := hid (fun (_ : True) => hvl)
  have HW := hid hw
  clear hsame hend hone hcol hxl hvl hvs hg hd he hde hap hD hR4 hns hfam hfin hN hA hw hP
  go_enter Tryz.func8, Tryz.ntmps8
  go_wp2_with (go_at_call 11; refine HS.out.mono ?_; rintro e w1 ⟨rfl, nd, rfl⟩)
  go_loopw [7, 16] (fun lgv iv wr => ∃ (i : Nat) (sc r : List Value), iv = .int .i64 i ∧ i ≤ N ∧ Hid (Frs w wr base J vs (.slice p N c) N (sc ++ r) lgv i ∧ sc.length = i * 4 ∧ r = xs.drop (i * 4))) (fun _ iv _ => N - (RowKit.intOf iv).toNat)
  case atStart => exact ⟨0, [], xs, rfl, Nat.zero_le _, hid ⟨H0.out nd, rfl, rfl⟩⟩
  case round =>
    obtain ⟨i, sc, r, rfl, hi, HX⟩ := hrel
    obtain ⟨lgp, lgc, rfl⟩ := row_shape HX.out.1.lg
    by_cases hiN : i < N
    · obtain ⟨k0, n0, a0, t0, hr4, ha0⟩ := drop_four (HXL.out trivial) hiN
      have hv := HCOL.out i hiN
      rw [ha0] at hv
      obtain ⟨ap, an, ac, rfl⟩ := HONE.out i hiN _ HX.out.1.rows _ hv
      have hX1 := HX.out.1
      rw [HX.out.2.2, hr4] at hX1
      have hX2 := HX.out.2.1
      obtain ⟨g, cap, e0, hg1, hg2, hgc⟩ := row_at hX1.got (by omega)
      cases e0
      obtain ⟨q0, q1, q2, q3⟩ := ev4_at (r := xs.drop ((i + 1) * 4)) (k := k0) (n := n0) (a := .slice ap an ac) (t := t0) hX2
      have c2 := (hgc (i * 4 + 2) (by omega)).trans q2
      have hlg := hX1.lg
      have hbs := hX1.be.size
      have HX1 := hid hX1
      have HX2 := hid (fun (_ : True) => hX2)
      have HV := hid hv
      have HQ := hid (And.intro q0 (And.intro q1 (And.intro q2 q3)))
      clear hX1 hX2 hv hgc q0 q1 q2 q3 hr4 ha0 HX
      go_wp2_with (at_builtin; refine wpList_append_own _ rfl (.tmp 19) (.tmp 25) 32 rfl base 42 li0 (.slice none 0 0) 1 24 Tryz.underlying32 lhi lhz0 lhz1 lhz2 rfl (by decide) _ _ _ rfl (hlg.alloc _) ⟨_, 0, none⟩ 1 1 [.slice ap an ac] rfl rfl (cells_newV _ _ _) (by simp [Value.oneCell']) (by unfold maxLen; omega) (by omega) (by simp; omega) ?_)
      intro v' w2 hown2 hgrow2 _
      have F2 := HX1.out.list hb HV.out hown2 hgrow2
      obtain ⟨g', cap', e1, hg1', hg2', hgc⟩ := row_at F2.got (by omega)
      cases e1
      obtain ⟨q0, q1, q2, q3⟩ := HQ.out
      have k0 := (hgc (i * 4) (by omega)).trans q0
      have k1 := (hgc (i * 4 + 1) (by omega)).trans q1
      have k2 := (hgc (i * 4 + 2) (by omega)).trans q2
      have k3 := (hgc (i * 4 + 3) (by omega)).trans q3
      have f0 := F2.got.frozenAt (i * 4)
      have f1 := F2.got.frozenAt (i * 4 + 1)
      have f2 := F2.got.frozenAt (i * 4 + 2)
      have f3 := F2.got.frozenAt (i * 4 + 3)
      have hov := F2.over (k' := .int .i64 0) (m' := .string ⟨#[115, 99, 114, 97, 119, 108]⟩) (a' := .slice none 0 0) (t' := .string ⟨#[]⟩) (HX2.out trivial) hg1'
      have hsl : (sc ++ [Value.int .i64 0, .string ⟨#[115, 99, 114, 97, 119, 108]⟩, .slice none 0 0, .string ⟨#[]⟩]).length = (i + 1) * 4 := by
        rw [List.length_append, HX2.out trivial]
        simp
        omega
      have HZ := hid (And.intro hov (And.intro hsl (rfl : xs.drop ((i + 1) * 4) = xs.drop ((i + 1) * 4))))
      clear hov hsl hown2 hgrow2 F2 hgc q0 q1 q2 q3 HX1 HX2 HQ HV hlg
      go_wp2
      go_roundw
      case rel => first | exact ⟨i + 1, _, _, rfl, by omega, HZ⟩ | ((repeat apply Exists.intro); exact ⟨⟨i + 1, _, _, rfl, by omega, HZ⟩, rfl⟩)
      case measure => simp [RowKit.intOf]; omega
    · obtain rfl : i = N := by omega
      have hX1 := HX.out.1
      have hgt := hX1.got
      have hbs := hX1.be.size
      obtain ⟨cs0, hcs0⟩ : ∃ cs0, sc ++ r = cs0 := ⟨_, rfl⟩
      rw [hcs0] at hX1 hgt
      have HX1 := hid hX1
      clear hX1 hcs0 HX
      go_wp2_with (at_builtin; refine wpList_append_own _ rfl (.tmp 32) (.tmp 34) 26 rfl base 44 ei0 (.agg #[.int .i64 0, .string ⟨#[]⟩, .slice none 0 0, .string ⟨#[]⟩]) 4 64 Tryz.underlying26 ehi ehz0 ehz1 ehz2 rfl (by decide) _ _ _ rfl (hgt.alloc _) ⟨_, 0, none⟩ 1 1 [.int .i64 0, .string ⟨#[115, 99, 114, 97, 119, 108]⟩, .slice none 0 0, .string ⟨#[]⟩] rfl rfl (cells_newV _ _ _) (by simp [Value.oneCell']) (by unfold maxLen; omega) (by omega) (by simp; omega) ?_)
      intro v' w2 hown2 hgrow2 _
      have F2 := hid (HX1.out.more hb hown2 hgrow2)
      clear hown2 hgrow2 HX1 hgt
      go_wp2_with fail
      go_loopw [0, 38] (fun gv2 iv wr => ∃ (k : Nat) (cs2 : List Value), iv = .int .i64 k ∧ k ≤ ss.length ∧ Hid (Frs w wr base J vs gv2 (i + 1 + k) cs2 (.slice lgp i lgc) i)) (fun _ iv _ => ss.length - (RowKit.intOf iv).toNat)
      case atStart => exact ⟨0, _, rfl, Nat.zero_le _, F2⟩
      case round =>
        obtain ⟨k, cs2, rfl, hk, HF⟩ := hrel
        clear F2
        obtain ⟨gp, gc, rfl⟩ := row_shape HF.out.got
        by_cases hkl : k < ss.length
        · obtain ⟨b, o, rfl, hb2, hc⟩ := HW.out.at_ k hkl
          have hc2 := cell_low hc HF.out.be hb2
          obtain ⟨x, hx⟩ : ∃ x, ss.getD k ByteArray.empty = x := ⟨_, rfl⟩
          rw [hx] at hc2
          have hgt := HF.out.got
          have hbs := HF.out.be.size
          clear hc hx
          go_wp2_with (at_builtin; refine wpList_append_own _ rfl (.tmp 41) (.tmp 47) 26 rfl base 44 ei0 (.agg #[.int .i64 0, .string ⟨#[]⟩, .slice none 0 0, .string ⟨#[]⟩]) 4 64 Tryz.underlying26 ehi ehz0 ehz1 ehz2 rfl (by decide) _ _ _ rfl (hgt.alloc _) ⟨_, 0, none⟩ 1 1 [.int .i64 0, .string x, .slice none 0 0, .string ⟨#[]⟩] rfl rfl (cells_newV _ _ _) (by simp [Value.oneCell']) (by unfold maxLen; omega) (by omega) (by simp; omega) ?_)
          intro v3 w3 hown3 hgrow3 _
          have F3 := hid (HF.out.more hb hown3 hgrow3)
          clear hown3 hgrow3 HF hgt
          go_wp2
          go_roundw
          case rel => first | exact ⟨k + 1, _, rfl, by omega, F3⟩ | ((repeat apply Exists.intro); exact ⟨⟨k + 1, _, rfl, by omega, F3⟩, rfl⟩)
          case measure => simp [RowKit.intOf]; omega
        · go_wp2_with (go_at_call 23; refine (HEND.out _ _ _ _ _ _ HF.out).mono ?_; rintro e w4 ⟨rfl, b4, k4⟩)
          go_ret
          exact ⟨rfl, b4, k4⟩
end Go.Proofs.YtkcgmimldjeaiaaGreatDoor
