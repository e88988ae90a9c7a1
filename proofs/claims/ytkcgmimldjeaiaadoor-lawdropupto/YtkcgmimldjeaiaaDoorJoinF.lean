/-
  Parts of the walk, joined: PolCodeE, FiltC, DropM, DropLaw.
-/
import Derived.Test.YtkcgmimldjeaiaaDoorJoinB
import Derived.Test.YtkcgmimldjeaiaaDoorJoinE
import Derived.Test.YtkcgmimldjeaiaaDoorJoinC
import Derived.Test.YtkcgmimldjeaiaaDoorJoinD
/-
  policy.Check: its walk.
-/
namespace Go.Proofs.YtkcgmimldjeaiaaDoor
open Go.RowKit Go.Lib Own

/-- the first line that is true, as the code asks -/
def checkC (P : PolP) : Nat :=
  if P.depth < 1 ∨ 256 < P.depth then 1 else if P.window < 32 ∨ 4096 < P.window then 2 else if (P.rules.map Prod.fst).any (fun s => classL s == 0) = true then 3 else if twiceL (P.rules.map Prod.fst) = true then 4
  else if P.rules.any (fun r => r.2.any fun a => !attrT.contains a) = true then 5 else if P.rules.any (fun r => twiceL r.2) = true then 6 else if (decide (32 < P.schemes.length) || P.schemes.any wrongSchemeP) = true then 7
  else if twiceL P.schemes = true then 8 else if ((decide (64 < P.drop.length) || twiceL P.drop) || P.drop.any (wrongDropP (P.rules.map Prod.fst))) = true then 9 else if partsP (P.rules.map Prod.fst) = true then 10 else 0
theorem anyWrong3 (P : PolP) : anyWrongP 3 P = (P.rules.map Prod.fst).any (fun s => classL s == 0) := by
  unfold anyWrongP
  rw [decide_eq_false (by decide), decide_eq_false (by decide), Bool.false_and, Bool.false_and, Bool.or_false, Bool.or_false, List.any_map]
  rfl
theorem anyWrong5 (P : PolP) : anyWrongP 5 P = P.rules.any (fun r => r.2.any fun a => !attrT.contains a) := by
  unfold anyWrongP
  rw [decide_eq_false (by decide), decide_eq_false (by decide), Bool.false_and, Bool.false_and, Bool.or_false, Bool.or_false]
  congr 1
theorem anyWrong6 (P : PolP) : anyWrongP 6 P = P.rules.any (fun r => twiceL r.2) := by
  unfold anyWrongP
  rw [decide_eq_false (by decide), decide_eq_false (by decide), Bool.false_and, Bool.false_and, Bool.or_false, Bool.or_false]
  rfl
theorem any_false {α : Type} {p : α → Bool} {l : List α} (h : ∀ x, p x = false) : l.any p = false := by
  rw [List.any_eq_false]
  intro x _
  rw [h x]; simp
theorem anyWrong7 (P : PolP) : anyWrongP 7 P = P.schemes.any wrongSchemeP := by
  unfold anyWrongP
  rw [decide_eq_true rfl, decide_eq_false (by decide), Bool.false_and, Bool.or_false, Bool.true_and, any_false (p := wrongRuleP 7) (fun r => rfl), Bool.false_or]
theorem anyWrong9 (P : PolP) : anyWrongP 9 P = P.drop.any (wrongDropP (P.rules.map Prod.fst)) := by
  unfold anyWrongP
  rw [decide_eq_false (by decide), decide_eq_true rfl, Bool.false_and, Bool.false_or, Bool.true_and, any_false (p := wrongRuleP 9) (fun r => rfl), Bool.false_or]
theorem check_same (P : PolP) : checkC P = checkP P := by
  have h1 : wrongP 1 P = decide (P.depth < 1 ∨ 256 < P.depth) := rfl
  have h2 : wrongP 2 P = decide (P.window < 32 ∨ 4096 < P.window) := rfl
  have h3 : wrongP 3 P = (P.rules.map Prod.fst).any (fun s => classL s == 0) := anyWrong3 P
  have h4 : wrongP 4 P = twiceL (P.rules.map Prod.fst) := rfl
  have h5 : wrongP 5 P = P.rules.any (fun r => r.2.any fun a => !attrT.contains a) := anyWrong5 P
  have h6 : wrongP 6 P = P.rules.any (fun r => twiceL r.2) := anyWrong6 P
  have h7 : wrongP 7 P = (decide (32 < P.schemes.length) || P.schemes.any wrongSchemeP) := by show (_ || anyWrongP 7 P) = _; rw [anyWrong7]
  have h8 : wrongP 8 P = twiceL P.schemes := rfl
  have h9 : wrongP 9 P = ((decide (64 < P.drop.length) || twiceL P.drop) || P.drop.any (wrongDropP (P.rules.map Prod.fst))) := by show ((_ || _) || anyWrongP 9 P) = _; rw [anyWrong9]
  have h10 : wrongP 10 P = partsP (P.rules.map Prod.fst) := rfl
  unfold checkC checkP
  rw [← h3, ← h4, ← h5, ← h6, ← h7, ← h8, ← h9, ← h10]
  have d1 : (P.depth < 1 ∨ 256 < P.depth) = (wrongP 1 P = true) := by rw [h1, decide_eq_true_eq]
  have d2 : (P.window < 32 ∨ 4096 < P.window) = (wrongP 2 P = true) := by rw [h2, decide_eq_true_eq]
  simp only [checkFrom, d1, d2]
set_option maxHeartbeats 4000000 in
set_option maxRecDepth 100000 in
theorem check_any (vr vs vd : Value) (P : PolP) (w : World) (h : PolR w vr vs vd P) (hF : P.Few) (hK : KindsTab w) (hV : VAttrTab w) :
    Calls Tryd.prog 36 #[.agg (polC vr vs vd P)] w fun e w' => e = .returned (.int .i64 (checkC P)) ∧ Below w.heap.size w w' := by
  have hb0 := heap_alloc_new w (.cells (polC vr vs vd P) 35)
  have hbel0 : Below w.heap.size w (w.alloc (.cells (polC vr vs vd P) 35)) := (Below.refl w.heap.size w).alloc (Nat.le_refl _) _
  obtain ⟨W1, hW1⟩ : ∃ W1, w.alloc (.cells (polC vr vs vd P) 35) = W1 := ⟨_, rfl⟩
  rw [hW1] at hb0 hbel0
  obtain ⟨rp, rc, hvr, _⟩ := h.rules
  obtain ⟨sp, sc, hvs, _⟩ := h.schemes
  obtain ⟨dp, dc, hvd, _⟩ := h.drop
  subst hvr hvs hvd
  have g0 := hF.d0
  have g1 := hF.d1
  have g2 := hF.w0
  have g3 := hF.w1
  have f2 := hF.schemes
  have hrn := ruleNames_any _ P.rules W1 (h.rules.below hbel0) hF.rules
  -- at a world behind the names: each call
  have hst : ∀ W nv, Words W nv (P.rules.map Prod.fst) → Below w.heap.size w W → W.heap[w.heap.size]? = some (.cells (polC (.slice rp P.rules.length rc) (.slice sp P.schemes.length sc) (.slice dp P.drop.length dc) P) 35 (0, 0)) → True := fun _ _ _ _ _ => trivial
  have cEl := fun W nv (hn : Words W nv (P.rules.map Prod.fst)) hk => slContainsFunc_any 63 #[] (enters_of Tryd.func63 (by kernel_rfl) rfl) _ nv _ W hn (predEl W _ hk)
  have cTw := fun W nv (hn : Words W nv (P.rules.map Prod.fst)) => hasTwice_any nv _ W hn
  have cUn := fun W (hr : RulesR W (.slice rp P.rules.length rc) P.rules) hv => ruContainsFunc_any 66 #[] (enters_of Tryd.func66 (by kernel_rfl) rfl) _ _ _ W hr (predUnk W P.rules hv)
  have cRt := fun W (hr : RulesR W (.slice rp P.rules.length rc) P.rules) => ruContainsFunc_any 67 #[] (enters_of Tryd.func67 (by kernel_rfl) rfl) _ _ _ W hr (predTw W P.rules)
  have cSc := fun W (hr : Words W (.slice sp P.schemes.length sc) P.schemes) => slContainsFunc_any 68 #[] (enters_of Tryd.func68 (by kernel_rfl) rfl) _ _ _ W hr (predSch W P.schemes (fun s hs => Nat.le_trans (hF.slen s hs) (by omega)))
  have cSt := fun W (hr : Words W (.slice sp P.schemes.length sc) P.schemes) => hasTwice_any _ _ W hr
  have cDr := fun W nv (hd : Words W (.slice dp P.drop.length dc) P.drop) (hn : Words W nv (P.rules.map Prod.fst)) => hasBadDrop_any _ nv P.drop _ W hd hn (fun s hs => Nat.le_trans (hF.dlen s hs) (by omega)) hF.drop
  have cPa := fun W nv (hn : Words W nv (P.rules.map Prod.fst)) => lacksParts_any nv _ W hn
  obtain ⟨R, hR⟩ : ∃ R, checkC P = R := ⟨_, rfl⟩
  rw [hR]
  unfold checkC at hR
  generalize (P.rules.map Prod.fst).any (fun s => classL s == 0) = b3 at cEl hR
  generalize twiceL (P.rules.map Prod.fst) = b4 at cTw hR
  generalize P.rules.any (fun r => r.2.any fun a => !attrT.contains a) = b5 at cUn hR
  generalize P.rules.any (fun r => twiceL r.2) = b6 at cRt hR
  generalize P.schemes.any wrongSchemeP = b7 at cSc hR
  generalize twiceL P.schemes = b8 at cSt hR
  generalize ((decide (64 < P.drop.length) || twiceL P.drop) || P.drop.any (wrongDropP (P.rules.map Prod.fst))) = b9 at cDr hR
  generalize partsP (P.rules.map Prod.fst) = b10 at cPa hR
  have HR := hid (fun (_ : True) => hR)
  have HP := hid h
  have HK := hid hK
  have HV := hid hV
  have HRN := hid hrn
  have HEl := hid cEl
  have HTw := hid cTw
  have HUn := hid cUn
  have HRt := hid cRt
  have HSc := hid cSc
  have HSt := hid cSt
  have HDr := hid cDr
  have HPa := hid cPa
  have H0 := hid (And.intro hbel0 hb0)
  clear hst cEl cTw cUn cRt cSc cSt cDr cPa hR h hK hV hrn hF hb0 hbel0
  unfold polC at hW1 ⊢
  go_enter Tryd.func36, Tryd.ntmps36
  have c0 := (polC_at (P := P) H0.out.2).1
  go_wp2_with fail
  refine HRN.out.mono ?_
  rintro e w1 ⟨nv, rfl, hnw, bb1⟩
  have H1 := hid (And.intro (H0.out.1.trans (bb1.mono H0.out.1.size)) (And.intro ((bb1.block _ (block_lt H0.out.2)).trans H0.out.2) hnw))
  obtain ⟨np, nc, hnv, _⟩ := hnw.len
  rw [List.length_map] at hnv
  subst hnv
  clear hnw bb1 HRN c0 H0
  obtain ⟨c0, c1, c2, c3, c4⟩ := polC_at (P := P) H1.out.2.1
  by_cases z1 : P.depth < 1
  · go_wp2_with fail
    go_ret
    exact ⟨ret_intS (by rw [← HR.out trivial, if_pos (.inl z1)]; rfl), H1.out.1⟩
  by_cases z2 : 256 < P.depth
  · go_wp2_with fail
    go_ret
    exact ⟨ret_intS (by rw [← HR.out trivial, if_pos (.inr z2)]; rfl), H1.out.1⟩
  by_cases z3 : P.window < 32
  · go_wp2_with fail
    go_ret
    exact ⟨ret_intS (by rw [← HR.out trivial, if_neg (by omega), if_pos (.inl z3)]; rfl), H1.out.1⟩
  by_cases z4 : 4096 < P.window
  · go_wp2_with fail
    go_ret
    exact ⟨ret_intS (by rw [← HR.out trivial, if_neg (by omega), if_pos (.inr z4)]; rfl), H1.out.1⟩
  have HR2 := hid (fun (_ : True) => (by have := HR.out trivial; rwa [if_neg (by omega), if_neg (by omega)] at this))
  go_wp2_with fail
  refine (HEl.out _ _ H1.out.2.2 (HK.out.below H1.out.1)).mono ?_
  rintro e w2 ⟨rfl, bb2⟩
  have H2 := hid (And.intro (H1.out.1.trans (bb2.mono H1.out.1.size)) (And.intro ((bb2.block _ (block_lt H1.out.2.1)).trans H1.out.2.1) (H1.out.2.2.below bb2)))
  clear bb2 c0 c1 c2 c3 c4
  obtain ⟨c0, c1, c2, c3, c4⟩ := polC_at (P := P) H2.out.2.1
  cases b3 with
  | true =>
    go_wp2_with fail
    go_ret
    exact ⟨ret_intS (by rw [← HR2.out trivial]; rfl), H2.out.1⟩
  | false =>
    go_wp2_with fail
    refine (HTw.out _ _ H2.out.2.2).mono ?_
    rintro e ww ⟨rfl, rfl⟩
    cases b4 with
    | true =>
      go_wp2_with fail
      go_ret
      exact ⟨ret_intS (by rw [← HR2.out trivial]; rfl), H2.out.1⟩
    | false =>
      go_wp2_with fail
      refine (HUn.out _ (HP.out.rules.below H2.out.1) (HV.out.below H2.out.1)).mono ?_
      rintro e w3 ⟨rfl, bb3⟩
      have H3 := hid (And.intro (H2.out.1.trans (bb3.mono H2.out.1.size)) (And.intro ((bb3.block _ (block_lt H2.out.2.1)).trans H2.out.2.1) (H2.out.2.2.below bb3)))
      clear bb3 c0 c1 c2 c3 c4
      obtain ⟨c0, c1, c2, c3, c4⟩ := polC_at (P := P) H3.out.2.1
      cases b5 with
      | true =>
        go_wp2_with fail
        go_ret
        exact ⟨ret_intS (by rw [← HR2.out trivial]; rfl), H3.out.1⟩
      | false =>
        go_wp2_with fail
        refine (HRt.out _ (HP.out.rules.below H3.out.1)).mono ?_
        rintro e w4 ⟨rfl, bb4⟩
        have H4 := hid (And.intro (H3.out.1.trans (bb4.mono H3.out.1.size)) (And.intro ((bb4.block _ (block_lt H3.out.2.1)).trans H3.out.2.1) (H3.out.2.2.below bb4)))
        clear bb4 c0 c1 c2 c3 c4
        obtain ⟨c0, c1, c2, c3, c4⟩ := polC_at (P := P) H4.out.2.1
        cases b6 with
        | true =>
          go_wp2_with fail
          go_ret
          exact ⟨ret_intS (by rw [← HR2.out trivial]; rfl), H4.out.1⟩
        | false =>
          by_cases z7 : 32 < P.schemes.length
          · have y7 : (P.schemes.length : Int) > 32 := by omega
            go_wp2_with fail
            go_ret
            exact ⟨ret_intS (by rw [← HR2.out trivial, decide_eq_true z7]; rfl), H4.out.1⟩
          have y7 : ¬ ((P.schemes.length : Int) > 32) := by omega
          replace HR2 := hid (fun (_ : True) => (by have := HR2.out trivial; rwa [decide_eq_false z7, Bool.false_or] at this))
          go_wp2_with fail
          refine (HSc.out _ (HP.out.schemes.below H4.out.1)).mono ?_
          rintro e w5 ⟨rfl, bb5⟩
          have H5 := hid (And.intro (H4.out.1.trans (bb5.mono H4.out.1.size)) (And.intro ((bb5.block _ (block_lt H4.out.2.1)).trans H4.out.2.1) (H4.out.2.2.below bb5)))
          clear bb5 c0 c1 c2 c3 c4
          obtain ⟨c0, c1, c2, c3, c4⟩ := polC_at (P := P) H5.out.2.1
          cases b7 with
          | true =>
            go_wp2_with fail
            go_ret
            exact ⟨ret_intS (by rw [← HR2.out trivial]; rfl), H5.out.1⟩
          | false =>
            go_wp2_with fail
            refine (HSt.out _ (HP.out.schemes.below H5.out.1)).mono ?_
            rintro e ww ⟨rfl, rfl⟩
            cases b8 with
            | true =>
              go_wp2_with fail
              go_ret
              exact ⟨ret_intS (by rw [← HR2.out trivial]; rfl), H5.out.1⟩
            | false =>
              go_wp2_with fail
              refine (HDr.out _ _ (HP.out.drop.below H5.out.1) H5.out.2.2).mono ?_
              rintro e w6 ⟨rfl, bb6⟩
              have H6 := hid (And.intro (H5.out.1.trans (bb6.mono H5.out.1.size)) (And.intro ((bb6.block _ (block_lt H5.out.2.1)).trans H5.out.2.1) (H5.out.2.2.below bb6)))
              clear bb6 c0 c1 c2 c3 c4
              obtain ⟨c0, c1, c2, c3, c4⟩ := polC_at (P := P) H6.out.2.1
              cases b9 with
              | true =>
                go_wp2_with fail
                go_ret
                exact ⟨ret_intS (by rw [← HR2.out trivial]; rfl), H6.out.1⟩
              | false =>
                go_wp2_with fail
                refine (HPa.out _ _ H6.out.2.2).mono ?_
                rintro e w7 ⟨rfl, bb7⟩
                have H7 := hid (And.intro (H6.out.1.trans (bb7.mono H6.out.1.size)) (And.intro ((bb7.block _ (block_lt H6.out.2.1)).trans H6.out.2.1) (H6.out.2.2.below bb7)))
                clear bb7 c0 c1 c2 c3 c4
                obtain ⟨c0, c1, c2, c3, c4⟩ := polC_at (P := P) H7.out.2.1
                cases b10 with
                | true =>
                  go_wp2_with fail
                  go_ret
                  exact ⟨ret_intS (by rw [← HR2.out trivial]; rfl), H7.out.1⟩
                | false =>
                  go_wp2_with fail
                  go_ret
                  exact ⟨ret_intS (by rw [← HR2.out trivial]; rfl), H7.out.1⟩
end Go.Proofs.YtkcgmimldjeaiaaDoor

/-
  policy.Filter: its walk.
-/
namespace Go.Proofs.YtkcgmimldjeaiaaDoor
open Go.RowKit Go.Lib Own

/-- a list of events that a call made: its row, the events, and that their lists of attributes stand apart -/
structure MadeE (W : World) (base : Nat) (v : Value) (J : List Ev) (xs : List Value) : Prop where
  row : W.ownsRow base 39 4 v J.length xs
  evs : EvsAt W base xs J
  ap : Apart xs
theorem MadeE.nil (W : World) (base : Nat) : MadeE W base (.slice none 0 0) [] [] := ⟨World.ownsRow_nil _ _ _ _, trivial, trivial⟩
theorem MadeE.grown {W W' : World} {base : Nat} {v : Value} {J : List Ev} {xs : List Value} {r : Option Nat} (h : MadeE W base v J xs) (g : W.grownBy W' r) (h1 : v.ownBlock = none ∨ v.ownBlock ≠ r) (h2 : ∀ a n ys, W.ownsRow base 101 2 a n ys → a.ownBlock = none ∨ a.ownBlock ≠ r) : MadeE W' base v J xs :=
  ⟨h.row.kept g h1, evs_mono (fun _ _ _ hr => hr.kept g (h2 _ _ _ hr)) xs J h.evs, h.ap⟩
theorem MadeE.below {W W' : World} {base : Nat} {v : Value} {J : List Ev} {xs : List Value} (h : MadeE W base v J xs) (hb : Below W.heap.size W W') : MadeE W' base v J xs :=
  ⟨row_below h.row hb, evs_mono (fun _ _ _ hr => row_below hr hb) xs J h.evs, h.ap⟩
theorem evsAll_low {W : World} {B base : Nat} (hb : base ≤ B) : ∀ (xs : List Value) (l : List Ev), EvsAt W B xs l → EvsAt W base xs l
  | [], [], _ => trivial
  | k :: n :: a :: t :: r, e :: l, ⟨h1, h2⟩ => by
    refine ⟨?_, evsAll_low hb r l h2⟩
    cases e with
    | text b => exact h1
    | start m at_ => exact ⟨h1.1, h1.2.1, row_low h1.2.2.1 hb, h1.2.2.2⟩
    | stop m => exact h1
  | [], _ :: _, h => h.elim
  | [_], _, h => by cases ‹List Ev› <;> exact h.elim
  | [_, _], _, h => by cases ‹List Ev› <;> exact h.elim
  | [_, _, _], _, h => by cases ‹List Ev› <;> exact h.elim
  | _ :: _ :: _ :: _ :: _, [], h => h.elim
theorem MadeE.low {W : World} {B base : Nat} {v : Value} {J : List Ev} {xs : List Value} (h : MadeE W B v J xs) (hb : base ≤ B) : MadeE W base v J xs :=
  ⟨row_low h.row hb, evsAll_low hb xs J h.evs, h.ap⟩
/-- one more event -/
theorem MadeE.more {W W2 : World} {base : Nat} {v v' : Value} {J : List Ev} {xs : List Value} {k n a t : Value} {ev : Ev} {X : Obj} (h : MadeE W base v J xs) (he : EvsAt W base [k, n, a, t] [ev]) (hn : ∀ g, a.ownBlock = some g → NotIn g xs)
    (hg : (W.alloc X).grownBy W2 v.ownBlock) (hv : W2.ownsRow base 39 4 v' (J.length + 1) (xs ++ [k, n, a, t])) : MadeE W2 base v' (J ++ [ev]) (xs ++ [k, n, a, t]) := by
  have hra := h.row.alloc X
  have mono : ∀ a n ys, W.ownsRow base 101 2 a n ys → W2.ownsRow base 101 2 a n ys := fun a n ys hr => (hr.alloc X).kept hg (rows_ne (hr.alloc X) hra (by decide))
  refine ⟨by rw [List.length_append]; exact hv, evs_mono mono _ _ (evs_snoc2 xs J h.evs he), apart_snoc xs J h.evs h.ap hn⟩

set_option maxHeartbeats 8000000 in
set_option maxRecDepth 100000 in
theorem filter_any (vr vs vd : Value) (P : PolP) (ev : Value) (es : List EvP) (m : Int) (w : World) (h : PolR w vr vs vd P) (hF : P.Few) (hK : KindsTab w) (hV : VAttrTab w) (he : EvsR w ev es) (hs : bulkE es ≤ 4000000)
    (hm : w.cell? ⟨10, 0, none⟩ = some (.int .i64 m)) :
    Calls Tryd.prog 14 #[.agg (polC vr vs vd P), ev] w fun r w' => ∃ v xs, r = .returned v ∧ MadeE w' w.heap.size v (if checkC P = 0 then filterP P es else []) xs ∧ Below w.heap.size w w' := by
  obtain ⟨ep, ec, rfl, _, hem, hcell⟩ := he
  have hlen := bulkE_len es
  -- the policy's box
  obtain ⟨W1, hW1⟩ : ∃ W1, w.alloc (.cells (polC vr vs vd P) 35) = W1 := ⟨_, rfl⟩
  have hB : Below w.heap.size w W1 := by rw [← hW1]; exact (Below.refl w.heap.size w).alloc (Nat.le_refl _) _
  have b0 : W1.heap[w.heap.size]? = some (.cells (polC vr vs vd P) 35 (0, 0)) := by rw [← hW1]; exact heap_alloc_new w _
  have hck := check_any vr vs vd P W1 (h.below hB) hF (hK.below hB) (hV.below hB)
  have hnew := fun W (hb : Below W1.heap.size W1 W) => sieveNew_any vr vs vd P W ((h.below hB).below hb)
  obtain ⟨rp, rc, hvr, _⟩ := h.rules
  obtain ⟨sp, sc, hvs, _⟩ := h.schemes
  obtain ⟨dp, dc, hvd, _⟩ := h.drop
  subst hvr hvs hvd
  obtain ⟨R, hR⟩ : ∃ R, filterP P es = R := ⟨_, rfl⟩
  have hRl : R.length ≤ es.length := by rw [← hR]; exact filt_len P es _
  rw [hR]
  have hRR : [] ++ filtL P ([], 0) (es.drop 0) = R := hR
  obtain ⟨c0, c1, c2, c3, c4⟩ := polC_at (P := P) b0
  have HC := hid hcell
  have HFW := hid hF
  have HB := hid (And.intro hB b0)
  have HCK := hid hck
  have HNW := hid hnew
  have HM := hid hm
  have HS := hid hs
  have HR := hid (fun (_ : True) => hRR)
  have HRL := hid hRl
  have hln : es.length ≤ 4000000 := by omega
  obtain ⟨ei, hei, he0, he1, he2⟩ := info_parts info_event
  unfold polC at hW1 HCK HNW ⊢
  generalize checkC P = ck at HCK ⊢
  clear hcell hlen hck hnew hR hRl hRR hF h hK hV hs hm hB b0
  go_enter Tryd.func14, Tryd.ntmps14
  go_upto_region 1 with fail
  clear hW1
  go_wp2_with fail
  refine HCK.out.mono ?_
  rintro r W2 ⟨rfl, b2⟩
  have hbox2 := (b2.block _ (block_lt HB.out.2)).trans HB.out.2
  clear c0 c1 c2 c3 c4
  by_cases hc : ck = 0
  · subst hc
    obtain ⟨c0, c1, c2, c3, c4⟩ := polC_at (P := P) hbox2
    have hbw2 := HB.out.1.trans (b2.mono HB.out.1.size)
    have HB2 := hid hbw2
    have hnw := HNW.out W2 b2
    have HNW2 := hid hnw
    clear HNW hnw b2 hbox2 hbw2 HCK
    go_wp2_with fail
    refine HNW2.out.mono ?_
    rintro r W3 ⟨rfl, sv3, sz3⟩
    obtain ⟨bS, hbS⟩ : ∃ bS, W2.heap.size + 1 = bS := ⟨_, rfl⟩
    rw [hbS] at sv3
    simp only [hbS]
    have hlo : w.heap.size ≤ bS := by have := HB2.out.size; omega
    have H3 := hid (And.intro sv3 (HB2.out.trans (sv3.be.mono HB2.out.size)))
    clear sv3 sz3 hbS HNW2 c0 c1 c2 c3 c4
    go_wp2_with fail
    go_loopw [5, 18] (fun av iv wr => ∃ (k : Nat) (J : List Ev) (sk : List UInt8) (cnt : Nat) (xs : List Value), iv = .int .i64 k ∧ k ≤ es.length ∧ Hid (MadeE wr W2.heap.size av J xs ∧ Below w.heap.size w wr ∧ SvAt W2 wr bS (.slice rp P.rules.length rc) (.slice sp P.schemes.length sc) (.slice dp P.drop.length dc) P sk cnt ∧ cnt ≤ k ∧ J.length ≤ k) ∧ Hid (True → J ++ filtL P (sk, cnt) (es.drop k) = R)) (fun _ iv _ => es.length - (RowKit.intOf iv).toNat)
    case atStart => exact ⟨0, [], [], 0, [], rfl, Nat.zero_le _, hid ⟨MadeE.nil _ _, H3.out.2, H3.out.1, Nat.le_refl _, Nat.le_refl _⟩, HR⟩
    case round =>
      obtain ⟨k, J, sk, cnt, xs, rfl, hk, HX, HK⟩ := hrel
      obtain ⟨jp, jc, rfl⟩ := row_shape HX.out.1.row
      clear H3 HR
      by_cases hkl : k < es.length
      · obtain ⟨e, hek⟩ : ∃ e, es[k]? = some e := ⟨_, List.getElem?_eq_getElem hkl⟩
        obtain ⟨b, o, u, rfl, q0, q1, q2, q3, q4⟩ := HC.out k e hek
        obtain ⟨hmade, hbw, hsv, hcn, hjn⟩ := HX.out
        have hab := bulkE_get hek
        have hSS := HS.out
        have hq4 := q4.below hbw
        replace q0 := cell_low q0 hbw (cell_block q0)
        replace q1 := cell_low q1 hbw (cell_block q1)
        replace q2 := cell_low q2 hbw (cell_block q2)
        replace q3 := cell_low q3 hbw (cell_block q3)
        obtain ⟨up, uc, rfl⟩ := q4.len
        have hd := HK.out trivial
        rw [drop_at hek, filt_step] at hd
        obtain ⟨W4, hW4⟩ : ∃ W4, wr.alloc (.cells (evC e (.slice up e.a.length uc)) 39) = W4 := ⟨_, rfl⟩
        have hb4 : Below wr.heap.size wr W4 := by rw [← hW4]; exact (Below.refl _ _).alloc (Nat.le_refl _) _
        have hbw4 := hbw.trans (hb4.mono hbw.size)
        have hn4 : W4.heap[wr.heap.size]? = some (.cells (evC e (.slice up e.a.length uc)) 39 (0, 0)) := by rw [← hW4]; exact heap_alloc_new _ _
        obtain ⟨d0, d1, d2, d3⟩ := evC_at hn4
        have htk := take_any W2 bS _ _ _ P sk cnt e (.slice up e.a.length uc) m W4 (hsv.below hb4) HFW.out (hq4.below hb4) (by omega) (by omega) (cell_low HM.out hbw4 (cell_block HM.out))
        have hl1 := sieve_opt P (sk, cnt) e
        have hc1 : (sieveL P (sk, cnt) e).1.2 ≤ cnt + 1 := by
          unfold sieveL
          split
          · simp only; unfold skipF; split
            · omega
            · split <;> omega
          · split
            · simp only; omega
            · simp only; omega
        generalize sieveL P (sk, cnt) e = q at htk hd hl1 hc1
        obtain ⟨⟨sk2, cnt2⟩, o2⟩ := q
        simp only at htk hd hl1 hc1
        have HTK := hid htk
        have HD := hid (fun (_ : True) => (by rw [List.append_assoc]; exact hd : (J ++ o2.toList) ++ filtL P (sk2, cnt2) (es.drop (k + 1)) = R))
        have hmd4 := hmade.below hb4
        have hsv4 := hsv.below hb4
        have H4 := hid (And.intro hmd4 (And.intro hbw4 hsv4))
        have hxlt : ∀ g, W4.heap.size ≤ g → NotIn g xs := fun g hg => notIn_new hg xs J hmd4.evs
        have HXL := hid hxlt
        unfold evC at hW4 HTK
        clear htk hd hl1 hmade hbw hsv hb4 hbw4 hmd4 hsv4 hxlt hek hab hSS hq4 q4 hn4 HX HK HC
        go_upto_region 8 with fail
        clear hW4 q0 q1 q2 q3
        go_wp2_with fail
        refine HTK.out.mono ?_
        rintro r W5 ⟨rv, rfl, hrv, s5, g5⟩
        obtain ⟨hmd4, hbw4, hsv4⟩ := H4.out
        have hmd5 := hmd4.grown g5 (.inr (row_ne hmd4.row hsv4.at_ (by decide))) (fun _ _ _ hr => .inr (row_ne hr hsv4.at_ (by decide)))
        have hbw5 := hbw4.grown g5 hbw4.size (fun k hk => by cases hk; exact hlo)
        have hsv5 : SvAt W2 W5 bS (.slice rp P.rules.length rc) (.slice sp P.schemes.length sc) (.slice dp P.drop.length dc) P sk2 cnt2 := ⟨s5, hsv4.pol, hsv4.be.grown g5 hsv4.be.size (fun k hk => by cases hk; exact hsv4.lo), hsv4.lo⟩
        have hsz4 : W2.heap.size ≤ W4.heap.size := hsv4.be.size
        have hww := HB2.out.size
        cases o2 with
        | none =>
          obtain rfl : rv = _ := hrv
          have hb6 : Below W5.heap.size W5 (W5.alloc (.cells zeroEv 39)) := (Below.refl _ _).alloc (Nat.le_refl _) _
          have HZ := hid (And.intro (hmd5.below hb6) (And.intro (hbw5.trans (hb6.mono hbw5.size)) (And.intro (hsv5.below hb6) (And.intro (show cnt2 ≤ k + 1 by omega) (show J.length ≤ k + 1 by omega)))))
          have HD2 := hid (fun (_ : True) => (by have := HD.out trivial; rwa [show J ++ (none : Option Ev).toList = J from List.append_nil J] at this : J ++ filtL P (sk2, cnt2) (es.drop (k + 1)) = R))
          unfold zeroEv at HZ ⊢
          clear hmd4 hbw4 hsv4 hmd5 hbw5 hsv5 hb6 s5 g5 H4 HTK HXL HD
          go_wp2_with fail
          go_roundw
          case rel => exact ⟨k + 1, J, sk2, cnt2, xs, rfl, by omega, HZ, HD2⟩
          case measure => simp [RowKit.intOf]; omega
        | some ev =>
          obtain ⟨ek, en, ap, am, ac, et, rfl, hev⟩ := hrv
          obtain ⟨W6, hW6⟩ : ∃ W6, W5.alloc (.cells #[.int .i64 ek, .string en, .slice ap am ac, .string et] 39) = W6 := ⟨_, rfl⟩
          have hb6 : Below W5.heap.size W5 W6 := by rw [← hW6]; exact (Below.refl _ _).alloc (Nat.le_refl _) _
          have hn6 : W6.heap[W5.heap.size]? = some (.cells #[.int .i64 ek, .string en, .slice ap am ac, .string et] 39 (0, 0)) := by rw [← hW6]; exact heap_alloc_new _ _
          have hev5 : EvsAt W5 W2.heap.size [.int .i64 ek, .string en, .slice ap am ac, .string et] [ev] := evs1_low hsz4 hev
          have hnot : ∀ g, (Value.slice ap am ac).ownBlock = some g → NotIn g xs := fun g hg => by
            cases ev with
            | text b => have := hev.1.2.2.1; rw [this] at hg; cases hg
            | start n x => exact HXL.out g (hev.1.2.2.1.lt g hg).1
            | stop n => have := hev.1.2.2.1; rw [this] at hg; cases hg
          have hev6 : EvsAt W6 W2.heap.size [.int .i64 ek, .string en, .slice ap am ac, .string et] [ev] := evs_mono (fun _ _ _ hr => row_below hr hb6) _ _ hev5
          have hmd6 := hmd5.below hb6
          have hbw6 := hbw5.trans (hb6.mono hbw5.size)
          have hsv6 := hsv5.below hb6
          have hown := hmd6.row
          have hbs6 := hsv6.be.size
          have hbs6w := hbw6.size
          obtain ⟨x0, x1, x2, x3⟩ := (⟨cell_at hn6 rfl, cell_at hn6 rfl, cell_at hn6 rfl, cell_at hn6 rfl⟩ : W6.cell? ⟨W5.heap.size, 0, none⟩ = some (.int .i64 ek) ∧ W6.cell? ⟨W5.heap.size, 1, none⟩ = some (.string en) ∧ W6.cell? ⟨W5.heap.size, 2, none⟩ = some (.slice ap am ac) ∧ W6.cell? ⟨W5.heap.size, 3, none⟩ = some (.string et))
          have hone : ∀ u ∈ [Value.int .i64 ek, .string en, .slice ap am ac, .string et], u.oneCell' = true := by simp [Value.oneCell']
          have HO := hid hone
          have H6 := hid (And.intro hmd6 (And.intro hev6 (And.intro hbw6 (And.intro hsv6 hnot))))
          clear hmd4 hbw4 hsv4 hmd5 hbw5 hsv5 hb6 s5 g5 H4 HTK HXL hev hev5 hev6 hnot hmd6 hbw6 hsv6 hn6 hone d0 d1 d2 d3
          go_wp2_with (at_builtin; refine wpList_append_own _ rfl (.tmp 29) (.tmp 31) 22 rfl W2.heap.size 39 ei (.agg #[.int .i64 0, .string ⟨#[]⟩, .slice none 0 0, .string ⟨#[]⟩]) 4 64 Tryd.underlying22 hei he0 he1 he2 rfl (by decide) _ _ _ rfl (hown.alloc _) ⟨_, 0, none⟩ 1 1 [.int .i64 ek, .string en, .slice ap am ac, .string et] rfl rfl (cells_newV _ _ _) HO.out (by unfold maxLen; omega) (by omega) (by simp; omega) ?_)
          intro v7 W7 hown7 hgrow7 _
          obtain ⟨hmd6, hev6, hbw6, hsv6, hnot⟩ := H6.out
          have hra := hown.alloc (.cells #[.int .i64 ek, .string en, .slice ap am ac, .string et] 39)
          have hmd7 := hmd6.more hev6 hnot hgrow7 hown7
          have hbw7 := (hbw6.alloc hbs6w (.cells #[.int .i64 ek, .string en, .slice ap am ac, .string et] 39)).grown hgrow7 (by simp; omega) (fun k hk => Nat.le_trans hww (hra.lt k hk).1)
          have hsv7 : SvAt W2 W7 bS (.slice rp P.rules.length rc) (.slice sp P.schemes.length sc) (.slice dp P.drop.length dc) P sk2 cnt2 :=
            ⟨grown_at hgrow7 ((Go.Lib.alloc_old _ _ _ (block_lt hsv6.at_)).trans hsv6.at_) (row_ne hra ((Go.Lib.alloc_old _ _ _ (block_lt hsv6.at_)).trans hsv6.at_) (by decide)), hsv6.pol, (hsv6.be.alloc hsv6.be.size _).grown hgrow7 (by have := hsv6.be.size; simp; omega) (fun k hk => (hra.lt k hk).1), hsv6.lo⟩
          have HZ := hid (And.intro hmd7 (And.intro hbw7 (And.intro hsv7 (And.intro (show cnt2 ≤ k + 1 by omega) (show (J ++ [ev]).length ≤ k + 1 by rw [List.length_append]; simp; omega)))))
          clear hmd6 hev6 hbw6 hsv6 hnot hra hmd7 hbw7 hsv7 hown7 hgrow7 hown H6 x0 x1 x2 x3
          go_wp2
          go_roundw
          case rel => exact ⟨k + 1, J ++ [ev], sk2, cnt2, _, rfl, by omega, HZ, HD⟩
          case measure => simp [RowKit.intOf]; omega
      · obtain rfl : J = R := by
          have := HK.out trivial
          rw [List.drop_of_length_le (by omega)] at this
          rwa [show filtL P (sk, cnt) [] = [] from rfl, List.append_nil] at this
        have HZ := hid (And.intro (HX.out.1.low HB2.out.size) HX.out.2.1)
        clear HK HX HC
        go_wp2_with fail
        go_ret
        exact ⟨_, rfl, ⟨xs, HZ.out.1⟩, HZ.out.2⟩
  · have q : (((ck : Nat) : Int) != 0) = true := bne_iff_ne.2 (by omega)
    have hbw2 := hid (HB.out.1.trans (b2.mono HB.out.1.size))
    clear HNW b2 hbox2 HCK HC HFW HB HM HS HR HRL
    go_wp2_with fail
    go_ret
    exact ⟨_, rfl, ⟨[], by first | exact MadeE.nil _ _ | (rw [if_neg hc]; exact MadeE.nil _ _)⟩, hbw2.out⟩
end Go.Proofs.YtkcgmimldjeaiaaDoor

/-
  The law LawDrop: facts on its policies and lists; the boxes that stand through its walk.
-/
namespace Go.Proofs.YtkcgmimldjeaiaaDoor
open Go.RowKit Go.Lib Own

/-- the policy that LawDrop lays, with these elements in Drop -/
def dropQ (P : PolP) (D : List (List UInt8)) : PolP := ⟨(orderedP P).rules, (orderedP P).schemes, D, (orderedP P).depth, (orderedP P).window⟩
theorem dropQ_few (P : PolP) (D : List (List UInt8)) (hD : D.length ≤ 1000) (hD2 : ∀ s ∈ D, s.length ≤ 1000) : (dropQ P D).Few := by
  obtain ⟨d1, d2⟩ := within_bounds P.depth 1 256 (by decide)
  obtain ⟨w1, w2⟩ := within_bounds P.window 32 4096 (by decide)
  have hr : ∀ r ∈ (orderedP P).rules, r.1.length ≤ 1000 ∧ r.2.length ≤ 1000 ∧ ∀ a ∈ r.2, a.length ≤ 1000 := fun r hr => by
    obtain ⟨h1, p, h2⟩ := ord_rule hr
    refine ⟨(by decide +kernel : ∀ x ∈ ordE, x.length ≤ 1000) _ h1, ?_, fun a ha => ?_⟩
    · rw [h2]
      exact Nat.le_trans (List.length_filter_le _ _) (by decide)
    · rw [h2] at ha
      exact (by decide +kernel : ∀ x ∈ ordA, x.length ≤ 1000) _ (List.mem_filter.1 ha).1
  have hs : ∀ s ∈ (orderedP P).schemes, s.length ≤ 1000 := fun s hs => (by decide +kernel : ∀ x ∈ ordS, x.length ≤ 1000) _ (List.mem_filter.1 hs).1
  have hsl : (orderedP P).schemes.length ≤ 6 := List.length_filter_le _ _
  have hrl : (orderedP P).rules.length ≤ 37 := List.length_filterMap_le _ _
  refine ⟨?_, ?_, ?_, fun r h => ?_, fun r h => ⟨?_, fun a ha => ?_⟩, fun s h => ?_, fun s h => ?_, ?_, ?_, ?_, ?_⟩
  · exact Nat.le_trans hrl (by omega)
  · exact Nat.le_trans hsl (by omega)
  · exact Nat.le_trans hD (by omega)
  · exact Nat.le_trans (hr r h).2.1 (by omega)
  · exact Nat.le_trans (hr r h).1 (by omega)
  · exact Nat.le_trans ((hr r h).2.2 a ha) (by omega)
  · exact Nat.le_trans (hs s h) (by omega)
  · exact Nat.le_trans (hD2 s h) (by omega)
  · show (-9223372036854775808 : Int) ≤ withinP P.depth 1 256; omega
  · show withinP P.depth 1 256 ≤ (9223372036854775807 : Int); omega
  · show (-9223372036854775808 : Int) ≤ withinP P.window 32 4096; omega
  · show withinP P.window 32 4096 ≤ (9223372036854775807 : Int); omega
theorem dropQ_check1 (P : PolP) : checkC (dropQ P [svgL]) = 0 := by
  rw [check_same]
  exact ordered_check P [svgL] (by decide) (by decide) (by decide)
theorem dropQ_check0 (P : PolP) : checkC (dropQ P []) = 0 := by
  rw [check_same]
  exact ordered_check P [] (by decide) (by decide) (by decide)
theorem ruleL_no {n : List UInt8} : ∀ rs : List RuleP, (∀ r ∈ rs, r.1 ≠ n) → ruleL rs n = none
  | [], _ => rfl
  | r :: rs, h => by
    unfold ruleL
    rw [if_neg (h r (List.mem_cons_self ..))]
    exact ruleL_no rs (fun r hr => h r (List.mem_cons_of_mem _ hr))
def textX : EvP := ⟨3, [], [], [120]⟩
theorem filt_textX (P : PolP) (r : List EvP) : filterP P (textX :: r) = .text [120] :: filterP P r := by
  unfold filterP
  rw [filt_step]
  have h1 : sieveL P ([], 0) textX = (([], 0), some (.text [120])) := by
    unfold sieveL
    rw [if_neg (Nat.lt_irrefl 0), if_neg (fun q => absurd (show (3 : Int) = 1 from q.1) (by decide))]
    rfl
  rw [h1]
  rfl
def dropFront (b : List EvP) : List EvP := textX :: withoutL b
theorem front_ne (b : List EvP) : ∀ e ∈ dropFront b, e.n ≠ svgL := fun e he => by
  rcases List.mem_cons.1 he with h | h
  · rw [h]; decide
  · exact without_ne e h
/-- Drop holds svg: it goes, and nothing else -/
theorem drop_same1 (P : PolP) (b h k : List EvP) : filterP (dropQ P [svgL]) (dropFullL (dropFront b) (withoutL h) (withoutL k)) = filterP (dropQ P [svgL]) (dropFront b ++ withoutL k) :=
  drop_goes _ _ _ _ rfl (front_ne b) without_ne
/-- Drop is empty: what it holds stays -/
theorem drop_same0 (P : PolP) (b h k : List EvP) : filterP (dropQ P []) (dropFullL (dropFront b) (withoutL h) (withoutL k)) = filterP (dropQ P []) (dropFront b ++ (withoutL h ++ (withoutL h ++ withoutL k))) :=
  tag_goes _ _ _ _ rfl (ruleL_no _ (fun r hr => ordered_svg P r hr))
theorem bulkE_app (a b : List EvP) : bulkE (a ++ b) = bulkE a + bulkE b := by unfold bulkE; rw [List.map_append, List.sum_append]
theorem bulk_without : ∀ es : List EvP, bulkE (withoutL es) ≤ bulkE es
  | [] => Nat.le_refl _
  | e :: r => by
    have h := bulk_without r
    unfold withoutL at h ⊢
    rw [bulkE_cons]
    by_cases q : (e.n != svgL) = true
    · rw [List.filter_cons_of_pos (by exact q), bulkE_cons]
      omega
    · rw [List.filter_cons_of_neg (by exact q)]
      omega
theorem bulk_front (b : List EvP) : bulkE (dropFront b) ≤ bulkE b + 2 := by
  have h := bulk_without b
  unfold dropFront
  rw [bulkE_cons]
  have h2 : textX.n.length + textX.t.length + bulkA textX.a + 1 = 2 := rfl
  omega
theorem bulk_full (b h k : List EvP) : bulkE (dropFullL (dropFront b) (withoutL h) (withoutL k)) ≤ bulkE b + 2 * bulkE h + bulkE k + 18 := by
  have h1 := bulk_front b
  have h2 := bulk_without h
  have h3 := bulk_without k
  have h4 : svgS.n.length + svgS.t.length + bulkA svgS.a + 1 = 4 := rfl
  have h5 : svgE.n.length + svgE.t.length + bulkA svgE.a + 1 = 4 := rfl
  unfold dropFullL
  simp only [bulkE_app, bulkE_cons]
  omega
theorem RowE.just {w W W' : World} {base b : Nat} {v : Value} {es : List EvP} {cs cs0 : Array Value} (h : RowE w base W v es) (hb : W.heap[b]? = some (.cells cs0 35 (0, 0))) (hlo : w.heap.size ≤ b) (j : Just W W' b cs 35) : RowE w base W' v es := by
  obtain ⟨prs, h1, h2, h3, h4, h5⟩ := h
  exact ⟨prs, h1, row_just h2 hb (by decide) j.other, h3, h4.trans (just_low j hlo), h5⟩
/-- the boxes: the policy's, the two events' -/
structure DropB (w W1 W : World) (C : Array Value) (q bs_ be_ : Nat) : Prop where
  b1 : Below w.heap.size w W1
  be : Below W1.heap.size W1 W
  lo : W1.heap.size ≤ q
  q : W.heap[q]? = some (.cells C 35 (0, 0))
  s : W.heap[bs_]? = some (.cells #[.int .i64 1, .string (bs svgL), .slice none 0 0, .string ⟨#[]⟩] 39 (0, 0))
  e : W.heap[be_]? = some (.cells #[.int .i64 2, .string (bs svgL), .slice none 0 0, .string ⟨#[]⟩] 39 (0, 0))
theorem DropB.below {w W1 W W2 : World} {C : Array Value} {q b1 b2 : Nat} (h : DropB w W1 W C q b1 b2) (hb : Below W.heap.size W W2) : DropB w W1 W2 C q b1 b2 :=
  ⟨h.b1, h.be.trans (hb.mono h.be.size), h.lo, (hb.block _ (block_lt h.q)).trans h.q, (hb.block _ (block_lt h.s)).trans h.s, (hb.block _ (block_lt h.e)).trans h.e⟩
theorem DropB.whole {w W1 W : World} {C : Array Value} {q b1 b2 : Nat} (h : DropB w W1 W C q b1 b2) : Below w.heap.size w W := h.b1.trans (h.be.mono h.b1.size)
theorem DropB.new {w W1 : World} {C : Array Value} (hb : Below w.heap.size w W1) :
    DropB w W1 (((W1.alloc (.cells C 35)).alloc (.cells #[.int .i64 1, .string (bs svgL), .slice none 0 0, .string ⟨#[]⟩] 39)).alloc (.cells #[.int .i64 2, .string (bs svgL), .slice none 0 0, .string ⟨#[]⟩] 39)) C W1.heap.size (W1.heap.size + 1) (W1.heap.size + 2) := by
  refine ⟨hb, (((Below.refl _ _).alloc (Nat.le_refl _) _).alloc (by simp) _).alloc (by simp; omega) _, Nat.le_refl _, ?_, ?_, ?_⟩
  · exact (Go.Lib.alloc_old _ _ _ (by simp; omega)).trans ((Go.Lib.alloc_old _ _ _ (by simp)).trans (heap_alloc_new W1 _))
  · refine (Go.Lib.alloc_old _ _ _ (by simp)).trans ?_
    have := heap_alloc_new (W1.alloc (.cells C 35)) (.cells #[.int .i64 1, .string (bs svgL), .slice none 0 0, .string ⟨#[]⟩] 39)
    simpa using this
  · have := heap_alloc_new ((W1.alloc (.cells C 35)).alloc (.cells #[.int .i64 1, .string (bs svgL), .slice none 0 0, .string ⟨#[]⟩] 39)) (.cells #[.int .i64 2, .string (bs svgL), .slice none 0 0, .string ⟨#[]⟩] 39)
    simpa using this
/-- Drop is laid anew: what lies in the policy's box, what can be read behind that -/
structure DropQ (w W1 W : World) (a0 a1 v a3 a4 : Value) (q : Nat) (P : PolP) (D : List (List UInt8)) : Prop where
  b1 : Below w.heap.size w W1
  be : Below W1.heap.size W1 W
  lo : W1.heap.size ≤ q
  q : W.heap[q]? = some (.cells #[a0, a1, v, a3, a4] 35 (0, 0))
  p : PolR W a0 a1 v (dropQ P D)
theorem DropQ.whole {w W1 W : World} {a0 a1 v a3 a4 : Value} {q : Nat} {P : PolP} {D : List (List UInt8)} (h : DropQ w W1 W a0 a1 v a3 a4 q P D) : Below w.heap.size w W := h.b1.trans (h.be.mono h.b1.size)
theorem DropQ.below {w W1 W W2 : World} {a0 a1 v a3 a4 : Value} {q : Nat} {P : PolP} {D : List (List UInt8)} (h : DropQ w W1 W a0 a1 v a3 a4 q P D) (hb : Below W.heap.size W W2) : DropQ w W1 W2 a0 a1 v a3 a4 q P D :=
  ⟨h.b1, h.be.trans (hb.mono h.be.size), h.lo, (hb.block _ (block_lt h.q)).trans h.q, h.p.below hb⟩
theorem drop_set {w W1 W : World} {a0 a1 a2 a3 a4 d : Value} {q : Nat} (P : PolP) (D : List (List UInt8)) (b1 : Below w.heap.size w W1) (be : Below W1.heap.size W1 W) (lo : W1.heap.size ≤ q)
    (hq : W.heap[q]? = some (.cells #[a0, a1, a2, a3, a4] 35 (0, 0))) (hp : PolR W1 a0 a1 d (orderedP P)) (hD : D.length ≤ 1000) :
    DropQ w W1 ((W.alloc (.cells (wordsV D).toArray 9)).setCell ⟨q, 2, none⟩ (.slice (some ⟨W.heap.size, 0, none⟩) D.length D.length)) a0 a1 (.slice (some ⟨W.heap.size, 0, none⟩) D.length D.length) a3 a4 q P D ∧
    ∀ base v es, RowE w base W v es → RowE w base ((W.alloc (.cells (wordsV D).toArray 9)).setCell ⟨q, 2, none⟩ (.slice (some ⟨W.heap.size, 0, none⟩) D.length D.length)) v es := by
  have hA : Below W.heap.size W (W.alloc (.cells (wordsV D).toArray 9)) := (Below.refl _ _).alloc (Nat.le_refl _) _
  have bxa := (Go.Lib.alloc_old W (.cells (wordsV D).toArray 9) _ (block_lt hq)).trans hq
  have hrow : (W.alloc (.cells (wordsV D).toArray 9)).ownsRow W.heap.size 9 1 (.slice (some ⟨W.heap.size, 0, none⟩) D.length D.length) D.length (wordsV D) := by
    refine ⟨by rw [wordsV_len], .inr ⟨W.heap.size, D.length, _, rfl, Nat.le_refl _, heap_alloc_new W _, Nat.le_refl _, by unfold maxLen; omega, ?_, ?_⟩⟩
    · rw [List.size_toArray, wordsV_len]
    · rw [List.take_of_length_le (by rw [wordsV_len]; exact Nat.le_refl _)]
  have j := just_put (j := 2) (cs2 := #[a0, a1, .slice (some ⟨W.heap.size, 0, none⟩) D.length D.length, a3, a4]) bxa (.slice (some ⟨W.heap.size, 0, none⟩) D.length D.length) (by simp)
  have hB : Below W1.heap.size W1 ((W.alloc (.cells (wordsV D).toArray 9)).setCell ⟨q, 2, none⟩ (.slice (some ⟨W.heap.size, 0, none⟩) D.length D.length)) := (be.trans (hA.mono be.size)).trans (just_low j lo)
  have hbq := block_lt hq
  refine ⟨⟨b1, hB, lo, j.at_, ⟨hp.rules.below hB, hp.schemes.below hB, Words.row (row_just hrow bxa (by decide) j.other)⟩⟩, fun base v es h => (h.below hA).just bxa (Nat.le_trans b1.size lo) j⟩
end Go.Proofs.YtkcgmimldjeaiaaDoor

/-
  The law LawDrop: its walk.
-/
namespace Go.Proofs.YtkcgmimldjeaiaaDoor
open Go.RowKit Go.Lib Own

theorem svg_attrs (w : World) : ∀ x ∈ [(svgS, Value.slice none 0 0), (svgS, Value.slice none 0 0)], AttrsR w x.2 x.1.a := fun x hx => by
  have : x = (svgS, Value.slice none 0 0) := by simpa using hx
  rw [this]
  exact AttrsR.nil w
theorem svgE_attrs (w : World) : ∀ x ∈ [(svgE, Value.slice none 0 0)], AttrsR w x.2 x.1.a := fun x hx => by
  rw [List.mem_singleton.1 hx]
  exact AttrsR.nil w
theorem RowE.shapeN {w0 W : World} {base : Nat} {v : Value} {es : List EvP} (h : RowE w0 base W v es) : ∃ p n c, v = .slice p n c := by
  obtain ⟨p, c, e⟩ := h.shape
  exact ⟨p, _, c, e⟩

theorem RowE.on {w0 W W' : World} {base : Nat} {v : Value} {es : List EvP} (h : RowE w0 base W v es) (hb : Below W.heap.size W W') : RowE w0 base W' v es := h.below hb

set_option maxHeartbeats 16000000 in
set_option maxRecDepth 100000 in
theorem lawDrop_walk (vr vs vd bv hv kv : Value) (P : PolP) (Eb Eh Ek : List EvP) (m : Int) (w : World) (h : PolR w vr vs vd P) (hF : P.Few) (hs : attrsM P.rules ≤ 100000000)
    (eb : EvsR w bv Eb) (eh : EvsR w hv Eh) (ek : EvsR w kv Ek) (hbulk : bulkE Eb + bulkE Eh + bulkE Ek ≤ 1100000) (hT : OrdTabs w) (hK : KindsTab w) (hV : VAttrTab w)
    (hmx : w.cell? ⟨10, 0, none⟩ = some (.int .i64 m)) :
    Calls Tryd.prog 4 #[.agg (polC vr vs vd P), bv, hv, kv] w fun e w' => e = .returned (.bool true) ∧ Below w.heap.size w w' := by
  obtain ⟨rp, rn, rc, rfl⟩ := h.rules.shape
  obtain ⟨sp, sn, sc, rfl⟩ := h.schemes.shape
  obtain ⟨dp, dn, dc, rfl⟩ := h.drop.shape
  obtain ⟨bp, bn, bc, rfl⟩ := eb.shape
  obtain ⟨hp, hn, hc, rfl⟩ := eh.shape
  obtain ⟨kp, kn, kc, rfl⟩ := ek.shape
  have lb := bulkE_len Eb
  have lh := bulkE_len Eh
  have lk := bulkE_len Ek
  have lb2 := without_len Eb
  have lh2 := without_len Eh
  have lk2 := without_len Ek
  have bf := bulk_full Eb Eh Ek
  -- the contracts
  have hord := fun W (hW : Below w.heap.size w W) => ordered_any _ _ _ P W (h.below hW) hF hs (hT.below hW)
  have hwb := fun W (hW : Below w.heap.size w W) => without_any w _ Eb W hW eb (by omega)
  have hwh := fun W (hW : Below w.heap.size w W) => without_any w _ Eh W hW eh (by omega)
  have hwk := fun W (hW : Below w.heap.size w W) => without_any w _ Ek W hW ek (by omega)
  have hfil : ∀ (D : List (List UInt8)), D = [svgL] ∨ D = [] → ∀ (W : World), Below w.heap.size w W → ∀ a b c x es, PolR W a b c (dropQ P D) → EvsR W x es → bulkE es ≤ 4000000 →
      Calls Tryd.prog 14 #[.agg #[a, b, c, .int .i64 (orderedP P).depth, .int .i64 (orderedP P).window], x] W fun r w' => ∃ v xs, r = .returned v ∧ MadeE w' W.heap.size v (filterP (dropQ P D) es) xs ∧ Below W.heap.size W w' := fun D hD W hW a b c x es hq hx hbk => by
    have hck : checkC (dropQ P D) = 0 := by
      rcases hD with rfl | rfl
      · exact dropQ_check1 P
      · exact dropQ_check0 P
    have hfew : (dropQ P D).Few := by
      rcases hD with rfl | rfl
      · exact dropQ_few P _ (by decide) (by decide)
      · exact dropQ_few P _ (by decide) (by decide)
    have hc := filter_any a b c (dropQ P D) x es m W hq hfew (hK.below hW) (hV.below hW) hx hbk (cell_low hmx hW (cell_block hmx))
    rw [if_pos hck] at hc
    exact hc
  have hsame := fun (W : World) (B1 B2 : Nat) gv dv xs ys J (m1 : MadeE W B1 gv J xs) (m2 : MadeE W B2 dv J ys) => sameEvents_any B1 B2 gv dv xs ys J W m1.row m1.evs m2.row m2.evs
  have HORD := hid hord
  have HWB := hid hwb
  have HWH := hid hwh
  have HWK := hid hwk
  have HFIL := hid hfil
  have HSAME := hid hsame
  obtain ⟨W0, hW0⟩ : ∃ W0, (w.alloc (.cells (polC (.slice rp rn rc) (.slice sp sn sc) (.slice dp dn dc) P) 35)) = W0 := ⟨_, rfl⟩
  have hB : Below w.heap.size w W0 := by
    rw [← hW0]
    exact (Below.refl w.heap.size w).alloc (Nat.le_refl _) _
  have b0 : W0.heap[w.heap.size]? = some (.cells (polC (.slice rp rn rc) (.slice sp sn sc) (.slice dp dn dc) P) 35 (0, 0)) := by
    rw [← hW0]
    exact heap_alloc_new w _
  obtain ⟨c0, c1, c2, c3, c4⟩ := polC_at (P := P) b0
  have HB0 := hid hB
  clear h hF hs eb eh ek hT hK hV hmx hord hwb hwh hwk hfil hsame hB b0
  unfold polC at hW0 HORD ⊢
  go_enter Tryd.func4, Tryd.ntmps4
  go_upto_region 1 with fail
  clear hW0
  go_wp2_with fail
  refine (HORD.out _ HB0.out).mono ?_
  rintro e W1 ⟨v1, v2, v3, rfl, hpol, hb1⟩
  have hk1 := HB0.out.trans (hb1.mono HB0.out.size)
  obtain ⟨rp1, rn1, rc1, rfl⟩ := hpol.rules.shape
  obtain ⟨sp1, sn1, sc1, rfl⟩ := hpol.schemes.shape
  obtain ⟨dp1, dn1, dc1, rfl⟩ := hpol.drop.shape
  obtain ⟨DE, hDE⟩ : ∃ DE, (orderedP P).depth = DE := ⟨_, rfl⟩
  obtain ⟨WI, hWI⟩ : ∃ WI, (orderedP P).window = WI := ⟨_, rfl⟩
  rw [hDE, hWI] at HFIL
  rw [hDE, hWI]
  have HPOL := hid hpol
  clear c0 c1 c2 c3 c4 hb1 hpol
  go_upto_region 4 with fail
  obtain ⟨W4, hW4⟩ : ∃ W4, ((W1.alloc (.cells #[.slice rp1 rn1 rc1, .slice sp1 sn1 sc1, .slice dp1 dn1 dc1, .int .i64 DE, .int .i64 WI] 35)).alloc (.cells #[.int .i64 1, .string ⟨#[115, 118, 103]⟩, .slice none 0 0, .string ⟨#[]⟩] 39)).alloc (.cells #[.int .i64 2, .string ⟨#[115, 118, 103]⟩, .slice none 0 0, .string ⟨#[]⟩] 39) = W4 := ⟨_, rfl⟩
  have hB4 : DropB w W1 W4 #[.slice rp1 rn1 rc1, .slice sp1 sn1 sc1, .slice dp1 dn1 dc1, .int .i64 DE, .int .i64 WI] W1.heap.size (W1.heap.size + 1) (W1.heap.size + 1 + 1) := by
    rw [← hW4]
    exact DropB.new hk1
  simp only [hW4]
  clear hW4
  obtain ⟨q, hq⟩ : ∃ q, q = W1.heap.size := ⟨_, rfl⟩
  obtain ⟨q1, hq1⟩ : ∃ q1, q1 = W1.heap.size + 1 := ⟨_, rfl⟩
  obtain ⟨q2, hq2⟩ : ∃ q2, q2 = W1.heap.size + 1 + 1 := ⟨_, rfl⟩
  rw [← hq2, ← hq1, ← hq] at hB4
  simp only [← hq2]
  simp only [← hq1]
  simp only [← hq]
  have HB4 := hid hB4
  clear hB4 hk1 HB0 HORD hq hq1 hq2
  -- front
  go_upto_region 5 with fail
  obtain ⟨W5, hW5⟩ : ∃ W5, W4.alloc (.cells #[.int .i64 3, .string ⟨#[]⟩, .slice none 0 0, .string ⟨#[120]⟩] 39) = W5 := ⟨_, rfl⟩
  have hF5 : RowE w W4.heap.size W5 (.slice (some ⟨W4.heap.size, 0, none⟩) 1 1) [textX] := by
    rw [← hW5]
    exact RowE.one HB4.out.whole textX rfl
  have hc5 : Below W4.heap.size W4 W5 := by
    rw [← hW5]
    exact (Below.refl _ _).alloc (Nat.le_refl _) _
  simp only [hW5]
  clear hW5
  have HF5 := hid hF5
  have HC5 := hid hc5
  clear hF5 hc5
  go_wp2_with fail
  refine (HWB.out W5 (HB4.out.whole.trans (HC5.out.mono HB4.out.whole.size))).mono ?_
  rintro e W6 ⟨vb, rfl, hrb, hb6⟩
  have hF6 := HF5.out.below hb6
  have hc6 := HC5.out.trans (hb6.mono HC5.out.size)
  obtain ⟨vbp, vbn, vbc, rfl⟩ := hrb.shapeN
  have HF6 := hid hF6
  have HC6 := hid hc6
  have HRB := hid hrb
  clear hF6 hc6 hrb hb6 HF5 HC5
  go_wp2_with (at_builtin; refine wpList_append_evrow rfl (.tmp 25) (.tmp 27) rfl w W4.heap.size W5.heap.size _ _ [textX] (withoutL Eb) rfl rfl (by exact HF6.out) HC6.out.size (by exact HRB.out) (by simp only [List.length_cons, List.length_nil]; omega) ?_)
  intro v7 W7 hr7 hc7
  obtain ⟨Fr, hFr⟩ : ∃ F, dropFront Eb = F := ⟨_, rfl⟩
  have hFl : Fr.length ≤ 1100001 := by rw [← hFr]; show (withoutL Eb).length + 1 ≤ 1100001; omega
  have hfr : RowE w W4.heap.size W7 v7 Fr := by rw [← hFr]; exact hr7
  have HB7 := hid (HB4.out.below (HC6.out.trans hc7))
  have HFr7 := hid hfr
  obtain ⟨frp, frn, frc, rfl⟩ := hfr.shapeN
  clear hfr hr7 hc7 HF6 HC6 HRB HB4
  -- inner
  obtain ⟨In, hIn⟩ : ∃ F, withoutL Eh = F := ⟨_, rfl⟩
  obtain ⟨Bk, hBk⟩ : ∃ F, withoutL Ek = F := ⟨_, rfl⟩
  rw [hIn] at lh2 HWH
  rw [hBk] at lk2 HWK
  go_wp2_with fail
  refine (HWH.out W7 HB7.out.whole).mono ?_
  rintro e W8 ⟨vh, rfl, hrh, hb8⟩
  obtain ⟨inp, inn, inc, rfl⟩ := hrh.shapeN
  have HB8 := hid (HB7.out.below hb8)
  have HFr8 := hid (HFr7.out.below hb8)
  have HIn8 := hid hrh
  clear hrh hb8 HB7 HFr7
  go_wp2_with fail
  refine (HWK.out W8 HB8.out.whole).mono ?_
  rintro e W9 ⟨vk, rfl, hrk, hb9⟩
  obtain ⟨bkp, bkn, bkc, rfl⟩ := hrk.shapeN
  have HB9 := hid (HB8.out.below hb9)
  have HFr9 := hid (HFr8.out.below hb9)
  have HIn9 := hid (HIn8.out.below hb9)
  have HBk9 := hid hrk
  clear hrk hb9 HB8 HFr8 HIn8 HWB HWH HWK
  -- full
  have HR := hid (RowE.empty (w := w) (W := W9) HB9.out.whole)
  have HC := hid ((Below.refl W9.heap.size W9).alloc (Nat.le_refl _) (.cells #[] 39))
  have hl0 : ([] : List EvP).length ≤ 0 := Nat.le_refl _
  have HX := hid (RowE.on HFr9.out HC.out)
  go_wp2_with (at_builtin; refine wpList_append_evrow rfl (.tmp 33) (.tmp 34) rfl w W9.heap.size W4.heap.size _ _ [] Fr rfl rfl (by exact HR.out) HC.out.size (by exact HX.out) (by omega) ?_)
  intro vn1 Wn1 hrn hcn
  clear HX
  obtain ⟨L1, hL1⟩ : ∃ F, [] ++ Fr = F := ⟨_, rfl⟩
  have hl1 : L1.length ≤ 1100001 := by
    rw [← hL1, List.length_append]
    omega
  have hrr : RowE w W9.heap.size Wn1 vn1 L1 := by rw [← hL1]; exact hrn
  obtain ⟨np1, nn1, nc1, rfl⟩ := hrr.shapeN
  replace HR := hid hrr
  replace HC := hid (HC.out.trans hcn)
  have HL1 := hid hL1
  clear hrr hrn hcn hL1
  have hbx := (HB9.out.s)
  have hbx2 := (HC.out.block _ (block_lt hbx)).trans hbx
  have z0 := cell_at hbx2 (j := 0) rfl
  have z1 := cell_at hbx2 (j := 1) rfl
  have z2 := cell_at hbx2 (j := 2) rfl
  have z3 := cell_at hbx2 (j := 3) rfl
  clear hbx hbx2
  go_wp2_with (at_builtin; refine wpList_append_evcells rfl (.tmp 36) (.tmp 39) rfl w _ W9.heap.size _ L1 rfl (by exact HR.out) HC.out.size ((Below.refl _ _).alloc (Nat.le_refl _) _) ⟨_, 0, none⟩ 2 [(svgS, .slice none 0 0), (svgS, .slice none 0 0)] rfl (cells_newV _ _ _) (svg_attrs w) (by simp only [List.length_cons, List.length_nil]; omega) ?_)
  intro vn2 Wn2 hrn hcn
  clear z0 z1 z2 z3
  obtain ⟨L2, hL2⟩ : ∃ F, L1 ++ [svgS, svgS] = F := ⟨_, rfl⟩
  have hl2 : L2.length ≤ 1100003 := by
    rw [← hL2, List.length_append]
    simp only [List.length_cons, List.length_nil]; omega
  have hrr : RowE w W9.heap.size Wn2 vn2 L2 := by rw [← hL2]; exact hrn
  obtain ⟨np2, nn2, nc2, rfl⟩ := hrr.shapeN
  replace HR := hid hrr
  replace HC := hid (HC.out.trans hcn)
  have HL2 := hid hL2
  clear hrr hrn hcn hL2
  have HX := hid (RowE.on HIn9.out HC.out)
  go_wp2_with (at_builtin; refine wpList_append_evrow rfl (.tmp 41) (.tmp 42) rfl w W9.heap.size W7.heap.size _ _ L2 In rfl rfl (by exact HR.out) HC.out.size (by exact HX.out) (by omega) ?_)
  intro vn3 Wn3 hrn hcn
  clear HX
  obtain ⟨L3, hL3⟩ : ∃ F, L2 ++ In = F := ⟨_, rfl⟩
  have hl3 : L3.length ≤ 2200004 := by
    rw [← hL3, List.length_append]
    omega
  have hrr : RowE w W9.heap.size Wn3 vn3 L3 := by rw [← hL3]; exact hrn
  obtain ⟨np3, nn3, nc3, rfl⟩ := hrr.shapeN
  replace HR := hid hrr
  replace HC := hid (HC.out.trans hcn)
  have HL3 := hid hL3
  clear hrr hrn hcn hL3
  have hbx := (HB9.out.e)
  have hbx2 := (HC.out.block _ (block_lt hbx)).trans hbx
  have z0 := cell_at hbx2 (j := 0) rfl
  have z1 := cell_at hbx2 (j := 1) rfl
  have z2 := cell_at hbx2 (j := 2) rfl
  have z3 := cell_at hbx2 (j := 3) rfl
  clear hbx hbx2
  go_wp2_with (at_builtin; refine wpList_append_evcells rfl (.tmp 44) (.tmp 46) rfl w _ W9.heap.size _ L3 rfl (by exact HR.out) HC.out.size ((Below.refl _ _).alloc (Nat.le_refl _) _) ⟨_, 0, none⟩ 1 [(svgE, .slice none 0 0)] rfl (cells_newV _ _ _) (svgE_attrs w) (by simp only [List.length_cons, List.length_nil]; omega) ?_)
  intro vn4 Wn4 hrn hcn
  clear z0 z1 z2 z3
  obtain ⟨L4, hL4⟩ : ∃ F, L3 ++ [svgE] = F := ⟨_, rfl⟩
  have hl4 : L4.length ≤ 2200005 := by
    rw [← hL4, List.length_append]
    simp only [List.length_cons, List.length_nil]; omega
  have hrr : RowE w W9.heap.size Wn4 vn4 L4 := by rw [← hL4]; exact hrn
  obtain ⟨np4, nn4, nc4, rfl⟩ := hrr.shapeN
  replace HR := hid hrr
  replace HC := hid (HC.out.trans hcn)
  have HL4 := hid hL4
  clear hrr hrn hcn hL4
  have HX := hid (RowE.on HIn9.out HC.out)
  go_wp2_with (at_builtin; refine wpList_append_evrow rfl (.tmp 48) (.tmp 49) rfl w W9.heap.size W7.heap.size _ _ L4 In rfl rfl (by exact HR.out) HC.out.size (by exact HX.out) (by omega) ?_)
  intro vn5 Wn5 hrn hcn
  clear HX
  obtain ⟨L5, hL5⟩ : ∃ F, L4 ++ In = F := ⟨_, rfl⟩
  have hl5 : L5.length ≤ 3300006 := by
    rw [← hL5, List.length_append]
    omega
  have hrr : RowE w W9.heap.size Wn5 vn5 L5 := by rw [← hL5]; exact hrn
  obtain ⟨np5, nn5, nc5, rfl⟩ := hrr.shapeN
  replace HR := hid hrr
  replace HC := hid (HC.out.trans hcn)
  have HL5 := hid hL5
  clear hrr hrn hcn hL5
  have hbx := (HB9.out.e)
  have hbx2 := (HC.out.block _ (block_lt hbx)).trans hbx
  have z0 := cell_at hbx2 (j := 0) rfl
  have z1 := cell_at hbx2 (j := 1) rfl
  have z2 := cell_at hbx2 (j := 2) rfl
  have z3 := cell_at hbx2 (j := 3) rfl
  clear hbx hbx2
  go_wp2_with (at_builtin; refine wpList_append_evcells rfl (.tmp 51) (.tmp 53) rfl w _ W9.heap.size _ L5 rfl (by exact HR.out) HC.out.size ((Below.refl _ _).alloc (Nat.le_refl _) _) ⟨_, 0, none⟩ 1 [(svgE, .slice none 0 0)] rfl (cells_newV _ _ _) (svgE_attrs w) (by simp only [List.length_cons, List.length_nil]; omega) ?_)
  intro vn6 Wn6 hrn hcn
  clear z0 z1 z2 z3
  obtain ⟨L6, hL6⟩ : ∃ F, L5 ++ [svgE] = F := ⟨_, rfl⟩
  have hl6 : L6.length ≤ 3300007 := by
    rw [← hL6, List.length_append]
    simp only [List.length_cons, List.length_nil]; omega
  have hrr : RowE w W9.heap.size Wn6 vn6 L6 := by rw [← hL6]; exact hrn
  obtain ⟨np6, nn6, nc6, rfl⟩ := hrr.shapeN
  replace HR := hid hrr
  replace HC := hid (HC.out.trans hcn)
  have HL6 := hid hL6
  clear hrr hrn hcn hL6
  have HX := hid (RowE.on HBk9.out HC.out)
  go_wp2_with (at_builtin; refine wpList_append_evrow rfl (.tmp 55) (.tmp 56) rfl w W9.heap.size W8.heap.size _ _ L6 Bk rfl rfl (by exact HR.out) HC.out.size (by exact HX.out) (by omega) ?_)
  intro vn7 Wn7 hrn hcn
  clear HX
  obtain ⟨L7, hL7⟩ : ∃ F, L6 ++ Bk = F := ⟨_, rfl⟩
  have hl7 : L7.length ≤ 4400008 := by
    rw [← hL7, List.length_append]
    omega
  have hrr : RowE w W9.heap.size Wn7 vn7 L7 := by rw [← hL7]; exact hrn
  obtain ⟨np7, nn7, nc7, rfl⟩ := hrr.shapeN
  replace HR := hid hrr
  replace HC := hid (HC.out.trans hcn)
  have HL7 := hid hL7
  clear hrr hrn hcn hL7
  have HB20 := hid (HB9.out.below HC.out)
  have HFr20 := hid (HFr9.out.below HC.out)
  have HIn20 := hid (HIn9.out.below HC.out)
  have HBk20 := hid (HBk9.out.below HC.out)
  have HFu20 := hid HR.out
  clear HR HC HB9 HFr9 HIn9 HBk9 hl0
  -- bare
  have HR := hid (RowE.empty (w := w) (W := Wn7) HB20.out.whole)
  have HC := hid ((Below.refl Wn7.heap.size Wn7).alloc (Nat.le_refl _) (.cells #[] 39))
  have hl0 : ([] : List EvP).length ≤ 0 := Nat.le_refl _
  have HX := hid (RowE.on HFr20.out HC.out)
  go_wp2_with (at_builtin; refine wpList_append_evrow rfl (.tmp 58) (.tmp 59) rfl w Wn7.heap.size W4.heap.size _ _ [] Fr rfl rfl (by exact HR.out) HC.out.size (by exact HX.out) (by omega) ?_)
  intro vn8 Wn8 hrn hcn
  clear HX
  obtain ⟨L8, hL8⟩ : ∃ F, [] ++ Fr = F := ⟨_, rfl⟩
  have hl8 : L8.length ≤ 1100001 := by
    rw [← hL8, List.length_append]
    omega
  have hrr : RowE w Wn7.heap.size Wn8 vn8 L8 := by rw [← hL8]; exact hrn
  obtain ⟨np8, nn8, nc8, rfl⟩ := hrr.shapeN
  replace HR := hid hrr
  replace HC := hid (HC.out.trans hcn)
  have HL8 := hid hL8
  clear hrr hrn hcn hL8
  have HX := hid (RowE.on HBk20.out HC.out)
  go_wp2_with (at_builtin; refine wpList_append_evrow rfl (.tmp 61) (.tmp 62) rfl w Wn7.heap.size W8.heap.size _ _ L8 Bk rfl rfl (by exact HR.out) HC.out.size (by exact HX.out) (by omega) ?_)
  intro vn9 Wn9 hrn hcn
  clear HX
  obtain ⟨L9, hL9⟩ : ∃ F, L8 ++ Bk = F := ⟨_, rfl⟩
  have hl9 : L9.length ≤ 2200002 := by
    rw [← hL9, List.length_append]
    omega
  have hrr : RowE w Wn7.heap.size Wn9 vn9 L9 := by rw [← hL9]; exact hrn
  obtain ⟨np9, nn9, nc9, rfl⟩ := hrr.shapeN
  replace HR := hid hrr
  replace HC := hid (HC.out.trans hcn)
  have HL9 := hid hL9
  clear hrr hrn hcn hL9
  have HB30 := hid (HB20.out.below HC.out)
  have HFr30 := hid (HFr20.out.below HC.out)
  have HIn30 := hid (HIn20.out.below HC.out)
  have HBk30 := hid (HBk20.out.below HC.out)
  have HFu30 := hid (HFu20.out.below HC.out)
  have HBa30 := hid HR.out
  clear HR HC HB20 HFr20 HIn20 HBk20 HFu20 hl0
  -- flat
  have HR := hid (RowE.empty (w := w) (W := Wn9) HB30.out.whole)
  have HC := hid ((Below.refl Wn9.heap.size Wn9).alloc (Nat.le_refl _) (.cells #[] 39))
  have hl0 : ([] : List EvP).length ≤ 0 := Nat.le_refl _
  have HX := hid (RowE.on HFr30.out HC.out)
  go_wp2_with (at_builtin; refine wpList_append_evrow rfl (.tmp 64) (.tmp 65) rfl w Wn9.heap.size W4.heap.size _ _ [] Fr rfl rfl (by exact HR.out) HC.out.size (by exact HX.out) (by omega) ?_)
  intro vn10 Wn10 hrn hcn
  clear HX
  obtain ⟨L10, hL10⟩ : ∃ F, [] ++ Fr = F := ⟨_, rfl⟩
  have hl10 : L10.length ≤ 1100001 := by
    rw [← hL10, List.length_append]
    omega
  have hrr : RowE w Wn9.heap.size Wn10 vn10 L10 := by rw [← hL10]; exact hrn
  obtain ⟨np10, nn10, nc10, rfl⟩ := hrr.shapeN
  replace HR := hid hrr
  replace HC := hid (HC.out.trans hcn)
  have HL10 := hid hL10
  clear hrr hrn hcn hL10
  have HX := hid (RowE.on HIn30.out HC.out)
  go_wp2_with (at_builtin; refine wpList_append_evrow rfl (.tmp 67) (.tmp 68) rfl w Wn9.heap.size W7.heap.size _ _ L10 In rfl rfl (by exact HR.out) HC.out.size (by exact HX.out) (by omega) ?_)
  intro vn11 Wn11 hrn hcn
  clear HX
  obtain ⟨L11, hL11⟩ : ∃ F, L10 ++ In = F := ⟨_, rfl⟩
  have hl11 : L11.length ≤ 2200002 := by
    rw [← hL11, List.length_append]
    omega
  have hrr : RowE w Wn9.heap.size Wn11 vn11 L11 := by rw [← hL11]; exact hrn
  obtain ⟨np11, nn11, nc11, rfl⟩ := hrr.shapeN
  replace HR := hid hrr
  replace HC := hid (HC.out.trans hcn)
  have HL11 := hid hL11
  clear hrr hrn hcn hL11
  have HX := hid (RowE.on HIn30.out HC.out)
  go_wp2_with (at_builtin; refine wpList_append_evrow rfl (.tmp 70) (.tmp 71) rfl w Wn9.heap.size W7.heap.size _ _ L11 In rfl rfl (by exact HR.out) HC.out.size (by exact HX.out) (by omega) ?_)
  intro vn12 Wn12 hrn hcn
  clear HX
  obtain ⟨L12, hL12⟩ : ∃ F, L11 ++ In = F := ⟨_, rfl⟩
  have hl12 : L12.length ≤ 3300003 := by
    rw [← hL12, List.length_append]
    omega
  have hrr : RowE w Wn9.heap.size Wn12 vn12 L12 := by rw [← hL12]; exact hrn
  obtain ⟨np12, nn12, nc12, rfl⟩ := hrr.shapeN
  replace HR := hid hrr
  replace HC := hid (HC.out.trans hcn)
  have HL12 := hid hL12
  clear hrr hrn hcn hL12
  have HX := hid (RowE.on HBk30.out HC.out)
  go_wp2_with (at_builtin; refine wpList_append_evrow rfl (.tmp 73) (.tmp 74) rfl w Wn9.heap.size W8.heap.size _ _ L12 Bk rfl rfl (by exact HR.out) HC.out.size (by exact HX.out) (by omega) ?_)
  intro vn13 Wn13 hrn hcn
  clear HX
  obtain ⟨L13, hL13⟩ : ∃ F, L12 ++ Bk = F := ⟨_, rfl⟩
  have hl13 : L13.length ≤ 4400004 := by
    rw [← hL13, List.length_append]
    omega
  have hrr : RowE w Wn9.heap.size Wn13 vn13 L13 := by rw [← hL13]; exact hrn
  obtain ⟨np13, nn13, nc13, rfl⟩ := hrr.shapeN
  replace HR := hid hrr
  replace HC := hid (HC.out.trans hcn)
  have HL13 := hid hL13
  clear hrr hrn hcn hL13
  have HB40 := hid (HB30.out.below HC.out)
  have HFr40 := hid (HFr30.out.below HC.out)
  have HIn40 := hid (HIn30.out.below HC.out)
  have HBk40 := hid (HBk30.out.below HC.out)
  have HFu40 := hid (HFu30.out.below HC.out)
  have HBa40 := hid (HBa30.out.below HC.out)
  have HFl40 := hid HR.out
  clear HR HC HB30 HFr30 HIn30 HBk30 HFu30 HBa30 hl0
  have e7 : L7 = dropFullL Fr In Bk := by rw [← HL7.out, ← HL6.out, ← HL5.out, ← HL4.out, ← HL3.out, ← HL2.out, ← HL1.out]; simp [dropFullL]
  have e9 : L9 = Fr ++ Bk := by rw [← HL9.out, ← HL8.out]; simp
  have e13 : L13 = Fr ++ (In ++ (In ++ Bk)) := by rw [← HL13.out, ← HL12.out, ← HL11.out, ← HL10.out]; simp
  have k7 : bulkE L7 ≤ 4000000 := by rw [e7, ← hFr, ← hIn, ← hBk]; omega
  have k0 : bulkE Fr ≤ bulkE Eb + 2 := by rw [← hFr]; exact bulk_front Eb
  have k1 : bulkE In ≤ bulkE Eh := by rw [← hIn]; exact bulk_without Eh
  have k2 : bulkE Bk ≤ bulkE Ek := by rw [← hBk]; exact bulk_without Ek
  have k9 : bulkE L9 ≤ 4000000 := by rw [e9, bulkE_app]; omega
  have k13 : bulkE L13 ≤ 4000000 := by rw [e13, bulkE_app, bulkE_app, bulkE_app]; omega
  obtain ⟨J1, hJ1⟩ : ∃ J, filterP (dropQ P [svgL]) L7 = J := ⟨_, rfl⟩
  obtain ⟨J0, hJ0⟩ : ∃ J, filterP (dropQ P []) L7 = J := ⟨_, rfl⟩
  have hJ1b : filterP (dropQ P [svgL]) L9 = J1 := by rw [← hJ1, e7, e9, ← hFr, ← hIn, ← hBk]; exact (drop_same1 P Eb Eh Ek).symm
  have hJ0b : filterP (dropQ P []) L13 = J0 := by rw [← hJ0, e7, e13, ← hFr, ← hIn, ← hBk]; exact (drop_same0 P Eb Eh Ek).symm
  have hJ1c : ∃ r, J1 = .text [120] :: r := ⟨_, by rw [← hJ1, e7, ← hFr]; exact filt_textX _ _⟩
  have hJ0c : ∃ r, J0 = .text [120] :: r := ⟨_, by rw [← hJ0, e7, ← hFr]; exact filt_textX _ _⟩
  have hJ1l : 0 < J1.length := by obtain ⟨r, rfl⟩ := hJ1c; simp
  have hJ0l : 0 < J0.length := by obtain ⟨r, rfl⟩ := hJ0c; simp
  have hJ1d : J1[0]'hJ1l = .text [120] := by obtain ⟨r, rfl⟩ := hJ1c; rfl
  have hJ0d : J0[0]'hJ0l = .text [120] := by obtain ⟨r, rfl⟩ := hJ0c; rfl
  have hz1 : ((J1.length : Int) == 0) = false := by rw [Bool.eq_false_iff]; intro h; rw [beq_iff_eq] at h; omega
  have HK := hid (And.intro k7 (And.intro k9 k13))
  have HJ := hid (And.intro hJ1 (And.intro hJ1b (And.intro hJ0 hJ0b)))
  clear e7 e9 e13 k7 k9 k13 k0 k1 k2 hJ1 hJ1b hJ0 hJ0b hJ1c hJ0c HL1 HL2 HL3 HL4 HL5 HL6 HL7 HL8 HL9 HL10 HL11 HL12 HL13 hFr hIn hBk HFr40 HIn40 HBk40 bf hbulk
  go_upto_region 21 with fail
  obtain ⟨c0, c1, c2, c3, c4, y0, y1, y2, y3, y4⟩ := po_cells HB40.out.q
  have hlq := block_lt HB40.out.q
  obtain ⟨dq22, dr22⟩ := drop_set P [svgL] HB40.out.b1 HB40.out.be HB40.out.lo HB40.out.q HPOL.out (by decide)
  have hFu22 := dr22 _ _ _ HFu40.out
  have hBa22 := dr22 _ _ _ HBa40.out
  have hFl22 := dr22 _ _ _ HFl40.out
  go_upto_region 22 with fail
  obtain ⟨W22, hW22⟩ : ∃ W, (Wn13.alloc (.cells #[.string ⟨#[115, 118, 103]⟩] 9)).setCell ⟨q, 2, none⟩ (.slice (some ⟨Wn13.heap.size, 0, none⟩) 1 1) = W := ⟨_, rfl⟩
  replace dq22 : DropQ w W1 W22 (.slice rp1 rn1 rc1) (.slice sp1 sn1 sc1) (.slice (some ⟨Wn13.heap.size, 0, none⟩) 1 1) (.int .i64 DE) (.int .i64 WI) q P [svgL] := by rw [← hW22]; exact dq22
  replace hFu22 : RowE w W9.heap.size W22 (.slice np7 nn7 nc7) L7 := by rw [← hW22]; exact hFu22
  replace hBa22 : RowE w Wn7.heap.size W22 (.slice np9 nn9 nc9) L9 := by rw [← hW22]; exact hBa22
  replace hFl22 : RowE w Wn9.heap.size W22 (.slice np13 nn13 nc13) L13 := by rw [← hW22]; exact hFl22
  rw [World.setCell_alloc_past _ _ _ _ hlq] at hW22
  simp only [hW22]
  clear hW22 dr22 c0 c1 c2 c3 c4 y0 y1 y2 y3 y4 hlq HFu40 HBa40 HFl40 HB40
  have HQ22 := hid dq22
  have HFu22 := hid hFu22
  have HBa22 := hid hBa22
  have HFl22 := hid hFl22
  obtain ⟨c0, c1, c2, c3, c4, -⟩ := po_cells dq22.q
  clear dq22 hFu22 hBa22 hFl22
  go_wp2_with fail
  refine (HFIL.out [svgL] (.inl rfl) W22 HQ22.out.whole _ _ _ _ L7 HQ22.out.p HFu22.out.evs HK.out.1).mono ?_
  rintro e W23 ⟨gv, xs, rfl, mgot, hb23⟩
  rw [HJ.out.1] at mgot
  obtain ⟨g, cap, ga, rfl, -, -, -, -, -, cg, -, -⟩ := ev_cells mgot.row mgot.evs 0 hJ1l
  replace cg : W23.cell? ⟨g, 3, none⟩ = some (.string ⟨#[120]⟩) := by rw [hJ1d, Nat.zero_mul, Nat.zero_add] at cg; exact cg
  have HQ23 := hid (HQ22.out.below hb23)
  have HFu23 := hid (HFu22.out.below hb23)
  have HBa23 := hid (HBa22.out.below hb23)
  have HFl23 := hid (HFl22.out.below hb23)
  have HG23 := hid mgot
  replace c0 := cell_kept c0 hb23
  replace c1 := cell_kept c1 hb23
  replace c2 := cell_kept c2 hb23
  replace c3 := cell_kept c3 hb23
  replace c4 := cell_kept c4 hb23
  clear mgot hb23 HQ22 HFu22 HBa22 HFl22
  go_wp2_with fail
  refine (begun_any ⟨#[120]⟩ [] rfl _).mono ?_
  rintro e Wb ⟨rfl, rfl⟩
  go_wp2_with fail
  refine (HFIL.out [svgL] (.inl rfl) Wb HQ23.out.whole _ _ _ _ L9 HQ23.out.p HBa23.out.evs HK.out.2.1).mono ?_
  rintro e W24 ⟨dv, ys, rfl, mdue, hb24⟩
  rw [HJ.out.2.1] at mdue
  obtain ⟨dvp, dvc, rfl⟩ := row_shape mdue.row
  have hse := HSAME.out W24 _ _ _ _ _ _ J1 (HG23.out.below hb24) mdue
  have HSE := hid hse
  have HQ24 := hid (HQ23.out.below hb24)
  have HFu24 := hid (HFu23.out.below hb24)
  have HFl24 := hid (HFl23.out.below hb24)
  clear mdue hb24 hse HQ23 HFu23 HBa23 HFl23 HG23 c0 c1 c2 c3 c4 cg
  go_wp2_with fail
  refine HSE.out.mono ?_
  rintro e W25 ⟨rfl, n25, rfl⟩
  -- Drop is empty
  have hd25 : Below W24.heap.size W24 (W24.drewN n25) := below_drewN (Below.refl _ _) n25
  obtain ⟨W25, hW25⟩ : ∃ W, W24.drewN n25 = W := ⟨_, rfl⟩
  rw [hW25] at hd25
  simp only [hW25]
  have HQ25 := hid (HQ24.out.below hd25)
  have HFu25 := hid (HFu24.out.below hd25)
  have HFl25 := hid (HFl24.out.below hd25)
  clear hW25 hd25 HQ24 HFu24 HFl24 HSE
  go_upto_region 25 with fail
  obtain ⟨c0, c1, c2, c3, c4, y0, y1, y2, y3, y4⟩ := po_cells HQ25.out.q
  have hlq := block_lt HQ25.out.q
  obtain ⟨dq26, dr26⟩ := drop_set P [] HQ25.out.b1 HQ25.out.be HQ25.out.lo HQ25.out.q HPOL.out (by decide)
  have hFu26 := dr26 _ _ _ HFu25.out
  have hFl26 := dr26 _ _ _ HFl25.out
  go_upto_region 26 with fail
  obtain ⟨W26, hW26⟩ : ∃ W, (W25.alloc (.cells #[] 9)).setCell ⟨q, 2, none⟩ (.slice (some ⟨W25.heap.size, 0, none⟩) 0 0) = W := ⟨_, rfl⟩
  replace dq26 : DropQ w W1 W26 (.slice rp1 rn1 rc1) (.slice sp1 sn1 sc1) (.slice (some ⟨W25.heap.size, 0, none⟩) 0 0) (.int .i64 DE) (.int .i64 WI) q P [] := by rw [← hW26]; exact dq26
  replace hFu26 : RowE w W9.heap.size W26 (.slice np7 nn7 nc7) L7 := by rw [← hW26]; exact hFu26
  replace hFl26 : RowE w Wn9.heap.size W26 (.slice np13 nn13 nc13) L13 := by rw [← hW26]; exact hFl26
  rw [World.setCell_alloc_past _ _ _ _ hlq] at hW26
  simp only [hW26]
  clear hW26 dr26 c0 c1 c2 c3 c4 y0 y1 y2 y3 y4 hlq HFu25 HFl25 HQ25
  have HQ26 := hid dq26
  have HFu26 := hid hFu26
  have HFl26 := hid hFl26
  obtain ⟨c0, c1, c2, c3, c4, -⟩ := po_cells dq26.q
  clear dq26 hFu26 hFl26
  go_wp2_with fail
  refine (HFIL.out [] (.inr rfl) W26 HQ26.out.whole _ _ _ _ L7 HQ26.out.p HFu26.out.evs HK.out.1).mono ?_
  rintro e W27 ⟨gv, xs, rfl, mgot, hb27⟩
  rw [HJ.out.2.2.1] at mgot
  obtain ⟨g, cap, ga, rfl, -, -, -, -, -, cg, -, -⟩ := ev_cells mgot.row mgot.evs 0 hJ0l
  replace cg : W27.cell? ⟨g, 3, none⟩ = some (.string ⟨#[120]⟩) := by rw [hJ0d, Nat.zero_mul, Nat.zero_add] at cg; exact cg
  have HQ27 := hid (HQ26.out.below hb27)
  have HFl27 := hid (HFl26.out.below hb27)
  have HG27 := hid mgot
  replace c0 := cell_kept c0 hb27
  replace c1 := cell_kept c1 hb27
  replace c2 := cell_kept c2 hb27
  replace c3 := cell_kept c3 hb27
  replace c4 := cell_kept c4 hb27
  clear mgot hb27 HQ26 HFu26 HFl26
  go_wp2_with fail
  refine (begun_any ⟨#[120]⟩ [] rfl _).mono ?_
  rintro e Wc ⟨rfl, rfl⟩
  go_wp2_with fail
  refine (HFIL.out [] (.inr rfl) Wc HQ27.out.whole _ _ _ _ L13 HQ27.out.p HFl27.out.evs HK.out.2.2).mono ?_
  rintro e W28 ⟨dv, ys, rfl, mdue, hb28⟩
  rw [HJ.out.2.2.2] at mdue
  obtain ⟨dvp, dvc, rfl⟩ := row_shape mdue.row
  have hse := HSAME.out W28 _ _ _ _ _ _ J0 (HG27.out.below hb28) mdue
  have HSE := hid hse
  have HZ := hid (HQ27.out.whole.trans (hb28.mono HQ27.out.whole.size))
  clear mdue hb28 hse HQ27 HFl27 HG27 c0 c1 c2 c3 c4 cg
  go_wp2_with fail
  refine HSE.out.mono ?_
  rintro e W29 ⟨rfl, n29, rfl⟩
  go_wp2_with fail
  go_ret
  exact ⟨rfl, below_drewN HZ.out n29⟩
end Go.Proofs.YtkcgmimldjeaiaaDoor
