/-
  Parts of the walk, joined: PolCodeE, FiltC, BalB, BalC, BalD, BalE, BalF, BalG, RefBO, RefBP, RefWrA, BalP, EndTextG, BalQ, LendEv.
-/
import Derived.Test.YtkcgmimldjeaiaaDoorJoinA
import Derived.Test.YtkcgmimldjeaiaaDoorJoinD
import Derived.Test.YtkcgmimldjeaiaaDoorJoinC
import Derived.BigQuiet
import Derived.Deep.RegionWith
import Derived.Test.YtkcgmimldjeaiaaDoorJoinB
import Derived.Deep.Cut
import Derived.Test.YtkcgmimldjeaiaaDoorRefSet
import Derived.Deep.RegionLaw
import Derived.Deep.AppendLies
/-
  policy.Check: its walk.
-/
namespace Go.Proofs.YtkcgmimldjeaiaaDoor
open Go.RowKit Go.Lib Own

/-- the first line that is true, as the code asks -/
def checkC (P : PolP) : Nat :=
  if P.depth < 1 ∨ 256 < P.depth then 1 else if P.window < 32 ∨ 4096 < P.window then 2 else if (P.rules.map Prod.fst).any (fun s => classL s == 0) = true then 3 else if twiceL (P.rules.map Prod.fst) = true then 4
  else if P.rules.any (fun r => r.2.any fun a => !attrT.contains a) = true then 5 else if P.rules.any (fun r => twiceL r.2) = true then 6 else if (decide (32 < P.schemes.length) || P.schemes.any wrongSchemeP) = true then 7
  else if twiceL P.schemes = true then 8 else if ((decide (64 < P.drop.length) || twiceL P.drop) || P.drop.any (wrongDropP (P.rules.map Prod.fst))) = true then 9 else if partsP (P.rules.map Prod.fst) = true then 10 else 0
theorem anyWrong3 (P : PolP) : anyWrongP 3 P = (P.rules.map Prod.fst).any (fun s => classL s == 0) := by
  unfold anyWrongP
  rw [decide_eq_false (by decide), decide_eq_false (by decide), Bool.false_and, Bool.false_and, Bool.or_false, Bool.or_false, List.any_map]
  rfl
theorem anyWrong5 (P : PolP) : anyWrongP 5 P = P.rules.any (fun r => r.2.any fun a => !attrT.contains a) := by
  unfold anyWrongP
  rw [decide_eq_false (by decide), decide_eq_false (by decide), Bool.false_and, Bool.false_and, Bool.or_false, Bool.or_false]
  congr 1
theorem anyWrong6 (P : PolP) : anyWrongP 6 P = P.rules.any (fun r => twiceL r.2) := by
  unfold anyWrongP
  rw [decide_eq_false (by decide), decide_eq_false (by decide), Bool.false_and, Bool.false_and, Bool.or_false, Bool.or_false]
  rfl
theorem any_false {α : Type} {p : α → Bool} {l : List α} (h : ∀ x, p x = false) : l.any p = false := by
  rw [List.any_eq_false]
  intro x _
  rw [h x]; simp
theorem anyWrong7 (P : PolP) : anyWrongP 7 P = P.schemes.any wrongSchemeP := by
  unfold anyWrongP
  rw [decide_eq_true rfl, decide_eq_false (by decide), Bool.false_and, Bool.or_false, Bool.true_and, any_false (p := wrongRuleP 7) (fun r => rfl), Bool.false_or]
theorem anyWrong9 (P : PolP) : anyWrongP 9 P = P.drop.any (wrongDropP (P.rules.map Prod.fst)) := by
  unfold anyWrongP
  rw [decide_eq_false (by decide), decide_eq_true rfl, Bool.false_and, Bool.false_or, Bool.true_and, any_false (p := wrongRuleP 9) (fun r => rfl), Bool.false_or]
theorem check_same (P : PolP) : checkC P = checkP P := by
  have h1 : wrongP 1 P = decide (P.depth < 1 ∨ 256 < P.depth) := rfl
  have h2 : wrongP 2 P = decide (P.window < 32 ∨ 4096 < P.window) := rfl
  have h3 : wrongP 3 P = (P.rules.map Prod.fst).any (fun s => classL s == 0) := anyWrong3 P
  have h4 : wrongP 4 P = twiceL (P.rules.map Prod.fst) := rfl
  have h5 : wrongP 5 P = P.rules.any (fun r => r.2.any fun a => !attrT.contains a) := anyWrong5 P
  have h6 : wrongP 6 P = P.rules.any (fun r => twiceL r.2) := anyWrong6 P
  have h7 : wrongP 7 P = (decide (32 < P.schemes.length) || P.schemes.any wrongSchemeP) := by show (_ || anyWrongP 7 P) = _; rw [anyWrong7]
  have h8 : wrongP 8 P = twiceL P.schemes := rfl
  have h9 : wrongP 9 P = ((decide (64 < P.drop.length) || twiceL P.drop) || P.drop.any (wrongDropP (P.rules.map Prod.fst))) := by show ((_ || _) || anyWrongP 9 P) = _; rw [anyWrong9]
  have h10 : wrongP 10 P = partsP (P.rules.map Prod.fst) := rfl
  unfold checkC checkP
  rw [← h3, ← h4, ← h5, ← h6, ← h7, ← h8, ← h9, ← h10]
  have d1 : (P.depth < 1 ∨ 256 < P.depth) = (wrongP 1 P = true) := by rw [h1, decide_eq_true_eq]
  have d2 : (P.window < 32 ∨ 4096 < P.window) = (wrongP 2 P = true) := by rw [h2, decide_eq_true_eq]
  simp only [checkFrom, d1, d2]
set_option maxHeartbeats 4000000 in
set_option maxRecDepth 100000 in
theorem check_any (vr vs vd : Value) (P : PolP) (w : World) (h : PolR w vr vs vd P) (hF : P.Few) (hK : KindsTab w) (hV : VAttrTab w) :
    Calls Tryd.prog 36 #[.agg (polC vr vs vd P)] w fun e w' => e = .returned (.int .i64 (checkC P)) ∧ Below w.heap.size w w' := by
  have hb0 := heap_alloc_new w (.cells (polC vr vs vd P) 35)
  have hbel0 : Below w.heap.size w (w.alloc (.cells (polC vr vs vd P) 35)) := (Below.refl w.heap.size w).alloc (Nat.le_refl _) _
  obtain ⟨W1, hW1⟩ : ∃ W1, w.alloc (.cells (polC vr vs vd P) 35) = W1 := ⟨_, rfl⟩
  rw [hW1] at hb0 hbel0
  obtain ⟨rp, rc, hvr, _⟩ := h.rules
  obtain ⟨sp, sc, hvs, _⟩ := h.schemes
  obtain ⟨dp, dc, hvd, _⟩ := h.drop
  subst hvr hvs hvd
  have g0 := hF.d0
  have g1 := hF.d1
  have g2 := hF.w0
  have g3 := hF.w1
  have f2 := hF.schemes
  have hrn := ruleNames_any _ P.rules W1 (h.rules.below hbel0) hF.rules
  -- at a world behind the names: each call
  have hst : ∀ W nv, Words W nv (P.rules.map Prod.fst) → Below w.heap.size w W → W.heap[w.heap.size]? = some (.cells (polC (.slice rp P.rules.length rc) (.slice sp P.schemes.length sc) (.slice dp P.drop.length dc) P) 35 (0, 0)) → True := fun _ _ _ _ _ => trivial
  have cEl := fun W nv (hn : Words W nv (P.rules.map Prod.fst)) hk => slContainsFunc_any 63 #[] (enters_of Tryd.func63 (by kernel_rfl) rfl) _ nv _ W hn (predEl W _ hk)
  have cTw := fun W nv (hn : Words W nv (P.rules.map Prod.fst)) => hasTwice_any nv _ W hn
  have cUn := fun W (hr : RulesR W (.slice rp P.rules.length rc) P.rules) hv => ruContainsFunc_any 66 #[] (enters_of Tryd.func66 (by kernel_rfl) rfl) _ _ _ W hr (predUnk W P.rules hv)
  have cRt := fun W (hr : RulesR W (.slice rp P.rules.length rc) P.rules) => ruContainsFunc_any 67 #[] (enters_of Tryd.func67 (by kernel_rfl) rfl) _ _ _ W hr (predTw W P.rules)
  have cSc := fun W (hr : Words W (.slice sp P.schemes.length sc) P.schemes) => slContainsFunc_any 68 #[] (enters_of Tryd.func68 (by kernel_rfl) rfl) _ _ _ W hr (predSch W P.schemes (fun s hs => Nat.le_trans (hF.slen s hs) (by omega)))
  have cSt := fun W (hr : Words W (.slice sp P.schemes.length sc) P.schemes) => hasTwice_any _ _ W hr
  have cDr := fun W nv (hd : Words W (.slice dp P.drop.length dc) P.drop) (hn : Words W nv (P.rules.map Prod.fst)) => hasBadDrop_any _ nv P.drop _ W hd hn (fun s hs => Nat.le_trans (hF.dlen s hs) (by omega)) hF.drop
  have cPa := fun W nv (hn : Words W nv (P.rules.map Prod.fst)) => lacksParts_any nv _ W hn
  obtain ⟨R, hR⟩ : ∃ R, checkC P = R := ⟨_, rfl⟩
  rw [hR]
  unfold checkC at hR
  generalize (P.rules.map Prod.fst).any (fun s => classL s == 0) = b3 at cEl hR
  generalize twiceL (P.rules.map Prod.fst) = b4 at cTw hR
  generalize P.rules.any (fun r => r.2.any fun a => !attrT.contains a) = b5 at cUn hR
  generalize P.rules.any (fun r => twiceL r.2) = b6 at cRt hR
  generalize P.schemes.any wrongSchemeP = b7 at cSc hR
  generalize twiceL P.schemes = b8 at cSt hR
  generalize ((decide (64 < P.drop.length) || twiceL P.drop) || P.drop.any (wrongDropP (P.rules.map Prod.fst))) = b9 at cDr hR
  generalize partsP (P.rules.map Prod.fst) = b10 at cPa hR
  have HR := hid (fun (_ : True) => hR)
  have HP := hid h
  have HK := hid hK
  have HV := hid hV
  have HRN := hid hrn
  have HEl := hid cEl
  have HTw := hid cTw
  have HUn := hid cUn
  have HRt := hid cRt
  have HSc := hid cSc
  have HSt := hid cSt
  have HDr := hid cDr
  have HPa := hid cPa
  have H0 := hid (And.intro hbel0 hb0)
  clear hst cEl cTw cUn cRt cSc cSt cDr cPa hR h hK hV hrn hF hb0 hbel0
  unfold polC at hW1 ⊢
  go_enter Tryd.func36, Tryd.ntmps36
  have c0 := (polC_at (P := P) H0.out.2).1
  go_wp2_with fail
  refine HRN.out.mono ?_
  rintro e w1 ⟨nv, rfl, hnw, bb1⟩
  have H1 := hid (And.intro (H0.out.1.trans (bb1.mono H0.out.1.size)) (And.intro ((bb1.block _ (block_lt H0.out.2)).trans H0.out.2) hnw))
  obtain ⟨np, nc, hnv, _⟩ := hnw.len
  rw [List.length_map] at hnv
  subst hnv
  clear hnw bb1 HRN c0 H0
  obtain ⟨c0, c1, c2, c3, c4⟩ := polC_at (P := P) H1.out.2.1
  by_cases z1 : P.depth < 1
  · go_wp2_with fail
    go_ret
    exact ⟨ret_intS (by rw [← HR.out trivial, if_pos (.inl z1)]; rfl), H1.out.1⟩
  by_cases z2 : 256 < P.depth
  · go_wp2_with fail
    go_ret
    exact ⟨ret_intS (by rw [← HR.out trivial, if_pos (.inr z2)]; rfl), H1.out.1⟩
  by_cases z3 : P.window < 32
  · go_wp2_with fail
    go_ret
    exact ⟨ret_intS (by rw [← HR.out trivial, if_neg (by omega), if_pos (.inl z3)]; rfl), H1.out.1⟩
  by_cases z4 : 4096 < P.window
  · go_wp2_with fail
    go_ret
    exact ⟨ret_intS (by rw [← HR.out trivial, if_neg (by omega), if_pos (.inr z4)]; rfl), H1.out.1⟩
  have HR2 := hid (fun (_ : True) => (by have := HR.out trivial; rwa [if_neg (by omega), if_neg (by omega)] at this))
  go_wp2_with fail
  refine (HEl.out _ _ H1.out.2.2 (HK.out.below H1.out.1)).mono ?_
  rintro e w2 ⟨rfl, bb2⟩
  have H2 := hid (And.intro (H1.out.1.trans (bb2.mono H1.out.1.size)) (And.intro ((bb2.block _ (block_lt H1.out.2.1)).trans H1.out.2.1) (H1.out.2.2.below bb2)))
  clear bb2 c0 c1 c2 c3 c4
  obtain ⟨c0, c1, c2, c3, c4⟩ := polC_at (P := P) H2.out.2.1
  cases b3 with
  | true =>
    go_wp2_with fail
    go_ret
    exact ⟨ret_intS (by rw [← HR2.out trivial]; rfl), H2.out.1⟩
  | false =>
    go_wp2_with fail
    refine (HTw.out _ _ H2.out.2.2).mono ?_
    rintro e ww ⟨rfl, rfl⟩
    cases b4 with
    | true =>
      go_wp2_with fail
      go_ret
      exact ⟨ret_intS (by rw [← HR2.out trivial]; rfl), H2.out.1⟩
    | false =>
      go_wp2_with fail
      refine (HUn.out _ (HP.out.rules.below H2.out.1) (HV.out.below H2.out.1)).mono ?_
      rintro e w3 ⟨rfl, bb3⟩
      have H3 := hid (And.intro (H2.out.1.trans (bb3.mono H2.out.1.size)) (And.intro ((bb3.block _ (block_lt H2.out.2.1)).trans H2.out.2.1) (H2.out.2.2.below bb3)))
      clear bb3 c0 c1 c2 c3 c4
      obtain ⟨c0, c1, c2, c3, c4⟩ := polC_at (P := P) H3.out.2.1
      cases b5 with
      | true =>
        go_wp2_with fail
        go_ret
        exact ⟨ret_intS (by rw [← HR2.out trivial]; rfl), H3.out.1⟩
      | false =>
        go_wp2_with fail
        refine (HRt.out _ (HP.out.rules.below H3.out.1)).mono ?_
        rintro e w4 ⟨rfl, bb4⟩
        have H4 := hid (And.intro (H3.out.1.trans (bb4.mono H3.out.1.size)) (And.intro ((bb4.block _ (block_lt H3.out.2.1)).trans H3.out.2.1) (H3.out.2.2.below bb4)))
        clear bb4 c0 c1 c2 c3 c4
        obtain ⟨c0, c1, c2, c3, c4⟩ := polC_at (P := P) H4.out.2.1
        cases b6 with
        | true =>
          go_wp2_with fail
          go_ret
          exact ⟨ret_intS (by rw [← HR2.out trivial]; rfl), H4.out.1⟩
        | false =>
          by_cases z7 : 32 < P.schemes.length
          · have y7 : (P.schemes.length : Int) > 32 := by omega
            go_wp2_with fail
            go_ret
            exact ⟨ret_intS (by rw [← HR2.out trivial, decide_eq_true z7]; rfl), H4.out.1⟩
          have y7 : ¬ ((P.schemes.length : Int) > 32) := by omega
          replace HR2 := hid (fun (_ : True) => (by have := HR2.out trivial; rwa [decide_eq_false z7, Bool.false_or] at this))
          go_wp2_with fail
          refine (HSc.out _ (HP.out.schemes.below H4.out.1)).mono ?_
          rintro e w5 ⟨rfl, bb5⟩
          have H5 := hid (And.intro (H4.out.1.trans (bb5.mono H4.out.1.size)) (And.intro ((bb5.block _ (block_lt H4.out.2.1)).trans H4.out.2.1) (H4.out.2.2.below bb5)))
          clear bb5 c0 c1 c2 c3 c4
          obtain ⟨c0, c1, c2, c3, c4⟩ := polC_at (P := P) H5.out.2.1
          cases b7 with
          | true =>
            go_wp2_with fail
            go_ret
            exact ⟨ret_intS (by rw [← HR2.out trivial]; rfl), H5.out.1⟩
          | false =>
            go_wp2_with fail
            refine (HSt.out _ (HP.out.schemes.below H5.out.1)).mono ?_
            rintro e ww ⟨rfl, rfl⟩
            cases b8 with
            | true =>
              go_wp2_with fail
              go_ret
              exact ⟨ret_intS (by rw [← HR2.out trivial]; rfl), H5.out.1⟩
            | false =>
              go_wp2_with fail
              refine (HDr.out _ _ (HP.out.drop.below H5.out.1) H5.out.2.2).mono ?_
              rintro e w6 ⟨rfl, bb6⟩
              have H6 := hid (And.intro (H5.out.1.trans (bb6.mono H5.out.1.size)) (And.intro ((bb6.block _ (block_lt H5.out.2.1)).trans H5.out.2.1) (H5.out.2.2.below bb6)))
              clear bb6 c0 c1 c2 c3 c4
              obtain ⟨c0, c1, c2, c3, c4⟩ := polC_at (P := P) H6.out.2.1
              cases b9 with
              | true =>
                go_wp2_with fail
                go_ret
                exact ⟨ret_intS (by rw [← HR2.out trivial]; rfl), H6.out.1⟩
              | false =>
                go_wp2_with fail
                refine (HPa.out _ _ H6.out.2.2).mono ?_
                rintro e w7 ⟨rfl, bb7⟩
                have H7 := hid (And.intro (H6.out.1.trans (bb7.mono H6.out.1.size)) (And.intro ((bb7.block _ (block_lt H6.out.2.1)).trans H6.out.2.1) (H6.out.2.2.below bb7)))
                clear bb7 c0 c1 c2 c3 c4
                obtain ⟨c0, c1, c2, c3, c4⟩ := polC_at (P := P) H7.out.2.1
                cases b10 with
                | true =>
                  go_wp2_with fail
                  go_ret
                  exact ⟨ret_intS (by rw [← HR2.out trivial]; rfl), H7.out.1⟩
                | false =>
                  go_wp2_with fail
                  go_ret
                  exact ⟨ret_intS (by rw [← HR2.out trivial]; rfl), H7.out.1⟩
end Go.Proofs.YtkcgmimldjeaiaaDoor

/-
  policy.Filter: its walk.
-/
namespace Go.Proofs.YtkcgmimldjeaiaaDoor
open Go.RowKit Go.Lib Own

/-- a list of events that a call made: its row, the events, and that their lists of attributes stand apart -/
structure MadeE (W : World) (base : Nat) (v : Value) (J : List Ev) (xs : List Value) : Prop where
  row : W.ownsRow base 39 4 v J.length xs
  evs : EvsAt W base xs J
  ap : Apart xs
theorem MadeE.nil (W : World) (base : Nat) : MadeE W base (.slice none 0 0) [] [] := ⟨World.ownsRow_nil _ _ _ _, trivial, trivial⟩
theorem MadeE.grown {W W' : World} {base : Nat} {v : Value} {J : List Ev} {xs : List Value} {r : Option Nat} (h : MadeE W base v J xs) (g : W.grownBy W' r) (h1 : v.ownBlock = none ∨ v.ownBlock ≠ r) (h2 : ∀ a n ys, W.ownsRow base 101 2 a n ys → a.ownBlock = none ∨ a.ownBlock ≠ r) : MadeE W' base v J xs :=
  ⟨h.row.kept g h1, evs_mono (fun _ _ _ hr => hr.kept g (h2 _ _ _ hr)) xs J h.evs, h.ap⟩
theorem MadeE.below {W W' : World} {base : Nat} {v : Value} {J : List Ev} {xs : List Value} (h : MadeE W base v J xs) (hb : Below W.heap.size W W') : MadeE W' base v J xs :=
  ⟨row_below h.row hb, evs_mono (fun _ _ _ hr => row_below hr hb) xs J h.evs, h.ap⟩
theorem evsAll_low {W : World} {B base : Nat} (hb : base ≤ B) : ∀ (xs : List Value) (l : List Ev), EvsAt W B xs l → EvsAt W base xs l
  | [], [], _ => trivial
  | k :: n :: a :: t :: r, e :: l, ⟨h1, h2⟩ => by
    refine ⟨?_, evsAll_low hb r l h2⟩
    cases e with
    | text b => exact h1
    | start m at_ => exact ⟨h1.1, h1.2.1, row_low h1.2.2.1 hb, h1.2.2.2⟩
    | stop m => exact h1
  | [], _ :: _, h => h.elim
  | [_], _, h => by cases ‹List Ev› <;> exact h.elim
  | [_, _], _, h => by cases ‹List Ev› <;> exact h.elim
  | [_, _, _], _, h => by cases ‹List Ev› <;> exact h.elim
  | _ :: _ :: _ :: _ :: _, [], h => h.elim
theorem MadeE.low {W : World} {B base : Nat} {v : Value} {J : List Ev} {xs : List Value} (h : MadeE W B v J xs) (hb : base ≤ B) : MadeE W base v J xs :=
  ⟨row_low h.row hb, evsAll_low hb xs J h.evs, h.ap⟩
/-- one more event -/
theorem MadeE.more {W W2 : World} {base : Nat} {v v' : Value} {J : List Ev} {xs : List Value} {k n a t : Value} {ev : Ev} {X : Obj} (h : MadeE W base v J xs) (he : EvsAt W base [k, n, a, t] [ev]) (hn : ∀ g, a.ownBlock = some g → NotIn g xs)
    (hg : (W.alloc X).grownBy W2 v.ownBlock) (hv : W2.ownsRow base 39 4 v' (J.length + 1) (xs ++ [k, n, a, t])) : MadeE W2 base v' (J ++ [ev]) (xs ++ [k, n, a, t]) := by
  have hra := h.row.alloc X
  have mono : ∀ a n ys, W.ownsRow base 101 2 a n ys → W2.ownsRow base 101 2 a n ys := fun a n ys hr => (hr.alloc X).kept hg (rows_ne (hr.alloc X) hra (by decide))
  refine ⟨by rw [List.length_append]; exact hv, evs_mono mono _ _ (evs_snoc2 xs J h.evs he), apart_snoc xs J h.evs h.ap hn⟩

set_option maxHeartbeats 8000000 in
set_option maxRecDepth 100000 in
theorem filter_any (vr vs vd : Value) (P : PolP) (ev : Value) (es : List EvP) (m : Int) (w : World) (h : PolR w vr vs vd P) (hF : P.Few) (hK : KindsTab w) (hV : VAttrTab w) (he : EvsR w ev es) (hs : bulkE es ≤ 4000000)
    (hm : w.cell? ⟨10, 0, none⟩ = some (.int .i64 m)) :
    Calls Tryd.prog 14 #[.agg (polC vr vs vd P), ev] w fun r w' => ∃ v xs, r = .returned v ∧ MadeE w' w.heap.size v (if checkC P = 0 then filterP P es else []) xs ∧ Below w.heap.size w w' := by
  obtain ⟨ep, ec, rfl, _, hem, hcell⟩ := he
  have hlen := bulkE_len es
  -- the policy's box
  obtain ⟨W1, hW1⟩ : ∃ W1, w.alloc (.cells (polC vr vs vd P) 35) = W1 := ⟨_, rfl⟩
  have hB : Below w.heap.size w W1 := by rw [← hW1]; exact (Below.refl w.heap.size w).alloc (Nat.le_refl _) _
  have b0 : W1.heap[w.heap.size]? = some (.cells (polC vr vs vd P) 35 (0, 0)) := by rw [← hW1]; exact heap_alloc_new w _
  have hck := check_any vr vs vd P W1 (h.below hB) hF (hK.below hB) (hV.below hB)
  have hnew := fun W (hb : Below W1.heap.size W1 W) => sieveNew_any vr vs vd P W ((h.below hB).below hb)
  obtain ⟨rp, rc, hvr, _⟩ := h.rules
  obtain ⟨sp, sc, hvs, _⟩ := h.schemes
  obtain ⟨dp, dc, hvd, _⟩ := h.drop
  subst hvr hvs hvd
  obtain ⟨R, hR⟩ : ∃ R, filterP P es = R := ⟨_, rfl⟩
  have hRl : R.length ≤ es.length := by rw [← hR]; exact filt_len P es _
  rw [hR]
  have hRR : [] ++ filtL P ([], 0) (es.drop 0) = R := hR
  obtain ⟨c0, c1, c2, c3, c4⟩ := polC_at (P := P) b0
  have HC := hid hcell
  have HFW := hid hF
  have HB := hid (And.intro hB b0)
  have HCK := hid hck
  have HNW := hid hnew
  have HM := hid hm
  have HS := hid hs
  have HR := hid (fun (_ : True) => hRR)
  have HRL := hid hRl
  have hln : es.length ≤ 4000000 := by omega
  obtain ⟨ei, hei, he0, he1, he2⟩ := info_parts info_event
  unfold polC at hW1 HCK HNW ⊢
  generalize checkC P = ck at HCK ⊢
  clear hcell hlen hck hnew hR hRl hRR hF h hK hV hs hm hB b0
  go_enter Tryd.func14, Tryd.ntmps14
  go_upto_region 1 with fail
  clear hW1
  go_wp2_with fail
  refine HCK.out.mono ?_
  rintro r W2 ⟨rfl, b2⟩
  have hbox2 := (b2.block _ (block_lt HB.out.2)).trans HB.out.2
  clear c0 c1 c2 c3 c4
  by_cases hc : ck = 0
  · subst hc
    obtain ⟨c0, c1, c2, c3, c4⟩ := polC_at (P := P) hbox2
    have hbw2 := HB.out.1.trans (b2.mono HB.out.1.size)
    have HB2 := hid hbw2
    have hnw := HNW.out W2 b2
    have HNW2 := hid hnw
    clear HNW hnw b2 hbox2 hbw2 HCK
    go_wp2_with fail
    refine HNW2.out.mono ?_
    rintro r W3 ⟨rfl, sv3, sz3⟩
    obtain ⟨bS, hbS⟩ : ∃ bS, W2.heap.size + 1 = bS := ⟨_, rfl⟩
    rw [hbS] at sv3
    simp only [hbS]
    have hlo : w.heap.size ≤ bS := by have := HB2.out.size; omega
    have H3 := hid (And.intro sv3 (HB2.out.trans (sv3.be.mono HB2.out.size)))
    clear sv3 sz3 hbS HNW2 c0 c1 c2 c3 c4
    go_wp2_with fail
    go_loopw [5, 18] (fun av iv wr => ∃ (k : Nat) (J : List Ev) (sk : List UInt8) (cnt : Nat) (xs : List Value), iv = .int .i64 k ∧ k ≤ es.length ∧ Hid (MadeE wr W2.heap.size av J xs ∧ Below w.heap.size w wr ∧ SvAt W2 wr bS (.slice rp P.rules.length rc) (.slice sp P.schemes.length sc) (.slice dp P.drop.length dc) P sk cnt ∧ cnt ≤ k ∧ J.length ≤ k) ∧ Hid (True → J ++ filtL P (sk, cnt) (es.drop k) = R)) (fun _ iv _ => es.length - (RowKit.intOf iv).toNat)
    case atStart => exact ⟨0, [], [], 0, [], rfl, Nat.zero_le _, hid ⟨MadeE.nil _ _, H3.out.2, H3.out.1, Nat.le_refl _, Nat.le_refl _⟩, HR⟩
    case round =>
      obtain ⟨k, J, sk, cnt, xs, rfl, hk, HX, HK⟩ := hrel
      obtain ⟨jp, jc, rfl⟩ := row_shape HX.out.1.row
      clear H3 HR
      by_cases hkl : k < es.length
      · obtain ⟨e, hek⟩ : ∃ e, es[k]? = some e := ⟨_, List.getElem?_eq_getElem hkl⟩
        obtain ⟨b, o, u, rfl, q0, q1, q2, q3, q4⟩ := HC.out k e hek
        obtain ⟨hmade, hbw, hsv, hcn, hjn⟩ := HX.out
        have hab := bulkE_get hek
        have hSS := HS.out
        have hq4 := q4.below hbw
        replace q0 := cell_low q0 hbw (cell_block q0)
        replace q1 := cell_low q1 hbw (cell_block q1)
        replace q2 := cell_low q2 hbw (cell_block q2)
        replace q3 := cell_low q3 hbw (cell_block q3)
        obtain ⟨up, uc, rfl⟩ := q4.len
        have hd := HK.out trivial
        rw [drop_at hek, filt_step] at hd
        obtain ⟨W4, hW4⟩ : ∃ W4, wr.alloc (.cells (evC e (.slice up e.a.length uc)) 39) = W4 := ⟨_, rfl⟩
        have hb4 : Below wr.heap.size wr W4 := by rw [← hW4]; exact (Below.refl _ _).alloc (Nat.le_refl _) _
        have hbw4 := hbw.trans (hb4.mono hbw.size)
        have hn4 : W4.heap[wr.heap.size]? = some (.cells (evC e (.slice up e.a.length uc)) 39 (0, 0)) := by rw [← hW4]; exact heap_alloc_new _ _
        obtain ⟨d0, d1, d2, d3⟩ := evC_at hn4
        have htk := take_any W2 bS _ _ _ P sk cnt e (.slice up e.a.length uc) m W4 (hsv.below hb4) HFW.out (hq4.below hb4) (by omega) (by omega) (cell_low HM.out hbw4 (cell_block HM.out))
        have hl1 := sieve_opt P (sk, cnt) e
        have hc1 : (sieveL P (sk, cnt) e).1.2 ≤ cnt + 1 := by
          unfold sieveL
          split
          · simp only; unfold skipF; split
            · omega
            · split <;> omega
          · split
            · simp only; omega
            · simp only; omega
        generalize sieveL P (sk, cnt) e = q at htk hd hl1 hc1
        obtain ⟨⟨sk2, cnt2⟩, o2⟩ := q
        simp only at htk hd hl1 hc1
        have HTK := hid htk
        have HD := hid (fun (_ : True) => (by rw [List.append_assoc]; exact hd : (J ++ o2.toList) ++ filtL P (sk2, cnt2) (es.drop (k + 1)) = R))
        have hmd4 := hmade.below hb4
        have hsv4 := hsv.below hb4
        have H4 := hid (And.intro hmd4 (And.intro hbw4 hsv4))
        have hxlt : ∀ g, W4.heap.size ≤ g → NotIn g xs := fun g hg => notIn_new hg xs J hmd4.evs
        have HXL := hid hxlt
        unfold evC at hW4 HTK
        clear htk hd hl1 hmade hbw hsv hb4 hbw4 hmd4 hsv4 hxlt hek hab hSS hq4 q4 hn4 HX HK HC
        go_upto_region 8 with fail
        clear hW4 q0 q1 q2 q3
        go_wp2_with fail
        refine HTK.out.mono ?_
        rintro r W5 ⟨rv, rfl, hrv, s5, g5⟩
        obtain ⟨hmd4, hbw4, hsv4⟩ := H4.out
        have hmd5 := hmd4.grown g5 (.inr (row_ne hmd4.row hsv4.at_ (by decide))) (fun _ _ _ hr => .inr (row_ne hr hsv4.at_ (by decide)))
        have hbw5 := hbw4.grown g5 hbw4.size (fun k hk => by cases hk; exact hlo)
        have hsv5 : SvAt W2 W5 bS (.slice rp P.rules.length rc) (.slice sp P.schemes.length sc) (.slice dp P.drop.length dc) P sk2 cnt2 := ⟨s5, hsv4.pol, hsv4.be.grown g5 hsv4.be.size (fun k hk => by cases hk; exact hsv4.lo), hsv4.lo⟩
        have hsz4 : W2.heap.size ≤ W4.heap.size := hsv4.be.size
        have hww := HB2.out.size
        cases o2 with
        | none =>
          obtain rfl : rv = _ := hrv
          have hb6 : Below W5.heap.size W5 (W5.alloc (.cells zeroEv 39)) := (Below.refl _ _).alloc (Nat.le_refl _) _
          have HZ := hid (And.intro (hmd5.below hb6) (And.intro (hbw5.trans (hb6.mono hbw5.size)) (And.intro (hsv5.below hb6) (And.intro (show cnt2 ≤ k + 1 by omega) (show J.length ≤ k + 1 by omega)))))
          have HD2 := hid (fun (_ : True) => (by have := HD.out trivial; rwa [show J ++ (none : Option Ev).toList = J from List.append_nil J] at this : J ++ filtL P (sk2, cnt2) (es.drop (k + 1)) = R))
          unfold zeroEv at HZ ⊢
          clear hmd4 hbw4 hsv4 hmd5 hbw5 hsv5 hb6 s5 g5 H4 HTK HXL HD
          go_wp2_with fail
          go_roundw
          case rel => exact ⟨k + 1, J, sk2, cnt2, xs, rfl, by omega, HZ, HD2⟩
          case measure => simp [RowKit.intOf]; omega
        | some ev =>
          obtain ⟨ek, en, ap, am, ac, et, rfl, hev⟩ := hrv
          obtain ⟨W6, hW6⟩ : ∃ W6, W5.alloc (.cells #[.int .i64 ek, .string en, .slice ap am ac, .string et] 39) = W6 := ⟨_, rfl⟩
          have hb6 : Below W5.heap.size W5 W6 := by rw [← hW6]; exact (Below.refl _ _).alloc (Nat.le_refl _) _
          have hn6 : W6.heap[W5.heap.size]? = some (.cells #[.int .i64 ek, .string en, .slice ap am ac, .string et] 39 (0, 0)) := by rw [← hW6]; exact heap_alloc_new _ _
          have hev5 : EvsAt W5 W2.heap.size [.int .i64 ek, .string en, .slice ap am ac, .string et] [ev] := evs1_low hsz4 hev
          have hnot : ∀ g, (Value.slice ap am ac).ownBlock = some g → NotIn g xs := fun g hg => by
            cases ev with
            | text b => have := hev.1.2.2.1; rw [this] at hg; cases hg
            | start n x => exact HXL.out g (hev.1.2.2.1.lt g hg).1
            | stop n => have := hev.1.2.2.1; rw [this] at hg; cases hg
          have hev6 : EvsAt W6 W2.heap.size [.int .i64 ek, .string en, .slice ap am ac, .string et] [ev] := evs_mono (fun _ _ _ hr => row_below hr hb6) _ _ hev5
          have hmd6 := hmd5.below hb6
          have hbw6 := hbw5.trans (hb6.mono hbw5.size)
          have hsv6 := hsv5.below hb6
          have hown := hmd6.row
          have hbs6 := hsv6.be.size
          have hbs6w := hbw6.size
          obtain ⟨x0, x1, x2, x3⟩ := (⟨cell_at hn6 rfl, cell_at hn6 rfl, cell_at hn6 rfl, cell_at hn6 rfl⟩ : W6.cell? ⟨W5.heap.size, 0, none⟩ = some (.int .i64 ek) ∧ W6.cell? ⟨W5.heap.size, 1, none⟩ = some (.string en) ∧ W6.cell? ⟨W5.heap.size, 2, none⟩ = some (.slice ap am ac) ∧ W6.cell? ⟨W5.heap.size, 3, none⟩ = some (.string et))
          have hone : ∀ u ∈ [Value.int .i64 ek, .string en, .slice ap am ac, .string et], u.oneCell' = true := by simp [Value.oneCell']
          have HO := hid hone
          have H6 := hid (And.intro hmd6 (And.intro hev6 (And.intro hbw6 (And.intro hsv6 hnot))))
          clear hmd4 hbw4 hsv4 hmd5 hbw5 hsv5 hb6 s5 g5 H4 HTK HXL hev hev5 hev6 hnot hmd6 hbw6 hsv6 hn6 hone d0 d1 d2 d3
          go_wp2_with (at_builtin; refine wpList_append_own _ rfl (.tmp 29) (.tmp 31) 22 rfl W2.heap.size 39 ei (.agg #[.int .i64 0, .string ⟨#[]⟩, .slice none 0 0, .string ⟨#[]⟩]) 4 64 Tryd.underlying22 hei he0 he1 he2 rfl (by decide) _ _ _ rfl (hown.alloc _) ⟨_, 0, none⟩ 1 1 [.int .i64 ek, .string en, .slice ap am ac, .string et] rfl rfl (cells_newV _ _ _) HO.out (by unfold maxLen; omega) (by omega) (by simp; omega) ?_)
          intro v7 W7 hown7 hgrow7 _
          obtain ⟨hmd6, hev6, hbw6, hsv6, hnot⟩ := H6.out
          have hra := hown.alloc (.cells #[.int .i64 ek, .string en, .slice ap am ac, .string et] 39)
          have hmd7 := hmd6.more hev6 hnot hgrow7 hown7
          have hbw7 := (hbw6.alloc hbs6w (.cells #[.int .i64 ek, .string en, .slice ap am ac, .string et] 39)).grown hgrow7 (by simp; omega) (fun k hk => Nat.le_trans hww (hra.lt k hk).1)
          have hsv7 : SvAt W2 W7 bS (.slice rp P.rules.length rc) (.slice sp P.schemes.length sc) (.slice dp P.drop.length dc) P sk2 cnt2 :=
            ⟨grown_at hgrow7 ((Go.Lib.alloc_old _ _ _ (block_lt hsv6.at_)).trans hsv6.at_) (row_ne hra ((Go.Lib.alloc_old _ _ _ (block_lt hsv6.at_)).trans hsv6.at_) (by decide)), hsv6.pol, (hsv6.be.alloc hsv6.be.size _).grown hgrow7 (by have := hsv6.be.size; simp; omega) (fun k hk => (hra.lt k hk).1), hsv6.lo⟩
          have HZ := hid (And.intro hmd7 (And.intro hbw7 (And.intro hsv7 (And.intro (show cnt2 ≤ k + 1 by omega) (show (J ++ [ev]).length ≤ k + 1 by rw [List.length_append]; simp; omega)))))
          clear hmd6 hev6 hbw6 hsv6 hnot hra hmd7 hbw7 hsv7 hown7 hgrow7 hown H6 x0 x1 x2 x3
          go_wp2
          go_roundw
          case rel => exact ⟨k + 1, J ++ [ev], sk2, cnt2, _, rfl, by omega, HZ, HD⟩
          case measure => simp [RowKit.intOf]; omega
      · obtain rfl : J = R := by
          have := HK.out trivial
          rw [List.drop_of_length_le (by omega)] at this
          rwa [show filtL P (sk, cnt) [] = [] from rfl, List.append_nil] at this
        have HZ := hid (And.intro (HX.out.1.low HB2.out.size) HX.out.2.1)
        clear HK HX HC
        go_wp2_with fail
        go_ret
        exact ⟨_, rfl, ⟨xs, HZ.out.1⟩, HZ.out.2⟩
  · have q : (((ck : Nat) : Int) != 0) = true := bne_iff_ne.2 (by omega)
    have hbw2 := hid (HB.out.1.trans (b2.mono HB.out.1.size))
    clear HNW b2 hbox2 HCK HC HFW HB HM HS HR HRL
    go_wp2_with fail
    go_ret
    exact ⟨_, rfl, ⟨[], by first | exact MadeE.nil _ _ | (rw [if_neg hc]; exact MadeE.nil _ _)⟩, hbw2.out⟩
end Go.Proofs.YtkcgmimldjeaiaaDoor

/-
  The balancer's state; its put and openElement: their walks.
-/
namespace Go.Proofs.YtkcgmimldjeaiaaDoor
open Go.RowKit Go.Lib Own

/-- the balancer's box, its open elements, what it gives -/
structure BalAt (W : World) (base ob b : Nat) (d : Int) (op : List (List UInt8)) (ov outv : Value) (J : List Ev) (xs : List Value) : Prop where
  lo : base ≤ b
  bx : W.heap[b]? = some (.cells #[.int .i64 d, ov, outv] 104 (0, 0))
  op : OpenR W base ov op
  out : MadeE W ob outv J xs
/-- what stays while the balancer works -/
structure BalF (b : Nat) (ov outv ov' outv' : Value) (W W' : World) : Prop where
  os : W'.os = W.os
  tape : W'.tape = W.tape
  output : W'.output = W.output
  size : W.heap.size ≤ W'.heap.size
  other : ∀ k, k < W.heap.size → k ≠ b → ov.ownBlock ≠ some k → outv.ownBlock ≠ some k → W'.heap[k]? = W.heap[k]?
  o1 : ∀ g, ov'.ownBlock = some g → ov.ownBlock = some g ∨ W.heap.size ≤ g
  o2 : ∀ g, outv'.ownBlock = some g → outv.ownBlock = some g ∨ W.heap.size ≤ g
theorem BalF.refl (b : Nat) (ov outv : Value) (W : World) : BalF b ov outv ov outv W W := ⟨rfl, rfl, rfl, Nat.le_refl _, fun _ _ _ _ _ => rfl, fun _ h => .inl h, fun _ h => .inl h⟩
theorem BalF.trans {b : Nat} {ov outv ov1 outv1 ov2 outv2 : Value} {W W1 W2 : World} (h : BalF b ov outv ov1 outv1 W W1) (h2 : BalF b ov1 outv1 ov2 outv2 W1 W2) : BalF b ov outv ov2 outv2 W W2 := by
  refine ⟨h2.os.trans h.os, h2.tape.trans h.tape, h2.output.trans h.output, Nat.le_trans h.size h2.size, fun k hk hb h3 h4 => ?_, fun g hg => ?_, fun g hg => ?_⟩
  · rw [h2.other k (Nat.lt_of_lt_of_le hk h.size) hb (fun e => ?_) (fun e => ?_)]
    · exact h.other k hk hb h3 h4
    · rcases h.o1 k e with e2 | e2
      · exact h3 e2
      · omega
    · rcases h.o2 k e with e2 | e2
      · exact h4 e2
      · omega
  · rcases h2.o1 g hg with e | e
    · exact h.o1 g e
    · exact .inr (Nat.le_trans h.size e)
  · rcases h2.o2 g hg with e | e
    · exact h.o2 g e
    · exact .inr (Nat.le_trans h.size e)
theorem BalF.of_below {b : Nat} {ov outv : Value} {W W1 : World} (h : Below W.heap.size W W1) : BalF b ov outv ov outv W W1 :=
  ⟨h.os, h.tape, h.output, h.size, fun k hk _ _ _ => h.block k hk, fun _ h => .inl h, fun _ h => .inl h⟩
theorem BalAt.below {W W1 : World} {base ob b : Nat} {d : Int} {op : List (List UInt8)} {ov outv : Value} {J : List Ev} {xs : List Value} (h : BalAt W base ob b d op ov outv J xs) (hb : Below W.heap.size W W1) : BalAt W1 base ob b d op ov outv J xs :=
  ⟨h.lo, (hb.block _ (block_lt h.bx)).trans h.bx, row_below h.op hb, h.out.below hb⟩
/-- a block that the balancer does not work in -/
theorem BalF.keep {b : Nat} {ov outv ov' outv' : Value} {W W' : World} (h : BalF b ov outv ov' outv' W W') {k : Nat} {o : Obj} (hk : W.heap[k]? = some o) (h1 : k ≠ b) (h2 : ov.ownBlock ≠ some k) (h3 : outv.ownBlock ≠ some k) : W'.heap[k]? = some o :=
  (h.other k (block_lt hk) h1 h2 h3).trans hk
theorem BalF.below {b B : Nat} {ov outv ov' outv' : Value} {W W' : World} (h : BalF b ov outv ov' outv' W W') (hB : B ≤ W.heap.size) (hb : B ≤ b) (h1 : ∀ g, ov.ownBlock = some g → B ≤ g) (h2 : ∀ g, outv.ownBlock = some g → B ≤ g) : Below B W W' :=
  ⟨h.os, h.tape, h.output, h.size, fun k hk => h.other k (by omega) (by omega) (fun e => by have := h1 k e; omega) (fun e => by have := h2 k e; omega)⟩
/-- rows of attributes and the like stay -/
theorem BalF.row {b base B ob z n : Nat} {e : TypeId} {v : Value} {xs : List Value} {d : Int} {op : List (List UInt8)} {ov outv ov' outv' : Value} {J : List Ev} {ys : List Value} {W W' : World} (h : BalF b ov outv ov' outv' W W') (hs : BalAt W base ob b d op ov outv J ys) (hr : W.ownsRow B e z v n xs)
    (h1 : 104 ≠ e) (h2 : e ≠ 140) (h3 : e ≠ 39) : W'.ownsRow B e z v n xs :=
  row_of_block hr (fun g hg => h.other g (hr.lt g hg).2 (fun e => row_ne hr hs.bx h1 (by rw [hg, e])) (fun e => rows_ne2 hr hs.op h2 g hg e) (fun e => rows_ne2 hr hs.out.row h3 g hg e))

theorem rows_ne3 {W : World} {B1 B2 : Nat} {e1 e2 : TypeId} {z1 z2 n1 n2 : Nat} {v1 v2 : Value} {xs1 xs2 : List Value} (h1 : W.ownsRow B1 e1 z1 v1 n1 xs1) (h2 : W.ownsRow B2 e2 z2 v2 n2 xs2) (hne : e1 ≠ e2) : v1.ownBlock = none ∨ v1.ownBlock ≠ v2.ownBlock := by
  rcases ho : v1.ownBlock with _ | g
  · exact .inl rfl
  · exact .inr (fun e => rows_ne2 h1 h2 hne g ho e.symm)
theorem Just.grown {W W' : World} {b : Nat} {cs : Array Value} {T : TypeId} (j : Just W W' b cs T) : W.grownBy W' (some b) :=
  ⟨j.os, j.tape, j.output, by rw [j.size]; exact Nat.le_refl _, fun k _ hk => j.other k (fun e => hk (by rw [e]))⟩
/-- the balancer's box takes its list that has grown -/
theorem BalAt.gave {base ob b : Nat} {d : Int} {op : List (List UInt8)} {ov outv outv' : Value} {J : List Ev} {xs : List Value} {W W2 : World} {kv nv av tv : Value} {ev : Ev} {X : Obj} (h : BalAt W base ob b d op ov outv J xs)
    (he : EvsAt W ob [kv, nv, av, tv] [ev]) (hn : ∀ g, av.ownBlock = some g → NotIn g xs) (hg : (W.alloc X).grownBy W2 outv.ownBlock) (hv : W2.ownsRow ob 39 4 outv' (J.length + 1) (xs ++ [kv, nv, av, tv])) (hnew : ∀ g, outv'.ownBlock = some g → outv.ownBlock = some g ∨ W.heap.size ≤ g) :
    BalAt (W2.setCell ⟨b, 2, none⟩ outv') base ob b d op ov outv' (J ++ [ev]) (xs ++ [kv, nv, av, tv]) ∧ BalF b ov outv ov outv' W (W2.setCell ⟨b, 2, none⟩ outv') := by
  have hra := h.out.row.alloc X
  have bxa := (Go.Lib.alloc_old W X _ (block_lt h.bx)).trans h.bx
  have bx2 := grown_at hg bxa (row_ne hra bxa (by decide))
  have j := just_put (j := 2) (cs2 := #[.int .i64 d, ov, outv']) bx2 outv' (by simp)
  have hm := h.out.more he hn hg hv
  have hm2 := hm.grown j.grown (.inr (row_ne hm.row bx2 (by decide))) (fun a n ys hr => .inr (row_ne hr bx2 (by decide)))
  have hop := row_just ((h.op.alloc X).kept hg (rows_ne3 (h.op.alloc X) hra (by decide))) bx2 (by decide) j.other
  refine ⟨⟨h.lo, j.at_, hop, hm2⟩, ⟨j.os.trans hg.os, j.tape.trans hg.tape, j.output.trans hg.output, ?_, fun k hk h1 _ h3 => ?_, fun g hg => .inl hg, hnew⟩⟩
  · have h1 := hg.size
    have h2 := alloc_lt W X
    rw [j.size]
    omega
  · rw [j.other k h1, hg.block k (by have := alloc_lt W X; omega) (fun e => h3 e.symm), Go.Lib.alloc_old _ _ _ hk]
/-- the balancer's box takes its open elements that have grown -/
theorem BalAt.opened {base ob b : Nat} {d : Int} {op : List (List UInt8)} {ov outv ov' : Value} {J : List Ev} {xs : List Value} {W W2 : World} {x : List UInt8} {X : Obj} (h : BalAt W base ob b d op ov outv J xs)
    (hg : (W.alloc X).grownBy W2 ov.ownBlock) (hv : W2.ownsRow base 140 3 ov' (op.length + 1) (elems op ++ [.string (bs x), .int .i64 (clsX x : Nat), .int .i64 (modX x : Nat)])) (hnew : ∀ g, ov'.ownBlock = some g → ov.ownBlock = some g ∨ W.heap.size ≤ g) :
    BalAt (W2.setCell ⟨b, 1, none⟩ ov') base ob b d (op ++ [x]) ov' outv J xs ∧ BalF b ov outv ov' outv W (W2.setCell ⟨b, 1, none⟩ ov') := by
  have hra := h.op.alloc X
  have bxa := (Go.Lib.alloc_old W X _ (block_lt h.bx)).trans h.bx
  have bx2 := grown_at hg bxa (row_ne hra bxa (by decide))
  have j := just_put (j := 1) (cs2 := #[.int .i64 d, ov', outv]) bx2 ov' (by simp)
  have hal : Below W.heap.size W (W.alloc X) := (Below.refl _ _).alloc (Nat.le_refl _) X
  have hm := (h.out.below hal).grown hg (rows_ne3 (h.out.row.alloc X) hra (by decide)) (fun a n ys hr => rows_ne3 hr hra (by decide))
  have hm2 := hm.grown j.grown (.inr (row_ne hm.row bx2 (by decide))) (fun a n ys hr => .inr (row_ne hr bx2 (by decide)))
  have hop : OpenR (W2.setCell ⟨b, 1, none⟩ ov') base ov' (op ++ [x]) := by
    unfold OpenR
    rw [List.length_append, elems_app]
    exact row_just hv bx2 (by decide) j.other
  refine ⟨⟨h.lo, j.at_, hop, hm2⟩, ⟨j.os.trans hg.os, j.tape.trans hg.tape, j.output.trans hg.output, ?_, fun k hk h1 h3 _ => ?_, hnew, fun g hg => .inl hg⟩⟩
  · have h1 := hg.size
    have h2 := alloc_lt W X
    rw [j.size]
    omega
  · rw [j.other k h1, hg.block k (by have := alloc_lt W X; omega) (fun e => h3 e.symm), Go.Lib.alloc_old _ _ _ hk]
theorem info_elem : (Tryd.prog.info? 140).map (fun i => (i.zero, i.size, i.bytes)) = some (some (.agg #[.string ⟨#[]⟩, .int .i64 0, .int .i64 0]), 3, 32) := by kernel_rfl

set_option maxHeartbeats 8000000 in
set_option maxRecDepth 100000 in
theorem balPut_any (base ob b : Nat) (d : Int) (op : List (List UInt8)) (ov outv : Value) (J : List Ev) (xs : List Value) (k : Int) (n t : ByteArray) (av : Value) (ev : Ev) (w : World) (h : BalAt w base ob b d op ov outv J xs) (hob : ob ≤ w.heap.size)
    (he : EvsAt w ob [.int .i64 k, .string n, av, .string t] [ev]) (hn : ∀ g, av.ownBlock = some g → NotIn g xs) (ho : ∃ p m c, av = .slice p m c) (hl : J.length ≤ 9000000) :
    Calls Tryd.prog 99 #[.pointer (some ⟨b, 0, none⟩), .agg #[.int .i64 k, .string n, av, .string t]] w fun e w' => e = .returned (.tuple #[]) ∧
      ∃ outv', BalAt w' base ob b d op ov outv' (J ++ [ev]) (xs ++ [.int .i64 k, .string n, av, .string t]) ∧ BalF b ov outv ov outv' w w' := by
  obtain ⟨i0, hi, hz0, hz1, hz2⟩ := info_parts info_event
  obtain ⟨ap, an, ac, rfl⟩ := ho
  obtain ⟨W1, hW1⟩ : ∃ W1, w.alloc (.cells #[.int .i64 k, .string n, .slice ap an ac, .string t] 39) = W1 := ⟨_, rfl⟩
  have hb1 : Below w.heap.size w W1 := by rw [← hW1]; exact (Below.refl _ _).alloc (Nat.le_refl _) _
  have n1 : W1.heap[w.heap.size]? = some (.cells #[.int .i64 k, .string n, .slice ap an ac, .string t] 39 (0, 0)) := by rw [← hW1]; exact heap_alloc_new _ _
  have h1 := h.below hb1
  have he1 := evs_mono (fun _ _ _ hr => row_below hr hb1) _ _ he
  have e0 := cell_at n1 (j := 0) rfl
  have e1 := cell_at n1 (j := 1) rfl
  have e2 := cell_at n1 (j := 2) rfl
  have e3 := cell_at n1 (j := 3) rfl
  have hrow := h1.out.row
  have hbx := h1.bx
  have c2 := cell_at hbx (j := 2) rfl
  have f2 := free_at hbx 2
  have hne := row_ne hrow hbx (by decide)
  have hsz1 := hb1.size
  have hbs := block_lt hbx
  have hns := block_lt n1
  have hnn : b ≠ w.heap.size := fun e => by have := block_lt h.bx; omega
  have H1 := hid (And.intro h1 (And.intro he1 (And.intro hn (And.intro h hb1))))
  have hone : ∀ u ∈ [Value.int .i64 k, .string n, .slice ap an ac, .string t], u.oneCell' = true := by simp [Value.oneCell']
  have HB1 := hid hW1
  clear n1 h1 he1 hb1 he hn h
  obtain ⟨op', ocap, rfl⟩ := row_shape hrow
  go_enter Tryd.func99, Tryd.ntmps99
  go_upto_region 1 with fail
  clear hW1
  go_region_law (refine step_append_lies _ rfl (.tmp 8) (.tmp 10) 22 rfl ob 39 i0 (.agg #[.int .i64 0, .string ⟨#[]⟩, .slice none 0 0, .string ⟨#[]⟩]) 4 64 Tryd.underlying22 hi hz0 hz1 hz2 rfl (by decide) (.slice op' J.length ocap) J.length xs (by simp [Act.eval]) (by exact hrow.alloc _) ⟨_, 0, none⟩ 1 1 [.int .i64 k, .string n, .slice ap an ac, .string t] (by simp [Act.eval]) rfl (cells_newV _ _ _) hone (by omega) (by unfold maxLen; omega) (by omega) (by simp; omega) _ rfl ?_; rintro g cap w10 hrow10 hgrow10 hnew10 -; have hb10 : w10.heap[b]? = some (.cells #[.int .i64 d, ov, .slice op' J.length ocap] 104 (0, 0)) := ((hgrow10.block b (by simp; omega) (fun e => hne e.symm)).trans (Go.Lib.alloc_old _ _ b (by exact hbs))).trans (by exact hbx); have ce10 := cell_at (j := 2) hb10 rfl; have fe10 := free_at hb10 2)
  all_goals
    have hg10 : (W1.alloc (.cells #[.int .i64 k, .string n, .slice ap an ac, .string t] 39)).grownBy w10 (Value.slice op' J.length ocap).ownBlock := ⟨hgrow10.os, hgrow10.tape, hgrow10.output, hgrow10.size, hgrow10.block⟩
    have hnw : ∀ g', (Value.slice (some ⟨g, 0, none⟩) (J.length + 1) cap).ownBlock = some g' → (Value.slice op' J.length ocap).ownBlock = some g' ∨ W1.heap.size ≤ g' := fun g' e => by
      obtain rfl := Option.some.inj e
      rcases hnew10 with e2 | e2
      · exact .inl e2
      · exact .inr (by rw [e2]; simp)
    have hfin := H1.out.1.gave (outv' := .slice (some ⟨g, 0, none⟩) (J.length + 1) cap) H1.out.2.1 H1.out.2.2.1 hg10 hrow10 hnw
    have HF := hid hfin
    have HW := hid H1.out.2.2.2.2
    clear hfin hg10 hnw hrow10 hgrow10 hnew10 hb10 ce10 fe10
    go_end0
    exact ⟨rfl, _, HF.out.1, (BalF.of_below HW.out).trans HF.out.2⟩

set_option maxHeartbeats 8000000 in
set_option maxRecDepth 100000 in
theorem openEl_any (base ob b : Nat) (d : Int) (op : List (List UInt8)) (ov outv : Value) (J : List Ev) (xs : List Value) (x : List UInt8) (av : Value) (al : List AttrP) (w : World) (h : BalAt w base ob b d op ov outv J xs) (hob : ob ≤ w.heap.size) (hbase : base ≤ w.heap.size)
    (hx : modX x < 10) (ha : w.ownsRow ob 101 2 av al.length (attrsV al)) (hn : ∀ g, av.ownBlock = some g → NotIn g xs) (hl : J.length ≤ 8000000) (hop : op.length ≤ 1000000) :
    Calls Tryd.prog 94 #[.pointer (some ⟨b, 0, none⟩), .agg #[.string (bs x), .int .i64 (clsX x : Nat), .int .i64 (modX x : Nat)], av] w fun e w' => e = .returned (.tuple #[]) ∧
      ∃ ov' outv', BalAt w' base ob b d (op ++ if modX x = 9 then [] else [x]) ov' outv' (J ++ [.start x al]) (xs ++ [.int .i64 1, .string (bs x), av, .string ⟨#[]⟩]) ∧ BalF b ov outv ov' outv' w w' := by
  obtain ⟨i0, hi, hz0, hz1, hz2⟩ := info_parts info_elem
  obtain ⟨ap, ac, rfl⟩ := row_shape ha
  obtain ⟨W1, hW1⟩ : ∃ W1, w.alloc (.cells #[.string (bs x), .int .i64 (clsX x : Nat), .int .i64 (modX x : Nat)] 140) = W1 := ⟨_, rfl⟩
  have hb1 : Below w.heap.size w W1 := by rw [← hW1]; exact (Below.refl _ _).alloc (Nat.le_refl _) _
  have n1 : W1.heap[w.heap.size]? = some (.cells #[.string (bs x), .int .i64 (clsX x : Nat), .int .i64 (modX x : Nat)] 140 (0, 0)) := by rw [← hW1]; exact heap_alloc_new _ _
  have h1 := h.below hb1
  have hev : EvsAt W1 ob [.int .i64 1, .string (bs x), .slice ap al.length ac, .string ⟨#[]⟩] [.start x al] := ⟨⟨rfl, rfl, row_below ha hb1, rfl⟩, trivial⟩
  have hput := balPut_any base ob b d op ov outv J xs 1 (bs x) ⟨#[]⟩ (.slice ap al.length ac) (.start x al) W1 h1 (Nat.le_trans hob hb1.size) hev hn ⟨_, _, _, rfl⟩ (by omega)
  have hkb : w.heap.size ≠ b := fun e => by have := block_lt h.bx; omega
  have hk1 : ov.ownBlock ≠ some w.heap.size := fun e => by have := (h.op.lt _ e).2; omega
  have hk2 : outv.ownBlock ≠ some w.heap.size := fun e => by have := (h.out.row.lt _ e).2; omega
  have e0 := cell_at n1 (j := 0) rfl
  have e1 := cell_at n1 (j := 1) rfl
  have e2 := cell_at n1 (j := 2) rfl
  have HP := hid hput
  have HN := hid (And.intro n1 hb1)
  have hv := fun W => elemVoid_any (.string (bs x)) (clsX x) (modX x) W
  have HV := hid hv
  obtain ⟨BX, hBX⟩ : ∃ n, bs x = n := ⟨_, rfl⟩
  obtain ⟨CX, hCX⟩ : ∃ n, clsX x = n := ⟨_, rfl⟩
  obtain ⟨MX, hMX⟩ : ∃ n, modX x = n := ⟨_, rfl⟩
  have HX := hid (And.intro hBX (And.intro hCX hMX))
  have HB := hid (And.intro hW1 hop)
  rw [hBX, hCX, hMX] at hW1 e0 e1 e2 HN HV
  rw [hBX] at HP
  rw [hMX] at hx
  rw [hBX, hCX, hMX]
  clear hput hv h1 hev hb1 n1 h ha hn hBX hCX hMX
  go_enter Tryd.func94, Tryd.ntmps94
  go_wp2_with fail
  refine HP.out.mono ?_
  rintro e W2 ⟨rfl, outv2, hs2, hf2⟩
  have n2 := hf2.keep HN.out.1 hkb hk1 hk2
  replace e0 := cell_at n2 (j := 0) rfl
  replace e1 := cell_at n2 (j := 1) rfl
  replace e2 := cell_at n2 (j := 2) rfl
  have H2 := hid (And.intro hs2 (And.intro ((BalF.of_below HN.out.2).trans hf2) n2))
  clear hs2 hf2 n2
  go_wp2_with fail
  refine (HV.out _).mono ?_
  rintro e W3 ⟨rfl, hb3⟩
  have hs3 := H2.out.1.below hb3
  have hf3 := H2.out.2.1.trans (BalF.of_below hb3)
  have n3 := (hb3.block _ (block_lt H2.out.2.2)).trans H2.out.2.2
  have H3 := hid (And.intro hs3 hf3)
  replace e0 := cell_at n3 (j := 0) rfl
  replace e1 := cell_at n3 (j := 1) rfl
  replace e2 := cell_at n3 (j := 2) rfl
  by_cases hv9 : MX = 9
  · subst hv9
    clear n3 hb3 hs3 hf3 H2 e0 e1 e2
    go_wp2_with fail
    go_end0
    exact ⟨rfl, _, _, H3.out.1, H3.out.2⟩
  · have q : ((MX : Int) == 9) = false := by rw [Bool.eq_false_iff]; intro h; rw [beq_iff_eq] at h; omega
    have hrow := hs3.op
    have hbx := hs3.bx
    have c1 := cell_at hbx (j := 1) rfl
    have f1 := free_at hbx 1
    have hne := row_ne hrow hbx (by decide)
    have hbs := block_lt hbx
    have hns := block_lt n3
    have hnn : b ≠ w.heap.size := fun e => hkb e.symm
    have hbW3 : base ≤ W3.heap.size := Nat.le_trans hbase hf3.size
    have hopl := HB.out.2
    obtain ⟨op', ocap, rfl⟩ := row_shape hrow
    have hone : ∀ u ∈ [Value.string BX, .int .i64 (CX : Nat), .int .i64 (MX : Nat)], u.oneCell' = true := by simp [Value.oneCell']
    clear hs3 hf3 n3 hb3 H2 HP HN HV
    go_wp2_with fail
    go_region_law (refine step_append_lies _ rfl (.tmp 19) (.tmp 21) 102 rfl base 140 i0 (.agg #[.string ⟨#[]⟩, .int .i64 0, .int .i64 0]) 3 32 Tryd.underlying102 hi hz0 hz1 hz2 rfl (by decide) (.slice op' op.length ocap) op.length (elems op) (by simp [Act.eval]) (by exact hrow.alloc _) ⟨_, 0, none⟩ 1 1 [.string BX, .int .i64 (CX : Nat), .int .i64 (MX : Nat)] (by simp [Act.eval]) rfl (cells_newV _ _ _) hone (by omega) (by unfold maxLen; omega) (by omega) (by simp; omega) _ rfl ?_; rintro g cap w10 hrow10 hgrow10 hnew10 -; have hb10 : w10.heap[b]? = some (.cells #[.int .i64 d, .slice op' op.length ocap, outv2] 104 (0, 0)) := ((hgrow10.block b (by simp; omega) (fun e => hne e.symm)).trans (Go.Lib.alloc_old _ _ b (by exact hbs))).trans (by exact hbx); have ce10 := cell_at (j := 1) hb10 rfl; have fe10 := free_at hb10 1)
    all_goals
      have hg10 : (W3.alloc (.cells #[.string BX, .int .i64 (CX : Nat), .int .i64 (MX : Nat)] 140)).grownBy w10 (Value.slice op' op.length ocap).ownBlock := ⟨hgrow10.os, hgrow10.tape, hgrow10.output, hgrow10.size, hgrow10.block⟩
      have hnw : ∀ g', (Value.slice (some ⟨g, 0, none⟩) (op.length + 1) cap).ownBlock = some g' → (Value.slice op' op.length ocap).ownBlock = some g' ∨ W3.heap.size ≤ g' := fun g' e => by
        obtain rfl := Option.some.inj e
        rcases hnew10 with e2 | e2
        · exact .inl e2
        · exact .inr (by rw [e2]; simp)
      rw [← HX.out.1, ← HX.out.2.1, ← HX.out.2.2] at hrow10
      have hfin := H3.out.1.opened (x := x) (ov' := .slice (some ⟨g, 0, none⟩) (op.length + 1) cap) hg10 hrow10 hnw
      have HF := hid hfin
      clear hfin hg10 hnw hrow10 hgrow10 hnew10 hb10 ce10 fe10
      go_end0
      try rw [if_neg hv9]
      exact ⟨rfl, _, _, HF.out.1, H3.out.2.trans HF.out.2⟩
end Go.Proofs.YtkcgmimldjeaiaaDoor

/-
  The balancer's openImplied and closeTo: their walks.
-/
namespace Go.Proofs.YtkcgmimldjeaiaaDoor
open Go.RowKit Go.Lib Own

/-- the balancer at work, since the world w0 -/
structure BalS (w0 W : World) (ob b : Nat) (d : Int) (op : List (List UInt8)) (ov outv : Value) (J : List Ev) (xs : List Value) : Prop where
  at_ : BalAt W w0.heap.size ob b d op ov outv J xs
  be : Below w0.heap.size w0 W
  kt : KindsTab w0
  nt : NestTab w0
  h1 : w0.heap.size ≤ ob
  h2 : ob ≤ W.heap.size
section
variable {w0 W W' : World} {ob b : Nat} {d : Int} {op op' : List (List UInt8)} {ov outv ov' outv' : Value} {J J' : List Ev} {xs xs' : List Value}
theorem BalS.step (h : BalS w0 W ob b d op ov outv J xs) (ha : BalAt W' w0.heap.size ob b d op' ov' outv' J' xs') (hf : BalF b ov outv ov' outv' W W') : BalS w0 W' ob b d op' ov' outv' J' xs' :=
  ⟨ha, h.be.trans (hf.below h.be.size h.at_.lo (fun g hg => (h.at_.op.lt g hg).1) (fun g hg => Nat.le_trans h.h1 (h.at_.out.row.lt g hg).1)), h.kt, h.nt, h.h1, Nat.le_trans h.h2 hf.size⟩
theorem BalS.below (h : BalS w0 W ob b d op ov outv J xs) (hb : Below W.heap.size W W') : BalS w0 W' ob b d op ov outv J xs :=
  ⟨h.at_.below hb, h.be.trans (hb.mono h.be.size), h.kt, h.nt, h.h1, Nat.le_trans h.h2 hb.size⟩
theorem BalS.kinds (h : BalS w0 W ob b d op ov outv J xs) : KindsTab W := h.kt.below h.be
theorem BalS.nest (h : BalS w0 W ob b d op ov outv J xs) : NestTab W := h.nt.below h.be
theorem BalS.base (h : BalS w0 W ob b d op ov outv J xs) : w0.heap.size ≤ W.heap.size := h.be.size
/-- a block that is new to the balancer stays -/
theorem BalS.fresh (h : BalS w0 W ob b d op ov outv J xs) {k : Nat} (hk : W.heap.size ≤ k) : k ≠ b ∧ ov.ownBlock ≠ some k ∧ outv.ownBlock ≠ some k := by
  refine ⟨fun e => ?_, fun e => ?_, fun e => ?_⟩
  · have := block_lt h.at_.bx; omega
  · have := (h.at_.op.lt k e).2; omega
  · have := (h.at_.out.row.lt k e).2; omega
/-- what is open, at less -/
theorem BalS.shut {p : Option Addr} {n c k : Nat} (h : BalS w0 W ob b d op (.slice p n c) outv J xs) (hk : k ≤ op.length) (hn : n = op.length) :
    BalS w0 (W.setCell ⟨b, 1, none⟩ (.slice p k c)) ob b d (op.take k) (.slice p k c) outv J xs ∧ BalF b (.slice p n c) outv (.slice p k c) outv W (W.setCell ⟨b, 1, none⟩ (.slice p k c)) := by
  have j := just_put (j := 1) (cs2 := #[.int .i64 d, .slice p k c, outv]) h.at_.bx (.slice p k c) (by simp)
  have ho : OpenR (W.setCell ⟨b, 1, none⟩ (.slice p k c)) w0.heap.size (.slice p k c) (op.take k) := row_just (h.at_.op.front hk hn) h.at_.bx (by decide) j.other
  have hm := h.at_.out.grown j.grown (.inr (row_ne h.at_.out.row h.at_.bx (by decide))) (fun a n ys hr => .inr (row_ne hr h.at_.bx (by decide)))
  have hf : BalF b (.slice p n c) outv (.slice p k c) outv W (W.setCell ⟨b, 1, none⟩ (.slice p k c)) :=
    ⟨j.os, j.tape, j.output, by rw [j.size]; exact Nat.le_refl _, fun x _ hx _ _ => j.other x hx, fun g hg => .inl (by cases p with | none => cases hg | some a => exact hg), fun g hg => .inl hg⟩
  exact ⟨h.step ⟨h.at_.lo, j.at_, ho, hm⟩ hf, hf⟩
end
theorem elem_some {x : List UInt8} (h : elemL x ≠ none) : elemL x = some (clsX x, modX x) := by
  unfold clsX modX
  cases hx : elemL x with
  | none => exact absurd hx h
  | some p => rfl
theorem known_lt (x : List UInt8) (h : elemL x ≠ none) : modX x < 10 ∧ clsX x < 10 := by
  have := known_bd x h
  omega
theorem openE_app (a b : List (List UInt8)) : openE (a ++ b) = openE a ++ openE b := List.map_append
theorem heap_set3 (W : World) (b : Nat) (v0 v1 v2 : Value) : (((W.setCell ⟨b, 0, none⟩ v0).setCell ⟨b, 1, none⟩ v1).setCell ⟨b, 2, none⟩ v2).heap.size = W.heap.size := by simp

set_option maxHeartbeats 8000000 in
set_option maxRecDepth 100000 in
theorem openImp_any (w0 : World) (ob b : Nat) (d : Int) (op : List (List UInt8)) (ov outv : Value) (J : List Ev) (xs : List Value) (nv : Value) (names : List (List UInt8)) (B : Nat) (w : World) (h : BalS w0 w ob b d op ov outv J xs) (hw : w.ownsRow B 9 1 nv names.length (wordsV names))
    (hnm : ∀ x ∈ names, elemL x ≠ none ∧ modX x ≠ 9) (hnl : names.length ≤ 10) (hl : J.length ≤ 7000000) (hop : op.length ≤ 900000) :
    Calls Tryd.prog 93 #[.pointer (some ⟨b, 0, none⟩), nv] w fun e w' => e = .returned (.tuple #[]) ∧
      ∃ ov' outv' xs', BalS w0 w' ob b d (op ++ names) ov' outv' (J ++ openE names) xs' ∧ BalF b ov outv ov' outv' w w' := by
  obtain ⟨np, nc, rfl⟩ := row_shape hw
  have HW := hid hw
  have HN := hid hnm
  have H0 := hid (And.intro h (BalF.refl b ov outv w))
  clear hw hnm h
  go_enter Tryd.func93, Tryd.ntmps93
  go_wp2_with fail
  go_loopw [10] (fun iv wr => ∃ (k : Nat) (ov' outv' : Value) (xs' : List Value), iv = .int .i64 k ∧ k ≤ names.length ∧ Hid (BalS w0 wr ob b d (op ++ names.take k) ov' outv' (J ++ openE (names.take k)) xs' ∧ BalF b ov outv ov' outv' w wr) ∧ Hid (wr.ownsRow B 9 1 (.slice np names.length nc) names.length (wordsV names))) (fun iv _ => names.length - (RowKit.intOf iv).toNat)
  case atStart => exact ⟨0, ov, outv, xs, rfl, Nat.zero_le _, hid (by rw [List.take_zero, List.append_nil, show openE [] = [] from rfl, List.append_nil]; exact H0.out), HW⟩
  case round =>
    clear H0 HW
    obtain ⟨k, ov1, outv1, xs1, rfl, hk, HX, HW⟩ := hrel
    by_cases hkl : k < names.length
    · obtain ⟨x, hx⟩ : ∃ x, names[k]? = some x := ⟨_, List.getElem?_eq_getElem hkl⟩
      obtain ⟨hx1, hx2⟩ := HN.out x (List.mem_of_getElem? hx)
      obtain ⟨p', c', e3, hle, _, hcell, _⟩ := Words.row HW.out
      cases e3
      obtain ⟨gb, go, rfl, hc⟩ := hcell k x hx
      have hfd := find_any (bs x) wr HX.out.1.kinds
      rw [bs_toList, elem_some hx1] at hfd
      have hlt := known_lt x hx1
      have htk : names.take (k + 1) = names.take k ++ [x] := by rw [List.take_add_one, hx]; rfl
      have hlen : (J ++ openE (names.take k)).length ≤ 8000000 := by
        rw [List.length_append]
        unfold openE
        rw [List.length_map, List.length_take]
        omega
      have hlen2 : (op ++ names.take k).length ≤ 1000000 := by rw [List.length_append, List.length_take]; omega
      have HF := hid hfd
      have HL := hid (And.intro hlen (And.intro hlen2 (And.intro htk (And.intro hx2 hlt))))
      clear hfd hlen hlen2 htk hx hx1 hx2 hcell hlt
      go_wp2_with fail
      refine HF.out.mono ?_
      rintro e W1 ⟨rfl, hb1⟩
      have hs1 := HX.out.1.below hb1
      have hf1 := HX.out.2.trans (BalF.of_below hb1)
      have hr1 := row_below HW.out hb1
      have H1 := hid (And.intro hs1 (And.intro hf1 hr1))
      unfold foundV elemC
      dsimp only
      clear hs1 hf1 hr1 hb1 HX HW HF hc
      go_upto_region 4 with fail
      obtain ⟨W2, hW2⟩ : ∃ W2, W1.alloc (.cells #[.string (bs x), .int .i64 (clsX x : Nat), .int .i64 (modX x : Nat)] 140) = W2 := ⟨_, rfl⟩
      have hb2 : Below W1.heap.size W1 W2 := by rw [← hW2]; exact (Below.refl _ _).alloc (Nat.le_refl _) _
      have n2 : W2.heap[W1.heap.size]? = some (.cells #[.string (bs x), .int .i64 (clsX x : Nat), .int .i64 (modX x : Nat)] 140 (0, 0)) := by rw [← hW2]; exact heap_alloc_new _ _
      simp only [hW2]
      clear hW2
      have e0 := cell_at n2 (j := 0) rfl
      have e1 := cell_at n2 (j := 1) rfl
      have e2 := cell_at n2 (j := 2) rfl
      have hs2 := H1.out.1.below hb2
      have hf2 := H1.out.2.1.trans (BalF.of_below hb2)
      have hr2 := row_below H1.out.2.2 hb2
      have hcl := openEl_any w0.heap.size ob b d _ ov1 outv1 _ xs1 x (.slice none 0 0) [] W2 hs2.at_ hs2.h2 hs2.base HL.out.2.2.2.2.1 (World.ownsRow_nil _ _ _ _) (fun g e => by cases e) HL.out.1 HL.out.2.1
      have HC := hid hcl
      have H2 := hid (And.intro hs2 (And.intro hf2 hr2))
      clear hcl hs2 hf2 hr2 H1 hb2 n2
      go_wp2_with fail
      refine HC.out.mono ?_
      rintro e W3 ⟨rfl, ov3, outv3, ha3, hf3⟩
      rw [if_neg HL.out.2.2.2.1, List.append_assoc, ← HL.out.2.2.1] at ha3
      have hs3 := H2.out.1.step ha3 hf3
      have hr3 := hf3.row H2.out.1.at_ H2.out.2.2 (by decide) (by decide) (by decide)
      have hJ : J ++ openE (names.take k) ++ [Ev.start x []] = J ++ openE (names.take (k + 1)) := by rw [HL.out.2.2.1, openE_app, List.append_assoc]; rfl
      rw [hJ] at hs3
      have HZ := hid (And.intro hs3 (H2.out.2.1.trans hf3))
      have HR := hid hr3
      clear hs3 hr3 hJ ha3 hf3 HC H2 HL e0 e1 e2
      go_wp2_with fail
      go_roundw
      case rel => exact ⟨k + 1, ov3, outv3, _, rfl, by omega, HZ, HR⟩
      case measure => simp [RowKit.intOf]; omega
    · obtain rfl : k = names.length := by omega
      have hz := HX.out
      rw [List.take_length] at hz
      have HZ := hid hz
      clear hz HX HW
      go_wp2_with fail
      go_end0
      exact ⟨rfl, ov1, outv1, xs1, HZ.out.1, HZ.out.2⟩
/-- the End of one more -/
theorem closeE_next {op : List (List UInt8)} {m : Nat} {x : List UInt8} (h : op[m]? = some x) : closeE m op = closeE (m + 1) op ++ [.stop x] := by
  unfold closeE
  rw [drop_at h, List.reverse_cons, List.map_append]
  rfl

set_option maxHeartbeats 8000000 in
set_option maxRecDepth 100000 in
theorem closeTo_any (w0 : World) (ob b : Nat) (d : Int) (op : List (List UInt8)) (ov outv : Value) (J : List Ev) (xs : List Value) (n : Nat) (w : World) (h : BalS w0 w ob b d op ov outv J xs) (hn : n ≤ op.length) (hl : J.length ≤ 7000000) (hop : op.length ≤ 900000) :
    Calls Tryd.prog 57 #[.pointer (some ⟨b, 0, none⟩), .int .i64 n] w fun e w' => e = .returned (.tuple #[]) ∧
      ∃ ov' outv' xs', BalS w0 w' ob b d (op.take n) ov' outv' (J ++ closeE n op) xs' ∧ BalF b ov outv ov' outv' w w' := by
  obtain ⟨op', oc, rfl⟩ := row_shape h.at_.op
  have hcl0 : closeE op.length op = [] := by unfold closeE; rw [List.drop_length]; rfl
  have h0 : BalS w0 w ob b d (op.take op.length) (.slice op' op.length oc) outv (J ++ closeE op.length op) xs := by rw [hcl0, List.append_nil, List.take_length]; exact h
  have c1 := cell_at h.at_.bx (j := 1) rfl
  have H0 := hid (And.intro h0 (BalF.refl b (.slice op' op.length oc) outv w))
  have hw1 : IntKind.i64.wrap ((op.length : Int) - 1) = (op.length : Int) - 1 := by rw [IntKind.wrap_i64]; omega
  clear hcl0 h0 h
  go_enter Tryd.func57, Tryd.ntmps57
  go_wp2_with fail
  clear c1 hw1
  go_loopw [4] (fun iv wr => ∃ (m : Nat) (ov' outv' : Value) (xs' : List Value), iv = .int .i64 ((m : Int) - 1) ∧ n ≤ m ∧ m ≤ op.length ∧ Hid (BalS w0 wr ob b d (op.take m) ov' outv' (J ++ closeE m op) xs' ∧ BalF b (.slice op' op.length oc) outv ov' outv' w wr)) (fun iv _ => (RowKit.intOf iv + 1).toNat)
  case atStart => exact ⟨op.length, _, outv, xs, rfl, hn, Nat.le_refl _, H0⟩
  case round =>
    clear H0
    obtain ⟨m, ov1, outv1, xs1, rfl, hm, hm2, HX⟩ := hrel
    by_cases hmn : n < m
    · obtain ⟨m', rfl⟩ : ∃ m', m = m' + 1 := ⟨m - 1, by omega⟩
      obtain ⟨x, hx⟩ : ∃ x, op[m']? = some x := ⟨_, List.getElem?_eq_getElem (by omega)⟩
      have hlo : (op.take (m' + 1)).length = m' + 1 := by rw [List.length_take]; omega
      have hrow := HX.out.1.at_.op
      obtain ⟨p1, c1', rfl⟩ := row_shape hrow
      unfold OpenR at hrow
      rw [hlo] at hrow HX
      have hv1 : (((m' + 1 : Nat) : Int) - 1) = (m' : Int) := by omega
      rw [hv1]
      have hx2 : (op.take (m' + 1))[m']? = some x := by rw [List.getElem?_take_of_lt (by omega)]; exact hx
      obtain ⟨g, cap, e3, hg1, hg2, hcell⟩ := row_at hrow (by omega)
      cases e3
      obtain ⟨a0, _, _⟩ := elems_at _ _ x hx2
      have c0 := (hcell (m' * 3) (by omega)).trans a0
      have hbx := HX.out.1.at_.bx
      have c1 := cell_at hbx (j := 1) rfl
      have hev : EvsAt wr ob [.int .i64 2, .string (bs x), .slice none 0 0, .string ⟨#[]⟩] [.stop x] := ⟨⟨rfl, rfl, rfl, rfl⟩, trivial⟩
      have hlen : (J ++ closeE (m' + 1) op).length ≤ 8000000 := by
        rw [List.length_append]
        unfold closeE
        rw [List.length_map, List.length_reverse, List.length_drop]
        omega
      have hput := balPut_any w0.heap.size ob b d _ _ outv1 _ xs1 2 (bs x) ⟨#[]⟩ (.slice none 0 0) (.stop x) wr HX.out.1.at_ HX.out.1.h2 hev (fun g e => by cases e) ⟨_, _, _, rfl⟩ (by omega)
      have HP := hid hput
      have hcn := closeE_next hx
      have HCN := hid hcn
      have hcap := (row_cap hrow).2
      obtain ⟨BX, hBX⟩ : ∃ n, bs x = n := ⟨_, rfl⟩
      rw [hBX] at HP c0
      clear hput hcn hx hx2 hev hcell a0 hlen hBX hrow hbx
      go_wp2_with fail
      refine HP.out.mono ?_
      rintro e W2 ⟨rfl, outv2, ha2, hf2⟩
      have hs2 := HX.out.1.step ha2 hf2
      obtain ⟨hs3, hf3⟩ := hs2.shut (k := m') (by omega) hlo.symm
      have htt : (op.take (m' + 1)).take m' = op.take m' := by rw [List.take_take, Nat.min_eq_left (by omega)]
      rw [htt, List.append_assoc, ← HCN.out] at hs3
      have H3 := hid (And.intro hs3 (HX.out.2.trans (hf2.trans hf3)))
      replace c1 := cell_at ha2.bx (j := 1) rfl
      have f1 := free_at ha2.bx 1
      clear hs3 hf3 htt hs2 ha2 hf2 HX HP HCN
      go_wp2_with fail
      go_roundw
      case rel => exact ⟨m', _, outv2, _, rfl, by omega, by omega, H3⟩
      case measure => simp [RowKit.intOf]
    · obtain rfl : m = n := by omega
      go_wp2_with fail
      go_end0
      exact ⟨rfl, ov1, outv1, xs1, HX.out.1, HX.out.2⟩
end Go.Proofs.YtkcgmimldjeaiaaDoor

/-
  The balancer's find, reach and end: their walks.
-/
namespace Go.Proofs.YtkcgmimldjeaiaaDoor
open Go.RowKit Go.Lib Own

def downF (c : Nat) (op : List (List UInt8)) (R : Nat × Nat) : Nat → Prop
  | 0 => R = (0, 0)
  | k + 1 => findP c op k = R
theorem down_up {c k : Nat} {op : List (List UInt8)} {R : Nat × Nat} (h : downF c op R (k + 1)) (hu : nestP (modO (op.take k)) c = 1) : downF c op R k := by
  cases k with
  | zero =>
    have h1 : findP c op 0 = R := h
    unfold findP at h1
    rw [if_pos hu] at h1
    exact h1.symm
  | succ k =>
    have h1 : findP c op (k + 1) = R := h
    show findP c op k = R
    unfold findP at h1
    rw [if_pos hu] at h1
    exact h1
theorem down_here {c k : Nat} {op : List (List UInt8)} {R : Nat × Nat} (h : downF c op R (k + 1)) (hu : nestP (modO (op.take k)) c ≠ 1) : R = (k, nestP (modO (op.take k)) c) := by
  unfold downF at h
  rw [← h]
  exact findP_self rfl hu
theorem modX_lt (x : List UInt8) : modX x < 10 := by
  by_cases h : elemL x = none
  · unfold modX; rw [h]; exact Nat.succ_pos 9
  · exact (known_lt x h).1
theorem clsX_lt (x : List UInt8) : clsX x < 10 := by
  by_cases h : elemL x = none
  · unfold clsX; rw [h]; exact Nat.succ_pos 9
  · exact (known_lt x h).2
theorem modO_lt (op : List (List UInt8)) : modO op < 10 := by
  unfold modO
  split
  · omega
  · exact modX_lt _

set_option maxHeartbeats 4000000 in
set_option maxRecDepth 100000 in
theorem findB_any (w0 : World) (ob b : Nat) (d : Int) (op : List (List UInt8)) (ov outv : Value) (J : List Ev) (xs : List Value) (c n : Nat) (w : World) (h : BalS w0 w ob b d op ov outv J xs) (hn : n ≤ op.length) (hc : c < 10) (hop : op.length ≤ 900000) :
    Calls Tryd.prog 90 #[.pointer (some ⟨b, 0, none⟩), .int .i64 c, .int .i64 n] w fun e w' => e = .returned (.tuple #[.int .i64 ((findP c op n).1 : Nat), .int .i64 ((findP c op n).2 : Nat)]) ∧ w' = w := by
  obtain ⟨op', oc, rfl⟩ := row_shape h.at_.op
  obtain ⟨R, hR⟩ : ∃ R, findP c op n = R := ⟨_, rfl⟩
  rw [hR]
  have HR : Hid (downF c op R (n + 1)) := hR
  have c1 := cell_at h.at_.bx (j := 1) rfl
  have hfr := fun k (hk : k ≤ op.length) => modIn_any w0.heap.size _ _ w (h.at_.op.front hk rfl) (by rw [List.length_take]; omega)
  have hns := fun k => nest_any (modO (op.take k)) c w h.nest (by have := modO_lt (op.take k); omega) (by omega)
  have hcap := (row_cap h.at_.op).2
  have HF := hid hfr
  have HS := hid hns
  clear hR hfr hns h
  go_enter Tryd.func90, Tryd.ntmps90
  go_wp2_with fail
  go_loopw [6, 7] (fun iv pv wr => ∃ (j : Nat) (pz : Int), iv = .int .i64 ((j : Int) - 1) ∧ pv = .int .i64 pz ∧ j ≤ n + 1 ∧ wr = w ∧ Hid (downF c op R j)) (fun iv _ _ => (RowKit.intOf iv + 1).toNat)
  case atStart => exact ⟨n + 1, 0, by first | rfl | (congr 1; omega) | simp, rfl, Nat.le_refl _, rfl, HR⟩
  case round =>
    clear HR
    obtain ⟨j, pz, rfl, rfl, hj, rfl, HK⟩ := hrel
    cases j with
    | zero =>
      have hk : R = (0, 0) := HK.out
      subst hk
      clear HK
      go_wp2_with fail
      go_ret2
      exact ⟨rfl, rfl⟩
    | succ k =>
      have hv1 : (((k + 1 : Nat) : Int) - 1) = (k : Int) := by omega
      rw [hv1]
      have hm := HF.out k (by omega)
      have hs := HS.out k
      have HM := hid hm
      have HN := hid hs
      have hkc : k ≤ oc := by omega
      clear hm hs
      go_wp2_with fail
      refine HM.out.mono ?_
      rintro e W1 ⟨rfl, rfl⟩
      go_wp2_with fail
      refine HN.out.mono ?_
      rintro e W2 ⟨rfl, rfl⟩
      by_cases hu : nestP (modO (op.take k)) c = 1
      · have hd := hid (down_up HK.out hu)
        rw [hu]
        clear HK HM HN
        go_wp2_with fail
        go_roundw
        case rel => exact ⟨k, _, rfl, rfl, by omega, by first | rfl | trivial, hd⟩
        case measure => simp [RowKit.intOf]
      · have hd := down_here HK.out hu
        subst hd
        have q : ((nestP (modO (op.take k)) c : Int) != 1) = true := by rw [bne_iff_ne]; omega
        have q2 : ((nestP (modO (op.take k)) c : Int) == 1) = false := by rw [Bool.eq_false_iff]; intro h; rw [beq_iff_eq] at h; omega
        clear HK HM HN
        go_wp2_with fail
        go_ret2
        exact ⟨rfl, rfl⟩
theorem of_bsT (s : ByteArray) : bs s.toList = s := by rw [Lib.toList_data]; exact of_bs s
/-- where x stands first; -1: nowhere -/
def idxI (op : List (List UInt8)) (x : List UInt8) : Int := if op.contains x = true then (op.idxOf x : Int) else -1
theorem idxI_cons (y x : List UInt8) (r : List (List UInt8)) : idxI (y :: r) x = if y = x then 0 else if r.contains x = true then (r.idxOf x : Int) + 1 else -1 := by
  unfold idxI
  rw [List.contains_cons, List.idxOf_cons]
  by_cases h : y = x
  · subst h
    simp
  · have h2 : (x == y) = false := by rw [Bool.eq_false_iff]; intro e; rw [beq_iff_eq] at e; exact h e.symm
    have h3 : (y == x) = false := by rw [Bool.eq_false_iff]; intro e; rw [beq_iff_eq] at e; exact h e
    rw [h2, h3, Bool.false_or, if_neg h]
    simp

/-- what is found from k on -/
def idxF (op : List (List UInt8)) (x : List UInt8) (k : Nat) : Int := if (op.drop k).contains x = true then (k : Int) + ((op.drop k).idxOf x : Int) else -1
theorem idxF_zero (op : List (List UInt8)) (x : List UInt8) : idxF op x 0 = idxI op x := by unfold idxF idxI; simp
theorem idxF_yes {op : List (List UInt8)} {x y : List UInt8} {k : Nat} (h : op[k]? = some y) (e : y = x) : idxF op x k = k := by
  subst e
  unfold idxF
  rw [drop_at h]
  simp
theorem idxF_no {op : List (List UInt8)} {x y : List UInt8} {k : Nat} (h : op[k]? = some y) (e : y ≠ x) : idxF op x k = idxF op x (k + 1) := by
  have h3 : (y == x) = false := by rw [Bool.eq_false_iff]; intro q; rw [beq_iff_eq] at q; exact e q
  have h2 : (x == y) = false := by rw [Bool.eq_false_iff]; intro q; rw [beq_iff_eq] at q; exact e q.symm
  unfold idxF
  rw [drop_at h, List.contains_cons, List.idxOf_cons, h2, h3, Bool.false_or]
  split
  · simp; omega
  · rfl
theorem idxF_end {op : List (List UInt8)} {x : List UInt8} {k : Nat} (h : op.length ≤ k) : idxF op x k = -1 := by
  unfold idxF
  rw [List.drop_of_length_le h]
  rfl

set_option maxHeartbeats 4000000 in
set_option maxRecDepth 100000 in
theorem idx_any (base : Nat) (ov : Value) (op : List (List UInt8)) (x : List UInt8) (w : World) (h : OpenR w base ov op) (hop : op.length ≤ 900000) :
    Calls Tryd.prog 121 #[ov, .agg #[.string (bs x), .int .i64 (clsX x : Nat), .int .i64 (modX x : Nat)]] w fun e w' => e = .returned (.int .i64 (idxI op x)) ∧ Below w.heap.size w w' := by
  obtain ⟨op', oc, rfl⟩ := row_shape h
  obtain ⟨R, hR⟩ : ∃ R, idxI op x = R := ⟨_, rfl⟩
  have HR : Hid (idxF op x 0 = R) := (idxF_zero op x).trans hR
  rw [hR]
  obtain ⟨W1, hW1⟩ : ∃ W1, w.alloc (.cells #[.string (bs x), .int .i64 (clsX x : Nat), .int .i64 (modX x : Nat)] 140) = W1 := ⟨_, rfl⟩
  have hb1 : Below w.heap.size w W1 := by rw [← hW1]; exact (Below.refl _ _).alloc (Nat.le_refl _) _
  have n1 : W1.heap[w.heap.size]? = some (.cells #[.string (bs x), .int .i64 (clsX x : Nat), .int .i64 (modX x : Nat)] 140 (0, 0)) := by rw [← hW1]; exact heap_alloc_new _ _
  have hrow := row_below h hb1
  have e0 := cell_at n1 (j := 0) rfl
  have e1 := cell_at n1 (j := 1) rfl
  have e2 := cell_at n1 (j := 2) rfl
  have HW := hid hrow
  have HB := hid hb1
  obtain ⟨BX, hBX⟩ : ∃ n, bs x = n := ⟨_, rfl⟩
  have hbx : BX.toList = x := by rw [← hBX]; exact bs_toList x
  rw [hBX] at hW1 e0 ⊢
  have HBX := hid hbx
  clear h hR hb1 n1 hrow hbx hBX
  go_enter Tryd.func121, Tryd.ntmps121
  go_wp2_with fail
  clear hW1
  go_loopw [8] (fun iv wr => ∃ k : Nat, iv = .int .i64 k ∧ k ≤ op.length ∧ Hid (∃ n, wr = W1.drewN n) ∧ Hid (idxF op x k = R)) (fun iv _ => op.length - (RowKit.intOf iv).toNat)
  case atStart => exact ⟨0, rfl, Nat.zero_le _, hid ⟨0, rfl⟩, HR⟩
  case round =>
    clear HR
    obtain ⟨k, rfl, hk, HQ, HK⟩ := hrel
    by_cases hkl : k < op.length
    · obtain ⟨y, hy⟩ : ∃ y, op[k]? = some y := ⟨_, List.getElem?_eq_getElem hkl⟩
      obtain ⟨g, cap, e3, _, _, hcell⟩ := row_at HW.out (by omega)
      cases e3
      obtain ⟨a0, a1, a2⟩ := elems_at op k y hy
      have hq := HQ.out
      have f0 := cell_drew hq e0
      have f1 := cell_drew hq e1
      have f2 := cell_drew hq e2
      have d0 := cell_drew hq ((hcell (k * 3) (by omega)).trans a0)
      have d1 := cell_drew hq ((hcell (k * 3 + 1) (by omega)).trans a1)
      have d2 := cell_drew hq ((hcell (k * 3 + 2) (by omega)).trans a2)
      have hle := (row_cap HW.out).2
      clear hq a0 a1 a2 hcell
      by_cases q : y = x
      · subst q
        have hfin := idxF_yes hy rfl
        rw [HK.out] at hfin
        subst hfin
        have hby : bs y = BX := by rw [← HBX.out]; exact of_bsT BX
        rw [hby] at d0
        have hs1 : (BX.toList == BX.toList) = true := beq_self_eq_true _
        clear hy HK HW hby
        go_wp2_with fail
        go_quiet (fail)
        go_wp2_with fail
        go_ret
        obtain ⟨n, rfl⟩ := HQ.out
        exact ⟨rfl, below_drewN (below_drewN HB.out n) nq⟩
      · have hnx := idxF_no hy q
        rw [HK.out] at hnx
        have HN := hid hnx.symm
        have q1 : ((bs y).toList == BX.toList) = false := by rw [bs_toList, HBX.out, Bool.eq_false_iff]; intro e; rw [beq_iff_eq] at e; exact q e
        have q2 : (BX.toList == (bs y).toList) = false := by rw [bs_toList, HBX.out, Bool.eq_false_iff]; intro e; rw [beq_iff_eq] at e; exact q e.symm
        clear hy HK HW hnx
        go_wp2_with fail
        go_quiet (fail)
        go_wp2_with fail
        go_roundw
        case rel =>
          obtain ⟨n, hn⟩ := HQ.out
          exact ⟨k + 1, rfl, by omega, hid ⟨n + nq, by rw [hn]; simp⟩, HN⟩
        case measure => simp [RowKit.intOf]; omega
    · have hfin := idxF_end (op := op) (x := x) (show op.length ≤ k by omega)
      rw [HK.out] at hfin
      subst hfin
      clear HK HW
      go_wp2_with fail
      go_ret
      obtain ⟨n, rfl⟩ := HQ.out
      exact ⟨rfl, below_drewN HB.out n⟩
end Go.Proofs.YtkcgmimldjeaiaaDoor

/-
  The balancer's reach and end: their walks.
-/
namespace Go.Proofs.YtkcgmimldjeaiaaDoor
open Go.RowKit Go.Lib Own

theorem idxI_a (op : List (List UInt8)) : (0 ≤ idxI op aN → idxI op aN = (op.idxOf aN : Int)) ∧ (¬ 0 ≤ idxI op aN → op.idxOf aN = op.length) := by
  unfold idxI
  by_cases h : op.contains aN = true
  · rw [if_pos h]
    exact ⟨fun _ => rfl, fun h2 => absurd (Int.natCast_nonneg _) h2⟩
  · rw [if_neg h]
    refine ⟨fun h2 => absurd h2 (by decide), fun _ => ?_⟩
    exact List.idxOf_eq_length (fun h2 => h (List.contains_iff_mem.2 h2))

set_option maxHeartbeats 4000000 in
set_option maxRecDepth 100000 in
theorem reach_any (w0 : World) (ob b : Nat) (d : Int) (op : List (List UInt8)) (ov outv : Value) (J : List Ev) (xs : List Value) (x : List UInt8) (w : World) (h : BalS w0 w ob b d op ov outv J xs) (hop : op.length ≤ 900000) :
    Calls Tryd.prog 91 #[.pointer (some ⟨b, 0, none⟩), .agg #[.string (bs x), .int .i64 (clsX x : Nat), .int .i64 (modX x : Nat)]] w fun e w' => e = .returned (.int .i64 (reachP op x : Nat)) ∧ Below w.heap.size w w' := by
  obtain ⟨op', oc, rfl⟩ := row_shape h.at_.op
  obtain ⟨R, hR⟩ : ∃ R, reachP op x = R := ⟨_, rfl⟩
  rw [hR]
  obtain ⟨W1, hW1⟩ : ∃ W1, w.alloc (.cells #[.string (bs x), .int .i64 (clsX x : Nat), .int .i64 (modX x : Nat)] 140) = W1 := ⟨_, rfl⟩
  have hb1 : Below w.heap.size w W1 := by rw [← hW1]; exact (Below.refl _ _).alloc (Nat.le_refl _) _
  have n1 : W1.heap[w.heap.size]? = some (.cells #[.string (bs x), .int .i64 (clsX x : Nat), .int .i64 (modX x : Nat)] 140 (0, 0)) := by rw [← hW1]; exact heap_alloc_new _ _
  have h1 := h.below hb1
  have hix := fun W (hb : Below W1.heap.size W1 W) => idx_any w0.heap.size _ op x W (row_below h1.at_.op hb) hop
  have e0 := cell_at n1 (j := 0) rfl
  have e1 := cell_at n1 (j := 1) rfl
  have e2 := cell_at n1 (j := 2) rfl
  have c1 := cell_at h1.at_.bx (j := 1) rfl
  have hbb := block_lt h1.at_.bx
  have hnb := block_lt n1
  obtain ⟨I, hI⟩ : ∃ I, idxI op x = I := ⟨_, rfl⟩
  rw [hI] at hix
  have HI := hid hix
  have HB := hid hb1
  obtain ⟨BX, hBX⟩ : ∃ n, bs x = n := ⟨_, rfl⟩
  have hbx : BX.toList = x := by rw [← hBX]; exact bs_toList x
  rw [hBX] at hW1 e0 HI ⊢
  have HR := hid (And.intro hR (And.intro hI hbx))
  clear h hR hb1 n1 h1 hix hbx hBX hI
  go_enter Tryd.func91, Tryd.ntmps91
  go_upto_region 1 with fail
  clear hW1
  go_region_with (go_at_call 121; refine (HI.out _ (by first | exact Below.refl _ _ | exact below_drewN (Below.refl _ _) 1)).mono ?_; rintro e W2 ⟨rfl, hb2⟩)
  all_goals
    have hb3 : Below W1.heap.size W1 W2 := ⟨hb2.os, hb2.tape, hb2.output, hb2.size, hb2.block⟩
    replace e0 := cell_low e0 hb3 hnb
    replace c1 := cell_low c1 hb3 hbb
    have hz2 : Below w.heap.size w W2 := HB.out.trans (hb3.mono HB.out.size)
    have HZ := hid hz2
    clear hb2 hb3 hz2
    obtain ⟨hR, hI, hbx⟩ := HR.out
    by_cases ha : x = aN
    · have q : (BX.toList == [97]) = true := by rw [hbx, ha]; rfl
      subst ha
      obtain ⟨i1, i2⟩ := idxI_a op
      rw [hI] at i1 i2
      unfold reachP at hR
      rw [if_pos rfl] at hR
      by_cases hi : 0 ≤ I
      · have hd : decide (0 ≤ I) = true := decide_eq_true hi
        have hfin := (i1 hi).trans (congrArg Int.ofNat hR)
        clear i1 i2 hR hI hbx
        go_wp2_with fail
        go_ret
        exact ⟨rfl, HZ.out⟩
      · have hd : decide (0 ≤ I) = false := decide_eq_false hi
        have hfin := (i2 hi).symm.trans hR
        clear i1 i2 hR hI hbx
        go_wp2_with fail
        go_ret
        exact ⟨rfl, HZ.out⟩
    · have q : (BX.toList == [97]) = false := by rw [hbx, Bool.eq_false_iff]; intro e; rw [beq_iff_eq] at e; exact ha e
      unfold reachP at hR
      rw [if_neg ha] at hR
      clear hI hbx
      go_wp2_with fail
      go_ret
      exact ⟨rfl, HZ.out⟩

/-- the answer of an end tag, by what it closes -/
def endR (op : List (List UInt8)) : Option Nat → List (List UInt8) × List Ev
  | none => (op, [])
  | some k => (op.take k, closeE k op)
theorem endP_eq (op : List (List UInt8)) (x : List UInt8) (h : elemL x ≠ none) : endP op x = endR op (closesP op x op.length) := by
  unfold endP
  rw [if_neg h]
  cases closesP op x op.length <;> rfl
theorem closes_yes {op : List (List UInt8)} {x y : List UInt8} {k : Nat} (h : op[k]? = some y) (e : y = x) : closesP op x (k + 1) = some k := by
  unfold closesP
  rw [List.getD_eq_getElem?_getD, h]
  exact if_pos e
theorem closes_wall {op : List (List UInt8)} {x y : List UInt8} {k : Nat} (h : op[k]? = some y) (e : y ≠ x) (hw : wallX y x = true) : closesP op x (k + 1) = none := by
  unfold closesP
  rw [List.getD_eq_getElem?_getD, h]
  exact (if_neg e).trans (if_pos hw)
theorem closes_no {op : List (List UInt8)} {x y : List UInt8} {k : Nat} (h : op[k]? = some y) (e : y ≠ x) (hw : wallX y x = false) : closesP op x (k + 1) = closesP op x k := by
  show (if op.getD k [] = x then some k else if wallX (op.getD k []) x = true then none else closesP op x k) = _
  rw [List.getD_eq_getElem?_getD, h]
  exact (if_neg e).trans (if_neg (by rw [show (some y).getD [] = y from rfl, hw]; exact Bool.false_ne_true))
theorem closes_lt {op : List (List UInt8)} {x : List UInt8} : ∀ {m k : Nat}, closesP op x m = some k → k < m
  | 0, k, h => by cases h
  | m + 1, k, h => by
    unfold closesP at h
    split at h
    · cases h; omega
    · split at h
      · cases h
      · have := closes_lt h; omega

set_option maxHeartbeats 8000000 in
set_option maxRecDepth 100000 in
theorem endB_any (w0 : World) (ob b : Nat) (d : Int) (op : List (List UInt8)) (ov outv : Value) (J : List Ev) (xs : List Value) (x : ByteArray) (w : World) (h : BalS w0 w ob b d op ov outv J xs) (hl : J.length ≤ 7000000) (hop : op.length ≤ 900000) :
    Calls Tryd.prog 55 #[.pointer (some ⟨b, 0, none⟩), .string x] w fun e w' => e = .returned (.tuple #[]) ∧
      ∃ ov' outv' xs', BalS w0 w' ob b d (endP op x.toList).1 ov' outv' (J ++ (endP op x.toList).2) xs' ∧ BalF b ov outv ov' outv' w w' := by
  obtain ⟨op', oc, rfl⟩ := row_shape h.at_.op
  have hfd := find_any x w h.kinds
  have HF := hid hfd
  clear hfd
  by_cases hk : elemL x.toList = none
  · have hE : endP op x.toList = (op, []) := by unfold endP; rw [if_pos hk]
    rw [hE, List.append_nil]
    rw [hk] at HF
    have H0 := hid h
    clear h hE
    go_enter Tryd.func55, Tryd.ntmps55
    go_wp2_with fail
    refine HF.out.mono ?_
    rintro e W1 ⟨rfl, hb1⟩
    have HZ := hid (And.intro (H0.out.below (hb1.trans ((Below.refl W1.heap.size W1).alloc (Nat.le_refl _) (.cells zeroE 140) |>.mono hb1.size))) ((hb1.trans ((Below.refl W1.heap.size W1).alloc (Nat.le_refl _) (.cells zeroE 140) |>.mono hb1.size))))
    unfold foundV zeroE at *
    dsimp only
    clear hb1 HF
    go_wp2_with fail
    (try simp only [Exit.inBlock, Exit.then]); refine bodyPost_ret (results_none rfl _ _ _) rfl ?_
    exact ⟨rfl, _, _, xs, HZ.out.1, BalF.of_below HZ.out.2⟩
  · rw [endP_eq op _ hk]
    rw [elem_some hk] at HF
    obtain ⟨R, hR⟩ : ∃ R, closesP op x.toList op.length = R := ⟨_, rfl⟩
    rw [hR]
    have HR := hid hR
    have H0 := hid h
    have HK := hid (modX_lt x.toList)
    clear h hR hk
    go_enter Tryd.func55, Tryd.ntmps55
    go_wp2_with fail
    refine HF.out.mono ?_
    rintro e W1 ⟨rfl, hb1⟩
    unfold foundV elemC
    dsimp only
    go_upto_region 1 with fail
    obtain ⟨W2, hW2⟩ : ∃ W2, W1.alloc (.cells #[.string (bs x.toList), .int .i64 (clsX x.toList : Nat), .int .i64 (modX x.toList : Nat)] 140) = W2 := ⟨_, rfl⟩
    have hb2 : Below W1.heap.size W1 W2 := by rw [← hW2]; exact (Below.refl _ _).alloc (Nat.le_refl _) _
    have n2 : W2.heap[W1.heap.size]? = some (.cells #[.string (bs x.toList), .int .i64 (clsX x.toList : Nat), .int .i64 (modX x.toList : Nat)] 140 (0, 0)) := by rw [← hW2]; exact heap_alloc_new _ _
    simp only [hW2]
    clear hW2
    have hb12 : Below w.heap.size w W2 := hb1.trans (hb2.mono hb1.size)
    have h2 := H0.out.below hb12
    have H2 := hid (And.intro h2 (And.intro hb12 n2))
    have c1 := cell_at h2.at_.bx (j := 1) rfl
    have hw1 : IntKind.i64.wrap ((op.length : Int) - 1) = (op.length : Int) - 1 := by rw [IntKind.wrap_i64]; omega
    obtain ⟨EB, hEB⟩ : ∃ n, W1.heap.size = n := ⟨_, rfl⟩
    rw [hEB] at H2
    simp only [hEB]
    clear hb1 hb2 hb12 h2 n2 HF hEB
    go_wp2_with fail
    clear c1 hw1
    go_loopw [6] (fun iv wr => ∃ m : Nat, iv = .int .i64 ((m : Int) - 1) ∧ m ≤ op.length ∧ Hid (closesP op x.toList m = R) ∧ Hid (Below W2.heap.size W2 wr)) (fun iv _ => (RowKit.intOf iv + 1).toNat)
    case atStart => exact ⟨op.length, rfl, Nat.le_refl _, HR, hid (Below.refl _ _)⟩
    case round =>
      clear HR
      obtain ⟨m, rfl, hm, HM, HQ⟩ := hrel
      cases m with
      | zero =>
        have hfin : R = none := HM.out.symm
        subst hfin
        clear HM
        go_wp2_with fail
        go_end0
        have hz := H2.out.1.below HQ.out
        exact ⟨rfl, _, _, xs, by rw [show (endR op none).2 = [] from rfl, List.append_nil]; exact hz, BalF.of_below (H2.out.2.1.trans (HQ.out.mono H2.out.2.1.size))⟩
      | succ k =>
        have hv1 : (((k + 1 : Nat) : Int) - 1) = (k : Int) := by omega
        rw [hv1]
        obtain ⟨y, hy⟩ : ∃ y, op[k]? = some y := ⟨_, List.getElem?_eq_getElem (by omega)⟩
        have hs := H2.out.1.below HQ.out
        have hrow := hs.at_.op
        unfold OpenR at hrow
        obtain ⟨g, cap, e3, hg1, hg2, hcell⟩ := row_at hrow (by omega)
        cases e3
        obtain ⟨a0, a1, a2⟩ := elems_at op k y hy
        have d0 := (hcell (k * 3) (by omega)).trans a0
        have d1 := (hcell (k * 3 + 1) (by omega)).trans a1
        have d2 := (hcell (k * 3 + 2) (by omega)).trans a2
        have c1 := cell_at hs.at_.bx (j := 1) rfl
        have n3 := (HQ.out.block _ (block_lt H2.out.2.2)).trans H2.out.2.2
        have e0 := cell_at n3 (j := 0) rfl
        have e1 := cell_at n3 (j := 1) rfl
        have e2 := cell_at n3 (j := 2) rfl
        have hcap := (row_cap hrow).2
        have hen := block_lt n3
        have hbn := block_lt hs.at_.bx
        have HS := hid hs
        clear hs hrow hcell a0 a1 a2 n3
        by_cases q : y = x.toList
        · have hfin := closes_yes hy q
          rw [HM.out] at hfin
          subst hfin
          subst q
          have hct := fun nq => closeTo_any w0 ob b d op _ outv J xs k (wr.drewN nq) (HS.out.below (below_drewN (Below.refl _ _) nq)) (by omega) hl hop
          have HC := hid hct
          have HL := hid (H2.out.2.1.trans (HQ.out.mono H2.out.2.1.size))
          obtain ⟨BX, hBX⟩ : ∃ n, bs x.toList = n := ⟨_, rfl⟩
          rw [hBX] at d0 e0
          have hs1 : (BX.toList == BX.toList) = true := beq_self_eq_true _
          clear HM hy hct HQ H2 hBX
          go_wp2_with fail
          go_quiet (fail)
          go_wp2_with fail
          refine (HC.out _).mono ?_
          rintro e W4 ⟨rfl, ov4, outv4, xs4, hs4, hf4⟩
          have HZ := hid (And.intro hs4 ((BalF.of_below (below_drewN HL.out nq)).trans hf4))
          clear hs4 hf4 HC
          go_wp2_with fail
          (try simp only [Exit.inBlock, Exit.then]); refine bodyPost_ret (results_none rfl _ _ _) rfl ?_
          exact ⟨rfl, _, _, _, HZ.out.1, HZ.out.2⟩
        · have hby : (bs y).toList = y := bs_toList y
          have hbx : (bs x.toList).toList = x.toList := bs_toList x.toList
          have q1 : ((bs y).toList == (bs x.toList).toList) = false := by rw [hby, hbx, Bool.eq_false_iff]; intro e; rw [beq_iff_eq] at e; exact q e
          have hwl := fun W => wall_any y x.toList W (modX_lt y) HK.out
          obtain ⟨B, hB⟩ : ∃ v, wallX y x.toList = v := ⟨_, rfl⟩
          rw [hB] at hwl
          have HW := hid hwl
          have HYB := hid (And.intro hy (And.intro q hB))
          obtain ⟨BX, hBX⟩ : ∃ n, bs x.toList = n := ⟨_, rfl⟩
          obtain ⟨BY, hBY⟩ : ∃ n, bs y = n := ⟨_, rfl⟩
          rw [hBX] at e0 q1 HW
          rw [hBY] at d0 q1 HW
          clear hby hbx hwl hB hy q hBX hBY
          go_wp2_with fail
          go_quiet (fail)
          go_upto_region 7 with fail
          have HC2 := hid (And.intro c1 (And.intro d0 (And.intro d1 (And.intro d2 (And.intro e0 (And.intro e1 e2))))))
          go_region_with (go_at_call 95; refine (HW.out _).mono ?_; rintro e W4 ⟨rfl, hb4⟩)
          all_goals
            have hb5 : Below wr.heap.size wr W4 := ⟨hb4.os, hb4.tape, hb4.output, hb4.size, hb4.block⟩
            have hq5 := HQ.out.trans (hb5.mono HQ.out.size)
            have HQ5 := hid hq5
            have HS5 := hid (HS.out.below hb5)
            clear hb4 hb5 hq5
            cases B with
            | true =>
              have hfin := closes_wall HYB.out.1 HYB.out.2.1 HYB.out.2.2
              rw [HM.out] at hfin
              subst hfin
              clear HM HYB
              go_wp2_with fail
              (try simp only [Exit.inBlock, Exit.then]); refine bodyPost_ret (results_none rfl _ _ _) rfl ?_
              exact ⟨rfl, _, _, xs, by rw [show (endR op none).2 = [] from rfl, List.append_nil]; exact HS5.out, BalF.of_below (H2.out.2.1.trans (HQ5.out.mono H2.out.2.1.size))⟩
            | false =>
              have hnx := closes_no HYB.out.1 HYB.out.2.1 HYB.out.2.2
              rw [HM.out] at hnx
              have HN := hid hnx.symm
              clear HM HYB hnx
              go_wp2_with fail
              go_roundw
              case rel => exact ⟨k, rfl, by omega, HN, HQ5⟩
              case measure => simp [RowKit.intOf]
end Go.Proofs.YtkcgmimldjeaiaaDoor

/-
  The balancer's addText: its walk.
-/
namespace Go.Proofs.YtkcgmimldjeaiaaDoor
open Go.RowKit Go.Lib Own

/-- what one event does to the balancer -/
structure BalOut (w0 w : World) (ob b : Nat) (d : Int) (ov outv : Value) (J : List Ev) (R : List (List UInt8) × List Ev) (e : Ending) (w' : World) : Prop where
  ret : e = .returned (.tuple #[])
  it : ∃ ov' outv' xs', BalS w0 w' ob b d R.1 ov' outv' (J ++ R.2) xs' ∧ BalF b ov outv ov' outv' w w'
theorem ev_text {W : World} {base : Nat} (t : List UInt8) : EvsAt W base [.int .i64 3, .string ⟨#[]⟩, .slice none 0 0, .string (bs t)] [.text t] := ⟨⟨rfl, rfl, rfl, rfl⟩, trivial⟩
theorem bs_ne {t : List UInt8} (h : t ≠ []) : ((bs t).toList == []) = false ∧ ((bs t).toList != []) = true := by
  rw [bs_toList]
  exact ⟨by rw [Bool.eq_false_iff]; intro e; rw [beq_iff_eq] at e; exact h e, by rw [bne_iff_ne]; exact h⟩
theorem bs_nilE : ((bs ([] : List UInt8)).toList == []) = true ∧ ((bs ([] : List UInt8)).toList != []) = false := by
  rw [bs_toList]
  exact ⟨rfl, rfl⟩
theorem textP_take {d : Nat} {op : List (List UInt8)} {t : List UInt8} (h : nestP (modO op) 3 = 2) : textP d op t = (op, if t = [] then [] else [.text t]) := by unfold textP; rw [if_pos h]
theorem textP_none {d : Nat} {op : List (List UInt8)} {t : List UInt8} (h : nestP (modO op) 3 ≠ 2) (h2 : trimP t = [] ∨ d < op.length + (impP (nestP (modO op) 3)).length) : textP d op t = (op, []) := by unfold textP; rw [if_neg h, if_pos h2]
theorem textP_imp {d : Nat} {op : List (List UInt8)} {t : List UInt8} (h : nestP (modO op) 3 ≠ 2) (h2 : ¬ (trimP t = [] ∨ d < op.length + (impP (nestP (modO op) 3)).length)) : textP d op t = (op ++ impP (nestP (modO op) 3), openE (impP (nestP (modO op) 3)) ++ [.text (trimP t)]) := by unfold textP; rw [if_neg h, if_neg h2]

set_option maxHeartbeats 8000000 in
set_option maxRecDepth 100000 in
theorem addText_any (w0 : World) (ob b d : Nat) (op : List (List UInt8)) (ov outv : Value) (J : List Ev) (xs : List Value) (t : List UInt8) (w : World) (h : BalS w0 w ob b d op ov outv J xs) (hl : J.length ≤ 6000000) (hop : op.length ≤ 800000) :
    Calls Tryd.prog 56 #[.pointer (some ⟨b, 0, none⟩), .string (bs t)] w (BalOut w0 w ob b d ov outv J (textP d op t)) := by
  obtain ⟨op', oc, rfl⟩ := row_shape h.at_.op
  have hmi := modIn_any w0.heap.size _ op w h.at_.op (by omega)
  have hns := nest_any (modO op) 3 w h.nest (by have := modO_lt op; omega) (by omega)
  have c1 := cell_at h.at_.bx (j := 1) rfl
  obtain ⟨R, hR⟩ : ∃ R, textP d op t = R := ⟨_, rfl⟩
  rw [hR]
  have HR := hid hR
  have H0 := hid h
  have HM := hid hmi
  have HN := hid hns
  have hnl := nest_lt (modO op) 3
  clear hmi hns h hR
  go_enter Tryd.func56, Tryd.ntmps56
  go_wp2_with fail
  refine HM.out.mono ?_
  rintro e W1 ⟨rfl, rfl⟩
  go_wp2_with fail
  refine HN.out.mono ?_
  rintro e W2 ⟨rfl, rfl⟩
  clear HM HN
  by_cases hp : nestP (modO op) 3 = 2
  · have hfin := textP_take (d := d) (t := t) hp
    rw [HR.out] at hfin
    rw [hp]
    by_cases ht : t = []
    · subst ht
      rw [if_pos rfl] at hfin
      subst hfin
      obtain ⟨z1, z2⟩ := bs_nilE
      clear hp hnl c1
      go_wp2_with fail
      go_end0
      exact ⟨rfl, _, _, xs, by rw [List.append_nil]; exact H0.out, BalF.refl _ _ _ _⟩
    · obtain ⟨z1, z2⟩ := bs_ne ht
      rw [if_neg ht] at hfin
      subst hfin
      have hput := balPut_any w0.heap.size ob b d op _ outv J xs 3 ⟨#[]⟩ (bs t) (.slice none 0 0) (.text t) W2 H0.out.at_ H0.out.h2 (ev_text t) (fun g e => by cases e) ⟨_, _, _, rfl⟩ (by omega)
      have HP := hid hput
      clear hp hnl c1 hput ht
      go_wp2_with fail
      refine HP.out.mono ?_
      rintro e W3 ⟨rfl, outv3, ha3, hf3⟩
      have HZ := hid (And.intro (H0.out.step ha3 hf3) hf3)
      clear ha3 hf3
      go_wp2_with fail
      go_end0
      exact ⟨rfl, _, _, _, HZ.out.1, HZ.out.2⟩
  · have q : ((nestP (modO op) 3 : Int) != 2) = true := by rw [bne_iff_ne]; omega
    have htr := trimF_any t W2
    have him := implied_any (nestP (modO op) 3) hnl W2
    have himl := imp_len (nestP (modO op) 3)
    have himo := fun x (hx : x ∈ impP (nestP (modO op) 3)) => imp_ok hx
    have HT := hid htr
    have HI := hid him
    have HO := hid himo
    have HP := hid hp
    obtain ⟨P, hP⟩ : ∃ P, nestP (modO op) 3 = P := ⟨_, rfl⟩
    rw [hP] at q HI himl HO hnl ⊢
    have HPP := hid hP
    clear htr him himo hp c1 hP
    go_wp2_with fail
    refine HT.out.mono ?_
    rintro e W3 ⟨rfl, rfl⟩
    go_wp2_with fail
    refine HI.out.mono ?_
    rintro e W4 ⟨iv, rfl, hrow, hb4⟩
    have hs4 := H0.out.below hb4
    obtain ⟨ip, ic, rfl⟩ := row_shape hrow
    have c0 := cell_at hs4.at_.bx (j := 0) rfl
    have c1 := cell_at hs4.at_.bx (j := 1) rfl
    have H4 := hid (And.intro hs4 (And.intro hb4 hrow))
    have hw1 : IntKind.i64.wrap ((op.length : Int) + ((impP P).length : Int)) = (op.length : Int) + ((impP P).length : Int) := by rw [IntKind.wrap_i64]; omega
    clear hs4 hrow hb4 HT HI
    by_cases ht : trimP t = []
    · have hfin : textP d op t = (op, []) := textP_none HP.out (.inl ht)
      rw [HR.out] at hfin
      subst hfin
      rw [ht]
      obtain ⟨z1, z2⟩ := bs_nilE
      clear ht
      go_wp2_with fail
      go_quiet (fail)
      go_wp2_with fail
      (try simp only [Exit.inBlock, Exit.then]); refine bodyPost_ret (results_none rfl _ _ _) rfl ?_
      exact ⟨rfl, _, _, xs, by rw [List.append_nil]; exact H4.out.1.below (below_drewN (Below.refl _ _) nq), BalF.of_below (below_drewN H4.out.2.1 nq)⟩
    · obtain ⟨z1, z2⟩ := bs_ne ht
      obtain ⟨TT, hTT⟩ : ∃ n, bs (trimP t) = n := ⟨_, rfl⟩
      by_cases hdp : d < op.length + (impP P).length
      · have hfin : textP d op t = (op, []) := textP_none HP.out (.inr (by rw [HPP.out]; exact hdp))
        rw [HR.out] at hfin
        subst hfin
        have hdd : decide ((d : Int) < (op.length : Int) + ((impP P).length : Int)) = true := decide_eq_true (by omega)
        have hdd2 : (d : Int) < (op.length : Int) + ((impP P).length : Int) := by omega
        rw [hTT] at z1 z2 ⊢
        clear ht hTT
        go_wp2_with fail
        go_quiet (fail)
        go_wp2_with fail
        (try simp only [Exit.inBlock, Exit.then]); refine bodyPost_ret (results_none rfl _ _ _) rfl ?_
        exact ⟨rfl, _, _, xs, by rw [List.append_nil]; exact H4.out.1.below (below_drewN (Below.refl _ _) nq), BalF.of_below (below_drewN H4.out.2.1 nq)⟩
      · have hfin : textP d op t = _ := textP_imp HP.out (fun h => by rw [HPP.out] at h; exact h.elim ht hdp)
        rw [HR.out, HPP.out] at hfin
        subst hfin
        have hdd : decide ((d : Int) < (op.length : Int) + ((impP P).length : Int)) = false := decide_eq_false (by omega)
        have hdd2 : ¬ (d : Int) < (op.length : Int) + ((impP P).length : Int) := by omega
        have hoi := fun nq => openImp_any w0 ob b d op _ outv J xs _ (impP P) _ (W4.drewN nq) (H4.out.1.below (below_drewN (Below.refl _ _) nq)) (row_below H4.out.2.2 (below_drewN (Below.refl _ _) nq)) (fun x hx => ⟨(HO.out x hx).1, (HO.out x hx).2.1⟩) (by omega) (by omega) (by omega)
        have HOI := hid hoi
        have HTT := hid hTT
        rw [hTT] at z1 z2 ⊢
        clear ht hTT hoi
        go_wp2_with fail
        go_quiet (fail)
        go_wp2_with fail
        refine (HOI.out _).mono ?_
        rintro e W5 ⟨rfl, ov5, outv5, xs5, hs5, hf5⟩
        have hput := balPut_any w0.heap.size ob b d _ ov5 outv5 _ xs5 3 ⟨#[]⟩ (bs (trimP t)) (.slice none 0 0) (.text (trimP t)) W5 hs5.at_ hs5.h2 (ev_text (trimP t)) (fun g e => by cases e) ⟨_, _, _, rfl⟩ (by rw [List.length_append]; unfold openE; rw [List.length_map]; omega)
        rw [HTT.out] at hput
        have HPU := hid hput
        have H5 := hid (And.intro hs5 ((BalF.of_below (below_drewN H4.out.2.1 nq)).trans hf5))
        clear hput hs5 hf5 HOI
        go_wp2_with fail
        refine HPU.out.mono ?_
        rintro e W6 ⟨rfl, outv6, ha6, hf6⟩
        have hz := H5.out.1.step ha6 hf6
        rw [List.append_assoc] at hz
        have HZ := hid (And.intro hz (H5.out.2.trans hf6))
        clear hz ha6 hf6 HPU H5
        go_wp2_with fail
        go_end0
        exact ⟨rfl, _, _, _, HZ.out.1, HZ.out.2⟩
end Go.Proofs.YtkcgmimldjeaiaaDoor

/-
  The balancer's start: its walk.
-/
namespace Go.Proofs.YtkcgmimldjeaiaaDoor
open Go.RowKit Go.Lib Own

theorem step_append_attrs {w : World} {ops : Array Oper} {o : Oper} {a : Act} {K : Act → World → Prop} {Q : Exit → Act → World → Prop} {E : Prop} (hgd : o.guard = none) (s x : Operand)
    (ho : o.op = .call { callee := .builtin .append, args := #[s, x], argTypes := #[37, 37] }) (base : Nat) (v vx : Value) (l m : List AttrP) (hs : a.eval s = v) (hx : a.eval x = vx)
    (hown : w.ownsRow base 101 2 v l.length (attrsV l)) (hw : AttrsR w vx m) (hbase : base ≤ w.heap.size) (hsz : l.length + m.length ≤ 1000000000)
    (h : ∀ v' w', w'.ownsRow base 101 2 v' (l ++ m).length (attrsV (l ++ m)) → w.grownBy w' v.ownBlock → K (a.put o.dst v') w') : if Region.wanted o (yielded ops a.tmps) = true then Oper.wp Tryd.prog o a w K Q else E := by
  have hwt : Region.wanted o (yielded ops a.tmps) = true := by simp [Region.wanted, hgd]
  rw [if_pos hwt]
  obtain ⟨i0, hi, hz0, hz1, hz2⟩ := info_parts info_attr
  obtain ⟨p, c, rfl, hc, hm, hcell, hnone⟩ := hw
  cases p with
  | none =>
    obtain rfl : c = 0 := hnone rfl
    obtain rfl : m = [] := List.length_eq_zero_iff.1 (by omega)
    have hrun := run_append_owned_none (P := Tryd.prog) (w := w) base 37 o.type 101 i0 2 Tryd.underlying37 hi v l.length (attrsV l) hown
    have hk := h v w (by rw [List.append_nil]; exact hown) ⟨rfl, rfl, rfl, Nat.le_refl _, fun _ _ _ => rfl⟩
    have hx2 : a.eval x = .slice none 0 0 := hx
    unfold Oper.wp
    simp [execOp, ho, resolve, invoke, builtin, hs, hx2, hrun, Result.andThen]
    exact hk
  | some ad =>
    refine wp_append_own (w := w) s x 37 ho base 101 i0 (.agg #[.string ⟨#[]⟩, .string ⟨#[]⟩]) 2 32 Tryd.underlying37 hi hz0 hz1 hz2 rfl (by decide) v l.length (attrsV l) hs hown ad m.length c (attrsV m) hx (attrsV_len m) ?_ (attrsV_one m) (by unfold maxLen; omega) (by omega) hbase ?_
    · intro j u hj
      have hjl := (List.getElem?_eq_some_iff.1 hj).1
      rw [attrsV_len] at hjl
      obtain ⟨t, ht⟩ : ∃ t, m[j / 2]? = some t := ⟨_, List.getElem?_eq_getElem (by omega)⟩
      obtain ⟨b, o', e, hd1, hd2⟩ := hcell _ t ht
      obtain ⟨x1, x2⟩ := attrs_at m _ t ht
      cases e
      have hadd : (⟨b, o', none⟩ : Addr).add j = ⟨b, o' + j, none⟩ := by unfold Addr.add; split <;> simp_all
      rw [hadd]
      rcases (show j = j / 2 * 2 ∨ j = j / 2 * 2 + 1 by omega) with e | e
      · rw [← e] at x1 hd1
        obtain rfl := Option.some.inj (x1.symm.trans hj)
        exact hd1
      · rw [← e] at x2
        rw [Nat.add_assoc, ← e] at hd2
        obtain rfl := Option.some.inj (x2.symm.trans hj)
        exact hd2
    · intro v' w' h2 h3 _
      exact h v' w' (by rw [List.length_append, attrsV_app]; exact h2) h3
theorem findP_lt (c : Nat) (op : List (List UInt8)) (k : Nat) : (findP c op k).2 < 10 := by
  obtain ⟨_, h2⟩ := findP_at c op k
  by_cases h : (findP c op k).2 = 0
  · omega
  · rw [h2 h]
    exact nest_lt _ _
theorem reachP_le (op : List (List UInt8)) (x : List UInt8) : reachP op x ≤ op.length := by
  unfold reachP
  split
  · exact List.idxOf_le_length
  · exact Nat.le_refl _
theorem startP_unknown {d : Nat} {op : List (List UInt8)} {x : List UInt8} {al : List AttrP} (h : elemL x = none) : startP d op x al = (op, []) := by unfold startP; rw [if_pos h]
theorem startP_no {d : Nat} {op : List (List UInt8)} {x : List UInt8} {al : List AttrP} (h : elemL x ≠ none) (h2 : (findP (clsX x) op (reachP op x)).2 = 0 ∨ d < (findP (clsX x) op (reachP op x)).1 + (impP (findP (clsX x) op (reachP op x)).2).length + 1) : startP d op x al = (op, []) := by unfold startP; rw [if_neg h, if_pos h2]
theorem startP_yes {d : Nat} {op : List (List UInt8)} {x : List UInt8} {al : List AttrP} (h : elemL x ≠ none) (h2 : ¬ ((findP (clsX x) op (reachP op x)).2 = 0 ∨ d < (findP (clsX x) op (reachP op x)).1 + (impP (findP (clsX x) op (reachP op x)).2).length + 1)) :
    startP d op x al = (op.take (findP (clsX x) op (reachP op x)).1 ++ impP (findP (clsX x) op (reachP op x)).2 ++ (if modX x = 9 then [] else [x]), closeE (findP (clsX x) op (reachP op x)).1 op ++ openE (impP (findP (clsX x) op (reachP op x)).2) ++ [.start x al]) := by unfold startP; rw [if_neg h, if_neg h2]

set_option maxHeartbeats 16000000 in
set_option maxRecDepth 100000 in
theorem startB_any (w0 : World) (ob b d : Nat) (op : List (List UInt8)) (ov outv : Value) (J : List Ev) (xs : List Value) (x : ByteArray) (av : Value) (al : List AttrP) (w : World) (h : BalS w0 w ob b d op ov outv J xs) (ha : AttrsR w0 av al) (hal : al.length ≤ 4000000) (hl : J.length ≤ 5000000) (hop : op.length ≤ 800000) :
    Calls Tryd.prog 54 #[.pointer (some ⟨b, 0, none⟩), .string x, av] w (BalOut w0 w ob b d ov outv J (startP d op x.toList al)) := by
  obtain ⟨op', oc, rfl⟩ := row_shape h.at_.op
  obtain ⟨ap, ac, rfl⟩ := ha.len
  have hfd := find_any x w h.kinds
  have HF := hid hfd
  clear hfd
  by_cases hk : elemL x.toList = none
  · rw [startP_unknown hk]
    rw [hk] at HF
    have H0 := hid h
    clear h
    go_enter Tryd.func54, Tryd.ntmps54
    go_wp2_with fail
    refine HF.out.mono ?_
    rintro e W1 ⟨rfl, hb1⟩
    have hbz := hb1.trans ((Below.refl W1.heap.size W1).alloc (Nat.le_refl _) (.cells zeroE 140) |>.mono hb1.size)
    have HZ := hid (And.intro (H0.out.below hbz) hbz)
    unfold foundV zeroE at *
    dsimp only
    clear hb1 HF hbz
    go_wp2_with fail
    (try simp only [Exit.inBlock, Exit.then]); refine bodyPost_ret (results_none rfl _ _ _) rfl ?_
    exact ⟨rfl, _, _, xs, by rw [List.append_nil]; exact HZ.out.1, BalF.of_below HZ.out.2⟩
  · rw [elem_some hk] at HF
    obtain ⟨R, hR⟩ : ∃ R, startP d op x.toList al = R := ⟨_, rfl⟩
    rw [hR]
    have HR := hid (And.intro hk hR)
    have H0 := hid h
    have HA := hid ha
    obtain ⟨C, hC⟩ : ∃ C, clsX x.toList = C := ⟨_, rfl⟩
    obtain ⟨M, hM⟩ : ∃ C, modX x.toList = C := ⟨_, rfl⟩
    have hCl : C < 10 := by rw [← hC]; exact clsX_lt _
    have hMl : M < 10 := by rw [← hM]; exact modX_lt _
    have HCM := hid (And.intro hC hM)
    rw [hC, hM] at HF
    clear h ha hk hR hC hM
    go_enter Tryd.func54, Tryd.ntmps54
    go_wp2_with fail
    refine HF.out.mono ?_
    rintro e W1 ⟨rfl, hb1⟩
    unfold foundV elemC
    dsimp only
    go_upto_region 1 with fail
    obtain ⟨W2, hW2⟩ : ∃ W2, W1.alloc (.cells #[.string (bs x.toList), .int .i64 (C : Nat), .int .i64 (M : Nat)] 140) = W2 := ⟨_, rfl⟩
    have hb2 : Below W1.heap.size W1 W2 := by rw [← hW2]; exact (Below.refl _ _).alloc (Nat.le_refl _) _
    have n2 : W2.heap[W1.heap.size]? = some (.cells #[.string (bs x.toList), .int .i64 (C : Nat), .int .i64 (M : Nat)] 140 (0, 0)) := by rw [← hW2]; exact heap_alloc_new _ _
    simp only [hW2]
    clear hW2
    have hb12 : Below w.heap.size w W2 := hb1.trans (hb2.mono hb1.size)
    have h2 := H0.out.below hb12
    obtain ⟨fr1, fr2, fr3⟩ := (H0.out.below hb1).fresh (Nat.le_refl W1.heap.size)
    obtain ⟨EB, hEB⟩ : ∃ n, W1.heap.size = n := ⟨_, rfl⟩
    rw [hEB] at n2 fr1 fr2 fr3
    simp only [hEB]
    have hrc := fun W (hb : Below W2.heap.size W2 W) => reach_any w0 ob b d op _ outv J xs x.toList W (h2.below hb) (by omega)
    have hfc := fun W (hb : Below W2.heap.size W2 W) => findB_any w0 ob b d op _ outv J xs C (reachP op x.toList) W (h2.below hb) (reachP_le op _) hCl (by omega)
    obtain ⟨F, hF⟩ : ∃ F, findP C op (reachP op x.toList) = F := ⟨_, rfl⟩
    obtain ⟨F1, F2⟩ := F
    rw [HCM.out.1, HCM.out.2] at hrc
    rw [hF] at hfc
    have hF1 : F1 ≤ op.length := by have := findP_le C op (reachP op x.toList); rw [hF] at this; exact Nat.le_trans this (reachP_le _ _)
    have hF2 : F2 < 10 := by have := findP_lt C op (reachP op x.toList); rw [hF] at this; exact this
    obtain ⟨RE, hRE⟩ : ∃ n, reachP op x.toList = n := ⟨_, rfl⟩
    rw [hRE] at hrc hfc
    have HRC := hid hrc
    have HFC := hid hfc
    have H2 := hid (And.intro h2 (And.intro hb12 n2))
    have HFF := hid (And.intro hF hRE)
    obtain ⟨BX, hBX⟩ : ∃ n, bs x.toList = n := ⟨_, rfl⟩
    rw [hBX] at n2 HRC
    have HBX := hid hBX
    simp only [hBX]
    clear hrc hfc h2 hb12 hb1 hb2 HF hF hRE hEB hBX
    go_upto_region 2 with fail
    go_cut [8, 9] from 12 (fun kv pv wc => kv = .int .i64 (F1 : Nat) ∧ pv = .int .i64 (F2 : Nat) ∧ Hid (Below W2.heap.size W2 wc))
    case first =>
      have e0 := cell_at n2 (j := 0) rfl
      have e1 := cell_at n2 (j := 1) rfl
      have e2 := cell_at n2 (j := 2) rfl
      have hne := block_lt n2
      clear n2
      go_region_with (first
        | (go_at_call 91; refine (HRC.out _ (by first | exact Below.refl _ _ | exact below_drewN (Below.refl _ _) 1)).mono ?_; rintro e W8 ⟨rfl, b8⟩; have hb8 : Below W2.heap.size W2 W8 := ⟨b8.os, b8.tape, b8.output, b8.size, b8.block⟩; replace e1 := cell_low e1 hb8 hne)
        | (go_at_call 90; refine (HFC.out _ (by exact hb8)).mono ?_; rintro e W9 ⟨rfl, rfl⟩))
      all_goals
        have HB8 := hid hb8
        clear hb8 b8
        go_wp2_with fail
        go_meet
        exact ⟨rfl, rfl, HB8⟩
    case rest =>
      obtain ⟨rfl, rfl, HQ⟩ := hcut
      clear n2 HRC HFC
      have him := implied_any F2 hF2 wc
      have himl := imp_len F2
      have himo := fun x (hx : x ∈ impP F2) => imp_ok hx
      have HI := hid him
      have HO := hid himo
      have hs3 := H2.out.1.below HQ.out
      have n3 := (HQ.out.block _ (block_lt H2.out.2.2)).trans H2.out.2.2
      rw [HBX.out] at n3
      have H3 := hid (And.intro hs3 (And.intro (H2.out.2.1.trans (HQ.out.mono H2.out.2.1.size)) n3))
      clear him himo hs3 n3 H2 HQ
      go_wp2_with fail
      refine HI.out.mono ?_
      rintro e W4 ⟨iv, rfl, hrow, hb4⟩
      have hs4 := H3.out.1.below hb4
      have n4 := (hb4.block _ (block_lt H3.out.2.2)).trans H3.out.2.2
      have hw4 := H3.out.2.1.trans (hb4.mono H3.out.2.1.size)
      obtain ⟨ip, ic, rfl⟩ := row_shape hrow
      have c0 := cell_at hs4.at_.bx (j := 0) rfl
      have H4 := hid (And.intro hs4 (And.intro hw4 (And.intro n4 hrow)))
      have hw1 : IntKind.i64.wrap ((F1 : Int) + ((impP F2).length : Int)) = (F1 : Int) + ((impP F2).length : Int) := by rw [IntKind.wrap_i64]; omega
      have hw2 : IntKind.i64.wrap ((F1 : Int) + ((impP F2).length : Int) + 1) = (F1 : Int) + ((impP F2).length : Int) + 1 := by rw [IntKind.wrap_i64]; omega
      clear hs4 n4 hw4 hrow hb4 HI H3
      have hR1 := HR.out.1
      by_cases hp0 : F2 = 0
      · have hfin : startP d op x.toList al = (op, []) := startP_no hR1 (.inl (by rw [HCM.out.1, HFF.out.2, ← HFF.out.2, HFF.out.1]; exact hp0))
        rw [HR.out.2] at hfin
        subst hfin
        subst hp0
        clear c0 hw1 hw2 hR1
        go_wp2_with fail
        (try simp only [Exit.inBlock, Exit.then]); refine bodyPost_ret (results_none rfl _ _ _) rfl ?_
        exact ⟨rfl, _, _, xs, by rw [List.append_nil]; exact H4.out.1, BalF.of_below H4.out.2.1⟩
      · have q : ((F2 : Int) == 0) = false := by rw [Bool.eq_false_iff]; intro h; rw [beq_iff_eq] at h; omega
        by_cases hdp : d < F1 + (impP F2).length + 1
        · have hfin : startP d op x.toList al = (op, []) := startP_no hR1 (.inr (by rw [HCM.out.1, HFF.out.1]; exact hdp))
          rw [HR.out.2] at hfin
          subst hfin
          have hdd : decide ((d : Int) < (F1 : Int) + ((impP F2).length : Int) + 1) = true := decide_eq_true (by omega)
          have hdd2 : (d : Int) < (F1 : Int) + ((impP F2).length : Int) + 1 := by omega
          clear hR1
          go_wp2_with fail
          (try simp only [Exit.inBlock, Exit.then]); refine bodyPost_ret (results_none rfl _ _ _) rfl ?_
          exact ⟨rfl, _, _, xs, by rw [List.append_nil]; exact H4.out.1, BalF.of_below H4.out.2.1⟩
        · have hfin := startP_yes (d := d) (op := op) (al := al) hR1 (by rw [HCM.out.1, HFF.out.1]; exact fun h => h.elim hp0 hdp)
          obtain ⟨SF, hSF⟩ : ∃ l, (if M = 9 then [] else [x.toList]) = l := ⟨_, rfl⟩
          rw [HR.out.2, HCM.out.1, HCM.out.2, HFF.out.1, hSF] at hfin
          subst hfin
          have HSF := hid hSF
          clear hSF
          have hdd : decide ((d : Int) < (F1 : Int) + ((impP F2).length : Int) + 1) = false := decide_eq_false (by omega)
          have hdd2 : ¬ (d : Int) < (F1 : Int) + ((impP F2).length : Int) + 1 := by omega
          have hct := closeTo_any w0 ob b d op _ outv J xs F1 W4 H4.out.1 hF1 (by omega) (by omega)
          have HC := hid hct
          clear hR1 hct HR
          go_wp2_with fail
          refine HC.out.mono ?_
          rintro e W5 ⟨rfl, ov5, outv5, xs5, hs5, hf5⟩
          have hr5 := hf5.row H4.out.1.at_ H4.out.2.2.2 (by decide) (by decide) (by decide)
          have hlo5 : (op.take F1).length ≤ 800000 := by rw [List.length_take]; omega
          have hlj5 : (J ++ closeE F1 op).length ≤ 6000000 := by rw [List.length_append]; unfold closeE; rw [List.length_map, List.length_reverse, List.length_drop]; omega
          have hoi := openImp_any w0 ob b d (op.take F1) ov5 outv5 _ xs5 _ (impP F2) _ W5 hs5 hr5 (fun x hx => ⟨(HO.out x hx).1, (HO.out x hx).2.1⟩) (by omega) (by omega) (by omega)
          have HOI := hid hoi
          have H5 := hid (And.intro hf5 (And.intro hlo5 hlj5))
          clear hs5 hr5 hoi hf5 HC c0 hw1 hw2 hlo5 hlj5
          go_wp2_with fail
          refine HOI.out.mono ?_
          rintro e W6 ⟨rfl, ov6, outv6, xs6, hs6, hf6⟩
          have hff := H5.out.1.trans hf6
          have n6 := hff.keep H4.out.2.2.1 fr1 fr2 fr3
          have e0 := cell_at n6 (j := 0) rfl
          have e1 := cell_at n6 (j := 1) rfl
          have e2 := cell_at n6 (j := 2) rfl
          have hne := block_lt n6
          have ha6 := HA.out.below hs6.be
          have hlj6 : (J ++ closeE F1 op ++ openE (impP F2)).length ≤ 8000000 := by rw [List.length_append]; unfold openE; rw [List.length_map]; have := H5.out.2.2; omega
          have hlo6 : (op.take F1 ++ impP F2).length ≤ 1000000 := by rw [List.length_append]; have := H5.out.2.1; omega
          have hoe := fun v8 W8 (hb : Below W6.heap.size W6 W8) (hr : W8.ownsRow W6.heap.size 101 2 v8 al.length (attrsV al)) =>
            openEl_any w0.heap.size ob b d _ ov6 outv6 _ xs6 x.toList v8 al W8 (hs6.at_.below hb) (Nat.le_trans hs6.h2 hb.size) (Nat.le_trans hs6.base hb.size) (modX_lt _) (row_low hr hs6.h2) (fun g hg => notIn_new (hr.lt g hg).1 _ _ hs6.at_.out.evs) hlj6 hlo6
          rw [HCM.out.1, HCM.out.2, HBX.out, HSF.out] at hoe
          have HOE := hid hoe
          have H6 := hid (And.intro hs6 ((BalF.of_below H4.out.2.1).trans hff))
          have HA6 := hid ha6
          clear hs6 hf6 hff n6 ha6 hoe HOI H5
          go_wp2_with fail
          go_region_law (first
            | (go_simp; go_at_call 94; refine (HOE.out _ _ (by exact HB8.out) (by exact HR8.out)).mono ?_; rintro e W9 ⟨rfl, ov9, outv9, ha9, hf9⟩)
            | (refine step_append_attrs rfl (.const (.slice none 0 0)) (.tmp 52) rfl W6.heap.size (.slice none 0 0) (.slice ap al.length ac) [] al (by first | rfl | simp [Act.eval]) (by first | rfl | simp [Act.eval]) (World.ownsRow_nil _ _ _ _) (by exact HA6.out) (by exact Nat.le_refl _) (by simp only [List.length_nil]; omega) ?_; intro v8 W8 hr8 hg8; have hb8 : Below W6.heap.size W6 W8 := ⟨hg8.os, hg8.tape, hg8.output, hg8.size, fun k hk => hg8.block k hk (fun e => by cases e)⟩; have HB8 := hid hb8; have HR8 := hid hr8; obtain ⟨p8, c8, e8⟩ := row_shape hr8; subst e8; replace e0 := cell_kept e0 hb8; replace e1 := cell_kept e1 hb8; replace e2 := cell_kept e2 hb8; clear hr8 hg8 hb8))
          all_goals
            have hb8 : Below W6.heap.size W6 _ := HB8.out
            have hs9 := (H6.out.1.below hb8).step ha9 hf9
            rw [List.append_assoc J, List.append_assoc J] at hs9
            have HZ := hid (And.intro hs9 (H6.out.2.trans ((BalF.of_below hb8).trans hf9)))
            clear hs9 hb8 ha9 hf9 HOE H6 HB8 HR8
            go_end0
            exact ⟨rfl, _, _, _, HZ.out.1, HZ.out.2⟩
end Go.Proofs.YtkcgmimldjeaiaaDoor

/-
  The reference's impliedCount, closes, landing: their walks.
-/
namespace Go.Proofs.YtkcgmimldjeaiaaDoor
open Go.RowKit Go.Lib Own

def sayOk (m c : Nat) : Bool := decide (nestP m c < 3) || ((elemL (sayW (nestP m c))).isSome && (decide (1 ≤ modX (sayW (nestP m c))) && (decide (modX (sayW (nestP m c)) ≤ 8) && ((impP (nestP m c) == sayW (nestP m c) :: impP (nestP (modX (sayW (nestP m c))) c)) && (decide (nestP (modX (sayW (nestP m c))) c ≠ 1) && (decide (nestP (modX (sayW (nestP m c))) c ≠ 0) && decide (sayW (nestP m c) ≠ aN)))))))
theorem sayOk_all : ∀ m < 9, ∀ c < 8, sayOk m c = true := by decide +kernel
theorem say_next (m : Nat) (hm : m < 9) (c : Nat) (hc : c < 8) (h : 3 ≤ nestP m c) : elemL (sayW (nestP m c)) ≠ none ∧ 1 ≤ modX (sayW (nestP m c)) ∧ modX (sayW (nestP m c)) ≤ 8 ∧ impP (nestP m c) = sayW (nestP m c) :: impP (nestP (modX (sayW (nestP m c))) c) ∧ nestP (modX (sayW (nestP m c))) c ≠ 1 ∧ nestP (modX (sayW (nestP m c))) c ≠ 0 ∧ sayW (nestP m c) ≠ aN := by
  have h1 := sayOk_all m hm c hc
  unfold sayOk at h1
  rw [decide_eq_false (by omega), Bool.false_or] at h1
  simp only [Bool.and_eq_true, decide_eq_true_eq, beq_iff_eq] at h1
  obtain ⟨a, b, c', d, e, f, g⟩ := h1
  exact ⟨fun q => (by rw [q] at a; cases a), b, c', d, e, f, g⟩
theorem say_plain : ∀ p < 10, ((sayW p == [116, 97, 107, 101]) = decide (p = 2)) ∧ ((sayW p == [117, 112]) = decide (p = 1)) ∧ ((sayW p == [115, 116, 111, 112]) = decide (p = 0)) := by decide +kernel
theorem imp_small {p : Nat} (h : p < 3) : impP p = [] := by
  rcases (show p = 0 ∨ p = 1 ∨ p = 2 by omega) with rfl | rfl | rfl <;> rfl
set_option maxHeartbeats 4000000 in
set_option maxRecDepth 100000 in
theorem impCount_any (m c : Nat) (w : World) (hm : 1 ≤ m ∧ m ≤ 8) (hc : 1 ≤ c ∧ c ≤ 7) :
    Calls Tryd.prog 85 #[.string (bs (modW m)), .string (bs (clsW c))] w fun e w' => e = .returned (.int .i64 ((impP (nestP m c)).length : Nat)) ∧ w' = w := by
  obtain ⟨T, hT⟩ : ∃ T, (impP (nestP m c)).length = T := ⟨_, rfl⟩
  rw [hT]
  have hTl : T ≤ 3 := by rw [← hT]; exact imp_len _
  have hn0 := fun W => refNest_any m c W hm hc
  have HN0 := hid hn0
  have H0 : Hid (0 + (impP (nestP m c)).length = T) := by rw [Nat.zero_add]; exact hT
  obtain ⟨CW, hCW⟩ : ∃ n, bs (clsW c) = n := ⟨_, rfl⟩
  have HCW := hid hCW
  rw [hCW] at HN0 ⊢
  clear hn0 hT hCW
  go_enter Tryd.func85, Tryd.ntmps85
  go_wp2_with fail
  refine (HN0.out _).mono ?_
  rintro e W1 ⟨rfl, rfl⟩
  go_wp2_with fail
  go_loopw [5, 6] (fun nv sv wr => ∃ k m' : Nat, nv = .int .i64 k ∧ sv = .string (bs (sayW (nestP m' c))) ∧ 1 ≤ m' ∧ m' ≤ 8 ∧ wr = W1 ∧ Hid (k + (impP (nestP m' c)).length = T)) (fun nv _ _ => 4 - (RowKit.intOf nv).toNat)
  case atStart => exact ⟨0, m, rfl, rfl, hm.1, hm.2, rfl, H0⟩
  case round =>
    clear H0
    obtain ⟨k, m', rfl, rfl, hm1, hm2, rfl, HK⟩ := hrel
    have hpl := nest_lt m' c
    obtain ⟨P, hP⟩ : ∃ P, nestP m' c = P := ⟨_, rfl⟩
    have hkk := HK.out
    rw [hP] at hpl hkk
    obtain ⟨S, hS⟩ : ∃ n, bs (sayW (nestP m' c)) = n := ⟨_, rfl⟩
    rw [hS]
    have hS2 := hS
    rw [hP] at hS2
    by_cases h3 : P < 3
    · rw [imp_small h3] at hkk
      obtain rfl : k = T := by simpa using hkk
      have d1 : (k : Int) < 4 := by omega
      clear hP HK hkk hS
      rcases (show P = 0 ∨ P = 1 ∨ P = 2 by omega) with rfl | rfl | rfl
      all_goals (
        unfold bs sayW at hS2
        subst hS2
        go_wp2_with fail
        go_ret
        exact ⟨rfl, rfl⟩)
    · obtain ⟨s1, s2, s3, s4, _, _, _⟩ := say_next m' (by omega) c (by omega) (by rw [hP]; omega)
      have hlen : (impP P).length = (impP (nestP (modX (sayW (nestP m' c))) c)).length + 1 := by rw [← hP, s4]; rfl
      have hkn : (k + 1) + (impP (nestP (modX (sayW (nestP m' c))) c)).length = T := by omega
      have hk4 : k < 4 := by omega
      have HKN := hid hkn
      have hmo := fun W => modelOf_any (sayW (nestP m' c)) W s1
      have hne := fun W => refNest_any (modX (sayW (nestP m' c))) c W ⟨s2, s3⟩ hc
      rw [hS] at hmo
      rw [HCW.out] at hne
      have HM := hid hmo
      have HN := hid hne
      have HS23 := hid (And.intro s2 s3)
      obtain ⟨M2, hM2⟩ : ∃ M2, modX (sayW (nestP m' c)) = M2 := ⟨_, rfl⟩
      rw [hM2] at HM HN HKN HS23
      have d1 : (k : Int) < 4 := by omega
      clear hP HK hkk hS s1 s2 s3 s4 hlen hkn hmo hne hM2
      rcases (show P = 3 ∨ P = 4 ∨ P = 5 ∨ P = 6 ∨ P = 7 ∨ P = 8 ∨ P = 9 by omega) with rfl | rfl | rfl | rfl | rfl | rfl | rfl
      all_goals (
        simp only [sayW, impP, List.headD_cons] at hS2
        unfold bs at hS2
        subst hS2
        go_wp2_with fail
        refine (HM.out _).mono ?_
        rintro e W2 ⟨rfl, rfl⟩
        go_wp2_with fail
        refine (HN.out _).mono ?_
        rintro e W3 ⟨rfl, rfl⟩
        go_wp2_with fail
        go_roundw)
      all_goals first
        | (exact ⟨k + 1, M2, rfl, rfl, HS23.out.1, HS23.out.2, by first | rfl | trivial, HKN⟩)
        | (simp [RowKit.intOf]; omega)
end Go.Proofs.YtkcgmimldjeaiaaDoor

/-
  The reference's closes: its walk.
-/
namespace Go.Proofs.YtkcgmimldjeaiaaDoor
open Go.RowKit Go.Lib Own

def tableN : List UInt8 := [116, 97, 98, 108, 101]
def ulN : List UInt8 := [117, 108]
def olN : List UInt8 := [111, 108]
/-- does the open element x hide those around it from the end tag of y, as the reference says it? -/
def wallR (y x : List UInt8) : Bool :=
  if tableX y = true then (if y == tableN then false else x == tableN) else
  if y == liN then (x == ulN || (x == olN || tableX x)) else tableX x
theorem tab_word (x : List UInt8) : (modX x == 5) = (x == tableN) := by
  refine elem_all (fun x => (modX x == 5) = (x == tableN)) (by decide +kernel) (fun x h1 _ => ?_) x
  have h4 : modX x = 0 := by unfold modX; rw [h1]; rfl
  have h5 : (x == tableN) = false := by
    rw [Bool.eq_false_iff]
    intro e
    rw [beq_iff_eq] at e
    subst e
    exact absurd h1 (by decide +kernel)
  rw [h4, h5]; rfl
theorem li_word (x : List UInt8) : decide (clsX x = 4) = (x == liN) := by
  refine elem_all (fun x => decide (clsX x = 4) = (x == liN)) (by decide +kernel) (fun x h1 _ => ?_) x
  have h4 : clsX x = 0 := by unfold clsX; rw [h1]; rfl
  have h5 : (x == liN) = false := by
    rw [Bool.eq_false_iff]
    intro e
    rw [beq_iff_eq] at e
    subst e
    exact absurd h1 (by decide +kernel)
  rw [h4, h5]; rfl
theorem list_word (x : List UInt8) : decide (modX x = 4) = (x == ulN || x == olN) := by
  refine elem_all (fun x => decide (modX x = 4) = (x == ulN || x == olN)) (by decide +kernel) (fun x h1 _ => ?_) x
  have h4 : modX x = 0 := by unfold modX; rw [h1]; rfl
  have h5 : (x == ulN) = false := by
    rw [Bool.eq_false_iff]
    intro e
    rw [beq_iff_eq] at e
    subst e
    exact absurd h1 (by decide +kernel)
  have h6 : (x == olN) = false := by
    rw [Bool.eq_false_iff]
    intro e
    rw [beq_iff_eq] at e
    subst e
    exact absurd h1 (by decide +kernel)
  rw [h4, h5, h6]; rfl
theorem wall_same (x y : List UInt8) (h : x ≠ y) : wallR y x = wallX x y := by
  unfold wallR wallX
  by_cases h1 : tableX y = true
  · rw [if_pos h1, if_pos h1, tab_word]
    by_cases h2 : (y == tableN) = true
    · rw [if_pos h2]
      symm
      rw [Bool.eq_false_iff]
      intro e
      rw [beq_iff_eq] at e h2
      exact h (e.trans h2.symm)
    · rw [if_neg h2]
  · rw [if_neg h1, if_neg h1]
    have h4 := li_word y
    have h5 := list_word x
    by_cases h2 : (y == liN) = true
    · rw [if_pos h2]
      rw [h2, decide_eq_true_iff] at h4
      by_cases h6 : modX x = 4
      · rw [decide_eq_true h6] at h5
        rw [if_pos ⟨h4, h6⟩, ← Bool.or_assoc, ← h5]; rfl
      · rw [decide_eq_false h6] at h5
        rw [if_neg (fun q => h6 q.2), ← Bool.or_assoc, ← h5]; rfl
    · rw [if_neg h2]
      rw [Bool.not_eq_true] at h2
      rw [h2, decide_eq_false_iff_not] at h4
      rw [if_neg (fun q => h4 q.1)]
def closesI (op : List (List UInt8)) (y : List UInt8) : Nat → Int
  | 0 => -1
  | k + 1 => if op.getD k [] = y then (k : Int) else if wallR y (op.getD k []) = true then -1 else closesI op y k
theorem closesI_same (op : List (List UInt8)) (y : List UInt8) : ∀ k, closesI op y k = (match closesP op y k with | none => -1 | some i => (i : Int))
  | 0 => rfl
  | k + 1 => by
    unfold closesI closesP
    by_cases h : op.getD k [] = y
    · rw [if_pos h, if_pos h]
    · rw [if_neg h, if_neg h, wall_same _ _ h]
      by_cases h2 : wallX (op.getD k []) y = true
      · rw [if_pos h2, if_pos h2]
      · rw [if_neg h2, if_neg h2]; exact closesI_same op y k
theorem closesI_none (op : List (List UInt8)) (y : List UInt8) (ho : ∀ x ∈ op, elemL x ≠ none) (hy : elemL y = none) : ∀ k, k ≤ op.length → closesI op y k = -1
  | 0, _ => rfl
  | k + 1, hk => by
    obtain ⟨x, hx⟩ : ∃ x, op[k]? = some x := ⟨_, List.getElem?_eq_getElem (by omega)⟩
    have hg : op.getD k [] = x := by rw [List.getD_eq_getElem?_getD, hx]; rfl
    have hne : x ≠ y := fun e => ho x (List.mem_of_getElem? hx) (e ▸ hy)
    unfold closesI
    rw [hg, if_neg hne]
    split
    · rfl
    · exact closesI_none op y ho hy k (by omega)
theorem word_ne {X : ByteArray} {l : List UInt8} {a : List UInt8} (h : X.toList = l) (q : ¬ (l == a) = true) : (X.toList == a) = false := by rw [h]; simpa using q
theorem word_eq {X : ByteArray} {l : List UInt8} {a : List UInt8} (h : X.toList = l) (q : (l == a) = true) : (X.toList == a) = true := by rw [h]; exact q
theorem tab_tab : tableX tableN = true := by decide +kernel
theorem tab_li : tableX liN = false := by decide +kernel
set_option maxHeartbeats 8000000 in
set_option maxRecDepth 100000 in
theorem closes_any (pv : Value) (op : List (List UInt8)) (Y : ByteArray) (w : World) (h : Words w pv op) (hl : op.length ≤ 1000000) :
    Calls Tryd.prog 51 #[pv, .string Y] w fun e w' => e = .returned (.int .i64 (closesI op Y.toList op.length)) ∧ w' = w := by
  obtain ⟨p, c, rfl, hc, hm, hcell, _⟩ := h
  obtain ⟨T, hT⟩ : ∃ T, closesI op Y.toList op.length = T := ⟨_, rfl⟩
  rw [hT]
  have htb := fun W => refTable_any Y W
  have HT := hid htb
  have H0 := hid hT
  have HC := hid hcell
  clear htb hT hcell
  go_enter Tryd.func51, Tryd.ntmps51
  go_wp2_with fail
  go_loopw [5] (fun iv wr => ∃ k : Nat, k ≤ op.length ∧ iv = .int .i64 ((k : Int) - 1) ∧ wr = w ∧ Hid (closesI op Y.toList k = T)) (fun iv _ => (RowKit.intOf iv + 1).toNat)
  case atStart => exact ⟨op.length, Nat.le_refl _, by first | rfl | (rw [IntKind.wrap_i64]; first | rfl | (congr 1; omega)), rfl, H0⟩
  case round =>
    clear H0
    obtain ⟨k, hk, rfl, rfl, HK⟩ := hrel
    cases k with
    | zero =>
      have hf : T = -1 := by rw [← HK.out]; rfl
      subst hf
      clear HK HC HT
      go_wp2_with fail
      go_ret
      exact ⟨rfl, rfl⟩
    | succ k =>
      have i1 : (((k + 1 : Nat) : Int) - 1) = (k : Int) := by omega
      rw [i1]
      obtain ⟨x, hx⟩ : ∃ x, op[k]? = some x := ⟨_, List.getElem?_eq_getElem (by omega)⟩
      obtain ⟨b, o, rfl, hc1⟩ := HC.out k x hx
      have hg : op.getD k [] = x := by rw [List.getD_eq_getElem?_getD, hx]; rfl
      have hkk := HK.out
      unfold closesI at hkk
      rw [hg] at hkk
      have hko : k < op.length := by omega
      have hkc : k < c := by omega
      have w1 : IntKind.i64.wrap ((k : Int) - 1) = (k : Int) - 1 := by rw [IntKind.wrap_i64]; omega
      have hd : decide ((0 : Int) ≤ (k : Int)) = true := by rw [decide_eq_true_eq]; omega
      obtain ⟨X, hX⟩ : ∃ n, bs x = n := ⟨_, rfl⟩
      have hXl : X.toList = x := by rw [← hX]; exact bs_toList x
      rw [hX] at hc1
      have htx := fun W => refTable_any X W
      rw [hXl] at htx
      have HX := hid htx
      clear HK hx hg hX htx
      by_cases e : x = Y.toList
      · rw [if_pos e] at hkk
        have q : (X.toList == Y.toList) = true := by rw [hXl, e]; exact beq_self_eq_true _
        have HK := hid hkk
        clear hXl e HX HT HC hkk
        go_wp2_with fail
        go_ret
        exact ⟨by rw [← HK.out]; rfl, rfl⟩
      · rw [if_neg e] at hkk
        have q : (X.toList == Y.toList) = false := by rw [hXl, Bool.eq_false_iff]; intro q; rw [beq_iff_eq] at q; exact e q
        have xT : (X.toList == [116, 97, 98, 108, 101]) = (x == tableN) := by rw [hXl]; rfl
        have xU : (X.toList == [117, 108]) = (x == ulN) := by rw [hXl]; rfl
        have xO : (X.toList == [111, 108]) = (x == olN) := by rw [hXl]; rfl
        have yT : (Y.toList == [116, 97, 98, 108, 101]) = (Y.toList == tableN) := rfl
        have yL : (Y.toList == [108, 105]) = (Y.toList == liN) := rfl
        have yTP : (Y.toList == tableN) = true → tableX Y.toList = true := fun h => by rw [beq_iff_eq] at h; rw [h]; exact tab_tab
        have yLP : (Y.toList == liN) = true → tableX Y.toList = false := fun h => by rw [beq_iff_eq] at h; rw [h]; exact tab_li
        unfold wallR at hkk
        generalize (x == tableN) = bT at *
        generalize (x == ulN) = bU at *
        generalize (x == olN) = bO at *
        generalize (Y.toList == tableN) = yt at *
        generalize (Y.toList == liN) = yl at *
        generalize hyp : tableX Y.toList = yp at *
        generalize tableX x = xp at *
        have HK := hid hkk
        clear hkk hXl e HC hyp
        cases yp
        · obtain rfl : yt = false := by cases yt with | false => rfl | true => exact absurd (yTP rfl) (by decide)
          clear yTP yLP
          cases yl
          · cases xp
            · go_wp2_with fail
              refine (HT.out _).mono ?_
              rintro e W2 ⟨rfl, rfl⟩
              go_wp2_with fail
              refine (HX.out _).mono ?_
              rintro e W3 ⟨rfl, rfl⟩
              go_wp2_with fail
              go_roundw
              case rel => exact ⟨k, by omega, rfl, by first | rfl | trivial, HK⟩
              case measure => first | (simp [RowKit.intOf]; done) | (simp [RowKit.intOf]; omega)
            · go_wp2_with fail
              refine (HT.out _).mono ?_
              rintro e W2 ⟨rfl, rfl⟩
              go_wp2_with fail
              refine (HX.out _).mono ?_
              rintro e W3 ⟨rfl, rfl⟩
              go_wp2_with fail
              go_ret
              exact ⟨by rw [← HK.out]; rfl, rfl⟩
          · cases bU
            · cases bO
              · cases xp
                · go_wp2_with fail
                  refine (HT.out _).mono ?_
                  rintro e W2 ⟨rfl, rfl⟩
                  go_wp2_with fail
                  refine (HX.out _).mono ?_
                  rintro e W3 ⟨rfl, rfl⟩
                  go_wp2_with fail
                  go_roundw
                  case rel => exact ⟨k, by omega, rfl, by first | rfl | trivial, HK⟩
                  case measure => first | (simp [RowKit.intOf]; done) | (simp [RowKit.intOf]; omega)
                · go_wp2_with fail
                  refine (HT.out _).mono ?_
                  rintro e W2 ⟨rfl, rfl⟩
                  go_wp2_with fail
                  refine (HX.out _).mono ?_
                  rintro e W3 ⟨rfl, rfl⟩
                  go_wp2_with fail
                  go_ret
                  exact ⟨by rw [← HK.out]; rfl, rfl⟩
              · go_wp2_with fail
                refine (HT.out _).mono ?_
                rintro e W2 ⟨rfl, rfl⟩
                go_wp2_with fail
                go_ret
                exact ⟨by rw [← HK.out]; rfl, rfl⟩
            · go_wp2_with fail
              refine (HT.out _).mono ?_
              rintro e W2 ⟨rfl, rfl⟩
              go_wp2_with fail
              go_ret
              exact ⟨by rw [← HK.out]; rfl, rfl⟩
        · obtain rfl : yl = false := by cases yl with | false => rfl | true => exact absurd (yLP rfl) (by decide)
          clear yTP yLP
          cases yt
          · cases bT
            · go_wp2_with fail
              refine (HT.out _).mono ?_
              rintro e W2 ⟨rfl, rfl⟩
              go_wp2_with fail
              go_roundw
              case rel => exact ⟨k, by omega, rfl, by first | rfl | trivial, HK⟩
              case measure => first | (simp [RowKit.intOf]; done) | (simp [RowKit.intOf]; omega)
            · go_wp2_with fail
              refine (HT.out _).mono ?_
              rintro e W2 ⟨rfl, rfl⟩
              go_wp2_with fail
              go_ret
              exact ⟨by rw [← HK.out]; rfl, rfl⟩
          · go_wp2_with fail
            refine (HT.out _).mono ?_
            rintro e W2 ⟨rfl, rfl⟩
            go_wp2_with fail
            go_roundw
            case rel => exact ⟨k, by omega, rfl, by first | rfl | trivial, HK⟩
            case measure => first | (simp [RowKit.intOf]; done) | (simp [RowKit.intOf]; omega)
end Go.Proofs.YtkcgmimldjeaiaaDoor

/-
  The reference's written, escaped: their walks.
-/
namespace Go.Proofs.YtkcgmimldjeaiaaDoor
open Go.RowKit Go.Lib Own

/-- one sign as it is written, and how many bytes it has -/
def wr1 (q : Bool) : List UInt8 → List UInt8 × Nat
  | [] => ([], 1)
  | c :: r => if c = 38 then (ampE, 1) else if c = 60 then (ltE, 1) else if c = 62 then (gtE, 1) else if c = 34 ∧ q = true then (quotE, 1) else if c = 194 ∧ r.head? = some 160 then (nbspE, 2) else ([c], 1)
theorem wr1_cons (q : Bool) (c : UInt8) (r : List UInt8) : wr1 q (c :: r) = if c = 38 then (ampE, 1) else if c = 60 then (ltE, 1) else if c = 62 then (gtE, 1) else if c = 34 ∧ q = true then (quotE, 1) else if c = 194 ∧ r.head? = some 160 then (nbspE, 2) else ([c], 1) := rfl
theorem esc_wr (q : Bool) (c : UInt8) (r : List UInt8) : escL q (c :: r) = (wr1 q (c :: r)).1 ++ escL q ((c :: r).drop (wr1 q (c :: r)).2) ∧ 1 ≤ (wr1 q (c :: r)).2 ∧ (wr1 q (c :: r)).2 ≤ (c :: r).length ∧ (wr1 q (c :: r)).1.length ≤ 6 := by
  rw [escL, wr1_cons]
  unfold esc1
  by_cases h1 : c = 38
  · subst h1
    rw [if_neg (fun h => absurd h.1 (by decide)), if_pos rfl, if_pos rfl]
    exact ⟨rfl, Nat.le_refl _, by simp, by decide⟩
  by_cases h2 : c = 60
  · subst h2
    rw [if_neg (fun h => absurd h.1 (by decide)), if_neg (by decide), if_pos rfl, if_neg (by decide), if_pos rfl]
    exact ⟨rfl, Nat.le_refl _, by simp, by decide⟩
  by_cases h3 : c = 62
  · subst h3
    rw [if_neg (fun h => absurd h.1 (by decide)), if_neg (by decide), if_neg (by decide), if_pos rfl, if_neg (by decide), if_neg (by decide), if_pos rfl]
    exact ⟨rfl, Nat.le_refl _, by simp, by decide⟩
  rw [if_neg h1, if_neg h1, if_neg h2, if_neg h2, if_neg h3, if_neg h3]
  by_cases h4 : c = 34 ∧ q = true
  · obtain ⟨rfl, rfl⟩ := h4
    rw [if_neg (fun h => absurd h.1 (by decide)), if_pos ⟨rfl, rfl⟩, if_pos ⟨rfl, rfl⟩]
    exact ⟨rfl, Nat.le_refl _, by simp, by decide⟩
  rw [if_neg h4, if_neg (show ¬ (q = true ∧ c = 34) from fun h => h4 ⟨h.2, h.1⟩)]
  by_cases h5 : c = 194 ∧ r.head? = some 160
  · rw [if_pos h5, if_pos h5]
    refine ⟨rfl, by simp, ?_, by decide⟩
    cases r with
    | nil => cases h5.2
    | cons d t => simp
  · rw [if_neg h5, if_neg h5]
    exact ⟨rfl, Nat.le_refl _, by simp, by simp⟩
theorem ret_pair {a b : ByteArray} {n m : Int} (h : a = b) (k : n = m) : Ending.returned (.tuple #[.string a, .int .i64 n]) = .returned (.tuple #[.string b, .int .i64 m]) := by rw [h, k]
theorem byte_ne {c : UInt8} (d : UInt8) (h : c ≠ d) : ((c.toNat : Int) == (d.toNat : Int)) = false := by
  refine beq_eq_false_iff_ne.2 (fun e => h (UInt8.toNat_inj.1 ?_))
  omega
theorem extract_one (s : ByteArray) (i : Nat) (c : UInt8) (h : s.data.toList[i]? = some c) : s.extract i (i + 1) = bs [c] := by
  apply ByteArray.ext
  apply Array.ext'
  rw [ByteArray.data_extract, Array.toList_extract]
  obtain ⟨h1, h2⟩ := List.getElem?_eq_some_iff.1 h
  show (s.data.toList.drop i).take (i + 1 - i) = [c]
  rw [show i + 1 - i = 1 by omega, List.drop_eq_getElem_cons h1, h2]
  rfl

set_option maxHeartbeats 4000000 in
set_option maxRecDepth 100000 in
theorem refWritten_any (s : ByteArray) (i : Nat) (q : Bool) (w : World) (hi : i < s.size) (hs : s.size ≤ 4000000) :
    Calls Tryd.prog 75 #[.string s, .int .i64 i, .bool q] w fun e w' => e = .returned (.tuple #[.string (bs (wr1 q (s.data.toList.drop i)).1), .int .i64 ((wr1 q (s.data.toList.drop i)).2 : Nat)]) ∧ w' = w := by
  obtain ⟨c, hc⟩ : ∃ c, s[i] = c := ⟨_, rfl⟩
  have hl := getElem_list hi hc
  have hd := drop_at hl
  rw [hd, wr1_cons]
  by_cases h1 : c = 38
  · subst h1
    rw [if_pos rfl]
    clear hl hd
    go_enter Tryd.func75, Tryd.ntmps75
    go_wp2
    go_ret2
    exact ⟨rfl, rfl⟩
  by_cases h2 : c = 60
  · subst h2
    rw [if_neg (by decide), if_pos rfl]
    clear hl hd h1
    go_enter Tryd.func75, Tryd.ntmps75
    go_wp2
    go_ret2
    exact ⟨rfl, rfl⟩
  by_cases h3 : c = 62
  · subst h3
    rw [if_neg (by decide), if_neg (by decide), if_pos rfl]
    clear hl hd h1 h2
    go_enter Tryd.func75, Tryd.ntmps75
    go_wp2
    go_ret2
    exact ⟨rfl, rfl⟩
  have q1 : ((c.toNat : Int) == 38) = false := byte_ne 38 h1
  have q2 : ((c.toNat : Int) == 60) = false := byte_ne 60 h2
  have q3 : ((c.toNat : Int) == 62) = false := byte_ne 62 h3
  rw [if_neg h1, if_neg h2, if_neg h3]
  by_cases h4 : c = 34
  · subst h4
    cases q
    · rw [if_neg (fun h => by cases h.2), if_neg (fun h => absurd h.1 (by decide))]
      have hx := extract_one s i 34 hl
      have HX := hid hx
      clear hl hd h1 h2 h3 hx
      go_enter Tryd.func75, Tryd.ntmps75
      go_wp2
      go_ret2
      exact ⟨ret_pair HX.out rfl, rfl⟩
    · rw [if_pos ⟨rfl, rfl⟩]
      clear hl hd h1 h2 h3
      go_enter Tryd.func75, Tryd.ntmps75
      go_wp2
      go_ret2
      exact ⟨rfl, rfl⟩
  have q4 : ((c.toNat : Int) == 34) = false := byte_ne 34 h4
  rw [if_neg (fun h => h4 h.1)]
  have hx := extract_one s i c hl
  have HX := hid hx
  clear hx
  by_cases h5 : c = 194
  · by_cases h6 : i + 1 < s.size
    · obtain ⟨d, hd2⟩ : ∃ d, s[i + 1] = d := ⟨_, rfl⟩
      have hl2 := getElem_list h6 hd2
      have hh : (s.data.toList.drop (i + 1)).head? = some d := by rw [List.head?_drop]; exact hl2
      rw [hh]
      by_cases h7 : d = 160
      · rw [if_pos ⟨h5, by rw [h7]⟩]
        subst h5
        subst h7
        clear hl hd hl2 hh h1 h2 h3 h4
        go_enter Tryd.func75, Tryd.ntmps75
        go_wp2
        go_ret2
        exact ⟨rfl, rfl⟩
      · rw [if_neg (fun h => h7 (Option.some.inj h.2))]
        have q7 : ((d.toNat : Int) == 160) = false := byte_ne 160 h7
        subst h5
        clear hl hd hl2 hh h1 h2 h3 h4 h7
        go_enter Tryd.func75, Tryd.ntmps75
        go_wp2
        go_ret2
        exact ⟨ret_pair HX.out rfl, rfl⟩
    · have hh : (s.data.toList.drop (i + 1)).head? = none := by rw [List.head?_drop]; exact List.getElem?_eq_none (by rw [← size_eq]; omega)
      rw [hh, if_neg (fun h => by cases h.2)]
      subst h5
      clear hl hd hh h1 h2 h3 h4
      go_enter Tryd.func75, Tryd.ntmps75
      go_wp2
      go_ret2
      exact ⟨ret_pair HX.out rfl, rfl⟩
  · have q5 : ((c.toNat : Int) == 194) = false := byte_ne 194 h5
    rw [if_neg (fun h => h5 h.1)]
    clear hl hd h1 h2 h3 h4 h5
    go_enter Tryd.func75, Tryd.ntmps75
    go_wp2
    go_ret2
    exact ⟨ret_pair HX.out rfl, rfl⟩

/-- the text of bytes that the call owns, marked or not -/
theorem own_textF (W : World) (base : Nat) (v : Value) (l : List UInt8) (h : W.ownsRowF base 5 1 v l.length (byteCells l)) :
    (convert 50 9 v).run Tryd.prog W = .ok (.string (bs l)) W := by
  obtain ⟨hl, h2⟩ := h
  rcases h2 with ⟨rfl, h0⟩ | ⟨g, cap, cur, fz, rfl, _, hg, _, hc, hm, hz, ht⟩
  · have : l = [] := List.eq_nil_of_length_eq_zero h0
    subst this
    exact nil_text W
  · refine run_convert_bytes_back W 50 9 5 ⟨g, 0, none⟩ cap l Tryd.underlying50 Tryd.underlying5 Tryd.underlying9 (fun j hj => ?_)
    have hadd : (⟨g, 0, none⟩ : Addr).add j = ⟨g, j, none⟩ := by unfold Addr.add; split <;> simp_all
    rw [hadd]
    have h3 : cur[j]? = (byteCells l)[j]? := by
      rw [← ht, List.getElem?_take, if_pos (by omega), Array.getElem?_toList]
    simp [World.cell?, hg, h3, byteCells, hj]

theorem row_shapeF {W : World} {base : Nat} {e : TypeId} {size n : Nat} {v : Value} {xs : List Value} (h : W.ownsRowF base e size v n xs) : ∃ p c, v = .slice p n c := by
  rcases h.2 with ⟨rfl, rfl⟩ | ⟨g, cap, cur, fz, rfl, _⟩
  · exact ⟨_, _, rfl⟩
  · exact ⟨_, _, rfl⟩
set_option maxHeartbeats 4000000 in
set_option maxRecDepth 100000 in
theorem refEscaped_any (s : ByteArray) (q : Bool) (w : World) (hs : s.size ≤ 4000000) :
    Calls Tryd.prog 43 #[.string s, .bool q] w fun e w' => e = .returned (.string (bs (escL q s.data.toList))) ∧ Below w.heap.size w w' := by
  obtain ⟨R, hR⟩ : ∃ R, escL q s.data.toList = R := ⟨_, rfl⟩
  rw [hR]
  have hRl : R.length ≤ 24000000 := by rw [← hR]; have := esc_len q _ s.data.toList (Nat.le_refl _); rw [← size_eq] at this; omega
  have HR : Hid (True → [] ++ escL q (s.data.toList.drop 0) = R) := fun _ => hR
  have hw := fun i hi W => refWritten_any s i q W hi hs
  have HW := hid hw
  obtain ⟨i0, hi, hz0, hz1, hz2⟩ := info_parts info_u8
  clear hw hR
  go_enter Tryd.func43, Tryd.ntmps43
  go_wp2
  go_loopw [5, 6] (fun bv iv wr => ∃ (k : Nat) (acc : List UInt8), iv = .int .i64 k ∧ k ≤ s.size ∧ Hid (wr.ownsRowF w.heap.size 5 1 bv acc.length (byteCells acc) ∧ Below w.heap.size w wr) ∧ Hid (True → acc ++ escL q (s.data.toList.drop k) = R)) (fun _ iv _ => s.size - (RowKit.intOf iv).toNat)
  case atStart => exact ⟨0, [], rfl, Nat.zero_le _, hid ⟨World.ownsRowF_of (World.ownsRow_nil _ _ _ _), Below.refl _ _⟩, HR⟩
  case round =>
    obtain ⟨k, acc, rfl, hk, HX, HK⟩ := hrel
    obtain ⟨bp, bc, rfl⟩ := row_shapeF HX.out.1
    by_cases hkl : k < s.size
    · obtain ⟨c, hc⟩ : ∃ c, s.data.toList[k]? = some c := ⟨_, List.getElem?_eq_getElem (by rw [← size_eq]; exact hkl)⟩
      have hd := drop_at hc
      have hst := HK.out trivial
      have hcall := HW.out k hkl
      have hsz := size_eq s
      have hdl : (s.data.toList.drop k).length = s.size - k := by rw [List.length_drop, ← hsz]
      rw [hd] at hst hcall hdl
      obtain ⟨e1, e2, e3, e4⟩ := esc_wr q c (s.data.toList.drop (k + 1))
      rw [e1, ← hd] at hst
      rw [← hd] at e2 e3 e4 hcall hdl
      generalize wr1 q (s.data.toList.drop k) = p at hst hcall e2 e3 e4
      obtain ⟨p1, p2⟩ := p
      simp only at hst hcall e2 e3 e4
      rw [List.drop_drop] at hst
      have hal : acc.length ≤ 24000000 := by have := congrArg List.length hst; simp only [List.length_append] at this; omega
      have HS := hid (fun (_ : True) => (by rw [List.append_assoc]; exact hst : (acc ++ p1) ++ escL q (s.data.toList.drop (k + p2)) = R))
      have HC := hid hcall
      have hkp : k + p2 ≤ s.size := by rw [hdl] at e3; omega
      obtain ⟨S, hS⟩ : ∃ S, bs p1 = S := ⟨_, rfl⟩
      have hSz : S.size = p1.length := by rw [← hS, bs_size]
      rw [hS] at HC
      have HSS := hid hS
      clear hst hcall hd hc e1 e3 hdl hS HR HW HK hsz
      go_wp2_with fail
      refine (HC.out _).mono ?_
      rintro e w' ⟨rfl, rfl⟩
      have hown := HX.out.1
      have hbw := HX.out.2
      have hbs := hbw.size
      go_wp2_with (at_builtin; refine Lib.wpList_append_own_stringF _ rfl _ _ 50 9 rfl w.heap.size 5 i0 Tryd.underlying50 Tryd.underlying9 hi hz0 hz1 hz2 _ _ _ rfl hown S rfl (by unfold maxLen; omega) (by omega) hbs ?_)
      intro v' w2 hown2 hgrow _
      have hZ : w2.ownsRowF w.heap.size 5 1 v' (acc ++ p1).length (byteCells (acc ++ p1)) := by
        rw [List.length_append, Lib.byteCells_append]
        have : strCells S = byteCells p1 := by rw [← HSS.out]; exact strCells_byte _
        rw [← this]
        exact hown2
      have hbw2 := hbw.grown hgrow hbs (fun k hk => (hown.lt k hk).1)
      have HZ := hid (And.intro hZ hbw2)
      clear hZ hbw2 hown2 hgrow hown hbw HX
      go_wp2
      go_roundw
      case rel => exact ⟨k + p2, acc ++ p1, by go_num, hkp, HZ, HS⟩
      case measure => simp [RowKit.intOf]; omega
    · obtain rfl : acc = R := by
        have := HK.out trivial
        rw [List.drop_of_length_le (by rw [← size_eq]; omega)] at this
        rwa [show escL q [] = [] by rw [escL], List.append_nil] at this
      have ht := own_textF wr _ _ acc HX.out.1
      clear HK HR HW
      go_wp2
      go_ret
      exact ⟨rfl, HX.out.2⟩
end Go.Proofs.YtkcgmimldjeaiaaDoor

/-
  The stream's Put of a whole list: its walk.
-/
namespace Go.Proofs.YtkcgmimldjeaiaaDoor
open Go.RowKit Go.Lib Own

/-- the stream in its box -/
def StrX (W : World) (base b : Nat) (ev p v : Value) (evs : List Ev) (pend : List UInt8) (xs : List Value) : Prop := StreamX W base b 0 #[ev, p, v] 61 evs pend xs
theorem strT (ev p v : Value) : StreamT 61 #[ev, p, v] 0 := ⟨by kernel_rfl, by decide, by decide, by decide⟩
theorem StrX.parts {W : World} {base b : Nat} {ev p v : Value} {evs : List Ev} {pend : List UInt8} {xs : List Value} (h : StrX W base b ev p v evs pend xs) : InB W base b 1 #[ev, p, v] 61 p v pend ∧ W.ownsRow base 39 4 ev evs.length xs ∧ EvsAt W base xs evs ∧ Apart xs := by
  obtain ⟨ev', p', v', h1, h2, h3⟩ := h.itx
  have e1 : ev' = ev := (Option.some.inj (h1 : some ev = some ev')).symm
  have e2 : p' = p := (Option.some.inj (h2.cp : some p = some p')).symm
  have e3 : v' = v := (Option.some.inj (h2.cv : some v = some v')).symm
  subst e1 e2 e3
  exact ⟨h2, h3⟩
theorem StrX.mk {W : World} {base b : Nat} {ev p v : Value} {evs : List Ev} {pend : List UInt8} {xs : List Value} (h : InB W base b 1 #[ev, p, v] 61 p v pend) (h1 : W.ownsRow base 39 4 ev evs.length xs) (h2 : EvsAt W base xs evs) (h3 : Apart xs) : StrX W base b ev p v evs pend xs := ⟨ev, p, v, rfl, h, h1, h2, h3⟩
theorem StrX.below {W W' : World} {base b : Nat} {ev p v : Value} {evs : List Ev} {pend : List UInt8} {xs : List Value} (h : StrX W base b ev p v evs pend xs) (hb : Below W.heap.size W W') : StrX W' base b ev p v evs pend xs := StreamX.below h hb
theorem rowF_of_block {W W' : World} {base : Nat} {e : TypeId} {size n : Nat} {v : Value} {xs : List Value} (h : W.ownsRowF base e size v n xs) (hk : ∀ g, v.ownBlock = some g → W'.heap[g]? = W.heap[g]?) : W'.ownsRowF base e size v n xs := by
  refine ⟨h.1, ?_⟩
  rcases h.2 with h2 | ⟨g, cap, cur, fz, rfl, hg0, hg, rest⟩
  · exact .inl h2
  · exact .inr ⟨g, cap, cur, fz, rfl, hg0, (hk g rfl).trans hg, rest⟩
theorem rowF_lt {W : World} {base : Nat} {e : TypeId} {size n : Nat} {v : Value} {xs : List Value} (h : W.ownsRowF base e size v n xs) {g : Nat} (hg : v.ownBlock = some g) : base ≤ g ∧ g < W.heap.size ∧ ∃ cur fz, W.heap[g]? = some (.cells cur e fz) := by
  rcases h.2 with ⟨rfl, _⟩ | ⟨g', cap, cur, fz, rfl, hg0, hg1, _⟩
  · cases hg
  · obtain rfl := Option.some.inj hg
    exact ⟨hg0, (Array.getElem?_eq_some_iff.1 hg1).1, cur, fz, hg1⟩
/-- what the stream keeps where its blocks are kept -/
theorem StrX.keep {W W' : World} {base b : Nat} {ev p v : Value} {evs : List Ev} {pend : List UInt8} {xs : List Value} (h : StrX W base b ev p v evs pend xs)
    (hk : ∀ (k : Nat) (cs : Array Value) (T : TypeId) (fz : Nat × Nat), W.heap[k]? = some (Obj.cells cs T fz) → T = 61 ∨ T = 39 ∨ T = 101 ∨ T = 5 → W'.heap[k]? = W.heap[k]?) : StrX W' base b ev p v evs pend xs := by
  obtain ⟨h1, h2, h3, h4⟩ := h.parts
  have rows : ∀ e z n u ys, (e = 39 ∨ e = 101) → W.ownsRow base e z u n ys → W'.ownsRow base e z u n ys := fun e z n u ys he hr =>
    row_of_block hr (fun g hg => by
      rcases hr.2 with ⟨rfl, _⟩ | ⟨g', cap, cur, rfl, _, hg1, _⟩
      · cases hg
      · obtain rfl := Option.some.inj hg
        exact hk _ _ _ _ hg1 (by rcases he with rfl | rfl <;> simp))
  refine StrX.mk ⟨(hk _ _ _ _ h1.at_ (.inl rfl)).trans h1.at_, h1.lo, h1.cp, h1.cv, h1.hp, rowF_of_block h1.own (fun g hg => ?_), h1.ne⟩ (rows _ _ _ _ _ (.inl rfl) h2) (evs_mono (fun a n ys hr => rows _ _ _ _ _ (.inr rfl) hr) _ _ h3) h4
  obtain ⟨_, _, cur, fz, hg1⟩ := rowF_lt h1.own hg
  exact hk _ _ _ _ hg1 (.inr (.inr (.inr rfl)))

set_option maxHeartbeats 1000000 in
theorem putText_x (base b : Nat) (ev p v : Value) (evs : List Ev) (pend : List UInt8) (xs : List Value) (s : ByteArray) (w : World) (h : StrX w base b ev p v evs pend xs) (hlen : pend.length + s.size ≤ 140737488355328) :
    Calls Tryd.prog 52 #[.pointer (some ⟨b, 0, none⟩), .string s] w fun e w' => e = .returned (.tuple #[]) ∧
      ∃ p' v', StrX w' base b ev p' v' evs (pend ++ s.data.toList) xs ∧ Below base w w' ∧ (∀ k, k < w.heap.size → k ≠ b → v.ownBlock ≠ some k → w'.heap[k]? = w.heap[k]?) := by
  obtain ⟨hin, hrow, hevs, hap⟩ := h.parts
  have hT := strT ev p v
  have hw := write_in base b 1 #[ev, p, v] 61 p v pend s w hin hT.lies hT.n0 hlen
  have HW := hid hw
  clear hw
  go_enter Tryd.func52, Tryd.ntmps52
  go_wp2_with (go_at_call 76; refine HW.out.mono ?_; rintro e w1 ⟨rfl, v', hin', hbel, hk⟩)
  go_end0
  exact ⟨rfl, .pointer (some ⟨b, 1, none⟩), v', StrX.mk hin' (row_keep hrow hin.at_ hT.n2 hin.own (by decide) hk) (evs_keep hin.at_ hT.n1 hin.own hk xs evs hevs) hap, hbel, hk⟩
/-- what stays while the stream takes events: all but its box, its list, its builder's bytes -/
def StrF (b : Nat) (ev v : Value) (W W' : World) : Prop := ∀ k, k < W.heap.size → k ≠ b → ev.ownBlock ≠ some k → v.ownBlock ≠ some k → W'.heap[k]? = W.heap[k]?
theorem StrX.other {W W' : World} {base b : Nat} {ev p v : Value} {evs : List Ev} {pend : List UInt8} {xs : List Value} (h : StrX W base b ev p v evs pend xs) (hf : StrF b ev v W W') {k : Nat} {cs : Array Value} {T : TypeId} {fz : Nat × Nat} (hk : W.heap[k]? = some (Obj.cells cs T fz))
    (h1 : T ≠ 61) (h2 : T ≠ 5) (h3 : ev.ownBlock ≠ some k) : W'.heap[k]? = W.heap[k]? := by
  obtain ⟨p1, p2, _, _⟩ := h.parts
  refine hf k (Array.getElem?_eq_some_iff.1 hk).1 (fun e => ?_) h3 (fun e => ?_)
  · subst e
    rw [p1.at_] at hk
    simp only [Option.some.injEq, Obj.cells.injEq] at hk
    exact h1 hk.2.1.symm
  · obtain ⟨_, _, cur, fz', hg⟩ := rowF_lt p1.own e
    rw [hg] at hk
    simp only [Option.some.injEq, Obj.cells.injEq] at hk
    exact h2 hk.2.1.symm
theorem StrX.ev_ne {W : World} {base b : Nat} {ev p v : Value} {evs : List Ev} {pend : List UInt8} {xs : List Value} (h : StrX W base b ev p v evs pend xs) {k : Nat} {cs : Array Value} {T : TypeId} {fz : Nat × Nat} (hk : W.heap[k]? = some (Obj.cells cs T fz)) (hT : T ≠ 39) : ev.ownBlock ≠ some k := fun e => by
  obtain ⟨_, p2, _, _⟩ := h.parts
  rcases p2.2 with ⟨rfl, _⟩ | ⟨g', cap, cur, rfl, _, hg1, _⟩
  · cases e
  · obtain rfl := Option.some.inj e
    rw [hg1] at hk
    simp only [Option.some.injEq, Obj.cells.injEq] at hk
    exact hT hk.2.1.symm
/-- a list that was made stays while the stream takes events -/
theorem MadeE.str {W W' : World} {base b ob : Nat} {ev p v : Value} {evs : List Ev} {pend : List UInt8} {xs : List Value} (h : StrX W base b ev p v evs pend xs) (hf : StrF b ev v W W') {lv : Value} {L : List Ev} {ys : List Value} (hm : MadeE W ob lv L ys) (hg : ∀ g, ev.ownBlock = some g → lv.ownBlock ≠ some g) : MadeE W' ob lv L ys := by
  refine ⟨row_of_block hm.row (fun g e => ?_), evs_mono (fun a n zs hr => row_of_block hr (fun g e => ?_)) _ _ hm.evs, hm.ap⟩
  · rcases hm.row.2 with ⟨rfl, _⟩ | ⟨g', cap, cur, rfl, _, hg1, _⟩
    · cases e
    · obtain rfl := Option.some.inj e
      exact h.other hf hg1 (by decide) (by decide) (fun e2 => hg _ e2 rfl)
  · rcases hr.2 with ⟨rfl, _⟩ | ⟨g', cap, cur, rfl, _, hg1, _⟩
    · cases e
    · obtain rfl := Option.some.inj e
      exact h.other hf hg1 (by decide) (by decide) (h.ev_ne hg1 (by decide))
/-- the balancer's blocks stay -/
def BalK (W W' : World) : Prop := ∀ (k : Nat) (cs : Array Value) (T : TypeId) (fz : Nat × Nat), W.heap[k]? = some (Obj.cells cs T fz) → T = 104 ∨ T = 140 → W'.heap[k]? = W.heap[k]?
theorem BalK.trans {W W1 W2 : World} (h : BalK W W1) (h2 : BalK W1 W2) : BalK W W2 := fun k cs T fz hk hT => (h2 k cs T fz ((h k cs T fz hk hT).trans hk) hT).trans (h k cs T fz hk hT)
theorem BalK.of_below {W W1 : World} (h : Below W.heap.size W W1) : BalK W W1 := fun k _ _ _ hk _ => h.block k (Array.getElem?_eq_some_iff.1 hk).1
theorem StrX.balK {W W' : World} {base b : Nat} {ev p v : Value} {evs : List Ev} {pend : List UInt8} {xs : List Value} (h : StrX W base b ev p v evs pend xs) (hf : StrF b ev v W W') : BalK W W' := fun k cs T fz hk hT =>
  h.other hf hk (by rcases hT with rfl | rfl <;> decide) (by rcases hT with rfl | rfl <;> decide) (h.ev_ne hk (by rcases hT with rfl | rfl <;> decide))
/-- no list of attributes of the events from k on stands among these -/
def FreeFrom (ys xs : List Value) (k : Nat) : Prop := ∀ j a g, k ≤ j → ys[j * 4 + 2]? = some a → a.ownBlock = some g → NotIn g xs
theorem notIn_at {g : Nat} : ∀ (ys : List Value) (L : List Ev) (W : World) (base : Nat), EvsAt W base ys L → NotIn g ys → ∀ j a, ys[j * 4 + 2]? = some a → a.ownBlock ≠ some g
  | [], [], _, _, _, _, j, a, h => by simp at h
  | _ :: _ :: x :: _ :: r, e :: l, W, base, ⟨_, h2⟩, hn, 0, a, h => by
    simp at h
    subst h
    exact hn.1
  | _ :: _ :: x :: _ :: r, e :: l, W, base, ⟨_, h2⟩, hn, j + 1, a, h => by
    rw [show (j + 1) * 4 + 2 = j * 4 + 2 + 4 by omega] at h
    exact notIn_at r l W base h2 hn.2 j a h
  | [], _ :: _, _, _, h, _, _, _, _ => h.elim
  | [_], _, _, _, h, _, _, _, _ => by cases ‹List Ev› <;> exact h.elim
  | [_, _], _, _, _, h, _, _, _, _ => by cases ‹List Ev› <;> exact h.elim
  | [_, _, _], _, _, _, h, _, _, _, _ => by cases ‹List Ev› <;> exact h.elim
  | _ :: _ :: _ :: _ :: _, [], _, _, h, _, _, _, _ => h.elim
theorem apart_at : ∀ (ys : List Value) (L : List Ev) (W : World) (base : Nat), EvsAt W base ys L → Apart ys → ∀ i j a a' g, i < j → ys[i * 4 + 2]? = some a → ys[j * 4 + 2]? = some a' → a.ownBlock = some g → a'.ownBlock ≠ some g
  | [], [], _, _, _, _, i, j, a, a', g, _, h, _, _ => by simp at h
  | _ :: _ :: x :: _ :: r, e :: l, W, base, ⟨_, h2⟩, hp, 0, j, a, a', g, hij, h, h', ha => by
    simp at h
    subst h
    obtain ⟨j', rfl⟩ : ∃ j', j = j' + 1 := ⟨j - 1, by omega⟩
    rw [show (j' + 1) * 4 + 2 = j' * 4 + 2 + 4 by omega] at h'
    exact notIn_at r l W base h2 (hp.1 g ha) j' a' h'
  | _ :: _ :: x :: _ :: r, e :: l, W, base, ⟨_, h2⟩, hp, i + 1, j, a, a', g, hij, h, h', ha => by
    obtain ⟨j', rfl⟩ : ∃ j', j = j' + 1 := ⟨j - 1, by omega⟩
    rw [show (j' + 1) * 4 + 2 = j' * 4 + 2 + 4 by omega] at h'
    rw [show (i + 1) * 4 + 2 = i * 4 + 2 + 4 by omega] at h
    exact apart_at r l W base h2 hp.2 i j' a a' g (by omega) h h' ha
  | [], _ :: _, _, _, h, _, _, _, _, _, _, _, _, _, _ => h.elim
  | [_], _, _, _, h, _, _, _, _, _, _, _, _, _, _ => by cases ‹List Ev› <;> exact h.elim
  | [_, _], _, _, _, h, _, _, _, _, _, _, _, _, _, _ => by cases ‹List Ev› <;> exact h.elim
  | [_, _, _], _, _, _, h, _, _, _, _, _, _, _, _, _, _ => by cases ‹List Ev› <;> exact h.elim
  | _ :: _ :: _ :: _ :: _, [], _, _, h, _, _, _, _, _, _, _, _, _, _ => h.elim
end Go.Proofs.YtkcgmimldjeaiaaDoor

/-
  The stream's endText once more: in which block its list lies behind it.
-/
namespace Go.Proofs.YtkcgmimldjeaiaaDoor
open Go.RowKit Go.Lib Own

set_option maxHeartbeats 4000000 in
set_option maxRecDepth 100000 in
theorem endText_g (base b o : Nat) (cs : Array Value) (T : TypeId) (evs : List Ev) (pend : List UInt8) (xs : List Value) (w : World) (h : StreamX w base b o cs T evs pend xs) (hT : StreamT T cs o) (h0 : pend ≠ []) (hlen : evs.length ≤ 10000000) :
    Calls Tryd.prog 53 #[.pointer (some ⟨b, o, none⟩)] w fun e w' => e = .returned (.tuple #[]) ∧
      ∃ ev, StreamX w' base b o (((cs.setIfInBounds o ev).setIfInBounds (o + 1) (.pointer none)).setIfInBounds (o + 2) (.slice none 0 0)) T (evs ++ [.text pend]) [] (xs ++ [.int .i64 3, .string ⟨#[]⟩, .slice none 0 0, strV pend]) ∧ Below base w w' ∧ (∀ a n ys, w.ownsRow base 101 2 a n ys → w'.ownsRow base 101 2 a n ys) ∧ KeepF w w' b o cs ∧ (∀ g, ev.ownBlock = some g → (∃ ev0, cs[o]? = some ev0 ∧ ev0.ownBlock = some g) ∨ w.heap.size ≤ g) := by
  obtain ⟨i0, hi, hz0, hz1, hz2⟩ := info_parts info_event
  obtain ⟨ev, p, v, hev, hin, hrow, hevs, hap⟩ := h.itx
  have hlen0 := fun W hW => len_in base b (o + 1) cs T p v pend W hW
  have hn0 : ((pend.length : Int) == 0) = false := beq_eq_false_iff_ne.2 (by have := List.length_pos_iff.2 h0; omega)
  have hstr := fun W hW => string_in base b (o + 1) cs T p v pend W hW h0
  have ce := cell_at hin.at_ hev
  have fe := free_at hin.at_ o
  have HL := hid hlen0
  have HS := hid hstr
  have HI := hid hin
  clear hlen0 hstr hin
  go_enter Tryd.func53, Tryd.ntmps53
  go_wp2_with (go_at_call 80; refine (HL.out _ HI.out).mono ?_; rintro e w1 ⟨rfl, rfl⟩)
  have hbs : base ≤ w1.heap.size := by have := (Array.getElem?_eq_some_iff.1 HI.out.at_).1; have := HI.out.lo; omega
  have hneb : ev.ownBlock ≠ some b := row_ne hrow HI.out.at_ hT.n2
  go_region_law (first
    | (go_simp; go_at_call 45; refine (HS.out _ (by exact ⟨HI.out.at_, HI.out.lo, HI.out.cp, HI.out.cv, HI.out.hp, HI.out.own, HI.out.ne⟩)).mono ?_; rintro e w9 ⟨rfl, hb9, bel9, k9⟩; have hbs9 := (Array.getElem?_eq_some_iff.1 hb9).1; have hsz9 := bel9.size; have hsz9' : w1.heap.size ≤ w9.heap.size := (by exact hsz9); have ce9 := cell_at hb9 hev; have fe9 := free_at hb9 o; have hrow9 := row_keep hrow HI.out.at_ hT.n2 HI.out.own (by decide) (fun k _ h1 h2 => k9 k h1 h2))
    | (refine step_append_lies _ rfl (.tmp 11) (.tmp 17) 22 rfl base 39 i0 (.agg #[.int .i64 0, .string ⟨#[]⟩, .slice none 0 0, .string ⟨#[]⟩]) 4 64 Tryd.underlying22 hi hz0 hz1 hz2 rfl (by decide) ev evs.length xs (by simp [Act.eval]) (by exact hrow9.alloc _) ⟨_, 0, none⟩ 1 1 [.int .i64 3, .string ⟨#[]⟩, .slice none 0 0, strV pend] (by simp [Act.eval]) rfl (cells_newV _ _ _) (by simp [Value.oneCell', strV]) (by omega) (by unfold maxLen; omega) (by omega) (by simp; omega) _ rfl ?_; rintro g cap w10 hrow10 hgrow10 hnew10 -; have hb10 : w10.heap[b]? = some (.cells cs T (0, 0)) := ((hgrow10.block b (by simp; omega) (fun e => hneb e.symm)).trans (alloc_old _ _ b (by exact hbs9))).trans (by exact hb9); have ce10 := cell_at hb10 hev; have fe10 := free_at hb10 o))
  all_goals
    have j1 := just_set (j := o) hb10 (.slice (some ⟨g, 0, none⟩) (evs.length + 1) cap)
    have hlo := HI.out.lo
    have hcp1 : (cs.setIfInBounds o (.slice (some ⟨g, 0, none⟩) (evs.length + 1) cap))[o + 1]? = some p := by
      rw [Array.getElem?_setIfInBounds, if_neg (by omega)]; exact HI.out.cp
    have hcv1 : (cs.setIfInBounds o (.slice (some ⟨g, 0, none⟩) (evs.length + 1) cap))[o + 1 + 1]? = some v := by
      rw [Array.getElem?_setIfInBounds, if_neg (by omega)]; exact HI.out.cv
    have hres := reset_in base b (o + 1) _ T p v _ j1.at_ hlo hcp1 hcv1
    have HR := hid hres
    clear hres
    have hkx := j1.other
    have hbx := j1.below hlo
    clear j1
    go_wp2_with (go_at_call 81; refine HR.out.mono ?_; rintro e w11 ⟨rfl, hin11, bel11, k11⟩)
    go_end0
    have hk : ∀ k, k ≠ b → w11.heap[k]? = w10.heap[k]? := fun k h => (k11 k h).trans (hkx k h)
    have b9 : Below base w1 w9 := ⟨bel9.os, bel9.tape, bel9.output, bel9.size, bel9.block⟩
    have b10 : Below base w1 w10 := (b9.alloc (by omega) _).grown hgrow10 (by simp; omega) (fun k hk => (hrow9.lt k hk).1)
    have e9 : EvsAt w9 base xs evs := evs_keep HI.out.at_ hT.n1 HI.out.own (fun k _ h1 h2 => k9 k h1 h2) xs evs hevs
    have e10 : EvsAt w10 base xs evs := evs_mono (fun a n ys hr => (hr.alloc _).kept hgrow10 (rows_ne hr hrow9 (by decide))) xs evs e9
    have e11 : EvsAt w11 base xs evs := evs_mono (fun a n ys hr => row_just hr hb10 hT.n1 hk) xs evs e10
    refine ⟨rfl, .slice (some ⟨g, 0, none⟩) (evs.length + 1) cap, ⟨.slice (some ⟨g, 0, none⟩) (evs.length + 1) cap, .pointer none, .slice none 0 0, ?_, hin11, ?_, evs_snoc xs evs e11, apart_snoc xs evs e11 hap (fun g e => by cases e)⟩, b10.trans (hbx.trans bel11), fun a n ys hr => row_just (((row_keep hr HI.out.at_ hT.n1 HI.out.own (by decide) (fun k _ h1 h2 => k9 k h1 h2)).alloc _).kept hgrow10 (rows_ne (row_keep hr HI.out.at_ hT.n1 HI.out.own (by decide) (fun k _ h1 h2 => k9 k h1 h2)) hrow9 (by decide))) hb10 hT.n1 hk, ?_, fun g' e' => by
      obtain rfl := Option.some.inj e'
      rcases hnew10 with e2 | e2
      · exact .inl ⟨ev, hev, e2⟩
      · exact .inr (by rw [e2]; simp; omega)⟩
    · rw [Array.getElem?_setIfInBounds, if_neg (by omega), Array.getElem?_setIfInBounds, if_neg (by omega), Array.getElem?_setIfInBounds, if_pos rfl, if_pos (Array.getElem?_eq_some_iff.1 hev).1]
    · have := row_just hrow10 hb10 hT.n2 hk
      rw [List.length_append]
      exact this
    · intro ev' v' hev' hv' k hks hkb hke hkv
      rw [hev] at hev'
      obtain rfl := Option.some.inj hev'
      rw [HI.out.cv] at hv'
      obtain rfl := Option.some.inj hv'
      have hk9 : k < w9.heap.size := by omega
      exact (((hk k hkb).trans (hgrow10.block k (by simp; omega) (fun e => hke e.symm))).trans (alloc_old _ _ k (by exact hk9))).trans (k9 k hkb hkv)

end Go.Proofs.YtkcgmimldjeaiaaDoor

/-
  The stream's Put of a list that a call made: its walk.
-/
namespace Go.Proofs.YtkcgmimldjeaiaaDoor
open Go.RowKit Go.Lib Own

theorem endText_s (base b : Nat) (ev p v : Value) (evs : List Ev) (pend : List UInt8) (xs : List Value) (w : World) (h : StrX w base b ev p v evs pend xs) (hlen : evs.length ≤ 10000000) :
    Calls Tryd.prog 53 #[.pointer (some ⟨b, 0, none⟩)] w fun e w' => e = .returned (.tuple #[]) ∧
      ∃ ev' p' v' xs', StrX w' base b ev' p' v' (flushE (evs, pend)) [] xs' ∧ (xs' = xs ∨ xs' = xs ++ [.int .i64 3, .string ⟨#[]⟩, .slice none 0 0, strV pend]) ∧ Below base w w' ∧ StrF b ev v w w' ∧ (∀ g, ev'.ownBlock = some g → ev.ownBlock = some g ∨ w.heap.size ≤ g) := by
  by_cases h0 : pend = []
  · subst h0
    refine (endText_none base b 0 #[ev, p, v] 61 evs w (StreamX.at h)).mono ?_
    rintro e w' ⟨rfl, rfl⟩
    exact ⟨rfl, ev, p, v, xs, h, .inl rfl, Below.refl _ _, fun _ _ _ _ _ => rfl, fun g hg => .inl hg⟩
  · refine (endText_g base b 0 #[ev, p, v] 61 evs pend xs w h (strT ev p v) h0 hlen).mono ?_
    rintro e w' ⟨rfl, ev1, h1, h2, _, h4, h5⟩
    have hf : flushE (evs, pend) = evs ++ [.text pend] := by unfold flushE; rw [if_neg h0]
    refine ⟨rfl, ev1, .pointer none, .slice none 0 0, _, by rw [hf]; exact h1, .inr rfl, h2, fun k hk hb he hv => h4 ev v rfl rfl k hk hb he hv, fun g hg => ?_⟩
    rcases h5 g hg with ⟨ev0, e1, e2⟩ | e1
    · have e3 : ev0 = ev := (Option.some.inj (e1 : some ev = some ev0)).symm
      rw [e3] at e2
      exact .inl e2
    · exact .inr e1
/-- one more event in the stream's list -/
theorem StrX.more {W W2 : World} {base b : Nat} {ev p v ev' : Value} {evs : List Ev} {xs : List Value} {kv nv av tv : Value} {e0 : Ev} {X : Obj} (h : StrX W base b ev p v evs [] xs) (he : EvsAt W base [kv, nv, av, tv] [e0]) (hn : ∀ g, av.ownBlock = some g → NotIn g xs)
    (hg : (W.alloc X).grownBy W2 ev.ownBlock) (hv : W2.ownsRow base 39 4 ev' (evs.length + 1) (xs ++ [kv, nv, av, tv])) :
    StrX (W2.setCell ⟨b, 0, none⟩ ev') base b ev' p v (evs ++ [e0]) [] (xs ++ [kv, nv, av, tv]) ∧ StrF b ev v W (W2.setCell ⟨b, 0, none⟩ ev') ∧ Below base W (W2.setCell ⟨b, 0, none⟩ ev') := by
  obtain ⟨hin, hrow, hevs, hap⟩ := h.parts
  have hra := hrow.alloc X
  have bxa := (Go.Lib.alloc_old W X _ (block_lt hin.at_)).trans hin.at_
  have bx2 := grown_at hg bxa (row_ne hra bxa (by decide))
  have j := just_put (j := 0) (cs2 := #[ev', p, v]) bx2 ev' (by simp)
  have e2 : EvsAt W2 base (xs ++ [kv, nv, av, tv]) (evs ++ [e0]) := evs_mono (fun a n ys hr => (hr.alloc X).kept hg (rows_ne (hr.alloc X) hra (by decide))) _ _ (evs_snoc2 xs _ hevs he)
  have e3 := evs_mono (W' := W2.setCell ⟨b, 0, none⟩ ev') (fun a n ys hr => row_just hr bx2 (by decide) j.other) _ _ e2
  have r3 := row_just hv bx2 (by decide) j.other
  have o2 : W2.ownsRowF base 5 1 v 0 (byteCells []) := (hin.own.kept (World.grownBy_alloc W X none) (by cases hv : v.ownBlock <;> simp)).kept hg (rowF_ne hin.own hrow (by decide))
  have o3 := o2.kept j.grown (.inr hin.ne)
  have hal := alloc_lt W X
  have hbl : base ≤ W.heap.size := by have := block_lt hin.at_; have := hin.lo; omega
  refine ⟨StrX.mk ⟨j.at_, hin.lo, rfl, rfl, hin.hp, o3, hin.ne⟩ (by rw [List.length_append]; exact r3) e3 (apart_snoc xs _ hevs hap hn), fun k hk hb h3 _ => ?_, (((Below.refl base W).alloc hbl X).grown hg (by omega) (fun k hk => (hrow.lt k hk).1)).trans (just_low j hin.lo)⟩
  rw [j.other k hb, hg.block k (by omega) (fun e => h3 e.symm), Go.Lib.alloc_old _ _ _ hk]
/-- the stream while it takes a list -/
structure PutAt (w W : World) (base ob b : Nat) (lv : Value) (L : List Ev) (ys : List Value) (k : Nat) (evs : List Ev) (pend : List UInt8) : Prop where
  it : ∃ ev p v xs, StrX W base b ev p v evs pend xs ∧ (∀ g, ev.ownBlock = some g → g < ob ∨ w.heap.size ≤ g) ∧ FreeFrom ys xs k
  ma : MadeE W ob lv L ys
  be : Below base w W
  bk : BalK w W
theorem putE_text (s : List Ev × List UInt8) (t : List UInt8) : putE s (.text t) = (s.1, s.2 ++ t) := rfl
theorem putE_other (s : List Ev × List UInt8) (e : Ev) (h : evK e ≠ 3) : putE s e = (flushE s ++ [e], []) := by
  cases e with
  | text t => exact absurd rfl h
  | start n a => rfl
  | stop n => rfl
theorem putEs_next (s : List Ev × List UInt8) {L : List Ev} {k : Nat} {e : Ev} (h : L[k]? = some e) : putEs s (L.take (k + 1)) = putE (putEs s (L.take k)) e := by
  rw [List.take_add_one, h, putEs_app]
  rfl
theorem putEs_len : ∀ (L : List Ev) (s : List Ev × List UInt8), (putEs s L).1.length ≤ s.1.length + 2 * L.length
  | [], s => Nat.le_add_right _ _
  | e :: L, s => by
    have h := putEs_len L (putE s e)
    have h2 : (putE s e).1.length ≤ s.1.length + 2 := by
      by_cases h3 : evK e = 3
      · cases e with
        | text t => exact Nat.le_add_right _ _
        | start n a => exact absurd h3 (by show (1 : Nat) ≠ 3; omega)
        | stop n => exact absurd h3 (by show (2 : Nat) ≠ 3; omega)
      · rw [putE_other s e h3]
        unfold flushE
        split
        · simp
        · simp
    show (putEs (putE s e) L).1.length ≤ _
    simp only [List.length_cons]
    omega

set_option maxHeartbeats 16000000 in
set_option maxRecDepth 100000 in
theorem putL_any (base ob b : Nat) (ev p v : Value) (evs : List Ev) (pend : List UInt8) (xs : List Value) (lv : Value) (L : List Ev) (ys : List Value) (w : World) (h : StrX w base b ev p v evs pend xs) (hm : MadeE w ob lv L ys) (hgap : ∀ g, ev.ownBlock = some g → g < ob) (hnew : FreeFrom ys xs 0) (hob : base ≤ ob)
    (hl : evs.length + 2 * L.length ≤ 9500000) (ht : ∀ k, (putEs (evs, pend) (L.take k)).2.length ≤ 1000000000) (htt : ∀ e ∈ L, (evT e).length ≤ 1000000000) :
    Calls Tryd.prog 26 #[.pointer (some ⟨b, 0, none⟩), lv] w fun e w' => e = .returned (.tuple #[]) ∧ PutAt w w' base ob b lv L ys L.length (putEs (evs, pend) L).1 (putEs (evs, pend) L).2 := by
  obtain ⟨i0, hi, hz0, hz1, hz2⟩ := info_parts info_event
  obtain ⟨lp, lc, rfl⟩ := row_shape hm.row
  have hlen := putEs_len
  have H0 : Hid (PutAt w w base ob b (.slice lp L.length lc) L ys 0 (putEs (evs, pend) (L.take 0)).1 (putEs (evs, pend) (L.take 0)).2) :=
    ⟨⟨ev, p, v, xs, h, fun g hg => .inl (hgap g hg), hnew⟩, hm, Below.refl _ _, BalK.of_below (Below.refl _ _)⟩
  have HGL : Hid (∀ g, (Value.slice lp L.length lc).ownBlock = some g → ob ≤ g ∧ g < w.heap.size) := fun g hg => hm.row.lt g hg
  have HT := hid (And.intro ht htt)
  clear h hm hgap hnew ht htt
  go_enter Tryd.func26, Tryd.ntmps26
  go_wp2_with fail
  go_loopw [8] (fun iv wr => ∃ (k : Nat) (es : List Ev) (pe : List UInt8), iv = .int .i64 k ∧ k ≤ L.length ∧ Hid (putEs (evs, pend) (L.take k) = (es, pe)) ∧ Hid (PutAt w wr base ob b (.slice lp L.length lc) L ys k es pe)) (fun iv _ => L.length - (RowKit.intOf iv).toNat)
  case atStart => exact ⟨0, _, _, rfl, Nat.zero_le _, hid rfl, H0⟩
  case round =>
    clear H0
    obtain ⟨k, es, pe, rfl, hk, HE, HX⟩ := hrel
    by_cases hkl : k < L.length
    · obtain ⟨e0, he0⟩ : ∃ e, L[k]? = some e := ⟨_, List.getElem?_eq_getElem hkl⟩
      obtain ⟨⟨ev1, p1, v1, xs1, hs1, hg1, hf1⟩, hma, hbe, hbk⟩ := HX.out
      obtain ⟨gl, cap, e3, hl1, hl2, hcell⟩ := row_at hma.row (by omega)
      cases e3
      obtain ⟨av, a0, a1, a2, a3, a4, a5⟩ := evs_get ys L k e0 hma.evs he0
      have d0 := (hcell (k * 4) (by omega)).trans a0
      have d1 := (hcell (k * 4 + 1) (by omega)).trans a1
      have d2 := (hcell (k * 4 + 2) (by omega)).trans a2
      have d3 := (hcell (k * 4 + 3) (by omega)).trans a3
      have hlc := (row_cap hma.row).2
      have hesl : es.length ≤ 9500000 := by
        have h1 := hlen (L.take k) (evs, pend)
        rw [HE.out, List.length_take] at h1
        simp only at h1
        omega
      have hpel : pe.length ≤ 1000000000 := by have h1 := HT.out.1 k; rw [HE.out] at h1; exact h1
      have htl := HT.out.2 e0 (List.mem_of_getElem? he0)
      have hnx := putEs_next (evs, pend) he0
      rw [HE.out] at hnx
      have hgl := HGL.out gl rfl
      have hevgl : ev1.ownBlock ≠ some gl := fun e => by rcases hg1 gl e with h1 | h1 <;> omega
      obtain ⟨ap, ac, rfl⟩ := row_shape a4
      have hbsz : base ≤ wr.heap.size := by obtain ⟨q1, _⟩ := hs1.parts; have := block_lt q1.at_; have := q1.lo; omega
      have hbb := block_lt hs1.parts.1.at_
      by_cases ht3 : evK e0 = 3
      · obtain ⟨t, rfl⟩ : ∃ t, e0 = .text t := by cases e0 with | text t => exact ⟨t, rfl⟩ | start n a => exact absurd ht3 (by show (1 : Nat) ≠ 3; omega) | stop n => exact absurd ht3 (by show (2 : Nat) ≠ 3; omega)
        replace d0 : wr.cell? ⟨gl, k * 4, none⟩ = some (.int .i64 3) := d0
        replace d1 : wr.cell? ⟨gl, k * 4 + 1, none⟩ = some (.string ⟨#[]⟩) := d1
        replace d3 : wr.cell? ⟨gl, k * 4 + 3, none⟩ = some (.string (bs t)) := d3
        rw [putE_text] at hnx
        obtain ⟨W1, hW1⟩ : ∃ W1, wr.alloc (.cells #[.int .i64 3, .string ⟨#[]⟩, .slice ap (evA (.text t)).length ac, .string (bs t)] 39) = W1 := ⟨_, rfl⟩
        have hb1 : Below wr.heap.size wr W1 := by rw [← hW1]; exact (Below.refl _ _).alloc (Nat.le_refl _) _
        have n1 : W1.heap[wr.heap.size]? = some (.cells #[.int .i64 3, .string ⟨#[]⟩, .slice ap (evA (.text t)).length ac, .string (bs t)] 39 (0, 0)) := by rw [← hW1]; exact heap_alloc_new _ _
        have hs2 := hs1.below hb1
        have hbt : (bs t).size ≤ 1000000000 := by rw [bs_size]; exact htl
        have hpt := putText_x base b ev1 p1 v1 es pe xs1 (bs t) W1 hs2 (by omega)
        have HP := hid hpt
        have HZ := hid (And.intro hs2 (And.intro (hma.below hb1) (And.intro (hbe.trans (hb1.mono hbsz)) (And.intro (hbk.trans (BalK.of_below hb1)) (And.intro hg1 hf1)))))
        have HN := hid hnx
        have x0 := cell_at n1 (j := 0) rfl
        have x3 := cell_at n1 (j := 3) rfl
        obtain ⟨TT, hTT⟩ : ∃ n, bs t = n := ⟨_, rfl⟩
        have HTT := hid hTT
        rw [hTT] at hW1 d3 HP x3
        clear hs1 hma hbe hbk hg1 hf1 hpt hs2 hb1 n1 hTT a0 a1 a2 a3 a4 a5 hcell HX hnx HE hgl hevgl
        go_upto_region 3 with fail
        clear hW1
        go_wp2_with fail
        refine HP.out.mono ?_
        rintro e W2 ⟨rfl, p2, v2, hs3, hb3, hf3⟩
        obtain ⟨hs2, hm2, hbe2, hbk2, hg2, hfr2⟩ := HZ.out
        have hsf : StrF b ev1 v1 W1 W2 := fun k hk hb _ hv => hf3 k hk hb hv
        have hm3 := MadeE.str hs2 hsf hm2 (fun g hg e => by rcases hg2 g hg with h1 | h1 <;> (have := HGL.out g e; omega))
        rw [← HTT.out] at hs3
        have HF : Hid (PutAt w W2 base ob b (.slice (some ⟨gl, 0, none⟩) L.length lc) L ys (k + 1) es (pe ++ t)) :=
          ⟨⟨ev1, p2, v2, xs1, hs3, hg2, fun j a g hj => hfr2 j a g (by omega)⟩, hm3, hbe2.trans hb3, hbk2.trans (hs2.balK hsf)⟩
        clear hs2 hm2 hbe2 hbk2 hg2 hfr2 hsf hm3 hs3 hb3 hf3 HZ HP d0 d1 d2 d3 x0 x3
        go_wp2_with fail
        go_roundw
        case rel => exact ⟨k + 1, es, pe ++ t, rfl, by omega, HN, HF⟩
        case measure => simp [RowKit.intOf]; omega
      · have hkk : (((evK e0 : Nat) : Int) == 3) = false := by rw [Bool.eq_false_iff]; intro h; rw [beq_iff_eq] at h; omega
        rw [putE_other _ _ ht3] at hnx
        unfold strV at d1 d3
        have ha2 := a2
        obtain ⟨K, hK⟩ : ∃ K : Int, ((evK e0 : Nat) : Int) = K := ⟨_, rfl⟩
        obtain ⟨NB, hNB⟩ : ∃ n, (⟨(evN e0).toArray⟩ : ByteArray) = n := ⟨_, rfl⟩
        obtain ⟨TB, hTB⟩ : ∃ n, (⟨(evT e0).toArray⟩ : ByteArray) = n := ⟨_, rfl⟩
        obtain ⟨AN, hAN⟩ : ∃ n, (evA e0).length = n := ⟨_, rfl⟩
        rw [hK] at d0 hkk
        rw [hNB] at d1
        rw [hTB] at d3
        rw [hAN] at d2 ha2
        have HKN := hid (And.intro hK (And.intro hNB (And.intro hTB he0)))
        obtain ⟨W1, hW1⟩ : ∃ W1, wr.alloc (.cells #[.int .i64 K, .string NB, .slice ap AN ac, .string TB] 39) = W1 := ⟨_, rfl⟩
        have hb1 : Below wr.heap.size wr W1 := by rw [← hW1]; exact (Below.refl _ _).alloc (Nat.le_refl _) _
        have n1 : W1.heap[wr.heap.size]? = some (.cells #[.int .i64 K, .string NB, .slice ap AN ac, .string TB] 39 (0, 0)) := by rw [← hW1]; exact heap_alloc_new _ _
        have hs2 := hs1.below hb1
        have hev1 : ev1.ownBlock ≠ some wr.heap.size := fun e => by have := (hs1.parts.2.1.lt _ e).2; omega
        have het := endText_s base b ev1 p1 v1 es pe xs1 W1 hs2 (by omega)
        have HP := hid het
        have HZ := hid (And.intro hs2 (And.intro (hma.below hb1) (And.intro (hbe.trans (hb1.mono hbsz)) (And.intro (hbk.trans (BalK.of_below hb1)) (And.intro hg1 (And.intro hf1 (And.intro n1 hb1)))))))
        have HN := hid hnx
        have HA2 := hid ha2
        have x0 := cell_at n1 (j := 0) rfl
        have hone : ∀ u ∈ [Value.int .i64 K, .string NB, .slice ap AN ac, .string TB], u.oneCell' = true := by simp [Value.oneCell']
        clear hs1 hma hbe hbk hg1 hf1 het hs2 hb1 n1 hK hNB hTB hAN a0 a1 a2 a3 a4 a5 hcell HX hnx HE hgl hevgl ht3 ha2 he0
        go_upto_region 3 with fail
        clear hW1
        go_wp2_with fail
        refine HP.out.mono ?_
        rintro e W2 ⟨rfl, ev2, p2, v2, xs2, hs3, hxs, hb3, hf3, hg3⟩
        obtain ⟨hs2, hm2, hbe2, hbk2, hg2, hfr2, n1, hb1⟩ := HZ.out
        obtain ⟨hK, hNB, hTB, he0⟩ := HKN.out
        have n2 := (hs2.other hf3 n1 (by decide) (by decide) hev1).trans n1
        have hm3 := MadeE.str hs2 hf3 hm2 (fun g hg e => by rcases hg2 g hg with h1 | h1 <;> (have := HGL.out g e; omega))
        obtain ⟨av', _, _, c2, _, _, a5⟩ := evs_get ys L k e0 hm3.evs he0
        obtain rfl := Option.some.inj (HA2.out.symm.trans c2)
        unfold strV at a5
        rw [hK, hNB, hTB] at a5
        have a6 := evsAll_low hob _ _ a5
        have hnot : ∀ g, (∀ xs', xs' = xs1 → NotIn g xs') → NotIn g xs2 := fun g h1 => by
          rcases hxs with rfl | rfl
          · exact h1 _ rfl
          · exact notIn_snoc (by simp [Value.ownBlock]) _ _ hs2.parts.2.2.1 (h1 _ rfl)
        have hna : ∀ g, (Value.slice ap AN ac).ownBlock = some g → NotIn g xs2 := fun g hg => hnot g (fun xs' e => by rw [e]; exact hfr2 k _ g (Nat.le_refl k) HA2.out hg)
        have hfr3 : FreeFrom ys (xs2 ++ [.int .i64 K, .string NB, .slice ap AN ac, .string TB]) (k + 1) := fun j a g hj hja hag =>
          notIn_snoc (fun e => apart_at ys L W2 ob hm3.evs hm3.ap k j _ a g (by omega) HA2.out hja e hag) _ _ hs3.parts.2.2.1 (hnot g (fun xs' e => by rw [e]; exact hfr2 j a g (by omega) hja hag))
        have hg4 : ∀ g, ev2.ownBlock = some g → g < ob ∨ w.heap.size ≤ g := fun g hg => by
          rcases hg3 g hg with h1 | h1
          · exact hg2 g h1
          · exact .inr (by have := hb1.size; have := hbe2.size; omega)
        have x0 := cell_at n2 (j := 0) rfl
        have x1 := cell_at n2 (j := 1) rfl
        have x2 := cell_at n2 (j := 2) rfl
        have x3 := cell_at n2 (j := 3) rfl
        obtain ⟨in3, row3, _, _⟩ := hs3.parts
        have ce := cell_at in3.at_ (j := 0) rfl
        have fe := free_at in3.at_ 0
        have hneb := row_ne row3 in3.at_ (by decide)
        have hbs3 := block_lt in3.at_
        have hat3 := in3.at_
        have hns := block_lt n2
        have hbl3 : base ≤ W2.heap.size := by have := in3.lo; omega
        have hfl : (flushE (es, pe)).length ≤ 9500001 := by
          unfold flushE
          split
          · simp only; omega
          · simp only [List.length_append, List.length_singleton]; omega
        have hbn : b ≠ wr.heap.size := by omega
        have H3 := hid (And.intro hs3 (And.intro a6 (And.intro hna (And.intro hm3 (And.intro (hbe2.trans hb3) (And.intro (hbk2.trans (hs2.balK hf3)) (And.intro hg4 hfr3)))))))
        have HSZ := hid (And.intro hbe2.size hb3.size)
        clear hs3 a5 a6 hna hm3 hbe2 hb3 hbk2 hs2 hf3 hg4 hfr3 HZ HP hm2 hg2 hfr2 n1 hb1 n2 c2 hK hNB hTB he0 hnot hxs hg3 in3 d0 d1 d2 d3
        go_wp2_with fail
        go_region_law (refine step_append_lies _ rfl (.tmp 25) (.tmp 27) 22 rfl base 39 i0 (.agg #[.int .i64 0, .string ⟨#[]⟩, .slice none 0 0, .string ⟨#[]⟩]) 4 64 Tryd.underlying22 hi hz0 hz1 hz2 rfl (by decide) ev2 (flushE (es, pe)).length xs2 (by simp [Act.eval]) (by exact row3.alloc _) ⟨_, 0, none⟩ 1 1 [.int .i64 K, .string NB, .slice ap AN ac, .string TB] (by simp [Act.eval]) rfl (cells_newV _ _ _) hone (by omega) (by unfold maxLen; omega) (by omega) (by simp; omega) _ rfl ?_; rintro g cap w10 hrow10 hgrow10 hnew10 -; have hb10 : w10.heap[b]? = some (.cells #[ev2, p2, v2] 61 (0, 0)) := ((hgrow10.block b (by simp; omega) (fun e => hneb e.symm)).trans (Go.Lib.alloc_old _ _ b (by exact hbs3))).trans (by exact hat3); have ce10 := cell_at (j := 0) hb10 rfl; have fe10 := free_at hb10 0)
        all_goals
          have hg10 : (W2.alloc (.cells #[.int .i64 K, .string NB, .slice ap AN ac, .string TB] 39)).grownBy w10 ev2.ownBlock := ⟨hgrow10.os, hgrow10.tape, hgrow10.output, hgrow10.size, hgrow10.block⟩
          obtain ⟨hs3, a6, hna, hm3, hbe3, hbk3, hg4, hfr3⟩ := H3.out
          obtain ⟨hs4, hf4, hb4⟩ := hs3.more a6 hna hg10 hrow10
          have hgg : ∀ g', (Value.slice (some ⟨g, 0, none⟩) ((flushE (es, pe)).length + 1) cap).ownBlock = some g' → g' < ob ∨ w.heap.size ≤ g' := fun g' e => by
            obtain rfl := Option.some.inj e
            rcases hnew10 with e2 | e2
            · exact hg4 _ e2
            · exact .inr (by rw [e2]; simp; have := HSZ.out; have := hbe3.size; omega)
          have hm4 := MadeE.str hs3 hf4 hm3 (fun g hg e => by rcases hg4 g hg with h1 | h1 <;> (have := HGL.out g e; omega))
          have HF : Hid (PutAt w (w10.setCell ⟨b, 0, none⟩ (.slice (some ⟨g, 0, none⟩) ((flushE (es, pe)).length + 1) cap)) base ob b (.slice (some ⟨gl, 0, none⟩) L.length lc) L ys (k + 1) (flushE (es, pe) ++ [e0]) []) :=
            ⟨⟨_, p2, v2, _, hs4, hgg, hfr3⟩, hm4, hbe3.trans hb4, hbk3.trans (hs3.balK hf4)⟩
          clear hs3 a6 hna hm3 hbe3 hbk3 hg4 hfr3 hs4 hf4 hb4 hgg hm4 H3 hg10 hrow10 hgrow10 hnew10 hb10 ce10 fe10
          go_wp2
          go_roundw
          case rel => exact ⟨k + 1, flushE (es, pe) ++ [e0], [], rfl, by omega, HN, HF⟩
          case measure => simp [RowKit.intOf]; omega
    · obtain rfl : k = L.length := by omega
      have hfin := HE.out
      rw [List.take_length] at hfin
      have HFIN := hid hfin
      clear hfin HE
      go_wp2_with fail
      go_end0
      exact ⟨rfl, by rw [HFIN.out]; exact HX.out⟩
end Go.Proofs.YtkcgmimldjeaiaaDoor

/-
  The statements' lendEvents, keptEvents: their walks.
-/
namespace Go.Proofs.YtkcgmimldjeaiaaDoor
open Go.RowKit Go.Lib Own

theorem lndTEvents : LndT 39 27 := ⟨by decide, by decide, by decide, by decide, by decide⟩
theorem infoEvent_ : (Tryd.prog.info? 39).map (fun i => (i.zero, i.size, i.bytes)) = some (some (.agg #[.int .i64 0, .string ⟨#[]⟩, .slice none 0 0, .string ⟨#[]⟩]), 4, 64) := by kernel_rfl
/-- what stands behind: a text of each word -/
def moreEvents (ms : List (List UInt8)) : List EvP := ms.map fun s => ⟨3, [], [], s⟩

set_option maxHeartbeats 8000000 in
set_option maxRecDepth 100000 in
theorem lendEvents_any (ev mv : Value) (es : List EvP) (ms : List (List UInt8)) (w : World) (h : EvsR w ev es) (hM : Words w mv ms) (hl : es.length ≤ 2000000) (ha : ∀ e ∈ es, e.a.length ≤ 2000000) (hm : ms.length ≤ 2000000) :
    Calls Tryd.prog 7 #[ev, mv] w fun e w' => ∃ v, e = .returned v ∧ LentE w' v es (moreEvents ms) (namesA ms) ∧ Below w.heap.size w w' := by
  obtain ⟨ep, ec, rfl, hc1, hc2, hcell⟩ := h
  obtain ⟨mp, mc, rfl, hmc, _, hmcell, _⟩ := id hM
  have HC := hid hcell
  have HM := hid hM
  have HMC := hid hmcell
  have HA := hid ha
  have hL0 : LndE 39 27 w ((w.alloc (.cells #[.slice none 0 0, .slice none 0 0, .slice none 0 0] 27)).alloc (.cells #[.slice none 0 0, .slice none 0 0, .slice none 0 0] 27)) (.slice none 0 0) (.slice none 0 0) es (namesA ms) [] [] :=
    ⟨((Below.refl w.heap.size w).alloc (Nat.le_refl _) _).alloc (by simp) _, (Go.Lib.alloc_old _ _ _ (by simp)).trans (heap_alloc_new w _), heap_two_new w _ _ _, World.ownsRow_nil _ _ _ _, World.ownsRow_nil _ _ _ _, fun k v e h1 => by simp at h1, fun k x h1 => by simp at h1⟩
  have HL0 := hid hL0
  clear hcell hM hmcell ha hL0
  go_enter Tryd.func7, Tryd.ntmps7
  go_wp2_with fail
  go_loopw [7, 8, 12] (fun _ _ iv wr => ∃ (k : Nat) (wv av : Value) (prs : List (EvP × Value)) (us : List Value), iv = .int .i64 k ∧ k ≤ es.length ∧ Hid (us.length = k ∧ prs.length = k ∧ prs.map Prod.fst = es.take k) ∧ Hid (LndE 39 27 w wr wv av es (namesA ms) prs us)) (fun _ _ iv _ => es.length - (RowKit.intOf iv).toNat)
  case atStart => exact ⟨0, _, _, [], [], rfl, Nat.zero_le _, hid ⟨rfl, rfl, rfl⟩, HL0⟩
  case round =>
    obtain ⟨k, wv, av, prs, us, rfl, hk, HN, HX⟩ := hrel
    clear HL0
    by_cases hkl : k < es.length
    · obtain ⟨e, he⟩ : ∃ e, es[k]? = some e := ⟨_, List.getElem?_eq_getElem hkl⟩
      obtain ⟨b, o, u, rfl, q0, q1, q2, q3, q4⟩ := HC.out k e he
      have hX := HX.out
      have hbx := hX.be
      replace q0 := cell_low q0 hbx (cell_block q0)
      replace q1 := cell_low q1 hbx (cell_block q1)
      replace q2 := cell_low q2 hbx (cell_block q2)
      replace q3 := cell_low q3 hbx (cell_block q3)
      have hat := HA.out e (List.mem_of_getElem? he)
      obtain ⟨up, uc, rfl⟩ := q4.len
      -- behind the event's box
      obtain ⟨W1, hW1⟩ : ∃ W1, wr.alloc (.cells (evC e (.slice up e.a.length uc)) 39) = W1 := ⟨_, rfl⟩
      have hbel1 : Below wr.heap.size wr W1 := by rw [← hW1]; exact (Below.refl _ _).alloc (Nat.le_refl _) _
      have hn1 : W1.heap[wr.heap.size]? = some (.cells (evC e (.slice up e.a.length uc)) 39 (0, 0)) := by rw [← hW1]; exact heap_alloc_new _ _
      obtain ⟨c0, c1, c2, c3⟩ := evC_at hn1
      have hlong := longAttrs_any (.slice up e.a.length uc) (.slice mp ms.length mc) e.a ms W1 ((q4.below hbx).below hbel1) ((HM.out.below hbx).below hbel1) (by omega) (by omega)
      have HLG := hid hlong
      have HE := hid he
      have H1 := hid (And.intro hn1 hbel1)
      unfold evC at hW1
      clear hlong he hX q4 hn1 hbel1 hbx
      go_upto_region 6 with fail
      clear hW1 q0 q1 q2 q3
      go_wp2_with fail
      refine HLG.out.mono ?_
      rintro r W2 ⟨u', rfl, r1, b2⟩
      obtain ⟨hn1, hbel1⟩ := H1.out
      have hbel2 := hbel1.trans (b2.mono hbel1.size)
      have hX2 := HX.out.below hbel2
      have hn2 := (b2.block _ (block_lt hn1)).trans hn1
      have r2 := row_low r1 (Nat.le_trans HX.out.be.size hbel1.size)
      obtain ⟨up', uc', hu'⟩ := row_shape r2
      subst hu'
      have hown := hX2.a
      rw [HN.out.1] at hown
      obtain ⟨ap, ac, rfl⟩ := row_shape hown
      have hsz2 := hX2.be.size
      have hle := (row_cap r2).2
      have hne : wv.ownBlock ≠ some wr.heap.size := fun hh => by have := (HX.out.r.lt _ hh).2; omega
      have hcl := hX2.be.size
      have hxs := HX.out.be.size
      have hbl : w.heap.size + 1 < wr.heap.size := block_lt HX.out.bx
      obtain ⟨z1, y1⟩ : W2.cell? ⟨w.heap.size + 1, 2, none⟩ = some (.slice ap k ac) ∧ W2.frozen? ⟨w.heap.size + 1, 2, none⟩ = false := ⟨cell_at hX2.bx rfl, free_at hX2.bx 2⟩
      obtain ⟨i0, hi, hz0, hz1, hz2⟩ := info_parts info_list
      have HX2 := hid (And.intro hX2 (And.intro hn2 r2))
      have hlena : (e.a ++ namesA ms).length = e.a.length + ms.length := by rw [List.length_append]; unfold namesA; rw [List.length_map]
      clear hX2 r1 r2 b2 hn1 hbel1 hbel2 HX H1 HLG hn2 c0 c1 c2 c3
      obtain ⟨NL, hNL⟩ : ∃ NL, (e.a ++ namesA ms).length = NL := ⟨_, rfl⟩
      rw [hNL] at hlena hle
      simp only [hNL] at HX2 ⊢
      have hNLb : NL ≤ 4000000 := by omega
      have hle2 : e.a.length ≤ uc' := by omega
      have hNL2 := hid hNL
      clear hlena hNL
      go_wp2_with (at_builtin; refine wpList_append_own _ rfl (.tmp 24) (.tmp 26) 25 rfl w.heap.size 37 i0 (.slice none 0 0) 1 24 Tryd.underlying25 hi hz0 hz1 hz2 rfl (by decide) _ _ _ rfl (hown.alloc _) ⟨_, 0, none⟩ 1 1 [.slice up' NL uc'] rfl rfl (cells_newV _ _ _) (by simp [Value.oneCell']) (by unfold maxLen; omega) (by omega) (by simp; omega) ?_)
      intro v' W3 hown2 hgrow2 _
      obtain ⟨hX2, hn2, r2⟩ := HX2.out
      have hX4 := hX2.attr (e := e) (v' := v') lndTEvents (by rw [hNL2.out]; exact r2) (by rw [HN.out.1]; exact HE.out) hgrow2 (by rw [List.length_append, HN.out.1]; exact hown2)
      obtain ⟨vp, vc, rfl⟩ := row_shape hown2
      have hax := hX2.a.alloc (.cells #[.slice up' NL uc'] 37)
      rw [HN.out.1] at hax
      have hne0 := row_ne hax ((Go.Lib.alloc_old _ _ _ (block_lt hX2.bx)).trans hX2.bx) (by decide)
      have hne1 := row_ne hax ((Go.Lib.alloc_old _ _ _ (block_lt hn2)).trans hn2) (by decide)
      have hbx3 := grown_at hgrow2 ((Go.Lib.alloc_old W2 (.cells #[.slice up' NL uc'] 37) _ (block_lt hX2.bx)).trans hX2.bx) hne0
      have hn3 := grown_at hgrow2 ((Go.Lib.alloc_old W2 (.cells #[.slice up' NL uc'] 37) _ (block_lt hn2)).trans hn2) hne1
      have y3 := free_at hbx3 2
      have z3 := cell_at hbx3 (j := 2) rfl
      have hn4 : (W3.setCell ⟨w.heap.size + 1, 2, none⟩ (.slice vp (k + 1) vc)).heap[wr.heap.size]? = _ := (heap_setCell_other W3 ⟨w.heap.size + 1, 2, none⟩ wr.heap.size (.slice vp (k + 1) vc) (by show wr.heap.size ≠ w.heap.size + 1; omega)).trans hn3
      have HX4 := hid (And.intro hX4 hn4)
      clear hX2 hX4 hn2 r2 hax hne0 hne1 hbx3 hn3 hn4 HX2 hown2 hgrow2 hown z1 y1
      go_upto_region 8 with fail
      obtain ⟨W4, hW4⟩ : ∃ W4, W3.setCell ⟨w.heap.size + 1, 2, none⟩ (.slice vp (k + 1) vc) = W4 := ⟨_, rfl⟩
      simp only [hW4] at HX4 ⊢
      clear hW4 y3 z3
      obtain ⟨c0, c1, c2, c3⟩ := evC_at HX4.out.2
      have y2 := free_at HX4.out.2 2
      have hj := just_put (j := 2) (cs2 := evC e (.slice up' e.a.length uc')) HX4.out.2 (.slice up' e.a.length uc') (by unfold evC; simp)
      have hX5 := HX4.out.1.box lndTEvents HX4.out.2 (by omega) hne hj
      have HX5 := hid (And.intro hX5 hj.at_)
      clear hj hX5 HX4
      go_upto_region 9 with fail
      obtain ⟨W5, hW5⟩ : ∃ W5, W4.setCell ⟨wr.heap.size, 2, none⟩ (.slice up' e.a.length uc') = W5 := ⟨_, rfl⟩
      simp only [hW5] at HX5 ⊢
      clear hW5 y2 c0 c1 c2 c3
      have hX5 := HX5.out.1
      obtain ⟨c0, c1, c2, c3⟩ := evC_at HX5.out.2
      have hown := hX5.r
      rw [HN.out.2.1] at hown
      obtain ⟨wp, wc, rfl⟩ := row_shape hown
      have z1 := cell_at hX5.bx (j := 1) rfl
      have hsz5 := hX5.be.size
      obtain ⟨j0, hj, hj0, hj1, hj2⟩ := info_parts infoEvent_
      go_wp2_with (at_builtin; refine wpList_append_own _ rfl (.tmp 36) (.tmp 38) 22 rfl w.heap.size 39 j0 (.agg #[.int .i64 0, .string ⟨#[]⟩, .slice none 0 0, .string ⟨#[]⟩]) 4 64 Tryd.underlying22 hj hj0 hj1 hj2 rfl (by decide) _ _ _ rfl (hown.alloc _) ⟨_, 0, none⟩ 1 1 [.int .i64 e.k, .string (bs e.n), .slice up' e.a.length uc', .string (bs e.t)] rfl rfl (cells_newV _ _ _) (by simp [Value.oneCell']) (by unfold maxLen; omega) (by omega) (by simp; omega) ?_)
      intro v'' W6 hown6 hgrow6 _
      obtain ⟨vp6, vc6, rfl⟩ := row_shape hown6
      have hX7 := hX5.ev (x := (e, .slice up' e.a.length uc')) (v' := .slice vp6 (k + 1) vc6) lndTEvents (.inr ⟨.slice up' NL uc', by rw [HN.out.2.1, ← HN.out.1, List.getElem?_append_right (Nat.le_refl _), Nat.sub_self]; rfl, by rw [HN.out.2.1]; exact HE.out, rfl⟩) hgrow6 (by rw [List.length_append, HN.out.2.1, ecells_app]; exact hown6)
      have hax := hX5.r.alloc (.cells #[.int .i64 e.k, .string (bs e.n), .slice up' e.a.length uc', .string (bs e.t)] 39)
      have hne0 := row_ne hax ((Go.Lib.alloc_old _ _ _ (block_lt hX5.bx)).trans hX5.bx) (by decide)
      have hbx6 := grown_at hgrow6 ((Go.Lib.alloc_old W5 (.cells #[.int .i64 e.k, .string (bs e.n), .slice up' e.a.length uc', .string (bs e.t)] 39) _ (block_lt hX5.bx)).trans hX5.bx) hne0
      have y3 := free_at hbx6 1
      have z3 := cell_at hbx6 (j := 1) rfl
      have HX7 := hid hX7
      have HN2 : Hid ((us ++ [Value.slice up' NL uc']).length = k + 1 ∧ (prs ++ [(e, Value.slice up' e.a.length uc')]).length = k + 1 ∧ (prs ++ [(e, Value.slice up' e.a.length uc')]).map Prod.fst = es.take (k + 1)) :=
        hid ⟨by rw [List.length_append, HN.out.1]; rfl, by rw [List.length_append, HN.out.2.1]; rfl, by rw [List.map_append, HN.out.2.2, List.take_add_one, HE.out]; rfl⟩
      clear hX5 hX7 hax hne0 hbx6 hown6 hgrow6 hown z1 c0 c1 c2 c3 HX5 HN HE
      go_wp2
      go_roundw
      case rel => exact ⟨k + 1, _, _, _, _, rfl, by omega, HN2, HX7⟩
      case measure => simp [RowKit.intOf]; omega
    · obtain rfl : k = es.length := by omega
      have hN3 := HN.out.2.2
      rw [List.take_length] at hN3
      have HN3 := hid (And.intro HN.out.1 (And.intro HN.out.2.1 hN3))
      clear hkl hk hN3 HN HC HA
      go_wp2_with fail
      go_loopw [9, 44] (fun _ iv wr => ∃ (m : Nat) (wv : Value) (prs : List (EvP × Value)), iv = .int .i64 m ∧ m ≤ ms.length ∧ Hid (us.length = es.length ∧ prs.length = es.length + m ∧ prs.map Prod.fst = es ++ moreEvents (ms.take m)) ∧ Hid (LndE 39 27 w wr wv av es (namesA ms) prs us)) (fun _ iv _ => ms.length - (RowKit.intOf iv).toNat)
      case atStart => exact ⟨0, _, prs, rfl, Nat.zero_le _, hid ⟨HN3.out.1, HN3.out.2.1, by rw [HN3.out.2.2]; exact (List.append_nil _).symm⟩, HX⟩
      case round =>
        clear HX HN3
        obtain ⟨m, wv, prs, rfl, hm', HN, HX⟩ := hrel
        by_cases hml : m < ms.length
        · obtain ⟨q, hq⟩ : ∃ q, ms[m]? = some q := ⟨_, List.getElem?_eq_getElem hml⟩
          obtain ⟨b, o, rfl, d1⟩ := HMC.out m q hq
          have hX := HX.out
          have hbs := hX.be.size
          replace d1 := cell_low d1 hX.be (cell_block d1)
          have hown := hX.r
          rw [HN.out.2.1] at hown
          obtain ⟨wp, wc, rfl⟩ := row_shape hown
          have z1 := cell_at hX.bx (j := 1) rfl
          have hne3 := row_ne hown hX.bx (by decide)
          have hl5 := block_lt hX.bx
          have hlb := cell_block d1
          obtain ⟨j0, hj, hj0, hj1, hj2⟩ := info_parts infoEvent_
          have HN2 : Hid (us.length = es.length ∧ ∀ u, (prs ++ [((⟨3, [], [], q⟩ : EvP), u)]).length = es.length + (m + 1) ∧ (prs ++ [((⟨3, [], [], q⟩ : EvP), u)]).map Prod.fst = es ++ moreEvents (ms.take (m + 1))) :=
            hid ⟨HN.out.1, fun u => ⟨by rw [List.length_append, HN.out.2.1]; rfl, by rw [List.map_append, HN.out.2.2, List.take_add_one, hq]; unfold moreEvents; rw [List.map_append, List.append_assoc]; rfl⟩⟩
          have HPR := hid HN.out.2.1
          have hfl : es.length + m ≤ 4000000 := by omega
          clear hX HN hq
          go_wp2_with fail
          go_region_law (refine step_append_lies _ rfl (.tmp 48) (.tmp 54) 22 rfl w.heap.size 39 j0 (.agg #[.int .i64 0, .string ⟨#[]⟩, .slice none 0 0, .string ⟨#[]⟩]) 4 64 Tryd.underlying22 hj hj0 hj1 hj2 rfl (by decide) (.slice wp (es.length + m) wc) (es.length + m) (ecells prs) (by simp [Act.eval]) (by exact hown.alloc _) ⟨_, 0, none⟩ 1 1 [.int .i64 3, .string ⟨#[]⟩, .slice none 0 0, .string (bs q)] (by simp [Act.eval]) rfl (cells_newV _ _ _) (by simp [Value.oneCell']) (by omega) (by unfold maxLen; omega) (by omega) (by simp; omega) _ rfl ?_; rintro g cap w10 hrow10 hgrow10 - -; have hb10 := grown_at (v := .slice wp (es.length + m) wc) (by exact hgrow10) ((Go.Lib.alloc_old _ _ _ (block_lt HX.out.drew.bx)).trans HX.out.drew.bx) hne3; have ce10 := cell_at (j := 1) hb10 rfl; have fe10 := free_at hb10 1)
          all_goals
            have hG4 := HX.out.drew.ev (x := (⟨3, [], [], q⟩, .slice none 0 0)) (v' := .slice (some ⟨g, 0, none⟩) (es.length + m + 1) cap) lndTEvents (.inl ⟨rfl, rfl⟩) (by exact hgrow10) (by rw [List.length_append, HPR.out, ecells_app]; exact hrow10)
            have HG4 := hid hG4
            clear hG4 hb10 ce10 fe10 hrow10 hgrow10
            go_wp2
            go_roundw
            case rel => exact ⟨m + 1, _, _, rfl, by omega, hid ⟨HN2.out.1, HN2.out.2 _⟩, HG4⟩
            case measure => simp [RowKit.intOf]; omega
        · obtain rfl : m = ms.length := by omega
          have hN3 := HN.out
          rw [List.take_length] at hN3
          have HN3 := hid hN3
          have hX := HX.out
          have hown := hX.r
          rw [hN3.2.1] at hown
          obtain ⟨wp, wc, rfl⟩ := row_shape hown
          obtain ⟨ap, ac, rfl⟩ := row_shape hX.a
          have hcr : es.length ≤ wc := by have := (row_cap hown).2; omega
          have z1 := cell_at hX.bx (j := 1) rfl
          have y0 := free_at hX.bx 0
          have z0 := cell_at hX.bx (j := 0) rfl
          have hB0 := hid hX.b0
          have hBX := hid hX.bx
          have hj := just_put (j := 0) (cs2 := #[.slice wp es.length wc, .slice wp (es.length + ms.length) wc, .slice ap us.length ac]) hX.bx (.slice wp es.length wc) (by simp)
          -- the answer's box, the list's box
          have hb0j := (hj.other w.heap.size (by omega)).trans hX.b0
          have hk8 := three_put hb0j (p0 := .slice wp es.length wc) (p1 := .slice wp (es.length + ms.length) wc) (p2 := .slice ap us.length ac)
          have hbl8 : Below w.heap.size w (((((wr.setCell ⟨w.heap.size + 1, 0, none⟩ (.slice wp es.length wc)).setCell ⟨w.heap.size, 0, none⟩ (.slice wp es.length wc)).setCell ⟨w.heap.size, 1, none⟩ (.slice wp (es.length + ms.length) wc)).setCell ⟨w.heap.size, 2, none⟩ (.slice ap us.length ac))) :=
            (hX.be.trans (just_low hj (by omega))).trans (just_low hk8 (by omega))
          have hrr := ((hX.lst.just lndTEvents hX.bx hj).just lndTEvents hb0j hk8).lent hN3.2.2 hN3.1
          have HF := hid (And.intro hk8.at_ (And.intro hrr hbl8))
          have hatj := hj.at_
          clear hX hk8 hbl8 hrr HX hN3 HN hb0j hown
          have HJ := hid (And.intro hatj hj.other)
          clear hatj hj
          go_upto_region 17 with fail
          have hb0j := (HJ.out.2 w.heap.size (by omega)).trans hB0.out
          have hatj := HJ.out.1
          obtain ⟨W5, hW5⟩ : ∃ W5, wr.setCell ⟨w.heap.size + 1, 0, none⟩ (.slice wp es.length wc) = W5 := ⟨_, rfl⟩
          simp only [hW5] at HF hb0j hatj ⊢
          clear hW5 y0 z0 z1 HJ hB0 hBX
          have z0 := cell_at hatj (j := 0) rfl
          have z1 := cell_at hatj (j := 1) rfl
          have z2 := cell_at hatj (j := 2) rfl
          have x0 := cell_at hb0j (j := 0) rfl
          have x1 := cell_at hb0j (j := 1) rfl
          have x2 := cell_at hb0j (j := 2) rfl
          have y0 := free_at hb0j 0
          have y1 := free_at hb0j 1
          have y2 := free_at hb0j 2
          clear hb0j hatj
          go_wp2_with fail
          obtain ⟨hat8, hl8, hb8⟩ := HF.out
          obtain ⟨W8, hW8⟩ : ∃ W8, ((W5.setCell ⟨w.heap.size, 0, none⟩ (.slice wp es.length wc)).setCell ⟨w.heap.size, 1, none⟩ (.slice wp (es.length + ms.length) wc)).setCell ⟨w.heap.size, 2, none⟩ (.slice ap us.length ac) = W8 := ⟨_, rfl⟩
          simp only [hW8] at hat8 hl8 hb8 ⊢
          clear hW8
          refine bodyPost_ret (v := .agg #[.slice wp es.length wc, .slice wp (es.length + ms.length) wc, .slice ap us.length ac]) ?_ rfl ⟨_, rfl, hl8, hb8⟩
          exact results_cell_row rfl _ _ _ _ _ _ _ rfl hat8 Tryd.underlying27 rfl (by kernel_rfl)

set_option maxHeartbeats 4000000 in
set_option maxRecDepth 100000 in
theorem keptEvents_any (v ev mv : Value) (es : List EvP) (ms : List (List UInt8)) (w : World) (hlt : LentE w v es (moreEvents ms) (namesA ms)) (h : EvsR w ev es) (hM : Words w mv ms) (hl : es.length ≤ 2000000) (ha : ∀ e ∈ es, e.a.length ≤ 2000000) (hm : ms.length ≤ 2000000) :
    Calls Tryd.prog 10 #[v, ev, mv] w fun e w' => e = .returned (.bool true) ∧ Below w.heap.size w w' := by
  obtain ⟨vf, vw, va, rfl, l1, l2, l3⟩ := hlt
  obtain ⟨f1, f2, f3, rfl⟩ := l1.shape
  obtain ⟨w1, w2, w3, rfl⟩ := l2.shape
  obtain ⟨a1, a2, a3, rfl⟩ := l3.shape
  obtain ⟨W0, hW0⟩ : ∃ W0, w.alloc (.cells #[.slice f1 f2 f3, .slice w1 w2 w3, .slice a1 a2 a3] 27) = W0 := ⟨_, rfl⟩
  have hB : Below w.heap.size w W0 := by rw [← hW0]; exact (Below.refl w.heap.size w).alloc (Nat.le_refl _) _
  have b0 : W0.heap[w.heap.size]? = some (.cells #[.slice f1 f2 f3, .slice w1 w2 w3, .slice a1 a2 a3] 27 (0, 0)) := by rw [← hW0]; exact heap_alloc_new w _
  have hlend := lendEvents_any ev mv es ms W0 (h.below hB) (hM.below hB) hl ha hm
  have HL := hid hlend
  have HB := hid (And.intro hB b0)
  have HM := hid (And.intro l2 l3)
  obtain ⟨e1, e2, e3, rfl⟩ := h.shape
  obtain ⟨m1, m2, m3, rfl⟩ := hM.shape
  clear hlend h hM l1 l2 l3 hB b0
  go_enter Tryd.func10, Tryd.ntmps10
  go_upto_region 1 with fail
  clear hW0
  go_wp2_with fail
  refine HL.out.mono ?_
  rintro e W1 ⟨v', rfl, hl', hb1⟩
  obtain ⟨vf, vw, va, rfl, l1, l2, l3⟩ := hl'
  obtain ⟨bf1, bf2, bf3, rfl⟩ := l1.shape
  obtain ⟨bw1, bw2, bw3, rfl⟩ := l2.shape
  obtain ⟨ba1, ba2, ba3, rfl⟩ := l3.shape
  have HL2 := hid (And.intro l2 l3)
  clear l1 l2 l3
  go_upto_region 2 with fail
  have hB0 := HB.out.1
  have hu2 : Below W1.heap.size W1 (W1.alloc (.cells #[.slice bf1 bf2 bf3, .slice bw1 bw2 bw3, .slice ba1 ba2 ba3] 27)) := (Below.refl _ _).alloc (Nat.le_refl _) _
  have hb2 := (hB0.trans (hb1.mono hB0.size)).trans (hu2.mono (Nat.le_trans hB0.size hb1.size))
  have ha2 := (hu2.block _ (Nat.lt_of_lt_of_le (block_lt HB.out.2) hb1.size)).trans ((hb1.block _ (block_lt HB.out.2)).trans HB.out.2)
  have hc2 := heap_alloc_new W1 (.cells #[.slice bf1 bf2 bf3, .slice bw1 bw2 bw3, .slice ba1 ba2 ba3] 27)
  obtain ⟨W2, hW2⟩ : ∃ W2, W1.alloc (.cells #[.slice bf1 bf2 bf3, .slice bw1 bw2 bw3, .slice ba1 ba2 ba3] 27) = W2 := ⟨_, rfl⟩
  simp only [hW2] at hb2 hu2 ha2 hc2 ⊢
  have se := fun n => sameEventsR_any (.slice w1 w2 w3) (.slice bw1 bw2 bw3) (es ++ moreEvents ms) (W2.drewN n) ((HM.out.1.below hb2).drewN n) ((HL2.out.1.below hu2).drewN n)
  have sl := fun n => sameLists_any (.slice a1 a2 a3) (.slice ba1 ba2 ba3) (es.map fun e => e.a ++ namesA ms) (W2.drewN n) ((HM.out.2.below hb2).drewN n) ((HL2.out.2.below hu2).drewN n)
  have SE := hid se
  have SL := hid sl
  have HF := hid hb2
  have z1 := cell_at ha2 (j := 1) rfl
  have z2 := cell_at ha2 (j := 2) rfl
  have x1 := cell_at hc2 (j := 1) rfl
  have x2 := cell_at hc2 (j := 2) rfl
  clear se sl hB0 hb2 hu2 ha2 hc2 hW2 hb1 HB HL HL2 HM
  go_wp2_with fail
  refine (SE.out 0).mono ?_
  rintro e W3 ⟨rfl, n3, rfl⟩
  go_wp2_with fail
  refine (SL.out _).mono ?_
  rintro e W4 ⟨rfl, n4, rfl⟩
  go_wp2_with fail
  go_ret
  exact ⟨rfl, ⟨HF.out.os, HF.out.tape, HF.out.output, HF.out.size, HF.out.block⟩⟩
end Go.Proofs.YtkcgmimldjeaiaaDoor
