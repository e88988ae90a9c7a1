/-
  The reference's lexer by search, piece by piece, is the run. No program is named here.
-/
import Derived.Test.YtkcgmimldjeaiaaDoorTagRef
import Derived.Test.YtkcgmimldjeaiaaDoorLexLaw
namespace Go.Proofs.YtkcgmimldjeaiaaDoor

theorem pass_takes : ∀ (L : List UInt8) (s : Nat), passL s (L.take (passL s L).1) = passL s L
  | [], s => by simp [passL]
  | c :: r, s => by
    by_cases hs : s = 0
    · subst hs; rw [pass_zero]; rfl
    · rw [pass_one hs, List.take_succ_cons, pass_one hs, pass_takes r]
theorem pass_lens : ∀ (L : List UInt8) (s : Nat), (passL s L).1 ≤ L.length
  | [], s => by simp [passL]
  | c :: r, s => by
    by_cases hs : s = 0
    · subst hs; rw [pass_zero]; simp
    · rw [pass_one hs]; have := pass_lens r (nextT s c); simp only [List.length_cons]; omega
theorem pass_all : ∀ (L : List UInt8) (s : Nat), s ≠ 0 → (passL s L).2 ≠ 0 → (passL s L).1 = L.length
  | [], s, _, _ => by simp [passL]
  | c :: r, s, hs, h => by
    rw [pass_one hs] at h ⊢
    simp only at h ⊢
    by_cases hn : nextT s c = 0
    · rw [hn, pass_zero] at h; exact absurd rfl h
    · rw [pass_all r _ hn h]; rfl

/-- does the text begin the end tag: 0 no, 1 it can't be told yet, 2 yes -/
def closeL (whole L : List UInt8) : Nat :=
  if L.length ≤ whole.length then (if (L.map lowC).isPrefixOf whole then 1 else 0)
  else if (L.take whole.length).map lowC = whole ∧ tagE.contains (L.getD whole.length 0) = true then 2 else 0
theorem ends_tag : ∀ c : UInt8, endsC c = tagE.contains c := all8 (by decide +kernel)
theorem close_own : ∀ (o L : List UInt8), closeL o L = ownL o L
  | o, [] => by simp [closeL, ownL]
  | [], c :: r => by
    unfold closeL ownL
    rw [ends_tag]
    simp
  | o :: os, c :: r => by
    have ih := close_own os r
    unfold closeL at ih ⊢
    unfold ownL
    by_cases h : lowC c = o
    · rw [if_pos h, ← ih]
      simp only [List.length_cons, Nat.add_le_add_iff_right, List.map_cons, List.isPrefixOf, h, beq_self_eq_true, Bool.true_and, List.take_succ_cons, List.cons.injEq, true_and, List.getD_cons_succ]
    · rw [if_neg h]
      have hb : (lowC c == o) = false := beq_eq_false_iff_ne.2 h
      simp [hb, h, List.isPrefixOf]

def tagPieceL (W : Nat) (L : List UInt8) (k : Nat) : Nat × Nat :=
  if (passL 3 (L.drop k)).2 ≠ 0 ∧ L.length ≤ W then (0, 0)
  else ((if k = 2 then 3 else 2) + (if W < k + (passL 3 (L.drop k)).1 then 2 else 0), k + (passL 3 (L.drop k)).1)
def runPieceL (L : List UInt8) : Nat × Nat := match refEnd L with
  | none => (0, 0)
  | some e => (1, e)
def dataPieceL (W : Nat) (L : List UInt8) : Nat × Nat :=
  if L = [60] ∨ L = [60, 47] ∨ L = [60, 33] ∨ L = [60, 33, 45] then (0, 0)
  else if letterC (L.getD 1 0) then tagPieceL W L 1
  else if L.getD 1 0 = 47 ∧ letterC (L.getD 2 0) = true then tagPieceL W L 2
  else if [60, 33, 45, 45] <+: L then (6, 2)
  else if L.getD 1 0 = 47 ∨ L.getD 1 0 = 33 ∨ L.getD 1 0 = 63 then (7, 2)
  else (1, 1)
/-- what stands at the front, and its length -/
def pieceL (W mode : Nat) (L : List UInt8) : Nat × Nat :=
  if mode = 10 then (8, L.length)
  else if mode < 2 ∧ L.getD 0 0 = 38 then runPieceL L
  else if L.getD 0 0 ≠ 60 ∧ mode < 2 then (1, 1)
  else if L.getD 0 0 ≠ 60 then (8, 1)
  else if mode = 0 then dataPieceL W L
  else if ownL (60 :: 47 :: rawL mode) L = 1 then (0, 0)
  else if ownL (60 :: 47 :: rawL mode) L = 2 then tagPieceL W L 2
  else if mode = 1 then (1, 1) else (8, 1)
/-- what a told piece comes to -/
def toldL (kind : Nat) (S : List UInt8) (st : LS) : LS × List Item :=
  if kind = 1 then (noEat st, unitL2 st (unr false S))
  else if kind = 6 then (⟨st.mode, 1, false⟩, [])
  else if kind = 7 then (⟨st.mode, 2, false⟩, [])
  else if kind = 3 ∨ kind = 5 then (⟨0, (tagAtL (S.drop 2)).2.2.2, false⟩, if kind = 3 then [.stop (tagAtL (S.drop 2)).1] else [])
  else if kind = 2 ∨ kind = 4 then (⟨insideL (tagAtL (S.drop 1)).1, (tagAtL (S.drop 1)).2.2.2, eatsL (tagAtL (S.drop 1)).1⟩, if kind = 2 then [.start (tagAtL (S.drop 1)).1 (tagAtL (S.drop 1)).2.1] else [])
  else (st, [])

/-- what a piece has to do with a step -/
def PieceOk (st : LS) (L : List UInt8) (r : Res) (x : Nat × Nat) : Prop :=
  (x.1 = 0 → r = .more 0 st) ∧ (x.1 ≠ 0 → (0 < x.2 ∧ x.2 ≤ L.length) ∧ r = .done x.2 (toldL x.1 (L.take x.2) st).1 (toldL x.1 (L.take x.2) st).2)
theorem tag_piece (W k : Nat) (hk : k = 1 ∨ k = 2) (st : LS) (L : List UInt8) (hkl : k ≤ L.length) : PieceOk st L (tagL W k L st) (tagPieceL W L k) := by
  have hle := pass_lens (L.drop k) 3
  have hall := pass_all (L.drop k) 3 (by decide)
  have hT0 := pass_takes (L.drop k) 3
  rw [List.length_drop] at hle hall
  have e1 : tagPieceL W L k = if (passL 3 (L.drop k)).2 ≠ 0 ∧ L.length ≤ W then (0, 0)
    else ((if k = 2 then 3 else 2) + (if W < k + (passL 3 (L.drop k)).1 then 2 else 0), k + (passL 3 (L.drop k)).1) := rfl
  have e2 : tagL W k L st = if k + (passL 3 (L.drop k)).1 ≤ W ∧ (passL 3 (L.drop k)).2 ≠ 0 then .more 0 st
    else .done (k + (passL 3 (L.drop k)).1) ⟨if k = 1 then insideL (tagNameL ((L.drop k).take (passL 3 (L.drop k)).1)) else 0, (passL 3 (L.drop k)).2, if k = 1 then eatsL (tagNameL ((L.drop k).take (passL 3 (L.drop k)).1)) else false⟩
      (if k + (passL 3 (L.drop k)).1 ≤ W then (if k = 1 then [.start (tagNameL ((L.drop k).take (passL 3 (L.drop k)).1)) (attrsL 3 [] [] ((L.drop k).take (passL 3 (L.drop k)).1))] else [.stop (tagNameL ((L.drop k).take (passL 3 (L.drop k)).1))]) else []) := rfl
  rw [e1, e2]
  clear e1 e2
  obtain ⟨p, hp⟩ : ∃ p, passL 3 (L.drop k) = p := ⟨_, rfl⟩
  rw [hp] at hle hall hT0 ⊢
  have hd : (L.take (k + p.1)).drop k = (L.drop k).take p.1 := by rw [List.drop_take]; congr 1; omega
  have hlen : ((L.drop k).take p.1).length = p.1 := by rw [List.length_take, List.length_drop]; omega
  have hTT : ((L.drop k).take p.1).take p.1 = (L.drop k).take p.1 := List.take_of_length_le (by omega)
  obtain ⟨t1, t2, t3, t4, t5⟩ := tagAt_ok ((L.drop k).take p.1)
  rw [hT0] at t1 t2 t3 t4 t5
  rw [hTT] at t1 t5
  generalize (L.drop k).take p.1 = T at *
  by_cases hz : p.2 = 0
  · rw [if_neg (show ¬ (k + p.1 ≤ W ∧ p.2 ≠ 0) from fun h => h.2 hz), if_neg (show ¬ (p.2 ≠ 0 ∧ L.length ≤ W) from fun h => h.1 hz)]
    refine ⟨fun h => ?_, fun _ => ?_⟩
    · simp only at h; split at h <;> split at h <;> omega
    · refine ⟨⟨by simp only; omega, by simp only; omega⟩, ?_⟩
      rcases hk with rfl | rfl
      · by_cases hw : 1 + p.1 ≤ W
        · simp only [if_true, if_pos hw, if_neg (show ¬ W < 1 + p.1 by omega), toldL, hd, t1, t4, t5 hz]
          rfl
        · simp only [if_true, if_neg hw, if_pos (show W < 1 + p.1 by omega), toldL, hd, t1, t4]
          rfl
      · by_cases hw : 2 + p.1 ≤ W
        · simp only [if_true, if_pos hw, if_neg (show ¬ W < 2 + p.1 by omega), toldL, hd, t1, t4]
          rfl
        · simp only [if_true, if_neg hw, if_pos (show W < 2 + p.1 by omega), toldL, hd, t4]
          rfl
  · have hp1 := hall hz
    by_cases hw : L.length ≤ W
    · rw [if_pos (show k + p.1 ≤ W ∧ p.2 ≠ 0 from ⟨by omega, hz⟩), if_pos (show p.2 ≠ 0 ∧ L.length ≤ W from ⟨hz, hw⟩)]
      exact ⟨fun _ => rfl, fun h => absurd rfl h⟩
    · have hw2 : ¬ k + p.1 ≤ W := by omega
      rw [if_neg (show ¬ (k + p.1 ≤ W ∧ p.2 ≠ 0) from fun h => hw2 h.1), if_neg (show ¬ (p.2 ≠ 0 ∧ L.length ≤ W) from fun h => hw h.2), if_pos (show W < k + p.1 by omega)]
      refine ⟨fun h => ?_, fun _ => ?_⟩
      · simp only at h; split at h <;> omega
      · refine ⟨⟨by simp only; omega, by simp only; omega⟩, ?_⟩
        rcases hk with rfl | rfl
        · simp only [if_true, if_neg hw2, toldL, hd, t1, t4]
          rfl
        · simp only [if_true, if_neg hw2, toldL, hd, t4]
          rfl
theorem unit_piece (st : LS) (c : UInt8) (r : List UInt8) (hc : c ≠ 38) : PieceOk st (c :: r) (byteRes st c) (1, 1) := by
  refine ⟨fun h => absurd h (by decide), fun _ => ⟨⟨by decide, by simp⟩, ?_⟩⟩
  show byteRes st c = .done 1 (toldL 1 [c] st).1 (toldL 1 [c] st).2
  unfold toldL byteRes
  rw [if_pos rfl, unr_other false c [] hc, unr_nil]
theorem ref_piece (st : LS) (L : List UInt8) (hL : L ≠ []) : PieceOk st L (refRes st L) (runPieceL L) := by
  unfold refRes runPieceL
  cases he : refEnd L with
  | none => exact ⟨fun _ => rfl, fun h => absurd rfl h⟩
  | some e =>
    obtain ⟨a1, a2, _⟩ := ref_stable he hL []
    refine ⟨fun h => absurd h (by simp), fun _ => ⟨⟨a1, a2⟩, ?_⟩⟩
    unfold toldL
    rw [if_pos rfl]
theorem data_piece (W : Nat) (st : LS) (r : List UInt8) : PieceOk st (60 :: r) (markupRes W st (60 :: r)) (dataPieceL W (60 :: r)) := by
  unfold markupRes dataPieceL
  by_cases h1 : (60 :: r : List UInt8) = [60] ∨ (60 :: r : List UInt8) = [60, 47] ∨ (60 :: r : List UInt8) = [60, 33] ∨ (60 :: r : List UInt8) = [60, 33, 45]
  · rw [if_pos h1, if_pos h1]
    exact ⟨fun _ => rfl, fun h => absurd rfl h⟩
  · rw [if_neg h1, if_neg h1]
    by_cases h2 : letterC ((60 :: r).getD 1 0) = true
    · rw [if_pos h2, if_pos h2]
      exact tag_piece W 1 (.inl rfl) st _ (by simp)
    · rw [if_neg h2, if_neg h2]
      by_cases h3 : (60 :: r).getD 1 0 = 47 ∧ letterC ((60 :: r).getD 2 0) = true
      · rw [if_pos h3, if_pos h3]
        refine tag_piece W 2 (.inr rfl) st _ ?_
        cases r with
        | nil => exact absurd (.inl rfl) h1
        | cons x y => simp
      · rw [if_neg h3, if_neg h3]
        by_cases h4 : [60, 33, 45, 45] <+: 60 :: r
        · rw [if_pos h4, if_pos h4]
          refine ⟨fun h => absurd h (by decide), fun _ => ⟨⟨by decide, ?_⟩, ?_⟩⟩
          · have := h4.length_le
            simp only [List.length_cons] at this ⊢
            omega
          unfold toldL
          rw [if_neg (by decide), if_pos rfl]
        · rw [if_neg h4, if_neg h4]
          by_cases h5 : (60 :: r).getD 1 0 = 33 ∨ (60 :: r).getD 1 0 = 63 ∨ (60 :: r).getD 1 0 = 47
          · rw [if_pos h5, if_pos (h5.elim (fun h => .inr (.inl h)) (fun h => h.elim (fun h => .inr (.inr h)) .inl))]
            refine ⟨fun h => absurd h (by decide), fun _ => ⟨⟨by decide, ?_⟩, ?_⟩⟩
            · cases r with
              | nil => exact absurd (.inl rfl) h1
              | cons x y => simp
            unfold toldL
            rw [if_neg (by decide), if_neg (by decide), if_pos rfl]
          · rw [if_neg h5, if_neg (fun h => h5 (h.elim (fun h => .inr (.inr h)) (fun h => h.elim .inl (fun h => .inr (.inl h)))))]
            exact unit_piece st 60 r (by decide)
/-- the step that a piece is: as the reader's, but that a byte which is passed in a raw text is a step of its own -/
theorem piece_step (W : Nat) (st : LS) (hs : st.scan = 0) (c : UInt8) (r : List UInt8) (hraw : st.mode < 2 ∨ st.mode = 10 ∨ c = 60) : PieceOk st (c :: r) (stepL W st (c :: r)) (pieceL W st.mode (c :: r)) := by
  have hst : stepL W st (c :: r) = if st.mode = 0 then dataRes W st (c :: r) else if st.mode = 1 then areaRes W st (c :: r) else rawRes W st (c :: r) := by
    unfold stepL
    rw [if_neg (by omega), if_neg (by omega), if_neg (by omega)]
  have h0 : (c :: r).getD 0 0 = c := rfl
  have hpc : pieceL W st.mode (c :: r) = if st.mode = 10 then (8, (c :: r).length)
    else if st.mode < 2 ∧ c = 38 then runPieceL (c :: r)
    else if c ≠ 60 ∧ st.mode < 2 then (1, 1)
    else if c ≠ 60 then (8, 1)
    else if st.mode = 0 then dataPieceL W (c :: r)
    else if ownL (60 :: 47 :: rawL st.mode) (c :: r) = 1 then (0, 0)
    else if ownL (60 :: 47 :: rawL st.mode) (c :: r) = 2 then tagPieceL W (c :: r) 2
    else if st.mode = 1 then (1, 1) else (8, 1) := rfl
  have own_ok : ∀ r' : List UInt8, PieceOk st (60 :: r') (if ownL (60 :: 47 :: rawL st.mode) (60 :: r') = 1 then .more 0 st else if ownL (60 :: 47 :: rawL st.mode) (60 :: r') = 2 then tagL W 2 (60 :: r') st else if st.mode = 1 then byteRes st 60 else .done 1 st [])
      (if ownL (60 :: 47 :: rawL st.mode) (60 :: r') = 1 then (0, 0) else if ownL (60 :: 47 :: rawL st.mode) (60 :: r') = 2 then tagPieceL W (60 :: r') 2 else if st.mode = 1 then (1, 1) else (8, 1)) := fun r' => by
    by_cases ho : ownL (60 :: 47 :: rawL st.mode) (60 :: r') = 1
    · simp only [if_pos ho]; exact ⟨fun _ => rfl, fun h => absurd rfl h⟩
    · simp only [if_neg ho]
      by_cases ho2 : ownL (60 :: 47 :: rawL st.mode) (60 :: r') = 2
      · simp only [if_pos ho2]
        refine tag_piece W 2 (.inr rfl) st _ ?_
        have := own_two _ _ ho2
        simp only [List.length_cons] at this ⊢
        omega
      · simp only [if_neg ho2]
        by_cases hm1 : st.mode = 1
        · simp only [if_pos hm1]
          exact unit_piece st 60 r' (by decide)
        · simp only [if_neg hm1]
          exact ⟨fun h => absurd h (by decide), fun _ => ⟨⟨by decide, by simp⟩, rfl⟩⟩
  by_cases h10 : st.mode = 10
  · rw [hpc, if_pos h10, hst, if_neg (show ¬ st.mode = 0 by omega), if_neg (show ¬ st.mode = 1 by omega)]
    have hr : rawRes W st (c :: r) = .done (c :: r).length st [] := by
      unfold rawRes
      split
      · rfl
      · rw [if_pos h10]
    rw [hr]
    exact ⟨fun h => absurd h (by simp), fun _ => ⟨⟨by simp, Nat.le_refl _⟩, rfl⟩⟩
  · rw [hpc, if_neg h10]
    by_cases hm : st.mode < 2
    · have hs2 : ∀ R, (st.mode = 0 → dataRes W st (c :: r) = R) → (st.mode = 1 → areaRes W st (c :: r) = R) → stepL W st (c :: r) = R := fun R f0 f1 => by
        rw [hst]
        by_cases hm0 : st.mode = 0
        · rw [if_pos hm0]; exact f0 hm0
        · rw [if_neg hm0, if_pos (by omega)]; exact f1 (by omega)
      by_cases h38 : c = 38
      · subst h38
        rw [if_pos ⟨hm, rfl⟩, hs2 (refRes st (38 :: r)) (fun _ => rfl) (fun _ => rfl)]
        exact ref_piece st _ (by simp)
      · rw [if_neg (fun h => h38 h.2)]
        by_cases h60 : c = 60
        · subst h60
          rw [if_neg (fun h => h.1 rfl), if_neg (fun h => h rfl)]
          by_cases hm0 : st.mode = 0
          · rw [if_pos hm0, hs2 (markupRes W st (60 :: r)) (fun _ => rfl) (fun h => by omega)]
            exact data_piece W st r
          · rw [if_neg hm0]
            have hm1 : st.mode = 1 := by omega
            have hown := own_ok r
            rw [hs2 _ (fun h => absurd h hm0) (fun _ => (show areaRes W st (60 :: r) = if ownL (60 :: 47 :: rawL 1) (60 :: r) = 1 then .more 0 st else if ownL (60 :: 47 :: rawL 1) (60 :: r) = 2 then tagL W 2 (60 :: r) st else byteRes st 60 from rfl))]
            simp only [hm1, if_true] at hown ⊢
            exact hown
        · rw [if_pos ⟨h60, hm⟩, hs2 (byteRes st c) (fun _ => by unfold dataRes; rw [h0, if_neg h60, if_neg h38]) (fun _ => by unfold areaRes; rw [h0, if_neg h60, if_neg h38])]
          exact unit_piece st c r h38
    · obtain rfl : c = 60 := hraw.elim (fun h => absurd h hm) (fun h => h.elim (fun h => absurd h h10) id)
      rw [if_neg (fun h => hm h.1), if_neg (fun h => hm h.2), if_neg (fun h => h rfl), if_neg (show ¬ st.mode = 0 by omega), hst, if_neg (show ¬ st.mode = 0 by omega), if_neg (show ¬ st.mode = 1 by omega)]
      have ha : rawRes W st (60 :: r) = if ownL (60 :: 47 :: rawL st.mode) (60 :: r) = 1 then .more 0 st else if ownL (60 :: 47 :: rawL st.mode) (60 :: r) = 2 then tagL W 2 (60 :: r) st else .done 1 st [] := by
        rw [raw_at h10 0 rfl]
        simp only [List.drop_zero, shift_zero]
      have hown := own_ok r
      have hm1 : ¬ st.mode = 1 := by omega
      simp only [if_neg hm1] at hown ⊢
      rw [ha]
      exact hown
/-- a byte that is passed in a raw text -/
theorem raw_pass {W : Nat} (hW : 32 ≤ W) (st : LS) (hs : st.scan = 0) (hm : 2 ≤ st.mode) (h10 : st.mode ≠ 10) (c : UInt8) (r : List UInt8) (hc : c ≠ 60) : runL W st (c :: r) = runL W st r := by
  have hst : ∀ L, stepL W st L = rawRes W st L := fun L => by
    unfold stepL
    rw [if_neg (by omega), if_neg (by omega), if_neg (by omega), if_neg (by omega), if_neg (by omega)]
  have hb : byteIdx 60 (c :: r) = (byteIdx 60 r).map (· + 1) := by
    show (if c = 60 then some 0 else _) = _
    rw [if_neg hc]
  cases hi : byteIdx 60 r with
  | none =>
    have h1 : stepL W st (c :: r) = .done (c :: r).length st [] := by
      rw [hst]; unfold rawRes; rw [hb, hi]; rfl
    rw [run_done hW (by omega) (by simp) h1, List.drop_length, run_nil]
    cases r with
    | nil => rfl
    | cons x y =>
      have h2 : stepL W st (x :: y) = .done (x :: y).length st [] := by
        rw [hst]; unfold rawRes; rw [hi]
      rw [run_done hW (by omega) (by simp) h2, List.drop_length, run_nil]
  | some i =>
    have hr : r ≠ [] := by rintro rfl; simp [byteIdx] at hi
    refine run_shift hW (by omega) (by omega) (n := 1) hr (by simp) rfl ?_
    rw [hst, hst, raw_at h10 (i + 1) (by rw [hb, hi]; rfl), raw_at h10 i hi]
    simp only [List.drop_succ_cons]
    split
    · simp [Res.shift]; omega
    · split
      · rw [shift_shift, Nat.add_comm]
      · simp [Res.shift]; omega
theorem told_ok {kind : Nat} {S : List UInt8} {st : LS} (h0 : st.scan = 0) (hm : st.mode ≤ 10) : (toldL kind S st).1.scan ≤ 10 ∧ (toldL kind S st).1.mode ≤ 10 := by
  have hp : ∀ L : List UInt8, (tagAtL L).2.2.2 ≤ 10 := fun L => by
    rw [(tagAt_ok L).2.2.2.1]
    have := pass_range L 3 (.inr ⟨by omega, by omega⟩)
    omega
  unfold toldL
  split
  · exact ⟨by show st.scan ≤ 10; omega, hm⟩
  · split
    · exact ⟨by show (1 : Nat) ≤ 10; decide, hm⟩
    · split
      · exact ⟨by show (2 : Nat) ≤ 10; decide, hm⟩
      · split
        · exact ⟨hp _, by show (0 : Nat) ≤ 10; decide⟩
        · split
          · exact ⟨hp _, inside_le _⟩
          · exact ⟨by show st.scan ≤ 10; omega, hm⟩
theorem told_run {W : Nat} (hW : 32 ≤ W) (st : LS) (hs : st.scan = 0) (hm : st.mode ≤ 10) (L : List UInt8) (hL : L ≠ []) : ((pieceL W st.mode L).1 = 0 → runL W st L = (st, L, [])) ∧
    ((pieceL W st.mode L).1 ≠ 0 → 0 < (pieceL W st.mode L).2 ∧ (pieceL W st.mode L).2 ≤ L.length ∧ ∃ st' it, toldL (pieceL W st.mode L).1 (L.take (pieceL W st.mode L).2) st = (st', it) ∧ st'.scan ≤ 10 ∧ st'.mode ≤ 10 ∧
      runL W st L = ((runL W st' (L.drop (pieceL W st.mode L).2)).1, (runL W st' (L.drop (pieceL W st.mode L).2)).2.1, it ++ (runL W st' (L.drop (pieceL W st.mode L).2)).2.2)) := by
  obtain ⟨c, r, rfl⟩ : ∃ c r, L = c :: r := by cases L with | nil => exact absurd rfl hL | cons c r => exact ⟨c, r, rfl⟩
  by_cases hraw : st.mode < 2 ∨ st.mode = 10 ∨ c = 60
  · obtain ⟨k0, k1⟩ := piece_step W st hs c r hraw
    refine ⟨fun h => ?_, fun h => ?_⟩
    · rw [run_more hL (k0 h)]; rfl
    · obtain ⟨⟨a1, a2⟩, a3⟩ := k1 h
      have ho := told_ok (kind := (pieceL W st.mode (c :: r)).1) (S := (c :: r).take (pieceL W st.mode (c :: r)).2) hs hm
      exact ⟨a1, a2, _, _, rfl, ho.1, ho.2, run_done hW (by omega) hL a3⟩
  · have h1 : 2 ≤ st.mode := Nat.le_of_not_lt (fun h => hraw (.inl h))
    have h2 : st.mode ≠ 10 := fun h => hraw (.inr (.inl h))
    have h3 : c ≠ 60 := fun h => hraw (.inr (.inr h))
    have hp : pieceL W st.mode (c :: r) = (8, 1) := by
      have h0 : (c :: r).getD 0 0 = c := rfl
      unfold pieceL
      rw [if_neg h2, if_neg (show ¬ (st.mode < 2 ∧ _) from fun h => by omega), if_neg (show ¬ (_ ∧ st.mode < 2) from fun h => by omega), if_pos (show (c :: r).getD 0 0 ≠ 60 from h3)]
    rw [hp]
    refine ⟨fun h => absurd h (by decide), fun _ => ⟨by decide, by simp, st, [], rfl, by omega, hm, ?_⟩⟩
    show runL W st (c :: r) = ((runL W st r).1, (runL W st r).2.1, [] ++ (runL W st r).2.2)
    rw [raw_pass hW st hs h1 h2 c r h3]
    rfl
end Go.Proofs.YtkcgmimldjeaiaaDoor
