/-
  Feeding a text in pieces, as the plain lexer has it: what a run leaves, how much it tells, and that the pieces' events are those of the whole.
-/
import Derived.Test.YtkcgmimldjeaiaaDoorLexFind
namespace Go.Proofs.YtkcgmimldjeaiaaDoor

theorem run_ind {W : Nat} (hW : 32 ≤ W) (P : LS → List UInt8 → LS × List UInt8 × List Item → Prop) (h0 : ∀ st, P st [] (st, [], []))
    (hm : ∀ st L n st', st.scan ≤ 10 → L ≠ [] → stepL W st L = .more n st' → P st L (st', L.drop n, []))
    (hd : ∀ st L n st' it R, st.scan ≤ 10 → L ≠ [] → stepL W st L = .done n st' it → P st' (L.drop n) R → P st L (R.1, R.2.1, it ++ R.2.2)) :
    ∀ (N : Nat) (st : LS) (L : List UInt8), st.scan ≤ 10 → L.length ≤ N → P st L (runL W st L)
  | _, st, [], _, _ => by rw [run_nil]; exact h0 st
  | 0, st, c :: r, _, h => by simp at h
  | N + 1, st, c :: r, hs, h => by
    cases hst : stepL W st (c :: r) with
    | more n st' => rw [run_more (by simp) hst]; exact hm st _ n st' hs (by simp) hst
    | done n st' it =>
      obtain ⟨h1, h2, h3⟩ := step_pos hW hs (by simp) hst
      rw [run_done hW hs (by simp) hst]
      exact hd st _ n st' it _ hs (by simp) hst (run_ind hW P h0 hm hd N st' _ h3 (by rw [List.length_drop]; omega))

theorem insF_le (name : List UInt8) : ∀ (l : List (List UInt8)) (i : Nat), insF name i l = 0 ∨ insF name i l < i + l.length
  | [], i => .inl rfl
  | x :: r, i => by
    unfold insF
    split
    · exact .inr (by simp)
    · rcases insF_le name r (i + 1) with h | h
      · exact .inl h
      · exact .inr (by rw [List.length_cons]; omega)
theorem inside_le (name : List UInt8) : insideL name ≤ 10 := by
  rcases insF_le name rawNames 1 with h | h
  · unfold insideL; omega
  · have : rawNames.length = 10 := rfl
    unfold insideL
    omega
theorem tag_mode {W k : Nat} {L : List UInt8} {st : LS} (hm : st.mode ≤ 10) : (∀ n st', tagL W k L st = .more n st' → st'.mode ≤ 10) ∧ ∀ n st' it, tagL W k L st = .done n st' it → st'.mode ≤ 10 := by
  unfold tagL
  simp only
  split
  · exact ⟨fun n st' h => by cases h; exact hm, fun n st' it h => by cases h⟩
  · refine ⟨fun n st' h => (by cases h), fun n st' it h => ?_⟩
    simp only [Res.done.injEq] at h
    rw [← h.2.1]
    split
    · exact inside_le _
    · exact Nat.zero_le _
theorem ref_mode {L : List UInt8} {st : LS} (hm : st.mode ≤ 10) : (∀ n st', refRes st L = .more n st' → st'.mode ≤ 10) ∧ ∀ n st' it, refRes st L = .done n st' it → st'.mode ≤ 10 := by
  unfold refRes
  split
  · exact ⟨fun n st' h => by cases h; exact hm, fun n st' it h => by cases h⟩
  · exact ⟨fun n st' h => (by cases h), fun n st' it h => by cases h; exact hm⟩
theorem byte_mode {c : UInt8} {st : LS} (hm : st.mode ≤ 10) : (∀ n st', byteRes st c = .more n st' → st'.mode ≤ 10) ∧ ∀ n st' it, byteRes st c = .done n st' it → st'.mode ≤ 10 :=
  ⟨fun n st' h => (by cases h), fun n st' it h => by cases h; exact hm⟩
theorem step_mode {W : Nat} {L : List UInt8} {st : LS} (hm : st.mode ≤ 10) : (∀ n st', stepL W st L = .more n st' → st'.mode ≤ 10) ∧ ∀ n st' it, stepL W st L = .done n st' it → st'.mode ≤ 10 := by
  unfold stepL
  split
  · unfold commentRes
    split
    · exact ⟨fun n st' h => (by cases h), fun n st' it h => by cases h; exact hm⟩
    · exact ⟨fun n st' h => by cases h; exact hm, fun n st' it h => by cases h⟩
  · split
    · unfold bogusRes
      split
      · exact ⟨fun n st' h => (by cases h), fun n st' it h => by cases h; exact hm⟩
      · exact ⟨fun n st' h => by cases h; exact hm, fun n st' it h => by cases h⟩
    · split
      · unfold skipTagRes
        exact ⟨fun n st' h => (by cases h), fun n st' it h => by cases h; exact hm⟩
      · split
        · unfold dataRes
          split
          · unfold markupRes
            split
            · exact ⟨fun n st' h => by cases h; exact hm, fun n st' it h => by cases h⟩
            · split
              · exact tag_mode hm
              · split
                · exact tag_mode hm
                · split
                  · exact ⟨fun n st' h => (by cases h), fun n st' it h => by cases h; exact hm⟩
                  · split
                    · exact ⟨fun n st' h => (by cases h), fun n st' it h => by cases h; exact hm⟩
                    · exact byte_mode hm
          · split
            · exact ref_mode hm
            · exact byte_mode hm
        · split
          · unfold areaRes
            split
            · simp only
              split
              · exact ⟨fun n st' h => by cases h; exact hm, fun n st' it h => by cases h⟩
              · split
                · exact tag_mode hm
                · exact byte_mode hm
            · split
              · exact ref_mode hm
              · exact byte_mode hm
          · unfold rawRes
            split
            · exact ⟨fun n st' h => (by cases h), fun n st' it h => by cases h; exact hm⟩
            · rename_i i hi
              split
              · exact ⟨fun n st' h => (by cases h), fun n st' it h => by cases h; exact hm⟩
              · simp only
                split
                · exact ⟨fun n st' h => by cases h; exact hm, fun n st' it h => by cases h⟩
                · split
                  · have ht := tag_mode (W := W) (k := 2) (L := L.drop i) (st := st) hm
                    cases hr : tagL W 2 (L.drop i) st with
                    | more m s =>
                      refine ⟨fun n st' h => ?_, fun n st' it h => by cases h⟩
                      cases h
                      exact ht.1 _ _ hr
                    | done m s it2 =>
                      refine ⟨fun n st' h => (by cases h), fun n st' it h => ?_⟩
                      cases h
                      exact ht.2 _ _ _ hr
                  · exact ⟨fun n st' h => (by cases h), fun n st' it h => by cases h; exact hm⟩
theorem run_mode {W : Nat} (hW : 32 ≤ W) (st : LS) (L : List UInt8) (h0 : st.scan ≤ 10) (hm : st.mode ≤ 10) : (runL W st L).1.mode ≤ 10 :=
  run_ind hW (fun st _ R => st.mode ≤ 10 → R.1.mode ≤ 10) (fun _ h => h) (fun _ _ _ _ _ _ h hm => (step_mode hm).1 _ _ h) (fun _ _ _ _ _ _ _ _ h ih hm => ih ((step_mode hm).2 _ _ _ h)) L.length st L h0 (Nat.le_refl _) hm
theorem run_rest {W : Nat} (hW : 32 ≤ W) (st : LS) (L : List UInt8) (h0 : st.scan ≤ 10) : (runL W st L).2.1.length ≤ L.length ∧ (runL W st L).2.1 = L.drop (L.length - (runL W st L).2.1.length) := by
  refine run_ind hW (fun _ L R => R.2.1.length ≤ L.length ∧ R.2.1 = L.drop (L.length - R.2.1.length)) (fun _ => ⟨Nat.le_refl _, rfl⟩) ?_ ?_ L.length st L h0 (Nat.le_refl _)
  · intro st L n st' hs hL h
    obtain ⟨h1, -⟩ := step_more hW hs hL h
    refine ⟨by simp only [List.length_drop]; omega, ?_⟩
    simp only [List.length_drop]
    rw [show L.length - (L.length - n) = n by omega]
  · intro st L n st' it R hs hL h ih
    obtain ⟨h1, h2, -⟩ := step_pos hW hs hL h
    obtain ⟨i1, i2⟩ := ih
    rw [List.length_drop] at i1 i2
    refine ⟨by simp only; omega, ?_⟩
    simp only
    rw [List.drop_drop] at i2
    rw [show L.length - R.2.1.length = n + (L.length - n - R.2.1.length) by omega]
    exact i2
theorem run_grow {W : Nat} (hW : 32 ≤ W) (st : LS) (L : List UInt8) (h0 : st.scan ≤ 10) (s : List Ev × List UInt8) :
    (putAll s (runL W st L).2.2).1.length ≤ s.1.length + 2 * (L.length - (runL W st L).2.1.length) ∧ (putAll s (runL W st L).2.2).2.length ≤ s.2.length + 4 * (L.length - (runL W st L).2.1.length) := by
  refine (run_ind hW (fun _ L R => R.2.1.length ≤ L.length ∧ ∀ s, (putAll s R.2.2).1.length ≤ s.1.length + 2 * (L.length - R.2.1.length) ∧ (putAll s R.2.2).2.length ≤ s.2.length + 4 * (L.length - R.2.1.length)) (fun _ => ⟨Nat.le_refl _, fun s => ⟨Nat.le_add_right _ _, Nat.le_add_right _ _⟩⟩) ?_ ?_ L.length st L h0 (Nat.le_refl _)).2 s
  · intro st L n st' hs hL h
    exact ⟨by simp only [List.length_drop]; omega, fun s => ⟨Nat.le_add_right _ _, Nat.le_add_right _ _⟩⟩
  · intro st L n st' it R hs hL h ih
    obtain ⟨h1, h2, -⟩ := step_pos hW hs hL h
    obtain ⟨i0, i3⟩ := ih
    rw [List.length_drop] at i0
    refine ⟨by simp only; omega, fun s => ?_⟩
    obtain ⟨g1, g2⟩ := small_put (step_small h) h1 s
    obtain ⟨i1, i2⟩ := i3 (putAll s it)
    simp only
    rw [putAll_app]
    rw [List.length_drop] at i1 i2
    omega

/-! ## the law -/

def st0 : LS := ⟨0, 0, false⟩
structure Fed (W : Nat) (whole : List UInt8) (st : LS) (held : List UInt8) (all : List Ev) : Prop where
  it : ∃ items, runL W st0 whole = (st, held, items) ∧ joinEv all = joinEv (items.map toEv)
theorem Fed.next {W : Nat} (hW : 32 ≤ W) {whole : List UInt8} {st : LS} {held : List UInt8} {all : List Ev} (h : Fed W whole st held all) (p : List UInt8) :
    Fed W (whole ++ p) (runL W st (held ++ p)).1 (runL W st (held ++ p)).2.1 (all ++ evsL (runL W st (held ++ p)).2.2) := by
  obtain ⟨items, h1, h2⟩ := h.it
  have hc := run_cut hW whole.length st0 whole p (by decide) (Nat.le_refl _)
  have hs : st.scan ≤ 10 := by have := run_scan hW whole.length st0 whole (by decide) (Nat.le_refl _); rw [h1] at this; exact this
  rw [h1] at hc
  exact ⟨_, hc, evs_append items _ (run_full hW _ st _ hs (Nat.le_refl _)) all h2⟩
theorem Fed.first {W : Nat} (_hW : 32 ≤ W) : Fed W [120] (runL W st0 [120]).1 (runL W st0 [120]).2.1 (evsL (runL W st0 [120]).2.2) :=
  ⟨(runL W st0 [120]).2.2, rfl, by rw [evs_join _ (run_full _hW _ st0 _ (by decide) (Nat.le_refl _)), join_idem]⟩
theorem Fed.small {W : Nat} (hW : 32 ≤ W) {whole : List UInt8} {st : LS} {held : List UInt8} {all : List Ev} (h : Fed W whole st held all) : held.length ≤ W ∧ held.length ≤ whole.length ∧ st.scan ≤ 10 ∧ st.mode ≤ 10 := by
  obtain ⟨items, h1, h2⟩ := h.it
  have a := run_held hW whole.length st0 whole (by decide) (Nat.le_refl _)
  have b := (run_rest hW st0 whole (by decide)).1
  have c := run_scan hW whole.length st0 whole (by decide) (Nat.le_refl _)
  have d := run_mode hW st0 whole (by decide) (by decide)
  rw [h1] at a b c d
  exact ⟨a, b, c, d⟩
theorem Fed.last {W : Nat} (hW : 32 ≤ W) {whole : List UInt8} {st : LS} {held : List UInt8} {all : List Ev} (h : Fed W whole st held all) :
    runL W st held = (st, held, []) ∧ joinEv (all ++ evsL (endL st held)) = evsL (wholeL W st0 whole) := by
  obtain ⟨items, h1, h2⟩ := h.it
  have ha := run_again hW st0 whole (by decide)
  rw [h1] at ha
  have hfull : ∀ i ∈ wholeL W st0 whole, fullI i := fun i hi => by
    rcases List.mem_append.1 hi with hi | hi
    · exact run_full hW _ st0 _ (by decide) (Nat.le_refl _) i hi
    · exact end_full _ _ i hi
  refine ⟨ha, ?_⟩
  rw [evs_append items _ (end_full st held) all h2, evs_join _ hfull]
  unfold wholeL
  rw [h1]
theorem whole_x {W : Nat} (hW : 32 ≤ W) (r : List UInt8) : ∃ b l, evsL (wholeL W st0 (120 :: r)) = .text (120 :: b) :: l := by
  have hst : stepL W st0 (120 :: r) = .done 1 st0 [.unit [120]] := rfl
  have hfull : ∀ i ∈ wholeL W st0 (120 :: r), fullI i := fun i hi => by
    rcases List.mem_append.1 hi with hi | hi
    · exact run_full hW _ st0 _ (by decide) (Nat.le_refl _) i hi
    · exact end_full _ _ i hi
  rw [evs_join _ hfull]
  unfold wholeL
  rw [run_done hW (by decide) (by simp) hst]
  show ∃ b l, joinEv (((Item.unit [120] :: _) ++ _).map toEv) = _
  rw [List.cons_append, List.map_cons]
  show ∃ b l, jcons (.text [120]) _ = _
  cases joinEv _ with
  | nil => exact ⟨[], [], rfl⟩
  | cons e l =>
    cases e with
    | text c => exact ⟨c, l, rfl⟩
    | start n a => exact ⟨[], _, rfl⟩
    | stop n => exact ⟨[], _, rfl⟩
end Go.Proofs.YtkcgmimldjeaiaaDoor
