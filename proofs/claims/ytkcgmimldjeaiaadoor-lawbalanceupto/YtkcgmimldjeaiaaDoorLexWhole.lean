/-
  The lexer's run over pieces is the run over the whole.
-/
import Derived.Test.YtkcgmimldjeaiaaDoorLexRun
namespace Go.Proofs.YtkcgmimldjeaiaaDoor

theorem step_pos {W : Nat} (hW : 32 ≤ W) {st : LS} (h0 : st.scan ≤ 10) {L : List UInt8} (hL : L ≠ []) {n : Nat} {st' : LS} {it : List Item} (h : stepL W st L = .done n st' it) : 0 < n ∧ n ≤ L.length ∧ st'.scan ≤ 10 := by
  rcases step_cases W hW st h0 L hL with ⟨m, s, i, a1, a2, a3, a4⟩ | ⟨m, s, a1, a2, a3, _⟩
  · have := a4 []
    rw [List.append_nil, h] at this
    cases this
    exact ⟨a1, a2, a3⟩
  · rcases a3 with a3 | ⟨a3, a4⟩
    · rw [h] at a3; cases a3
    · rw [h] at a3
      cases a3
      exact ⟨by rw [a4]; exact List.length_pos_iff.2 hL, a1, a2⟩
theorem step_more {W : Nat} (hW : 32 ≤ W) {st : LS} (h0 : st.scan ≤ 10) {L : List UInt8} (hL : L ≠ []) {n : Nat} {st' : LS} (h : stepL W st L = .more n st') : n ≤ L.length ∧ st'.scan ≤ 10 := by
  rcases step_cases W hW st h0 L hL with ⟨m, s, i, a1, a2, a3, a4⟩ | ⟨m, s, a1, a2, a3, _⟩
  · have := a4 []
    rw [List.append_nil, h] at this
    cases this
  · rcases a3 with a3 | ⟨a3, _⟩
    · rw [h] at a3
      cases a3
      exact ⟨a1, a2⟩
    · rw [h] at a3; cases a3
theorem runF_fuel {W : Nat} (hW : 32 ≤ W) : ∀ (f g : Nat) (st : LS) (L : List UInt8), st.scan ≤ 10 → L.length ≤ f → L.length ≤ g → runF W f st L = runF W g st L
  | 0, 0, _, _, _, _, _ => rfl
  | 0, g + 1, st, L, _, h, _ => by
    obtain rfl := List.length_eq_zero_iff.1 (Nat.le_zero.1 h)
    rfl
  | f + 1, 0, st, L, _, _, h => by
    obtain rfl := List.length_eq_zero_iff.1 (Nat.le_zero.1 h)
    rfl
  | f + 1, g + 1, st, L, h0, hf, hg => by
    unfold runF
    by_cases hL : L = []
    · rw [if_pos hL, if_pos hL]
    · rw [if_neg hL, if_neg hL]
      cases hs : stepL W st L with
      | more n st' => rfl
      | done n st' it =>
        obtain ⟨h1, h2, h3⟩ := step_pos hW h0 hL hs
        simp only
        rw [runF_fuel hW f g st' (L.drop n) h3 (by rw [List.length_drop]; omega) (by rw [List.length_drop]; omega)]
theorem run_nil (W : Nat) (st : LS) : runL W st [] = (st, [], []) := rfl
theorem run_more {W : Nat} {st : LS} {L : List UInt8} (hL : L ≠ []) {n : Nat} {st' : LS} (h : stepL W st L = .more n st') : runL W st L = (st', L.drop n, []) := by
  unfold runL
  cases L with
  | nil => exact absurd rfl hL
  | cons c r =>
    rw [List.length_cons]
    unfold runF
    rw [if_neg hL, h]
theorem run_done {W : Nat} (hW : 32 ≤ W) {st : LS} (h0 : st.scan ≤ 10) {L : List UInt8} (hL : L ≠ []) {n : Nat} {st' : LS} {it : List Item} (h : stepL W st L = .done n st' it) :
    runL W st L = ((runL W st' (L.drop n)).1, (runL W st' (L.drop n)).2.1, it ++ (runL W st' (L.drop n)).2.2) := by
  obtain ⟨h1, h2, h3⟩ := step_pos hW h0 hL h
  unfold runL
  cases L with
  | nil => exact absurd rfl hL
  | cons c r =>
    rw [List.length_cons, runF, if_neg hL, h]
    simp only
    rw [runF_fuel hW r.length ((c :: r).drop n).length st' ((c :: r).drop n) h3 (by rw [List.length_drop, List.length_cons]; omega) (Nat.le_refl _)]
theorem run_scan {W : Nat} (hW : 32 ≤ W) : ∀ (N : Nat) (st : LS) (L : List UInt8), st.scan ≤ 10 → L.length ≤ N → (runL W st L).1.scan ≤ 10
  | _, st, [], h0, _ => h0
  | 0, st, c :: r, _, h => by simp at h
  | N + 1, st, c :: r, h0, h => by
    cases hs : stepL W st (c :: r) with
    | more n st' => rw [run_more (by simp) hs]; exact (step_more hW h0 (by simp) hs).2
    | done n st' it =>
      obtain ⟨h1, h2, h3⟩ := step_pos hW h0 (by simp) hs
      rw [run_done hW h0 (by simp) hs]
      exact run_scan hW N st' _ h3 (by rw [List.length_drop]; omega)
/-- where a step leaves part of the bytes, they are taken up as if they had come at once -/
theorem run_shift {W : Nat} (hW : 32 ≤ W) {st st' : LS} (h0 : st.scan ≤ 10) (h0' : st'.scan ≤ 10) {n : Nat} {X Y : List UInt8} (hX : X ≠ []) (hY : Y ≠ []) (hd : Y.drop n = X) (h : stepL W st Y = (stepL W st' X).shift n) : runL W st Y = runL W st' X := by
  cases hs : stepL W st' X with
  | more m s =>
    rw [hs] at h
    rw [run_more hX hs, run_more hY h, ← hd, List.drop_drop]
  | done m s it =>
    rw [hs] at h
    rw [run_done hW h0' hX hs, run_done hW h0 hY h, ← hd, List.drop_drop]
theorem run_cut {W : Nat} (hW : 32 ≤ W) : ∀ (N : Nat) (st : LS) (A B : List UInt8), st.scan ≤ 10 → A.length ≤ N →
    runL W st (A ++ B) = ((runL W (runL W st A).1 ((runL W st A).2.1 ++ B)).1, (runL W (runL W st A).1 ((runL W st A).2.1 ++ B)).2.1, (runL W st A).2.2 ++ (runL W (runL W st A).1 ((runL W st A).2.1 ++ B)).2.2)
  | _, st, [], B, _, _ => by rw [run_nil]; rfl
  | 0, st, c :: r, B, _, h => by simp at h
  | N + 1, st, c :: r, B, h0, h => by
    have hA : c :: r ≠ [] := by simp
    have hAB : c :: r ++ B ≠ [] := by simp
    rcases step_cases W hW st h0 (c :: r) hA with ⟨n, st', it, a1, a2, a3, a4⟩ | ⟨n, st', a1, a2, a3, a4⟩
    · have s1 : stepL W st (c :: r) = .done n st' it := by have := a4 []; rwa [List.append_nil] at this
      have ih := run_cut hW N st' ((c :: r).drop n) B a3 (by rw [List.length_drop]; omega)
      rw [run_done hW h0 hA s1, run_done hW h0 hAB (a4 B), List.drop_append_of_le_length a2, ih]
      simp only [List.append_assoc]
    · have hr : runL W st (c :: r) = (st', (c :: r).drop n, []) := by
        rcases a3 with a3 | ⟨a3, a5⟩
        · exact run_more hA a3
        · rw [run_done hW h0 hA a3, a5, List.drop_length, run_nil]
          rfl
      rw [hr]
      simp only [List.nil_append]
      by_cases hX : (c :: r).drop n ++ B = []
      · have hB : B = [] := (List.append_eq_nil_iff.1 hX).2
        have hD : (c :: r).drop n = [] := (List.append_eq_nil_iff.1 hX).1
        rw [hB, List.append_nil, List.append_nil, hr, hD, run_nil]
      · rw [run_shift hW h0 a2 hX hAB (List.drop_append_of_le_length a1) (a4 B hX)]
/-- what is held needs more bytes: run again it gives nothing -/
theorem run_again {W : Nat} (hW : 32 ≤ W) (st : LS) (A : List UInt8) (h0 : st.scan ≤ 10) : runL W (runL W st A).1 (runL W st A).2.1 = ((runL W st A).1, (runL W st A).2.1, []) := by
  have h := run_cut hW A.length st A [] h0 (Nat.le_refl _)
  rw [List.append_nil, List.append_nil] at h
  have h1 := congrArg (fun x => x.1) h
  have h2 := congrArg (fun x => x.2.1) h
  have h3 := congrArg (fun x => x.2.2) h
  simp only at h1 h2 h3
  have h4 : (runL W (runL W st A).1 (runL W st A).2.1).2.2 = [] := by
    have := congrArg List.length h3
    rw [List.length_append] at this
    exact List.eq_nil_of_length_eq_zero (by omega)
  exact Prod.ext h1.symm (Prod.ext h2.symm h4)

/-! ## what is held is short -/

theorem own_held : ∀ (o A : List UInt8), ownL o A = 1 → A.length ≤ o.length
  | _, [], _ => Nat.zero_le _
  | [], c :: A, h => by unfold ownL at h; split at h <;> simp at h
  | o :: os, c :: A, h => by
    unfold ownL at h
    split at h
    · have := own_held os A h
      simp only [List.length_cons]
      omega
    · simp at h
theorem raw_len (m : Nat) : (rawL m).length ≤ 10 := by
  unfold rawL
  rw [List.getD_eq_getElem?_getD]
  cases h : rawNames[m - 1]? with
  | none => simp
  | some x =>
    have : ∀ y ∈ rawNames, y.length ≤ 10 := by decide +kernel
    exact this x (List.mem_of_getElem? h)
theorem tag_held {W k n : Nat} {L : List UInt8} {st st' : LS} (hk : k ≤ L.length) (h : tagL W k L st = .more n st') : L.length ≤ W ∧ n = 0 := by
  unfold tagL at h
  simp only at h
  split at h
  · rename_i hc
    simp only [Res.more.injEq] at h
    refine ⟨?_, h.1.symm⟩
    rcases pass_append (L.drop k) [] 3 with ⟨h1, _⟩ | ⟨_, h1, _⟩
    · exact absurd h1 hc.2
    · have := hc.1
      rw [h1, List.length_drop] at this
      omega
  · cases h
theorem ref_held {n : Nat} {L : List UInt8} {st st' : LS} (h : refRes st L = .more n st') : L.length < 32 ∧ n = 0 := by
  unfold refRes at h
  split at h
  · rename_i hr
    simp only [Res.more.injEq] at h
    refine ⟨?_, h.1.symm⟩
    rw [refEnd_eq] at hr
    split at hr
    · split at hr
      · omega
      · cases hr
    · cases hr
  · cases h
theorem step_held {W : Nat} (hW : 32 ≤ W) {st : LS} {L : List UInt8} {n : Nat} {st' : LS} (h : stepL W st L = .more n st') : L.length - n ≤ W := by
  unfold stepL at h
  split at h
  · unfold commentRes at h
    split at h
    · cases h
    · rename_i hc
      simp only [Res.more.injEq] at h
      have := (com_tail L 0 (by omega) hc).1
      omega
  · split at h
    · unfold bogusRes at h
      split at h
      · cases h
      · simp only [Res.more.injEq] at h
        omega
    · split at h
      · unfold skipTagRes at h; cases h
      · split at h
        · unfold dataRes at h
          split at h
          · rename_i h60
            unfold markupRes at h
            split at h
            · rename_i hs
              rcases hs with hs | hs | hs | hs <;> (rw [hs]; simp; omega)
            · split at h
              · rename_i hs hl
                have hk : 1 ≤ L.length := by
                  cases L with
                  | nil => simp at h60
                  | cons _ _ => simp
                have := (tag_held hk h).1
                omega
              · split at h
                · rename_i hl
                  have hk : 2 ≤ L.length := by
                    cases L with
                    | nil => simp at h60
                    | cons _ r =>
                      cases r with
                      | nil => simp at hl
                      | cons _ _ => simp
                  have := (tag_held hk h).1
                  omega
                · split at h
                  · cases h
                  · split at h
                    · cases h
                    · unfold byteRes at h; cases h
          · split at h
            · have := ref_held h; omega
            · unfold byteRes at h; cases h
        · split at h
          · unfold areaRes at h
            split at h
            · simp only at h
              split at h
              · rename_i ho
                have h1 := own_held _ _ ho
                have h2 := raw_len 1
                simp only [List.length_cons] at h1
                omega
              · split at h
                · rename_i ho
                  have h1 := own_two _ _ ho
                  simp only [List.length_cons] at h1
                  have := (tag_held (by omega) h).1
                  omega
                · unfold byteRes at h; cases h
            · split at h
              · have := ref_held h; omega
              · unfold byteRes at h; cases h
          · unfold rawRes at h
            split at h
            · cases h
            · rename_i i hi
              split at h
              · cases h
              · simp only at h
                split at h
                · rename_i ho
                  have h1 := own_held _ _ ho
                  have h2 := raw_len st.mode
                  simp only [Res.more.injEq] at h
                  simp only [List.length_cons, List.length_drop] at h1
                  omega
                · split at h
                  · rename_i ho
                    have h1 := own_two _ _ ho
                    simp only [List.length_cons] at h1
                    cases ht : tagL W 2 (L.drop i) st with
                    | more m s =>
                      rw [ht] at h
                      simp only [Res.shift, Res.more.injEq] at h
                      have h2 := tag_held (by omega) ht
                      rw [List.length_drop] at h2
                      omega
                    | done m s it =>
                      rw [ht] at h
                      cases h
                  · cases h
theorem run_held {W : Nat} (hW : 32 ≤ W) : ∀ (N : Nat) (st : LS) (L : List UInt8), st.scan ≤ 10 → L.length ≤ N → (runL W st L).2.1.length ≤ W
  | _, st, [], _, _ => by rw [run_nil]; simp
  | 0, st, c :: r, _, h => by simp at h
  | N + 1, st, c :: r, h0, h => by
    cases hs : stepL W st (c :: r) with
    | more n st' =>
      rw [run_more (by simp) hs]
      have := step_held hW hs
      simp only [List.length_drop]
      exact this
    | done n st' it =>
      obtain ⟨h1, h2, h3⟩ := step_pos hW h0 (by simp) hs
      rw [run_done hW h0 (by simp) hs]
      exact run_held hW N st' _ h3 (by rw [List.length_drop]; omega)
end Go.Proofs.YtkcgmimldjeaiaaDoor
