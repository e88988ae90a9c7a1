/-
  The lexer's run over a text that is cut: what each step comes to, and the whole.
-/
import Derived.Test.YtkcgmimldjeaiaaDoorLexCut
namespace Go.Proofs.YtkcgmimldjeaiaaDoor

section
variable {W : Nat} {st : LS} {A : List UInt8}
theorem app_nil {R : List UInt8 → Res} (h : ∀ B, stepL W st (A ++ B) = R (A ++ B)) : stepL W st A = R A := by
  have := h []
  rwa [List.append_nil] at this
theorem byte_step {c : UInt8} (h0 : st.scan ≤ 10) (hA : A ≠ []) (h : ∀ B, stepL W st (A ++ B) = byteRes st c) : Firm W st A ∨ Soft W st A :=
  .inl ⟨1, noEat st, unitL2 st [c], by omega, List.length_pos_iff.2 hA, h0, h⟩
theorem ref_step (h0 : st.scan ≤ 10) (hA : A ≠ []) (h : ∀ B, stepL W st (A ++ B) = refRes st (A ++ B)) : Firm W st A ∨ Soft W st A := by
  cases he : refEnd A with
  | none =>
    refine .inr (soft_held h0 ?_)
    rw [app_nil h]
    unfold refRes
    rw [he]
  | some e =>
    obtain ⟨h1, h2, _⟩ := ref_stable he hA []
    refine .inl ⟨e, noEat st, unitL2 st (unr false (A.take e)), h1, h2, h0, fun B => ?_⟩
    obtain ⟨_, _, h3⟩ := ref_stable he hA B
    rw [h B]
    unfold refRes
    rw [h3]
    simp only
    rw [List.take_append_of_le_length h2]
theorem tag_step {k : Nat} (hW : 32 ≤ W) (h0 : st.scan ≤ 10) (hk0 : 1 ≤ k) (hk2 : k ≤ 2) (hk : k ≤ A.length) (h : ∀ B, stepL W st (A ++ B) = tagL W k (A ++ B) st) : Firm W st A ∨ Soft W st A := by
  have hA : stepL W st A = tagL W k A st := app_nil (R := fun L => tagL W k L st) h
  rcases tag_cases W k hW A st hk0 hk2 hk with h1 | ⟨n, st', it, a1, a2, a3, a4⟩ | ⟨st', a1, a2, a3, a4⟩
  · exact .inr (soft_held h0 (hA.trans h1))
  · exact .inl ⟨n, st', it, a1, a2, a3, fun B => (h B).trans (a4 B)⟩
  · refine .inr ⟨A.length, st', Nat.le_refl _, a2, .inr ⟨hA.trans a3, rfl⟩, fun B _ => ?_⟩
    rw [h B, a4 B, List.drop_length, List.nil_append, skip_step a1]
end

theorem comment_step (W : Nat) (st : LS) (A : List UInt8) (hs : st.scan = 1) : Firm W st A ∨ Soft W st A := by
  have hst : ∀ L, stepL W st L = commentRes st L := fun L => by unfold stepL; rw [if_pos hs]
  cases hc : (comL 0 A).1 with
  | some n =>
    have hn : 0 < n ∧ n ≤ A.length := by
      rcases com_append A [] 0 with ⟨m, h1, h2, h3, _⟩ | ⟨h1, _⟩
      · rw [hc] at h1; rw [Option.some.inj h1]; exact ⟨h2, h3⟩
      · rw [hc] at h1; cases h1
    refine .inl ⟨n, { st with scan := 0 }, [], hn.1, hn.2, by simp, fun B => ?_⟩
    rw [hst]
    unfold commentRes
    rcases com_append A B 0 with ⟨m, h1, _, _, h4⟩ | ⟨h1, _⟩
    · rw [hc] at h1
      rw [h4, Option.some.inj h1]
    · rw [hc] at h1; cases h1
  | none =>
    obtain ⟨t1, t2⟩ := com_tail A 0 (by omega) hc
    obtain ⟨F, hF⟩ := t2
    rw [List.replicate_zero, List.nil_append] at hF
    obtain ⟨d, hd⟩ : ∃ d, (comL 0 A).2 = d := ⟨_, rfl⟩
    rw [hd] at t1 hF
    have hl : F.length + d = A.length := by rw [← hF, List.length_append, List.length_replicate]
    have hdrop : A.drop (A.length - d) = List.replicate d 45 := by
      rw [← hF, List.length_append, List.length_replicate, Nat.add_sub_cancel, List.drop_left]
    refine .inr ⟨A.length - d, st, by omega, by omega, .inl ?_, fun B _ => ?_⟩
    · rw [hst]
      unfold commentRes
      rw [hc, hd]
    · rw [hst, hst, hdrop]
      unfold commentRes
      obtain ⟨c1, c2⟩ := com_dashes d t1 B
      rcases com_append A B 0 with ⟨m, h1, _⟩ | ⟨_, h2, h3⟩
      · rw [hc] at h1; cases h1
      · rw [h2, h3, c1, c2, hd]
        cases (comL d B).1 with
        | none => simp only [Option.map_none, Res.shift, List.length_append, List.length_replicate]; congr 1; have : (comL d B).2 ≤ d + B.length := com_le B d; omega
        | some m => simp only [Option.map_some, Res.shift]; congr 1; omega
theorem bogus_step (W : Nat) (st : LS) (A : List UInt8) (hs : st.scan = 2) : Firm W st A ∨ Soft W st A := by
  have hst : ∀ L, stepL W st L = bogusRes st L := fun L => by unfold stepL; rw [if_neg (by omega), if_pos hs]
  cases hc : byteIdx 62 A with
  | some n =>
    have hn : n < A.length := by
      rcases byte_append 62 A [] with ⟨m, h1, h2, _⟩ | ⟨h1, _⟩
      · rw [hc] at h1; rw [Option.some.inj h1]; exact h2
      · rw [hc] at h1; cases h1
    refine .inl ⟨n + 1, { st with scan := 0 }, [], by omega, hn, by simp, fun B => ?_⟩
    rw [hst]
    unfold bogusRes
    rcases byte_append 62 A B with ⟨m, h1, _, _, h4⟩ | ⟨h1, _⟩
    · rw [hc] at h1
      rw [h4, Option.some.inj h1]
    · rw [hc] at h1; cases h1
  | none =>
    refine .inr ⟨A.length, st, Nat.le_refl _, by omega, .inl ?_, fun B _ => ?_⟩
    · rw [hst]
      unfold bogusRes
      rw [hc]
    · rw [hst, hst, List.drop_length, List.nil_append]
      unfold bogusRes
      rcases byte_append 62 A B with ⟨m, h1, _⟩ | ⟨_, h2⟩
      · rw [hc] at h1; cases h1
      · rw [h2]
        cases byteIdx 62 B with
        | none => simp [Res.shift]
        | some m => simp only [Option.map_some, Res.shift]; congr 1; omega
theorem skip_tag_step (W : Nat) (st : LS) (A : List UInt8) (h3 : 3 ≤ st.scan) (h0 : st.scan ≤ 10) (hA : A ≠ []) : Firm W st A ∨ Soft W st A := by
  have hst : ∀ L, stepL W st L = skipTagRes st L := skip_step h3
  have hrange := pass_range A st.scan (.inr ⟨h3, h0⟩)
  by_cases hp : (passL st.scan A).2 = 0
  · have hle : (passL st.scan A).1 ≤ A.length := by
      rcases pass_append A [] st.scan with ⟨_, h, _⟩ | ⟨h, _⟩
      · exact h
      · exact absurd hp h
    have hpos : 0 < (passL st.scan A).1 := by
      cases A with
      | nil => exact absurd rfl hA
      | cons c A => unfold passL; rw [if_neg (by omega)]; simp
    refine .inl ⟨(passL st.scan A).1, { st with scan := (passL st.scan A).2 }, [], hpos, hle, by show (passL st.scan A).2 ≤ 10; omega, fun B => ?_⟩
    rw [hst]
    unfold skipTagRes
    rcases pass_append A B st.scan with ⟨_, _, h⟩ | ⟨h, _⟩
    · rw [h]
    · exact absurd hp h
  · have hlen : (passL st.scan A).1 = A.length := by
      rcases pass_append A [] st.scan with ⟨h, _⟩ | ⟨_, h, _⟩
      · exact absurd h hp
      · exact h
    refine .inr ⟨A.length, { st with scan := (passL st.scan A).2 }, Nat.le_refl _, by show (passL st.scan A).2 ≤ 10; omega, .inr ⟨?_, rfl⟩, fun B _ => ?_⟩
    · rw [hst]
      unfold skipTagRes
      rw [hlen]
    · rw [hst, List.drop_length, List.nil_append, skip_step (by show 3 ≤ (passL st.scan A).2; omega)]
      unfold skipTagRes
      rcases pass_append A B st.scan with ⟨h, _⟩ | ⟨_, _, h⟩
      · exact absurd h hp
      · rw [h]
        rfl

theorem ne_app {A : List UInt8} (hA : A ≠ []) (B : List UInt8) : (A ++ B).getD 0 0 = A.getD 0 0 := getD_append (List.length_pos_iff.2 hA)
theorem data_step (W : Nat) (hW : 32 ≤ W) (st : LS) (A : List UInt8) (hA : A ≠ []) (hs : st.scan = 0) (hm : st.mode = 0) : Firm W st A ∨ Soft W st A := by
  have hst : ∀ L, stepL W st L = dataRes W st L := fun L => by unfold stepL; rw [if_neg (by omega), if_neg (by omega), if_neg (by omega), if_pos hm]
  have h0 : st.scan ≤ 10 := by omega
  by_cases h60 : A.getD 0 0 = 60
  · have hst2 : ∀ B, stepL W st (A ++ B) = markupRes W st (A ++ B) := fun B => by rw [hst]; unfold dataRes; rw [ne_app hA, if_pos h60]
    obtain ⟨r, hr⟩ : ∃ r, A = 60 :: r := by
      cases A with
      | nil => exact absurd rfl hA
      | cons c r => exact ⟨r, by simp at h60; rw [h60]⟩
    by_cases hsp : A = [60] ∨ A = [60, 47] ∨ A = [60, 33] ∨ A = [60, 33, 45]
    · refine .inr (soft_held h0 ?_)
      rw [app_nil hst2]
      unfold markupRes
      rw [if_pos hsp]
    · have hl2 : 2 ≤ A.length := by
        rw [hr, List.length_cons]
        cases r with
        | nil => exact absurd (.inl hr) hsp
        | cons _ _ => simp
      have hspB : ∀ B, ¬ (A ++ B = [60] ∨ A ++ B = [60, 47] ∨ A ++ B = [60, 33] ∨ A ++ B = [60, 33, 45]) := by
        intro B h
        have hpre : ∀ X : List UInt8, A ++ B = X → A = X.take A.length := fun X hX => by rw [← hX, List.take_left]
        rcases h with h | h | h | h
        · have := congrArg List.length h; rw [List.length_append] at this; simp at this; omega
        · have h1 := hpre _ h
          have := congrArg List.length h; rw [List.length_append] at this; simp at this
          rw [show A.length = 2 from by omega] at h1
          exact hsp (.inr (.inl h1))
        · have h1 := hpre _ h
          have := congrArg List.length h; rw [List.length_append] at this; simp at this
          rw [show A.length = 2 from by omega] at h1
          exact hsp (.inr (.inr (.inl h1)))
        · have h1 := hpre _ h
          have := congrArg List.length h; rw [List.length_append] at this; simp at this
          rcases (show A.length = 2 ∨ A.length = 3 by omega) with e | e
          · rw [e] at h1; exact hsp (.inr (.inr (.inl h1)))
          · rw [e] at h1; exact hsp (.inr (.inr (.inr h1)))
      have g1 : ∀ B, (A ++ B).getD 1 0 = A.getD 1 0 := fun B => getD_append (by omega)
      by_cases hlet : letterC (A.getD 1 0) = true
      · refine tag_step (k := 1) hW h0 (by omega) (by omega) (by omega) (fun B => ?_)
        rw [hst2]
        unfold markupRes
        rw [if_neg (hspB B), g1, if_pos hlet]
      · by_cases hsl : A.getD 1 0 = 47
        · have hl3 : 3 ≤ A.length := by
            rcases Nat.lt_or_ge A.length 3 with h | h
            · exfalso
              rw [hr] at hsl h hsp
              cases r with
              | nil => simp at hsl
              | cons c r =>
                cases r with
                | nil => simp at hsl; exact hsp (.inr (.inl (by rw [hsl])))
                | cons _ _ => simp at h; omega
            · exact h
          have g2 : ∀ B, (A ++ B).getD 2 0 = A.getD 2 0 := fun B => getD_append (by omega)
          by_cases hlet2 : letterC (A.getD 2 0) = true
          · refine tag_step (k := 2) hW h0 (by omega) (by omega) (by omega) (fun B => ?_)
            rw [hst2]
            unfold markupRes
            rw [if_neg (hspB B), g1, g2, if_neg hlet, if_pos ⟨hsl, hlet2⟩]
          · refine .inl ⟨2, ⟨st.mode, 2, false⟩, [], by omega, by omega, by simp, fun B => ?_⟩
            rw [hst2]
            unfold markupRes
            have hnp : ¬ [60, 33, 45, 45] <+: (A ++ B) := by
              rintro ⟨t, ht⟩
              have := g1 B
              rw [← ht] at this
              rw [hsl] at this
              simp at this
            rw [if_neg (hspB B), g1, g2, if_neg hlet, if_neg (fun h => hlet2 h.2), if_neg hnp, if_pos (.inr (.inr hsl))]
        · by_cases hcm : [60, 33, 45, 45] <+: A
          · refine .inl ⟨2, ⟨st.mode, 1, false⟩, [], by omega, by omega, by simp, fun B => ?_⟩
            rw [hst2]
            unfold markupRes
            rw [if_neg (hspB B), g1, if_neg hlet, if_neg (fun h => hsl h.1), if_pos (hcm.trans (List.prefix_append A B))]
          · have hcmB : ∀ B, ¬ [60, 33, 45, 45] <+: (A ++ B) := by
              intro B h
              rcases Nat.lt_or_ge A.length 4 with h4 | h4
              · have h5 : A <+: [60, 33, 45, 45] := by
                  refine List.prefix_of_prefix_length_le (List.prefix_append A B) h (by simp; omega)
                have h6 := List.prefix_iff_eq_take.1 h5
                rcases (show A.length = 2 ∨ A.length = 3 by omega) with e | e
                · rw [e] at h6; exact hsp (.inr (.inr (.inl h6)))
                · rw [e] at h6; exact hsp (.inr (.inr (.inr h6)))
              · exact hcm (List.prefix_of_prefix_length_le h (List.prefix_append A B) (by simp; omega))
            by_cases hbg : A.getD 1 0 = 33 ∨ A.getD 1 0 = 63 ∨ A.getD 1 0 = 47
            · refine .inl ⟨2, ⟨st.mode, 2, false⟩, [], by omega, by omega, by simp, fun B => ?_⟩
              rw [hst2]
              unfold markupRes
              rw [if_neg (hspB B), g1, if_neg hlet, if_neg (fun h => hsl h.1), if_neg (hcmB B), if_pos hbg]
            · refine byte_step (c := 60) h0 hA (fun B => ?_)
              rw [hst2]
              unfold markupRes
              rw [if_neg (hspB B), g1, if_neg hlet, if_neg (fun h => hsl h.1), if_neg (hcmB B), if_neg hbg]
  · by_cases h38 : A.getD 0 0 = 38
    · refine ref_step h0 hA (fun B => ?_)
      rw [hst]
      unfold dataRes
      rw [ne_app hA, if_neg h60, if_pos h38]
    · refine byte_step (c := A.getD 0 0) h0 hA (fun B => ?_)
      rw [hst]
      unfold dataRes
      rw [ne_app hA, if_neg h60, if_neg h38]
theorem area_step (W : Nat) (hW : 32 ≤ W) (st : LS) (A : List UInt8) (hA : A ≠ []) (hs : st.scan = 0) (hm : st.mode = 1) : Firm W st A ∨ Soft W st A := by
  have hst : ∀ L, stepL W st L = areaRes W st L := fun L => by unfold stepL; rw [if_neg (by omega), if_neg (by omega), if_neg (by omega), if_neg (by omega), if_pos hm]
  have h0 : st.scan ≤ 10 := by omega
  by_cases h60 : A.getD 0 0 = 60
  · by_cases o1 : ownL (60 :: 47 :: rawL 1) A = 1
    · refine .inr (soft_held h0 ?_)
      rw [hst]
      unfold areaRes
      rw [if_pos h60]
      simp only
      rw [if_pos o1]
    · have hos := fun B => own_stable (60 :: 47 :: rawL 1) A B o1
      by_cases o2 : ownL (60 :: 47 :: rawL 1) A = 2
      · refine tag_step (k := 2) hW h0 (by omega) (by omega) (by have := own_two _ _ o2; simp only [List.length_cons] at this; omega) (fun B => ?_)
        rw [hst]
        unfold areaRes
        rw [ne_app hA, if_pos h60]
        simp only
        rw [hos B, if_neg o1, if_pos o2]
      · refine byte_step (c := 60) h0 hA (fun B => ?_)
        rw [hst]
        unfold areaRes
        rw [ne_app hA, if_pos h60]
        simp only
        rw [hos B, if_neg o1, if_neg o2]
  · by_cases h38 : A.getD 0 0 = 38
    · refine ref_step h0 hA (fun B => ?_)
      rw [hst]
      unfold areaRes
      rw [ne_app hA, if_neg h60, if_pos h38]
    · refine byte_step (c := A.getD 0 0) h0 hA (fun B => ?_)
      rw [hst]
      unfold areaRes
      rw [ne_app hA, if_neg h60, if_neg h38]
theorem raw_at {W : Nat} {st : LS} {L : List UInt8} (h10 : st.mode ≠ 10) (i : Nat) (h : byteIdx 60 L = some i) : rawRes W st L =
    if ownL (60 :: 47 :: rawL st.mode) (L.drop i) = 1 then .more i st else if ownL (60 :: 47 :: rawL st.mode) (L.drop i) = 2 then (tagL W 2 (L.drop i) st).shift i else .done (i + 1) st [] := by
  unfold rawRes
  rw [h]
  simp only
  rw [if_neg h10]
theorem raw_step (W : Nat) (hW : 32 ≤ W) (st : LS) (A : List UInt8) (hs : st.scan = 0) (hm : st.mode ≠ 0) (hm1 : st.mode ≠ 1) : Firm W st A ∨ Soft W st A := by
  have hst : ∀ L, stepL W st L = rawRes W st L := fun L => by unfold stepL; rw [if_neg (by omega), if_neg (by omega), if_neg (by omega), if_neg hm, if_neg hm1]
  have h0 : st.scan ≤ 10 := by omega
  by_cases h10 : st.mode = 10
  · have hr : ∀ L, rawRes W st L = .done L.length st [] := fun L => by
      unfold rawRes
      cases byteIdx 60 L with
      | none => rfl
      | some i => simp only; rw [if_pos h10]
    refine .inr ⟨A.length, st, Nat.le_refl _, h0, .inr ⟨(hst A).trans (hr A), rfl⟩, fun B _ => ?_⟩
    rw [hst, hst, hr, hr, List.drop_length, List.nil_append, List.length_append]
    rfl
  · cases hc : byteIdx 60 A with
    | none =>
      refine .inr ⟨A.length, st, Nat.le_refl _, h0, .inr ⟨?_, rfl⟩, fun B _ => ?_⟩
      · rw [hst]; unfold rawRes; rw [hc]
      · rw [hst, hst, List.drop_length, List.nil_append]
        rcases byte_append 60 A B with ⟨m, h1, _⟩ | ⟨_, h2⟩
        · rw [hc] at h1; cases h1
        · cases hb : byteIdx 60 B with
          | none =>
            rw [hb] at h2
            unfold rawRes
            rw [h2, hb]
            simp [Res.shift]
          | some m =>
            rw [hb] at h2
            have hd : (A ++ B).drop (m + A.length) = B.drop m := by rw [Nat.add_comm, ← List.drop_drop, List.drop_left]
            rw [raw_at h10 _ h2, raw_at h10 _ hb, hd]
            split
            · simp only [Res.shift]; rw [Nat.add_comm]
            · split
              · rw [shift_shift, Nat.add_comm]
              · simp only [Res.shift]; congr 1; omega
    | some i =>
      obtain ⟨hi, hx⟩ : i < A.length ∧ A[i]? = some 60 := by
        rcases byte_append 60 A [] with ⟨m, h1, h2, h3, _⟩ | ⟨h1, _⟩
        · rw [hc] at h1; rw [Option.some.inj h1]; exact ⟨h2, h3⟩
        · rw [hc] at h1; cases h1
      have hcB : ∀ B, byteIdx 60 (A ++ B) = some i := fun B => by
        rcases byte_append 60 A B with ⟨m, h1, _, _, h4⟩ | ⟨h1, _⟩
        · rw [hc] at h1; rw [h4, Option.some.inj h1]
        · rw [hc] at h1; cases h1
      have hd : ∀ B, (A ++ B).drop i = A.drop i ++ B := fun B => List.drop_append_of_le_length (by omega)
      have hat : ∀ B, byteIdx 60 (A.drop i ++ B) = some 0 := fun B => by
        obtain ⟨h1, h2⟩ := List.getElem?_eq_some_iff.1 hx
        rw [List.drop_eq_getElem_cons h1, h2]
        simp [byteIdx]
      have hne : A.drop i ≠ [] := by
        intro h
        have := congrArg List.length h
        rw [List.length_drop] at this
        simp at this
        omega
      by_cases o1 : ownL (60 :: 47 :: rawL st.mode) (A.drop i) = 1
      · refine .inr ⟨i, st, by omega, h0, .inl ?_, fun B _ => ?_⟩
        · rw [hst, raw_at h10 _ hc, if_pos o1]
        · rw [hst, hst, raw_at h10 _ (hcB B), raw_at h10 _ (hat B), hd, List.drop_zero]
          split
          · simp [Res.shift]
          · split
            · rw [shift_shift, Nat.add_zero]
            · simp [Res.shift]
      · have hos := fun B => own_stable (60 :: 47 :: rawL st.mode) (A.drop i) B o1
        by_cases o2 : ownL (60 :: 47 :: rawL st.mode) (A.drop i) = 2
        · have hstB : ∀ B, stepL W st (A ++ B) = (tagL W 2 (A.drop i ++ B) st).shift i := fun B => by
            rw [hst, raw_at h10 _ (hcB B), hd, hos B, if_neg o1, if_pos o2]
          have hstA : stepL W st A = (tagL W 2 (A.drop i) st).shift i := by
            have := hstB []
            rwa [List.append_nil, List.append_nil] at this
          have hk : 2 ≤ (A.drop i).length := by have := own_two _ _ o2; simp only [List.length_cons] at this; omega
          rcases tag_cases W 2 hW (A.drop i) st (by omega) (by omega) hk with h1 | ⟨n, st', it, a1, a2, a3, a4⟩ | ⟨st', a1, a2, a3, a4⟩
          · refine .inr ⟨i, st, by omega, h0, .inl ?_, fun B _ => ?_⟩
            · rw [hstA, h1]; simp [Res.shift]
            · rw [hstB, hst, raw_at h10 _ (hat B), List.drop_zero, hos B, if_neg o1, if_pos o2, shift_zero]
          · refine .inl ⟨i + n, st', it, by omega, by rw [List.length_drop] at a2; omega, a3, fun B => ?_⟩
            rw [hstB, a4]; rfl
          · have hl : i + (A.drop i).length = A.length := by rw [List.length_drop]; omega
            refine .inr ⟨A.length, st', Nat.le_refl _, a2, .inr ⟨?_, rfl⟩, fun B _ => ?_⟩
            · rw [hstA, a3]; simp only [Res.shift]; rw [hl]
            · rw [hstB, a4, List.drop_length, List.nil_append, skip_step a1, shift_shift, hl]
        · refine .inl ⟨i + 1, st, [], by omega, by omega, h0, fun B => ?_⟩
          rw [hst, raw_at h10 _ (hcB B), hd, hos B, if_neg o1, if_neg o2]
theorem step_cases (W : Nat) (hW : 32 ≤ W) (st : LS) (h0 : st.scan ≤ 10) (A : List UInt8) (hA : A ≠ []) : Firm W st A ∨ Soft W st A := by
  by_cases h1 : st.scan = 1
  · exact comment_step W st A h1
  · by_cases h2 : st.scan = 2
    · exact bogus_step W st A h2
    · by_cases h3 : st.scan = 0
      · by_cases m0 : st.mode = 0
        · exact data_step W hW st A hA h3 m0
        · by_cases m1 : st.mode = 1
          · exact area_step W hW st A hA h3 m1
          · exact raw_step W hW st A h3 m0 m1
      · exact skip_tag_step W st A (by omega) h0 hA
end Go.Proofs.YtkcgmimldjeaiaaDoor
