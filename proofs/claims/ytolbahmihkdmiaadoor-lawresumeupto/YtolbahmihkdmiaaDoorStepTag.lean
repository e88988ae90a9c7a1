/-
  The reader's readTag: its walk.
-/
import Derived.Test.YtolbahmihkdmiaaDoorGen
import Derived.Test.YtolbahmihkdmiaaDoorStepB
import Derived.Test.YtolbahmihkdmiaaDoorEvGet
namespace Go.Proofs.YtolbahmihkdmiaaDoor
open Go.RowKit Go.Lib Own

theorem pass_le (L : List UInt8) (s : Nat) : (passL s L).1 ≤ L.length := by
  rcases pass_append L [] s with ⟨_, h, _⟩ | ⟨_, h, _⟩
  · exact h
  · omega
theorem pass_take (L : List UInt8) (s : Nat) : (passL s (L.take (passL s L).1)).1 = (L.take (passL s L).1).length := by
  have hle := pass_le L s
  have hlen : (L.take (passL s L).1).length = (passL s L).1 := by rw [List.length_take]; omega
  rcases pass_append (L.take (passL s L).1) (L.drop (passL s L).1) s with ⟨_, h1, h2⟩ | ⟨_, h1, _⟩
  · rw [List.take_append_drop] at h2
    rw [← h2, hlen]
  · exact h1
theorem Rdr.setMode {W : World} {base b : Nat} {win : Int} {data : ByteArray} {pos mode scan : Int} {eat : Bool} {evs : List Ev} {pend : List UInt8} (h : Rdr W base b win data pos mode scan eat evs pend) (q : Int) :
    Rdr (W.setCell ⟨b, 3, none⟩ (.int .i64 q)) base b win data pos q scan eat evs pend ∧ Below base W (W.setCell ⟨b, 3, none⟩ (.int .i64 q)) := by
  obtain ⟨ev, p, v, hS⟩ := h.it
  obtain ⟨hat, hlo⟩ := hS.heap
  exact ⟨⟨ev, p, v, hS.stored (rd_T _ _ _ _ _ _ _ _ _) 3 (by omega) (.int .i64 q)⟩, (just_set (j := 3) hat (.int .i64 q)).below hlo⟩
/-- an event is put into the reader's stream -/
theorem rdPut_any (base b : Nat) (win : Int) (data : ByteArray) (pos mode scan : Int) (eat : Bool) (evs : List Ev) (pend : List UInt8) (g0 : Nat) (kk : Int) (nb tb : ByteArray) (ap : Option Addr) (an ac : Nat) (e0 : Ev) (w0 w : World) (hsl : w.heap[g0]? = some (.cells #[.int .i64 kk, .string nb, .slice ap an ac, .string tb] 36 (0, 0))) (hkk : (kk == 3) = false) (h : Rdr w0 base b win data pos mode scan eat evs pend) (hw0 : Below w0.heap.size w0 w) (hfr : ∀ g, (Value.slice ap an ac).ownBlock = some g → w0.heap.size ≤ g) (hlen : evs.length ≤ 9000000) (h1 : EvsAt w base [.int .i64 kk, .string nb, .slice ap an ac, .string tb] [e0])
    (hone : ∀ u ∈ [Value.int .i64 kk, .string nb, .slice ap an ac, .string tb], u.oneCell' = true) :
    Calls Tryd.prog 67 #[.pointer (some ⟨b, 6, none⟩), .slice (some ⟨g0, 0, none⟩) 1 1] w fun e w' => e = .returned (.tuple #[]) ∧
      Rdr w' base b win data pos mode scan eat (flushE (evs, pend) ++ [e0]) [] ∧ Below base w w' := by
  obtain ⟨ev, p, v, hS⟩ := h.it
  refine (put_any base b 6 _ _ evs pend g0 kk nb tb ap an ac e0 w0 w hsl hkk hS hw0 hfr (rd_T _ _ _ _ _ _ _ _ _) hlen h1 hone).mono ?_
  rintro e w' ⟨rfl, e1, p1, v1, h2, h3⟩
  exact ⟨rfl, ⟨e1, p1, v1, h2⟩, h3⟩
theorem Rdr.ended {W : World} {base b : Nat} {win : Int} {data : ByteArray} {pos mode scan : Int} {eat : Bool} {evs : List Ev} {pend : List UInt8} (h : Rdr W base b win data pos mode scan eat evs pend) (E S : Int) :
    Rdr ((((W.setCell ⟨b, 3, none⟩ (.int .i64 0)).setCell ⟨b, 5, none⟩ (.bool false)).setCell ⟨b, 2, none⟩ (.int .i64 E)).setCell ⟨b, 4, none⟩ (.int .i64 S)) base b win data E 0 S false evs pend ∧
      Below base W ((((W.setCell ⟨b, 3, none⟩ (.int .i64 0)).setCell ⟨b, 5, none⟩ (.bool false)).setCell ⟨b, 2, none⟩ (.int .i64 E)).setCell ⟨b, 4, none⟩ (.int .i64 S)) := by
  obtain ⟨r1, b1⟩ := h.setMode 0
  obtain ⟨r2, b2⟩ := r1.setEat false
  obtain ⟨r3, b3⟩ := r2.setPos E
  obtain ⟨r4, b4⟩ := r3.setScan S
  exact ⟨r4, ((b1.trans b2).trans b3).trans b4⟩
theorem Rdr.ended2 {W : World} {base b : Nat} {win : Int} {data : ByteArray} {pos mode scan : Int} {eat : Bool} {evs : List Ev} {pend : List UInt8} (h : Rdr W base b win data pos mode scan eat evs pend) (E S M : Int) (B : Bool) :
    Rdr ((((((W.setCell ⟨b, 3, none⟩ (.int .i64 0)).setCell ⟨b, 5, none⟩ (.bool false)).setCell ⟨b, 3, none⟩ (.int .i64 M)).setCell ⟨b, 5, none⟩ (.bool B)).setCell ⟨b, 2, none⟩ (.int .i64 E)).setCell ⟨b, 4, none⟩ (.int .i64 S)) base b win data E M S B evs pend ∧
      Below base W ((((((W.setCell ⟨b, 3, none⟩ (.int .i64 0)).setCell ⟨b, 5, none⟩ (.bool false)).setCell ⟨b, 3, none⟩ (.int .i64 M)).setCell ⟨b, 5, none⟩ (.bool B)).setCell ⟨b, 2, none⟩ (.int .i64 E)).setCell ⟨b, 4, none⟩ (.int .i64 S)) := by
  obtain ⟨r1, b1⟩ := h.setMode 0
  obtain ⟨r2, b2⟩ := r1.setEat false
  obtain ⟨r3, b3⟩ := r2.setMode M
  obtain ⟨r4, b4⟩ := r3.setEat B
  obtain ⟨r5, b5⟩ := r4.setPos E
  obtain ⟨r6, b6⟩ := r5.setScan S
  exact ⟨r6, ((((b1.trans b2).trans b3).trans b4).trans b5).trans b6⟩

set_option maxHeartbeats 8000000 in
set_option maxRecDepth 100000 in
theorem readTag_any (base b win : Nat) (data : ByteArray) (pos k mode : Nat) (eat : Bool) (evs : List Ev) (pend : List UInt8) (m : Int) (w : World) (h : Rdr w base b win data pos mode 0 eat evs pend) (hd : data.size ≤ 10000000) (hk : k = 1 ∨ k = 2) (hp : pos + k ≤ data.size)
    (hwin : win ≤ 4096) (hel : evs.length ≤ 8000000) (hT : LexTabs base w m) :
    Calls Tryd.prog 50 #[.pointer (some ⟨b, 0, none⟩), .int .i64 ((pos + k : Nat) : Int)] w fun e w' => StepAt w w' base b win data pos evs pend e (tagL win k (data.data.toList.drop pos) ⟨mode, 0, eat⟩) := by
  obtain ⟨⟨c0, c1, c2, c3, c4, c5⟩, hf, _⟩ := h.cells
  obtain ⟨a, ha⟩ : ∃ a, pos + k = a := ⟨_, rfl⟩
  have hak : a = pos + 1 ∨ a = pos + 2 := by omega
  have hpass := pass_any data a 3 w (by omega) (by omega) (.inr (by omega)) hT.tag
  have hD : (data.data.toList.drop pos).drop k = data.data.toList.drop a := by rw [List.drop_drop, ha]
  unfold tagL
  rw [hD]
  have hple := pass_le (data.data.toList.drop a) 3
  have hpt := pass_take (data.data.toList.drop a) 3
  obtain ⟨p, hP⟩ : ∃ p, passL 3 (data.data.toList.drop a) = p := ⟨_, rfl⟩
  rw [hP] at hpass hple hpt ⊢
  obtain ⟨p1, p2⟩ := p
  simp only at hpass hple hpt ⊢
  rw [List.length_drop, ← size_eq] at hple
  obtain ⟨tag, htag⟩ : ∃ tag, (data.data.toList.drop a).take p1 = tag := ⟨_, rfl⟩
  rw [htag] at hpt ⊢
  obtain ⟨E, hE⟩ : ∃ E, a + p1 = E := ⟨_, rfl⟩
  have htl : (data.extract a E).data.toList = tag := by rw [part_slice, ← htag, List.drop_take, ← hE, Nat.add_sub_cancel_left]
  have htz : (data.extract a E).size = p1 := by rw [ByteArray.size_extract]; omega
  have hname := fun W hTW => tagName_any (data.extract a E) W (by omega) hTW
  rw [htl] at hname
  obtain ⟨T, hTT⟩ : ∃ T, data.extract a E = T := ⟨_, rfl⟩
  rw [hTT] at hname htl htz
  rw [hE] at hpass
  obtain ⟨N, hN⟩ : ∃ N, tagNameL tag = N := ⟨_, rfl⟩
  rw [hN] at hname ⊢
  obtain ⟨nb, hnb⟩ : ∃ nb : ByteArray, (⟨N.toArray⟩ : ByteArray) = nb := ⟨_, rfl⟩
  have hnbl : nb.data.toList = N := by rw [← hnb]
  rw [hnb] at hname
  have hin := fun W => inside_any nb W
  have heat := fun W => eats_any nb W
  rw [hnbl] at hin heat
  have hsub : IntKind.i64.wrap ((E : Int) - (pos : Int)) = ((k + p1 : Nat) : Int) := by rw [IntKind.wrap_i64]; omega
  have hadd : IntKind.i64.wrap ((pos : Int) + 1) = ((pos + 1 : Nat) : Int) := by rw [IntKind.wrap_i64]; omega
  have hEd : E ≤ data.size := by omega
  have haE : a ≤ E := by omega
  have hpE : pos + (k + p1) = E := by omega
  have HP := hid hpass
  have HN := hid hname
  have HT := hid hT
  have HR := hid h
  have HI := hid hin
  have HE := hid heat
  have HPT := hid (fun (_ : True) => hpt)
  have HTL := hid (fun (_ : True) => htl)
  have f2 := hf 2
  have f3 := hf 3
  have f4 := hf 4
  have f5 := hf 5
  rw [ha]
  clear hpass hname hin heat hT h hf hpt htl hD hP htag hE hN hnbl hp
  obtain ⟨fi, hfi⟩ : ∃ fi, k + p1 = fi := ⟨_, rfl⟩
  have hp1f : p1 ≤ fi := by omega
  rw [hfi] at hsub hpE ⊢
  clear hfi
  have hq1 : (k = 1 ∧ ((a : Int) == ((pos + 1 : Nat) : Int)) = true) ∨ (k = 2 ∧ ((a : Int) == ((pos + 1 : Nat) : Int)) = false) := by
    rcases hk with rfl | rfl
    · exact .inl ⟨rfl, beq_iff_eq.2 (by omega)⟩
    · exact .inr ⟨rfl, beq_eq_false_iff_ne.2 (by omega)⟩
  by_cases hfit : fi ≤ win
  · have qf : (fi : Int) ≤ (win : Int) := by omega
    by_cases hs : p2 = 0
    · subst hs
      rw [if_neg (fun h => h.2 rfl), if_pos hfit]
      have hTz : T.size ≤ 1000000 := by clear hsub; omega
      have hrow := fun W hTT hC hmx => attrs_any T m W hTz (by rw [HTL.out trivial]; exact HPT.out trivial) hTT hC hmx
      rw [HTL.out trivial] at hrow
      have HROW := hid hrow
      clear hrow htz HPT HTL
      rcases hq1 with ⟨rfl, qk⟩ | ⟨rfl, qk⟩
      · simp only [if_true]
        generalize attrsL 3 [] [] tag = AT at HROW ⊢
        generalize insideL N = IN at HI ⊢
        generalize eatsL N = EA at HE ⊢
        clear hk ha hak hfit
        go_enter Tryd.func50, Tryd.ntmps50
        go_wp2_with (go_at_call 47; refine HP.out.mono ?_; rintro e w1 ⟨rfl, nd, rfl⟩)
        go_quiet (fail)
        go_wp2_with (go_at_call 66; refine (HN.out _ (by exact HT.out.tag)).mono ?_; rintro e w2 ⟨rfl, b2⟩; have hr2 := (HR.out.drewN (nd + nq)).below b2; obtain ⟨⟨d0, d1, d2, d3, d4, d5⟩, df, _⟩ := hr2.cells; have e2 := df 2; have e3 := df 3; have e4 := df 4; have e5 := df 5; clear df)
        have hb2 : Below base w w2 := (below_drewN (Below.refl base w) (nd + nq)).trans (b2.mono HR.out.size)
        have ht2 := HT.out.below hb2
        have HR2 := hid hr2
        have HB2 := hid hb2
        have HT2 := hid ht2
        clear hr2 hb2 ht2 b2
        clear c0 c1 c2 c3 c4 c5 f2 f3 f4 f5
        go_region_law (first
          | (go_simp; go_at_call 68; refine (HROW.out _ (by exact HT2.out.tag) (by exact ⟨HT2.out.ch.names, HT2.out.ch.repl⟩) (by exact HT2.out.max)).mono ?_; rintro e w3 ⟨v, rfl, hrow3, b3⟩; obtain ⟨vp, vc, rfl⟩ := row_shape hrow3; have hr3 := HR2.out.drew.below b3; have hb3 : Below base w2 w3 := Below.mono (B := w2.heap.size) ⟨b3.os, b3.tape, b3.output, b3.size, b3.block⟩ HR2.out.size; have hrow4 := row_low hrow3 (by exact HR2.out.size))
          | (go_simp; go_at_call 67; refine (rdPut_any base b win data pos mode 0 eat evs pend _ 1 nb ⟨#[]⟩ vp AT.length vc (.start N AT) _ _ (heap_alloc_new _ _) (by decide) (by exact HR2.out.drew) (by exact b3.alloc b3.size _) (fun g e => (hrow3.lt g e).1) (by omega) (by exact ⟨⟨rfl, by rw [← hnb]; rfl, hrow4.alloc _, rfl⟩, trivial⟩) (by simp [Value.oneCell'])).mono ?_; rintro e w4 ⟨rfl, hr4, b4⟩; obtain ⟨⟨g0, g1, g2, g3, g4, g5⟩, gf, _⟩ := hr4.cells; have j2 := gf 2; have j3 := gf 3; have j4 := gf 4; have j5 := gf 5; clear gf))
        all_goals
          have hb4 := ((HB2.out.trans hb3).alloc (Nat.le_trans HR2.out.size (by exact b3.size)) _).trans b4
          have HR4 := hid hr4
          have HB4 := hid hb4
          clear hr4 hb4 hr3 hb3 b3 b4 hrow3 hrow4 d0 d1 d2 d3 d4 d5 e2 e3 e4 e5
          go_wp2_with (first | (go_at_call 69; refine (HI.out _).mono ?_; rintro e w' ⟨rfl, rfl⟩) | (go_at_call 70; refine (HE.out _).mono ?_; rintro e w' ⟨rfl, rfl⟩))
          go_ret
          exact ⟨rfl, by rw [hpE]; exact (HR4.out.ended2 _ _ _ _).1, HB4.out.trans (HR4.out.ended2 _ _ _ _).2⟩
      · have h21 : ¬ (2 = 1) := by decide
        simp only [if_neg h21]
        clear hk ha hak hfit HROW
        go_enter Tryd.func50, Tryd.ntmps50
        go_wp2_with (go_at_call 47; refine HP.out.mono ?_; rintro e w1 ⟨rfl, nd, rfl⟩)
        go_quiet (fail)
        go_wp2_with (first | (go_at_call 66; refine (HN.out _ (by exact HT.out.tag)).mono ?_; rintro e w2 ⟨rfl, b2⟩; have hr2 := (HR.out.drewN (nd + nq)).below b2; obtain ⟨⟨d0, d1, d2, d3, d4, d5⟩, df, _⟩ := hr2.cells; have e2 := df 2; have e3 := df 3; have e4 := df 4; have e5 := df 5; clear df) | (go_at_call 67; refine (rdPut_any base b win data pos mode 0 eat evs pend _ 2 nb ⟨#[]⟩ none 0 0 (.stop N) _ _ (heap_alloc_new _ _) (by decide) (by exact hr2) ((Below.refl _ _).alloc (Nat.le_refl _) _) (fun g e => by cases e) (by omega) (by exact ⟨⟨rfl, by rw [← hnb]; rfl, rfl, rfl⟩, trivial⟩) (by simp [Value.oneCell'])).mono ?_; rintro e w4 ⟨rfl, hr4, b4⟩; obtain ⟨⟨g0, g1, g2, g3, g4, g5⟩, gf, _⟩ := hr4.cells; have j2 := gf 2; have j3 := gf 3; have j4 := gf 4; have j5 := gf 5; clear gf))
        have hb2 : Below base w w2 := (below_drewN (Below.refl base w) (nd + nq)).trans (b2.mono HR.out.size)
        go_ret
        exact ⟨rfl, by rw [hpE]; exact (hr4.ended _ _).1, ((hb2.alloc (by exact hr2.size) _).trans b4).trans (hr4.ended _ _).2⟩
    · rw [if_pos ⟨hfit, hs⟩]
      have qs : ((p2 : Int) != 0) = true := by rw [bne, beq_eq_false_iff_ne.2 (by omega)]; rfl
      clear HN HI HE HPT HTL hTT htz hq1
      go_enter Tryd.func50, Tryd.ntmps50
      go_wp2_with (go_at_call 47; refine HP.out.mono ?_; rintro e w1 ⟨rfl, nd, rfl⟩)
      go_quiet (fail)
      go_wp2
      go_ret
      exact ⟨rfl, HR.out.drewN _, below_drewN (Below.refl base w) _⟩
  · rw [if_neg (fun h => hfit h.1), if_neg hfit]
    have qf : ¬ (fi : Int) ≤ (win : Int) := by omega
    clear HPT HTL htz
    rcases hq1 with ⟨rfl, qk⟩ | ⟨rfl, qk⟩
    · simp only [if_true]
      generalize insideL N = IN at HI ⊢
      generalize eatsL N = EA at HE ⊢
      clear hk ha hak hfit
      go_enter Tryd.func50, Tryd.ntmps50
      go_wp2_with (go_at_call 47; refine HP.out.mono ?_; rintro e w1 ⟨rfl, nd, rfl⟩)
      go_quiet (fail)
      go_wp2_with (go_at_call 66; refine (HN.out _ (by exact HT.out.tag)).mono ?_; rintro e w2 ⟨rfl, b2⟩; have hr2 := (HR.out.drewN (nd + nq)).below b2; obtain ⟨⟨d0, d1, d2, d3, d4, d5⟩, df, _⟩ := hr2.cells; have e2 := df 2; have e3 := df 3; have e4 := df 4; have e5 := df 5; clear df)
      have hb2 : Below base w w2 := (below_drewN (Below.refl base w) (nd + nq)).trans (b2.mono HR.out.size)
      clear c0 c1 c2 c3 c4 c5 f2 f3 f4 f5
      go_wp2_with (first | (go_at_call 69; refine (HI.out _).mono ?_; rintro e w' ⟨rfl, rfl⟩) | (go_at_call 70; refine (HE.out _).mono ?_; rintro e w' ⟨rfl, rfl⟩))
      go_ret
      exact ⟨rfl, by rw [hpE]; exact (hr2.ended2 _ _ _ _).1, hb2.trans (hr2.ended2 _ _ _ _).2⟩
    · have h21 : ¬ (2 = 1) := by decide
      simp only [if_neg h21]
      clear hk ha hak hfit
      go_enter Tryd.func50, Tryd.ntmps50
      go_wp2_with (go_at_call 47; refine HP.out.mono ?_; rintro e w1 ⟨rfl, nd, rfl⟩)
      go_quiet (fail)
      go_wp2_with (go_at_call 66; refine (HN.out _ (by exact HT.out.tag)).mono ?_; rintro e w2 ⟨rfl, b2⟩; have hr2 := (HR.out.drewN (nd + nq)).below b2; obtain ⟨⟨d0, d1, d2, d3, d4, d5⟩, df, _⟩ := hr2.cells; have e2 := df 2; have e3 := df 3; have e4 := df 4; have e5 := df 5; clear df)
      have hb2 : Below base w w2 := (below_drewN (Below.refl base w) (nd + nq)).trans (b2.mono HR.out.size)
      go_ret
      exact ⟨rfl, by rw [hpE]; exact (hr2.ended _ _).1, hb2.trans (hr2.ended _ _).2⟩
end Go.Proofs.YtolbahmihkdmiaaDoor
