/-
  Parts of the walk, joined: StepB, LexLaw, LexJoin, JoinW, StepTag.
-/
import Derived.Test.YtialeicpelehoaaDoorPartG
import Derived.Test.YtialeicpelehoaaDoorPartF
/-
  A step of the reader, in the plain lexer's words; skipBogus, skipComment: their walks.
-/
namespace Go.Proofs.YtialeicpelehoaaDoor
open Go.RowKit Go.Lib Own

theorem StreamAt.below {W W' : World} {base b o : Nat} {cs : Array Value} {T : TypeId} {evs : List Ev} {pend : List UInt8} (h : StreamAt W base b o cs T evs pend) (hb : Below W.heap.size W W') : StreamAt W' base b o cs T evs pend := by
  obtain ⟨ev, p, v, xs, hev, hin, hrow, hevs⟩ := h.it
  have hg : W.grownBy W' none := ⟨hb.os, hb.tape, hb.output, hb.size, fun k hk _ => hb.block k hk⟩
  exact ⟨ev, p, v, xs, hev, ⟨(hb.block b (Array.getElem?_eq_some_iff.1 hin.at_).1).trans hin.at_, hin.lo, hin.cp, hin.cv, hin.hp, hin.own.kept hg (by cases hv : v.ownBlock <;> simp), hin.ne⟩, hrow.kept hg (Classical.em _), evs_mono (fun a n ys hr => hr.kept hg (Classical.em _)) xs evs hevs⟩
theorem Rdr.below {W W' : World} {base b : Nat} {win : Int} {data : ByteArray} {pos mode scan : Int} {eat : Bool} {evs : List Ev} {pend : List UInt8} (h : Rdr W base b win data pos mode scan eat evs pend) (hb : Below W.heap.size W W') : Rdr W' base b win data pos mode scan eat evs pend := by
  obtain ⟨ev, p, v, hS⟩ := h.it
  exact ⟨ev, p, v, hS.below hb⟩
theorem Rdr.size {W : World} {base b : Nat} {win : Int} {data : ByteArray} {pos mode scan : Int} {eat : Bool} {evs : List Ev} {pend : List UInt8} (h : Rdr W base b win data pos mode scan eat evs pend) : base ≤ W.heap.size := by
  obtain ⟨ev, p, v, hS⟩ := h.it
  obtain ⟨hat, hlo⟩ := hS.heap
  have := (Array.getElem?_eq_some_iff.1 hat).1
  omega
theorem below_low {A B : Nat} {w w' : World} (h : Below B w w') (hAB : A ≤ B) : Below A w w' := Below.mono h hAB

theorem rangeAt_base {base : Nat} {w w' : World} {b o : Nat} {cs : List Value} (h : w.rangeAt b o cs) (hb : Below base w w') (hlt : b < base) : w'.rangeAt b o cs := by
  intro j v hv
  have hc := h j v hv
  have := hb.block b hlt
  unfold World.cell? at hc ⊢
  rw [this]
  exact hc
theorem cell_low {base : Nat} {w w' : World} {b o : Nat} {v : Value} (h : w.cell? ⟨b, o, none⟩ = some v) (hb : Below base w w') (hlt : b < base) : w'.cell? ⟨b, o, none⟩ = some v := by
  have := hb.block b hlt
  unfold World.cell? at h ⊢
  rw [this]
  exact h
/-- the tables that the lexer reads, all ahead of block 'base' -/
structure LexTabs (base : Nat) (w : World) (m : Int) : Prop where
  tag : TagTabs w
  ch : ChTabs w
  max : w.cell? ⟨7, 0, none⟩ = some (.int .i64 m)
  l1 : 9 < base
  l2 : 2 < base
  l3 : 8 < base
  l4 : 7 < base
theorem LexTabs.below {base : Nat} {w w' : World} {m : Int} (h : LexTabs base w m) (hb : Below base w w') : LexTabs base w' m :=
  ⟨rangeAt_base h.tag hb h.l1, ⟨rangeAt_base h.ch.names hb h.l2, rangeAt_base h.ch.repl hb h.l3⟩, cell_low h.max hb h.l4, h.l1, h.l2, h.l3, h.l4⟩

/-- what a step leaves -/
def StepAt (w w' : World) (base b : Nat) (win : Int) (data : ByteArray) (pos : Nat) (evs : List Ev) (pend : List UInt8) (e : Ending) : Res → Prop
  | .more n st => e = .returned (.bool false) ∧ Rdr w' base b win data ((pos + n : Nat) : Int) (st.mode : Int) (st.scan : Int) st.eat evs pend ∧ Below base w w'
  | .done n st it => e = .returned (.bool true) ∧ Rdr w' base b win data ((pos + n : Nat) : Int) (st.mode : Int) (st.scan : Int) st.eat (putAll (evs, pend) it).1 (putAll (evs, pend) it).2 ∧ Below base w w'

set_option maxHeartbeats 2000000 in
set_option maxRecDepth 10000 in
theorem skipBogus_any (base b : Nat) (win : Int) (data : ByteArray) (pos mode : Nat) (eat : Bool) (evs : List Ev) (pend : List UInt8) (w : World) (h : Rdr w base b win data pos mode 2 eat evs pend) (hd : data.size ≤ 10000000) (hp : pos ≤ data.size) :
    Calls Tryd.prog 57 #[.pointer (some ⟨b, 0, none⟩)] w fun e w' => StepAt w w' base b win data pos evs pend e (bogusRes ⟨mode, 2, eat⟩ (data.data.toList.drop pos)) := by
  have hll : (data.data.toList.drop pos).length = data.size - pos := by rw [List.length_drop, ← size_eq]
  have hsum : (pos + (data.data.toList.drop pos).length : Nat) = data.size := by omega
  obtain ⟨⟨c0, c1, c2, c3, c4, c5⟩, hf, _⟩ := h.cells
  have f2 := hf 2
  have f4 := hf 4
  obtain ⟨t, ht⟩ : ∃ t : ByteArray, data.extract pos data.size = t := ⟨_, rfl⟩
  have htl : t.data.toList = data.data.toList.drop pos := by rw [← ht]; exact extract_to_end data pos
  have hcall := fun W => Tryd.strings_IndexByte t 62 W
  rw [htl, show (62 : Int).toNat.toUInt8 = 62 from rfl, indexByte_idx] at hcall
  have hlt := byte_append 62 (data.data.toList.drop pos) []
  have HR := hid h
  unfold bogusRes
  cases hi : byteIdx 62 (data.data.toList.drop pos) with
  | none =>
    rw [hi] at hcall
    have HC := hid hcall
    unfold StepAt
    simp only
    rw [hsum]
    clear hcall hlt hi h hf htl hsum hll
    go_enter Tryd.func57, Tryd.ntmps57
    go_wp2_with fail
    go_quiet (first | (go_at_call 83; refine Calls.quiet_of_same (HC.out _)))
    go_wp2
    go_ret
    exact ⟨rfl, ((HR.out.drewN _).setPos _).1, (below_drewN (Below.refl base w) _).trans ((HR.out.drewN _).setPos _).2⟩
  | some i =>
    rw [hi] at hcall hlt
    have hil : i < data.size - pos := by
      rcases hlt with ⟨j, h1, h2, -⟩ | ⟨h1, -⟩
      · cases h1; omega
      · cases h1
    have w1 : IntKind.i64.wrap ((i : Int) + 1) = (i : Int) + 1 := by rw [IntKind.wrap_i64]; omega
    have w2 : IntKind.i64.wrap ((pos : Int) + ((i : Int) + 1)) = ((pos + (i + 1) : Nat) : Int) := by rw [IntKind.wrap_i64]; omega
    have hng : ¬ (i : Int) < 0 := by omega
    have HC := hid hcall
    unfold StepAt
    simp only
    generalize ((pos + (i + 1) : Nat) : Int) = q at *
    clear hcall hlt hi h hf htl hll hsum
    go_enter Tryd.func57, Tryd.ntmps57
    go_wp2_with fail
    go_quiet (first | (go_at_call 83; refine Calls.quiet_of_same (HC.out _)))
    go_wp2
    go_ret
    exact ⟨rfl, (((HR.out.drewN _).setPos _).1.setScan _).1, ((below_drewN (Below.refl base w) _).trans ((HR.out.drewN _).setPos _).2).trans (((HR.out.drewN _).setPos _).1.setScan _).2⟩
end Go.Proofs.YtialeicpelehoaaDoor

/-
  Feeding a text in pieces, as the plain lexer has it: what a run leaves, how much it tells, and that the pieces' events are those of the whole.
-/
namespace Go.Proofs.YtialeicpelehoaaDoor

theorem run_ind {W : Nat} (hW : 32 ≤ W) (P : LS → List UInt8 → LS × List UInt8 × List Item → Prop) (h0 : ∀ st, P st [] (st, [], []))
    (hm : ∀ st L n st', st.scan ≤ 10 → L ≠ [] → stepL W st L = .more n st' → P st L (st', L.drop n, []))
    (hd : ∀ st L n st' it R, st.scan ≤ 10 → L ≠ [] → stepL W st L = .done n st' it → P st' (L.drop n) R → P st L (R.1, R.2.1, it ++ R.2.2)) :
    ∀ (N : Nat) (st : LS) (L : List UInt8), st.scan ≤ 10 → L.length ≤ N → P st L (runL W st L)
  | _, st, [], _, _ => by rw [run_nil]; exact h0 st
  | 0, st, c :: r, _, h => by simp at h
  | N + 1, st, c :: r, hs, h => by
    cases hst : stepL W st (c :: r) with
    | more n st' => rw [run_more (by simp) hst]; exact hm st _ n st' hs (by simp) hst
    | done n st' it =>
      obtain ⟨h1, h2, h3⟩ := step_pos hW hs (by simp) hst
      rw [run_done hW hs (by simp) hst]
      exact hd st _ n st' it _ hs (by simp) hst (run_ind hW P h0 hm hd N st' _ h3 (by rw [List.length_drop]; omega))

theorem insF_le (name : List UInt8) : ∀ (l : List (List UInt8)) (i : Nat), insF name i l = 0 ∨ insF name i l < i + l.length
  | [], i => .inl rfl
  | x :: r, i => by
    unfold insF
    split
    · exact .inr (by simp)
    · rcases insF_le name r (i + 1) with h | h
      · exact .inl h
      · exact .inr (by rw [List.length_cons]; omega)
theorem inside_le (name : List UInt8) : insideL name ≤ 10 := by
  rcases insF_le name rawNames 1 with h | h
  · unfold insideL; omega
  · have : rawNames.length = 10 := rfl
    unfold insideL
    omega
theorem tag_mode {W k : Nat} {L : List UInt8} {st : LS} (hm : st.mode ≤ 10) : (∀ n st', tagL W k L st = .more n st' → st'.mode ≤ 10) ∧ ∀ n st' it, tagL W k L st = .done n st' it → st'.mode ≤ 10 := by
  unfold tagL
  simp only
  split
  · exact ⟨fun n st' h => by cases h; exact hm, fun n st' it h => by cases h⟩
  · refine ⟨fun n st' h => (by cases h), fun n st' it h => ?_⟩
    simp only [Res.done.injEq] at h
    rw [← h.2.1]
    split
    · exact inside_le _
    · exact Nat.zero_le _
theorem ref_mode {L : List UInt8} {st : LS} (hm : st.mode ≤ 10) : (∀ n st', refRes st L = .more n st' → st'.mode ≤ 10) ∧ ∀ n st' it, refRes st L = .done n st' it → st'.mode ≤ 10 := by
  unfold refRes
  split
  · exact ⟨fun n st' h => by cases h; exact hm, fun n st' it h => by cases h⟩
  · exact ⟨fun n st' h => (by cases h), fun n st' it h => by cases h; exact hm⟩
theorem byte_mode {c : UInt8} {st : LS} (hm : st.mode ≤ 10) : (∀ n st', byteRes st c = .more n st' → st'.mode ≤ 10) ∧ ∀ n st' it, byteRes st c = .done n st' it → st'.mode ≤ 10 :=
  ⟨fun n st' h => (by cases h), fun n st' it h => by cases h; exact hm⟩
theorem step_mode {W : Nat} {L : List UInt8} {st : LS} (hm : st.mode ≤ 10) : (∀ n st', stepL W st L = .more n st' → st'.mode ≤ 10) ∧ ∀ n st' it, stepL W st L = .done n st' it → st'.mode ≤ 10 := by
  unfold stepL
  split
  · unfold commentRes
    split
    · exact ⟨fun n st' h => (by cases h), fun n st' it h => by cases h; exact hm⟩
    · exact ⟨fun n st' h => by cases h; exact hm, fun n st' it h => by cases h⟩
  · split
    · unfold bogusRes
      split
      · exact ⟨fun n st' h => (by cases h), fun n st' it h => by cases h; exact hm⟩
      · exact ⟨fun n st' h => by cases h; exact hm, fun n st' it h => by cases h⟩
    · split
      · unfold skipTagRes
        exact ⟨fun n st' h => (by cases h), fun n st' it h => by cases h; exact hm⟩
      · split
        · unfold dataRes
          split
          · unfold markupRes
            split
            · exact ⟨fun n st' h => by cases h; exact hm, fun n st' it h => by cases h⟩
            · split
              · exact tag_mode hm
              · split
                · exact tag_mode hm
                · split
                  · exact ⟨fun n st' h => (by cases h), fun n st' it h => by cases h; exact hm⟩
                  · split
                    · exact ⟨fun n st' h => (by cases h), fun n st' it h => by cases h; exact hm⟩
                    · exact byte_mode hm
          · split
            · exact ref_mode hm
            · exact byte_mode hm
        · split
          · unfold areaRes
            split
            · simp only
              split
              · exact ⟨fun n st' h => by cases h; exact hm, fun n st' it h => by cases h⟩
              · split
                · exact tag_mode hm
                · exact byte_mode hm
            · split
              · exact ref_mode hm
              · exact byte_mode hm
          · unfold rawRes
            split
            · exact ⟨fun n st' h => (by cases h), fun n st' it h => by cases h; exact hm⟩
            · rename_i i hi
              split
              · exact ⟨fun n st' h => (by cases h), fun n st' it h => by cases h; exact hm⟩
              · simp only
                split
                · exact ⟨fun n st' h => by cases h; exact hm, fun n st' it h => by cases h⟩
                · split
                  · have ht := tag_mode (W := W) (k := 2) (L := L.drop i) (st := st) hm
                    cases hr : tagL W 2 (L.drop i) st with
                    | more m s =>
                      refine ⟨fun n st' h => ?_, fun n st' it h => by cases h⟩
                      cases h
                      exact ht.1 _ _ hr
                    | done m s it2 =>
                      refine ⟨fun n st' h => (by cases h), fun n st' it h => ?_⟩
                      cases h
                      exact ht.2 _ _ _ hr
                  · exact ⟨fun n st' h => (by cases h), fun n st' it h => by cases h; exact hm⟩
theorem run_mode {W : Nat} (hW : 32 ≤ W) (st : LS) (L : List UInt8) (h0 : st.scan ≤ 10) (hm : st.mode ≤ 10) : (runL W st L).1.mode ≤ 10 :=
  run_ind hW (fun st _ R => st.mode ≤ 10 → R.1.mode ≤ 10) (fun _ h => h) (fun _ _ _ _ _ _ h hm => (step_mode hm).1 _ _ h) (fun _ _ _ _ _ _ _ _ h ih hm => ih ((step_mode hm).2 _ _ _ h)) L.length st L h0 (Nat.le_refl _) hm
theorem run_rest {W : Nat} (hW : 32 ≤ W) (st : LS) (L : List UInt8) (h0 : st.scan ≤ 10) : (runL W st L).2.1.length ≤ L.length ∧ (runL W st L).2.1 = L.drop (L.length - (runL W st L).2.1.length) := by
  refine run_ind hW (fun _ L R => R.2.1.length ≤ L.length ∧ R.2.1 = L.drop (L.length - R.2.1.length)) (fun _ => ⟨Nat.le_refl _, rfl⟩) ?_ ?_ L.length st L h0 (Nat.le_refl _)
  · intro st L n st' hs hL h
    obtain ⟨h1, -⟩ := step_more hW hs hL h
    refine ⟨by simp only [List.length_drop]; omega, ?_⟩
    simp only [List.length_drop]
    rw [show L.length - (L.length - n) = n by omega]
  · intro st L n st' it R hs hL h ih
    obtain ⟨h1, h2, -⟩ := step_pos hW hs hL h
    obtain ⟨i1, i2⟩ := ih
    rw [List.length_drop] at i1 i2
    refine ⟨by simp only; omega, ?_⟩
    simp only
    rw [List.drop_drop] at i2
    rw [show L.length - R.2.1.length = n + (L.length - n - R.2.1.length) by omega]
    exact i2
theorem run_grow {W : Nat} (hW : 32 ≤ W) (st : LS) (L : List UInt8) (h0 : st.scan ≤ 10) (s : List Ev × List UInt8) :
    (putAll s (runL W st L).2.2).1.length ≤ s.1.length + 2 * (L.length - (runL W st L).2.1.length) ∧ (putAll s (runL W st L).2.2).2.length ≤ s.2.length + 4 * (L.length - (runL W st L).2.1.length) := by
  refine (run_ind hW (fun _ L R => R.2.1.length ≤ L.length ∧ ∀ s, (putAll s R.2.2).1.length ≤ s.1.length + 2 * (L.length - R.2.1.length) ∧ (putAll s R.2.2).2.length ≤ s.2.length + 4 * (L.length - R.2.1.length)) (fun _ => ⟨Nat.le_refl _, fun s => ⟨Nat.le_add_right _ _, Nat.le_add_right _ _⟩⟩) ?_ ?_ L.length st L h0 (Nat.le_refl _)).2 s
  · intro st L n st' hs hL h
    exact ⟨by simp only [List.length_drop]; omega, fun s => ⟨Nat.le_add_right _ _, Nat.le_add_right _ _⟩⟩
  · intro st L n st' it R hs hL h ih
    obtain ⟨h1, h2, -⟩ := step_pos hW hs hL h
    obtain ⟨i0, i3⟩ := ih
    rw [List.length_drop] at i0
    refine ⟨by simp only; omega, fun s => ?_⟩
    obtain ⟨g1, g2⟩ := small_put (step_small h) h1 s
    obtain ⟨i1, i2⟩ := i3 (putAll s it)
    simp only
    rw [putAll_app]
    rw [List.length_drop] at i1 i2
    omega

/-! ## the law -/

def st0 : LS := ⟨0, 0, false⟩
structure Fed (W : Nat) (whole : List UInt8) (st : LS) (held : List UInt8) (all : List Ev) : Prop where
  it : ∃ items, runL W st0 whole = (st, held, items) ∧ joinEv all = joinEv (items.map toEv)
theorem Fed.next {W : Nat} (hW : 32 ≤ W) {whole : List UInt8} {st : LS} {held : List UInt8} {all : List Ev} (h : Fed W whole st held all) (p : List UInt8) :
    Fed W (whole ++ p) (runL W st (held ++ p)).1 (runL W st (held ++ p)).2.1 (all ++ evsL (runL W st (held ++ p)).2.2) := by
  obtain ⟨items, h1, h2⟩ := h.it
  have hc := run_cut hW whole.length st0 whole p (by decide) (Nat.le_refl _)
  have hs : st.scan ≤ 10 := by have := run_scan hW whole.length st0 whole (by decide) (Nat.le_refl _); rw [h1] at this; exact this
  rw [h1] at hc
  exact ⟨_, hc, evs_append items _ (run_full hW _ st _ hs (Nat.le_refl _)) all h2⟩
theorem Fed.first {W : Nat} (_hW : 32 ≤ W) : Fed W [120] (runL W st0 [120]).1 (runL W st0 [120]).2.1 (evsL (runL W st0 [120]).2.2) :=
  ⟨(runL W st0 [120]).2.2, rfl, by rw [evs_join _ (run_full _hW _ st0 _ (by decide) (Nat.le_refl _)), join_idem]⟩
theorem Fed.small {W : Nat} (hW : 32 ≤ W) {whole : List UInt8} {st : LS} {held : List UInt8} {all : List Ev} (h : Fed W whole st held all) : held.length ≤ W ∧ held.length ≤ whole.length ∧ st.scan ≤ 10 ∧ st.mode ≤ 10 := by
  obtain ⟨items, h1, h2⟩ := h.it
  have a := run_held hW whole.length st0 whole (by decide) (Nat.le_refl _)
  have b := (run_rest hW st0 whole (by decide)).1
  have c := run_scan hW whole.length st0 whole (by decide) (Nat.le_refl _)
  have d := run_mode hW st0 whole (by decide) (by decide)
  rw [h1] at a b c d
  exact ⟨a, b, c, d⟩
theorem Fed.last {W : Nat} (hW : 32 ≤ W) {whole : List UInt8} {st : LS} {held : List UInt8} {all : List Ev} (h : Fed W whole st held all) :
    runL W st held = (st, held, []) ∧ joinEv (all ++ evsL (endL st held)) = evsL (wholeL W st0 whole) := by
  obtain ⟨items, h1, h2⟩ := h.it
  have ha := run_again hW st0 whole (by decide)
  rw [h1] at ha
  have hfull : ∀ i ∈ wholeL W st0 whole, fullI i := fun i hi => by
    rcases List.mem_append.1 hi with hi | hi
    · exact run_full hW _ st0 _ (by decide) (Nat.le_refl _) i hi
    · exact end_full _ _ i hi
  refine ⟨ha, ?_⟩
  rw [evs_append items _ (end_full st held) all h2, evs_join _ hfull]
  unfold wholeL
  rw [h1]
theorem whole_x {W : Nat} (hW : 32 ≤ W) (r : List UInt8) : ∃ b l, evsL (wholeL W st0 (120 :: r)) = .text (120 :: b) :: l := by
  have hst : stepL W st0 (120 :: r) = .done 1 st0 [.unit [120]] := rfl
  have hfull : ∀ i ∈ wholeL W st0 (120 :: r), fullI i := fun i hi => by
    rcases List.mem_append.1 hi with hi | hi
    · exact run_full hW _ st0 _ (by decide) (Nat.le_refl _) i hi
    · exact end_full _ _ i hi
  rw [evs_join _ hfull]
  unfold wholeL
  rw [run_done hW (by decide) (by simp) hst]
  show ∃ b l, joinEv (((Item.unit [120] :: _) ++ _).map toEv) = _
  rw [List.cons_append, List.map_cons]
  show ∃ b l, jcons (.text [120]) _ = _
  cases joinEv _ with
  | nil => exact ⟨[], [], rfl⟩
  | cons e l =>
    cases e with
    | text c => exact ⟨c, l, rfl⟩
    | start n a => exact ⟨[], _, rfl⟩
    | stop n => exact ⟨[], _, rfl⟩
end Go.Proofs.YtialeicpelehoaaDoor

/-
  Joining texts that meet, step by step, as a loop does it.
-/
namespace Go.Proofs.YtialeicpelehoaaDoor

def isText : Ev → Bool
  | .text _ => true
  | _ => false
theorem join_other {e : Ev} (h : isText e = false) (r : List Ev) : joinEv (e :: r) = e :: joinEv r := by
  cases e with
  | text b => cases h
  | start n a => rfl
  | stop n => rfl
theorem join_stop (B : List UInt8) : ∀ (r : List Ev), (∀ e, r[0]? = some e → isText e = false) → joinEv (.text B :: r) = .text B :: joinEv r
  | [], _ => rfl
  | e :: r, h => by
    have he := h e rfl
    show jcons (.text B) (joinEv (e :: r)) = _
    rw [join_other he]
    cases e with
    | text b => cases he
    | start n a => rfl
    | stop n => rfl
/-- what a loop over a list keeps: the events put out, and those to come -/
def JoinAt (O L J : List Ev) (i : Nat) : Prop := O ++ joinEv (L.drop i) = J
def JoinIn (O L J : List Ev) (i : Nat) (B : List UInt8) : Prop := O ++ joinEv (.text B :: L.drop i) = J
theorem JoinAt.begin {O L J : List Ev} {i : Nat} {b : List UInt8} (h : JoinAt O L J i) (hi : L[i]? = some (.text b)) : JoinIn O L J (i + 1) b := by
  obtain ⟨h1, h2⟩ := List.getElem?_eq_some_iff.1 hi
  unfold JoinAt at h
  rw [List.drop_eq_getElem_cons h1, h2] at h
  exact h
theorem JoinIn.more {O L J : List Ev} {i : Nat} {B b : List UInt8} (h : JoinIn O L J i B) (hi : L[i]? = some (.text b)) : JoinIn O L J (i + 1) (B ++ b) := by
  obtain ⟨h1, h2⟩ := List.getElem?_eq_some_iff.1 hi
  unfold JoinIn at h ⊢
  rw [List.drop_eq_getElem_cons h1, h2, join_two] at h
  exact h
theorem JoinIn.stop {O L J : List Ev} {i : Nat} {B : List UInt8} (h : JoinIn O L J i B) (hi : ∀ e, L[i]? = some e → isText e = false) : JoinAt (O ++ [.text B]) L J i := by
  unfold JoinIn at h
  unfold JoinAt
  rw [join_stop B _ (by simpa using hi)] at h
  rw [List.append_assoc]
  exact h
theorem JoinAt.other {O L J : List Ev} {i : Nat} {e : Ev} (h : JoinAt O L J i) (hi : L[i]? = some e) (he : isText e = false) : JoinAt (O ++ [e]) L J (i + 1) := by
  obtain ⟨h1, h2⟩ := List.getElem?_eq_some_iff.1 hi
  unfold JoinAt at h ⊢
  rw [List.drop_eq_getElem_cons h1, h2, join_other he] at h
  rw [List.append_assoc]
  exact h
theorem JoinAt.over {O L J : List Ev} {i : Nat} (h : JoinAt O L J i) (hi : L.length ≤ i) : O = J := by
  unfold JoinAt at h
  rw [List.drop_of_length_le hi] at h
  simpa [joinEv] using h
end Go.Proofs.YtialeicpelehoaaDoor

/-
  The statement's joining of texts: its walk.
-/
namespace Go.Proofs.YtialeicpelehoaaDoor
open Go.RowKit Go.Lib Own

def tot (l : List Ev) : Nat := (l.map fun e => (evT e).length).sum
theorem tot_step (l : List Ev) (i : Nat) (hi : i < l.length) : (evT l[i]).length + tot (l.drop (i + 1)) = tot (l.drop i) := by
  unfold tot
  rw [List.drop_eq_getElem_cons hi, List.map_cons, List.sum_cons]
theorem tot_drop (l : List Ev) : ∀ i, tot (l.drop i) ≤ tot l
  | 0 => Nat.le_refl _
  | i + 1 => by
    have ih := tot_drop l i
    rcases Nat.lt_or_ge i l.length with h | h
    · have := tot_step l i h
      omega
    · rw [List.drop_of_length_le (by omega)]
      exact Nat.zero_le _
theorem blockN_ne {W : World} {e T : TypeId} {k g n cap : Nat} {xs : List Value} {cs : Array Value} {fz : Nat × Nat} (hk : W.heap[k]? = some (.cells cs T fz)) (hn : ownsN W e g n cap xs) (hT : T ≠ e) : k ≠ g := by
  rintro rfl
  obtain ⟨cur, fz2, hg, _⟩ := hn
  rw [hk] at hg
  simp only [Option.some.injEq, Obj.cells.injEq] at hg
  exact hT hg.2.1
theorem rowN_ne {W : World} {e e2 : TypeId} {base size n0 g n cap : Nat} {v : Value} {xs ys : List Value} (h : W.ownsRow base e size v n0 ys) (hn : ownsN W e2 g n cap xs) (hne : e ≠ e2) : v.ownBlock ≠ some g := by
  rcases h.2 with ⟨rfl, _⟩ | ⟨g1, cap1, cur, rfl, _, hg, _⟩
  · simp [Value.ownBlock]
  · intro h3
    simp only [Value.ownBlock, Option.some.injEq] at h3
    exact blockN_ne hg hn hne h3
theorem one_cells (e : Ev) (p : Option Addr) (c : Nat) (b : ByteArray) : ∀ u ∈ [Value.int .i64 (evK e : Nat), strV (evN e), .slice p (evA e).length c, .string b], u.oneCell' = true := by
  simp [Value.oneCell', strV]

theorem cells_newV2 (L : List Value) (t : TypeId) (X : Obj) (W : World) : ∀ j u, L[j]? = some u → ((W.alloc X).alloc (.cells L.toArray t)).cell? ((⟨W.heap.size + 1, 0, none⟩ : Addr).add j) = some u := by
  have h := cells_newV L t (W.alloc X)
  rw [show (W.alloc X).heap.size = W.heap.size + 1 by simp] at h
  exact h
theorem cells_newV3 (L : List Value) (t : TypeId) (a : Addr) (v : Value) (W : World) : ∀ j u, L[j]? = some u → ((W.setCell a v).alloc (.cells L.toArray t)).cell? ((⟨W.heap.size, 0, none⟩ : Addr).add j) = some u := by
  have h := cells_newV L t (W.setCell a v)
  rw [show (W.setCell a v).heap.size = W.heap.size by simp] at h
  exact h
theorem row_set {W : World} {base r n : Nat} {e : TypeId} {size : Nat} {v : Value} {xs : List Value} (h : W.ownsRow base e size v n xs) (hne : v.ownBlock ≠ some r) (o : Nat) (u : Value) : (W.setCell ⟨r, o, none⟩ u).ownsRow base e size v n xs :=
  h.kept (row := some r) ⟨rfl, rfl, rfl, by simp, fun k _ hk => heap_setCell_other _ _ _ _ (fun e => hk (by rw [e]))⟩ (.inr hne)
set_option maxHeartbeats 8000000 in
set_option maxRecDepth 100000 in
theorem joinTexts_any (B : Nat) (v : Value) (xs : List Value) (l : List Ev) (w : World) (h : w.ownsRow B 44 4 v l.length xs) (he : EvsAt w B xs l) (hl : l.length ≤ 1000000000) (ht : tot l ≤ 100000000000) :
    Calls Tryd.prog 14 #[v] w fun e w' => ∃ v' ys, e = .returned v' ∧ w'.ownsRow w.heap.size 44 4 v' (joinEv l).length ys ∧ EvsAt w B ys (joinEv l) ∧ Below w.heap.size w w' := by
  obtain ⟨i0, hi, hz0, hz1, hz2⟩ := info_parts info_event
  obtain ⟨ub, hub, hub0, hub1, hub2⟩ := info_parts info_u8
  obtain ⟨J, hJ⟩ : ∃ J, joinEv l = J := ⟨_, rfl⟩
  obtain ⟨p1, k1, rfl⟩ := row_shape h
  have H0 : JoinAt [] l J 0 := hJ
  have HH := hid (And.intro h he)
  have HT := hid ht
  rw [hJ]
  clear h he ht hJ
  go_enter Tryd.func14, Tryd.ntmps14
  go_wp2
  go_loopw [3, 4] (fun ov iv wr => ∃ (i : Nat) (O : List Ev) (ys : List Value), iv = .int .i64 i ∧ i ≤ l.length ∧ O.length ≤ i ∧ Hid (wr.ownsRow w.heap.size 44 4 ov O.length ys ∧ EvsAt w B ys O ∧ Below w.heap.size w wr ∧ JoinAt O l J i)) (fun _ iv _ => l.length - (RowKit.intOf iv).toNat)
  case atStart => exact ⟨0, [], [], rfl, Nat.zero_le _, Nat.le_refl _, hid ⟨World.ownsRow_nil _ _ _ _, trivial, Below.refl _ _, H0⟩⟩
  case round =>
    obtain ⟨i, O, ys, rfl, hil, hOi, HX⟩ := hrel
    obtain ⟨op, oc, rfl⟩ := row_shape HX.out.1
    clear H0
    by_cases hlt : i < l.length
    · obtain ⟨g, ca, a, hv, _, hg2, b0, b1, b2, b3, b4, b5⟩ := ev_cells HH.out.1 HH.out.2 i hlt
      cases hv
      obtain ⟨sp, sc, rfl⟩ := row_shape b4
      have a0 := cell_low b0 HX.out.2.2.1 hg2
      have a1 := cell_low b1 HX.out.2.2.1 hg2
      have a2 := cell_low b2 HX.out.2.2.1 hg2
      have a3 := cell_low b3 HX.out.2.2.1 hg2
      have hown := HX.out.1
      have hlo := HX.out.2.2.1.size
      have hA4 := hid (show O.length + 1 ≤ maxLen by unfold maxLen; omega)
      have hA5 := hid (show (O.length + 1) * 64 ≤ 140737488355328 by omega)
      have HE5 := hid b5
      clear b0 b1 b2 b3 b4 b5
      obtain ⟨nb, hnb⟩ : ∃ nb : ByteArray, (⟨(evN l[i]).toArray⟩ : ByteArray) = nb := ⟨_, rfl⟩
      obtain ⟨tb, htb⟩ : ∃ tb : ByteArray, (⟨(evT l[i]).toArray⟩ : ByteArray) = tb := ⟨_, rfl⟩
      have HONE := hid (one_cells l[i] sp sc)
      have HNB := hid (fun (_ : True) => hnb)
      have HTB := hid (fun (_ : True) => htb)
      unfold strV at a1 a3
      rw [hnb] at a1
      rw [htb] at a3
      clear hnb htb
      have hwi : IntKind.i64.wrap ((i : Int) + 1) = ((i + 1 : Nat) : Int) := by rw [IntKind.wrap_i64]; omega
      cases htx : isText l[i] with
      | false =>
        have hnx := HX.out.2.2.2.other (List.getElem?_eq_getElem hlt) htx
        have q : (((evK l[i] : Nat) : Int) == 3) = false := by
          cases hh : l[i] with
          | text b => rw [hh] at htx; cases htx
          | start n a => rfl
          | stop n => rfl
        have HNX := hid hnx
        clear hnx htx
        obtain ⟨K, hK⟩ : ∃ K : Int, ((evK l[i] : Nat) : Int) = K := ⟨_, rfl⟩
        have HK := hid (fun (_ : True) => hK)
        rw [hK] at a0 q
        clear hK
        obtain ⟨AL, hAL⟩ : ∃ AL, (evA l[i]).length = AL := ⟨_, rfl⟩
        have HAL := hid (fun (_ : True) => hAL)
        rw [hAL] at a2
        clear hAL
        go_wp2_with (at_builtin; refine wpList_append_own _ rfl (.tmp 47) (.tmp 49) 35 rfl w.heap.size 44 i0 (.agg #[.int .i64 0, .string ⟨#[]⟩, .slice none 0 0, .string ⟨#[]⟩]) 4 64 Tryd.underlying35 hi hz0 hz1 hz2 rfl (by decide) _ _ _ rfl ((hown.alloc _).alloc _) ⟨_, 0, none⟩ 1 1 [.int .i64 K, .string nb, .slice sp AL sc, .string tb] rfl rfl (cells_newV2 _ _ _ _) (by simp [Value.oneCell']) hA4.out hA5.out ?_ ?_)
        · first | omega | (simp; omega)
        · intro v' w2 hown2 hgrow _
          have hb2 : Below w.heap.size w w2 := ((HX.out.2.2.1.alloc hlo _).alloc (by simp; omega) _).grown hgrow (by simp; omega) (fun j hj => (hown.lt j hj).1)
          have HY := hid (And.intro hown2 hb2)
          clear hown2 hb2 hgrow
          go_wp2
          go_roundw
          case rel =>
            have hfin : w2.ownsRow w.heap.size 44 4 v' (O ++ [l[i]]).length (ys ++ [.int .i64 K, .string nb, .slice sp AL sc, .string tb]) ∧ EvsAt w B (ys ++ [.int .i64 K, .string nb, .slice sp AL sc, .string tb]) (O ++ [l[i]]) ∧ Below w.heap.size w w2 ∧ JoinAt (O ++ [l[i]]) l J (i + 1) := by
              refine ⟨by rw [List.length_append]; exact HY.out.1, evs_snoc2 _ _ HX.out.2.1 ?_, HY.out.2, HNX.out⟩
              have := HE5.out
              unfold strV at this
              rw [HNB.out trivial, HTB.out trivial, HK.out trivial, HAL.out trivial] at this
              exact this
            first
              | exact ⟨i + 1, _, _, rfl, by omega, by simp; omega, hid hfin⟩
              | ((repeat apply Exists.intro); exact ⟨⟨i + 1, _, _, rfl, by omega, by simp; omega, hid hfin⟩, rfl⟩)
          case measure => simp [RowKit.intOf]; omega
      | true =>
        obtain ⟨bt, hbt⟩ : ∃ bt, l[i] = .text bt := by
          cases hh : l[i] with
          | text b => exact ⟨b, rfl⟩
          | start n a => rw [hh] at htx; cases htx
          | stop n => rw [hh] at htx; cases htx
        have hin := HX.out.2.2.2.begin (by rw [List.getElem?_eq_getElem hlt, hbt])
        have htb2 := HTB.out trivial
        have hnb2 := HNB.out trivial
        have hst := tot_step l i hlt
        have he5 := HE5.out
        rw [hbt] at a0 a2 htb2 hnb2 hst he5
        obtain ⟨⟨_, _, hsl, _⟩, _⟩ := he5
        simp only [Value.slice.injEq] at hsl
        obtain ⟨rfl, _, rfl⟩ := hsl
        have hnb3 : nb = ⟨#[]⟩ := hnb2.symm
        subst hnb3
        have htl : tb.data.toList = bt := by rw [← htb2]; rfl
        have hbz : bt.length = tb.size := by rw [size_eq, htl]
        have htd : tot (l.drop i) ≤ 100000000000 := Nat.le_trans (tot_drop l i) HT.out
        simp only [evT] at hst
        have hb0 : bt.length + tot (l.drop (i + 1)) ≤ 100000000000 := by omega
        change wr.cell? ⟨g, i * 4, none⟩ = some (.int .i64 3) at a0
        change wr.cell? ⟨g, i * 4 + 2, none⟩ = some (.slice none 0 0) at a2
        have hW1s : (wr.alloc (.cells #[.int .i64 3, .string ⟨#[]⟩, .slice none 0 0, .string tb] 44)).heap.size = wr.heap.size + 1 := by simp
        have heb : (wr.alloc (.cells #[.int .i64 3, .string ⟨#[]⟩, .slice none 0 0, .string tb] 44)).heap[wr.heap.size]? = some (.cells #[.int .i64 3, .string ⟨#[]⟩, .slice none 0 0, .string tb] 44 (0, 0)) := heap_alloc_new wr _
        have hown1 := hown.alloc (.cells #[.int .i64 3, .string ⟨#[]⟩, .slice none 0 0, .string tb] 44)
        have hbl1 := HX.out.2.2.1.alloc hlo (.cells #[.int .i64 3, .string ⟨#[]⟩, .slice none 0 0, .string tb] 44)
        have hne : (Value.slice op O.length oc).ownBlock ≠ some wr.heap.size := fun hh => by have := (hown.lt _ hh).2; omega
        generalize hW1 : wr.alloc (.cells #[.int .i64 3, .string ⟨#[]⟩, .slice none 0 0, .string tb] 44) = W1 at hW1s heb hown1 hbl1
        have hconv := Go.Lib.run_convert_string_bytes (P := Tryd.prog) W1 9 27 5 tb Tryd.underlying9 Tryd.underlying27 Tryd.underlying5
        have hbo := ownsN_bytes W1 5 tb (by unfold maxLen; omega)
        have hold := bytesWorld_at_old W1 5 tb
        have hzz := bytesWorld_size W1 5 tb
        have hg0 : W1.grownBy (bytesWorld W1 5 tb) none := ⟨rfl, rfl, rfl, by rw [hzz]; omega, fun k hk _ => hold k hk⟩
        generalize bytesWorld W1 5 tb = W2 at hconv hbo hold hzz hg0
        generalize grownCap W1 tb.size 0 5 = cap at hconv hbo
        change ownsN W2 5 W1.heap.size tb.size cap (byteCells tb.data.toList) at hbo
        rw [htl, ← hbz] at hbo
        rw [← hbz, hW1s, ← hW1] at hconv
        rw [hW1s] at hbo
        have heb2 := (hold wr.heap.size (by omega)).trans heb
        have hown2 := hown1.kept hg0 (Classical.em _)
        have hbl2 : Below w.heap.size w W2 := hbl1.trans ⟨hg0.os, hg0.tape, hg0.output, hg0.size, fun k hk => hg0.block k (by omega) (by simp)⟩
        have HI := hid (And.intro hbo (And.intro hown2 (And.intro heb2 (And.intro hbl2 (And.intro hin (And.intro hb0 hne))))))
        clear hbo hown2 heb2 hbl2 hin hb0 hold hzz hg0 heb hown1 hbl1 hW1s hst htd htl htb2 hnb2 HTB HNB HONE htx hW1 hown hA4 hA5 hbz
        obtain ⟨eb, heb⟩ : ∃ eb, wr.heap.size = eb := ⟨_, rfl⟩
        rw [heb] at hconv HI
        have hneE := HI.out.2.2.2.2.2.2
        have hebl : w.heap.size ≤ eb := by omega
        have hneq : (Value.slice op O.length oc).ownBlock ≠ some eb := hneE
        clear hneE hne
        go_wp2
        clear a0 a1 a2 a3
        obtain ⟨wo, hwo⟩ : ∃ wo : World, wo = wr := ⟨_, rfl⟩
        go_loopw [4, 6] (fun jv bv wr => ∃ (j gb cb : Nat) (Bt : List UInt8), jv = .int .i64 j ∧ bv = .slice (some ⟨gb, 0, none⟩) Bt.length cb ∧ i + 1 ≤ j ∧ j ≤ l.length ∧ Hid (ownsN wr 5 gb Bt.length cb (byteCells Bt) ∧ w.heap.size ≤ gb ∧ wr.ownsRow w.heap.size 44 4 (.slice op O.length oc) O.length ys ∧ wr.heap[eb]? = some (.cells #[.int .i64 3, .string ⟨#[]⟩, .slice none 0 0, .string tb] 44 (0, 0)) ∧ Below w.heap.size w wr ∧ JoinIn O l J j Bt ∧ Bt.length + tot (l.drop j) ≤ 100000000000)) (fun jv _ _ => l.length - (RowKit.intOf jv).toNat)
        case atStart =>
          obtain ⟨i1, i2, i3, i4, i5, i6, _⟩ := HI.out
          exact ⟨i + 1, eb + 1, cap, bt, rfl, rfl, Nat.le_refl _, by omega, hid ⟨i1, by omega, i2, i3, i4, i5, i6⟩⟩
        case round =>
          obtain ⟨j, gb, cb, Bt, rfl, rfl, hj1, hj2, HB⟩ := hrel
          obtain ⟨hN, hgb, hOw, hEb, hBl, hJin, htt⟩ := HB.out
          clear HB HI hconv hwo
          by_cases hjl : j < l.length
          · obtain ⟨g', ca', a', hv', _, hg2', b0, b1, b2, b3, b4, b5⟩ := ev_cells HH.out.1 HH.out.2 j hjl
            cases hv'
            have c0 := cell_low b0 hBl hg2'
            have c3 := cell_low b3 hBl hg2'
            clear b0 b1 b2 b3 b4 b5
            cases htj : isText l[j] with
            | true =>
              obtain ⟨b2, hb2⟩ : ∃ b2, l[j] = .text b2 := by
                cases hh : l[j] with
                | text b => exact ⟨b, rfl⟩
                | start n a => rw [hh] at htj; cases htj
                | stop n => rw [hh] at htj; cases htj
              have hmore := hJin.more (by rw [List.getElem?_eq_getElem hjl, hb2])
              have hst := tot_step l j hjl
              rw [hb2] at c0 c3 hst
              simp only [evT] at hst
              change wr.cell? ⟨g, j * 4, none⟩ = some (.int .i64 3) at c0
              change wr.cell? ⟨g, j * 4 + 3, none⟩ = some (strV b2) at c3
              obtain ⟨tb2, htb2⟩ : ∃ tb2 : ByteArray, (⟨b2.toArray⟩ : ByteArray) = tb2 := ⟨_, rfl⟩
              unfold strV at c3
              rw [htb2] at c3
              have htz : tb2.size = b2.length := by rw [← htb2]; rfl
              have hbnd : Bt.length + tb2.size ≤ 140737488355328 := by omega
              have hwj : IntKind.i64.wrap ((j : Int) + 1) = ((j + 1 : Nat) : Int) := by rw [IntKind.wrap_i64]; omega
              have hEbN : eb ≠ gb := blockN_ne hEb hN (by decide)
              have hOwN := rowN_ne hOw hN (by decide)
              have HM := hid (And.intro hmore (And.intro hBl (And.intro hOw (And.intro hEb (And.intro (show Bt.length + b2.length + tot (l.drop (j + 1)) ≤ 100000000000 by omega) htb2)))))
              have hbd := hid hbnd
              have hsz9 := hBl.size
              have htzH := hid (fun (_ : True) => htz)
              clear hmore hBl hOw hEb htt hst hJin htj hb2 htz htb2 hbnd
              go_wp2_with (at_builtin; refine wpList_append_marked _ rfl (.tmp 35) (.tmp 40) 27 9 rfl 5 ub Tryd.underlying27 Tryd.underlying9 hub hub0 hub1 hub2 gb Bt.length cb (byteCells Bt) rfl (by exact hN) tb2 rfl hbd.out ?_)
              intro gb2 cb2 W4 ho4 hgr4 hor4
              obtain ⟨m1, m2, m3, m4, m5, m6⟩ := HM.out
              have hOw4 := m3.kept hgr4 (.inr hOwN)
              have hEb4 := (hgr4.block eb (Array.getElem?_eq_some_iff.1 m4).1 (by first | (simp; done) | (simp; omega))).trans m4
              have hBl4 : Below w.heap.size w W4 := m2.trans ⟨hgr4.os, hgr4.tape, hgr4.output, hgr4.size, fun k hk => hgr4.block k (by omega) (by first | (simp; done) | (simp; omega))⟩
              have hgb4 : w.heap.size ≤ gb2 := by rcases hor4 with h | h <;> omega
              have ho5 : ownsN W4 5 gb2 (Bt ++ b2).length cb2 (byteCells (Bt ++ b2)) := by
                rw [byteCells_append, List.length_append, ← htzH.out trivial]
                rw [← m6] at ho4 ⊢
                exact ho4
              have HF := hid (And.intro ho5 (And.intro hgb4 (And.intro hOw4 (And.intro hEb4 (And.intro hBl4 (And.intro m1 (show (Bt ++ b2).length + tot (l.drop (j + 1)) ≤ 100000000000 by rw [List.length_append]; exact m5)))))))
              have hlen4 : Bt.length + tb2.size = (Bt ++ b2).length := by rw [List.length_append, ← htzH.out trivial]
              have HL4 := hid (fun (_ : True) => hlen4)
              clear ho4 ho5 hgr4 hOw4 hEb4 hBl4 m1 m2 m3 m4 m5 m6 hlen4 hN
              go_wp2
              go_roundw
              case rel => exact ⟨j + 1, gb2, cb2, Bt ++ b2, rfl, by rw [← HL4.out trivial], by omega, by omega, HF⟩
              case measure => simp [RowKit.intOf]; omega
            | false =>
              have hstop : ∀ e, l[j]? = some e → isText e = false := fun e he => by
                rw [List.getElem?_eq_getElem hjl] at he
                cases he
                exact htj
              have q : (((evK l[j] : Nat) : Int) == 3) = false := by
                cases hh : l[j] with
                | text b => rw [hh] at htj; cases htj
                | start n a => rfl
                | stop n => rfl
              generalize ((evK l[j] : Nat) : Int) = K2 at c0 q
              clear htj c3
              have hcv := ownsN_text hN
              have e0 := cell_at hEb (j := 0) rfl
              have e1 := cell_at hEb (j := 1) rfl
              have e2 := cell_at hEb (j := 2) rfl
              have e3 := cell_at hEb (j := 3) rfl
              have ef3 := free_at hEb 3
              obtain ⟨Bb, hBb⟩ : ∃ Bb : ByteArray, (⟨Bt.toArray⟩ : ByteArray) = Bb := ⟨_, rfl⟩
              rw [hBb] at hcv
              have hownS := row_set hOw hneq 3 (.string Bb)
              have hblS : Below w.heap.size w (wr.setCell ⟨eb, 3, none⟩ (.string Bb)) := hBl.setCell hebl _
              have hA4 := hid (show O.length + 1 ≤ maxLen by unfold maxLen; omega)
              have hA5 := hid (show (O.length + 1) * 64 ≤ 140737488355328 by omega)
              have hnx := hJin.stop hstop
              have HZ := hid (And.intro hblS hnx)
              have hszw : w.heap.size ≤ wr.heap.size := hBl.size
              clear hN hEb hOw hBl hblS hnx hJin hstop htt
              go_wp2_with (at_builtin; refine wpList_append_own _ rfl (.tmp 47) (.tmp 49) 35 rfl w.heap.size 44 i0 (.agg #[.int .i64 0, .string ⟨#[]⟩, .slice none 0 0, .string ⟨#[]⟩]) 4 64 Tryd.underlying35 hi hz0 hz1 hz2 rfl (by decide) _ _ _ rfl (hownS.alloc _) ⟨_, 0, none⟩ 1 1 [.int .i64 3, .string ⟨#[]⟩, .slice none 0 0, .string Bb] rfl rfl (cells_newV3 _ _ _ _ _) (by simp [Value.oneCell']) hA4.out hA5.out ?_ ?_)
              · first | omega | (simp; omega)
              · intro v' w2 hown2 hgrow _
                have hb2 : Below w.heap.size w w2 := (HZ.out.1.alloc (by simp; omega) _).grown hgrow (by simp; omega) (fun j hj => (hownS.lt j hj).1)
                have HY := hid (And.intro hown2 hb2)
                clear hown2 hb2 hgrow hownS
                go_wp2
                go_roundw
                case rel =>
                  have hfin : w2.ownsRow w.heap.size 44 4 v' (O ++ [Ev.text Bt]).length (ys ++ [.int .i64 3, .string ⟨#[]⟩, .slice none 0 0, .string Bb]) ∧ EvsAt w B (ys ++ [.int .i64 3, .string ⟨#[]⟩, .slice none 0 0, .string Bb]) (O ++ [Ev.text Bt]) ∧ Below w.heap.size w w2 ∧ JoinAt (O ++ [Ev.text Bt]) l J j := by
                    refine ⟨by rw [List.length_append]; exact HY.out.1, evs_snoc2 _ _ HX.out.2.1 ⟨⟨rfl, rfl, rfl, by rw [← hBb]; rfl⟩, trivial⟩, HY.out.2, HZ.out.2⟩
                  first
                    | exact ⟨j, _, _, rfl, by omega, by simp; omega, hid hfin⟩
                    | ((repeat apply Exists.intro); exact ⟨⟨j, _, _, rfl, by omega, by simp; omega, hid hfin⟩, rfl⟩)
                case measure => simp [RowKit.intOf]; omega
          · have hstop : ∀ e, l[j]? = some e → isText e = false := fun e he => by
              have := (List.getElem?_eq_some_iff.1 he).1
              omega
            have hjn : ¬ (j : Int) < (l.length : Int) := by omega
            have hcv := ownsN_text hN
            have e0 := cell_at hEb (j := 0) rfl
            have e1 := cell_at hEb (j := 1) rfl
            have e2 := cell_at hEb (j := 2) rfl
            have e3 := cell_at hEb (j := 3) rfl
            have ef3 := free_at hEb 3
            obtain ⟨Bb, hBb⟩ : ∃ Bb : ByteArray, (⟨Bt.toArray⟩ : ByteArray) = Bb := ⟨_, rfl⟩
            rw [hBb] at hcv
            have hownS := row_set hOw hneq 3 (.string Bb)
            have hblS : Below w.heap.size w (wr.setCell ⟨eb, 3, none⟩ (.string Bb)) := hBl.setCell hebl _
            have hA4 := hid (show O.length + 1 ≤ maxLen by unfold maxLen; omega)
            have hA5 := hid (show (O.length + 1) * 64 ≤ 140737488355328 by omega)
            have hnx := hJin.stop hstop
            have HZ := hid (And.intro hblS hnx)
            have hszw : w.heap.size ≤ wr.heap.size := hBl.size
            clear hN hEb hOw hBl hblS hnx hJin hstop htt
            go_wp2_with (at_builtin; refine wpList_append_own _ rfl (.tmp 47) (.tmp 49) 35 rfl w.heap.size 44 i0 (.agg #[.int .i64 0, .string ⟨#[]⟩, .slice none 0 0, .string ⟨#[]⟩]) 4 64 Tryd.underlying35 hi hz0 hz1 hz2 rfl (by decide) _ _ _ rfl (hownS.alloc _) ⟨_, 0, none⟩ 1 1 [.int .i64 3, .string ⟨#[]⟩, .slice none 0 0, .string Bb] rfl rfl (cells_newV3 _ _ _ _ _) (by simp [Value.oneCell']) hA4.out hA5.out ?_ ?_)
            · first | omega | (simp; omega)
            · intro v' w2 hown2 hgrow _
              have hb2 : Below w.heap.size w w2 := (HZ.out.1.alloc (by simp; omega) _).grown hgrow (by simp; omega) (fun j hj => (hownS.lt j hj).1)
              have HY := hid (And.intro hown2 hb2)
              clear hown2 hb2 hgrow hownS
              go_wp2
              go_roundw
              case rel =>
                have hfin : w2.ownsRow w.heap.size 44 4 v' (O ++ [Ev.text Bt]).length (ys ++ [.int .i64 3, .string ⟨#[]⟩, .slice none 0 0, .string Bb]) ∧ EvsAt w B (ys ++ [.int .i64 3, .string ⟨#[]⟩, .slice none 0 0, .string Bb]) (O ++ [Ev.text Bt]) ∧ Below w.heap.size w w2 ∧ JoinAt (O ++ [Ev.text Bt]) l J j := by
                  refine ⟨by rw [List.length_append]; exact HY.out.1, evs_snoc2 _ _ HX.out.2.1 ⟨⟨rfl, rfl, rfl, by rw [← hBb]; rfl⟩, trivial⟩, HY.out.2, HZ.out.2⟩
                first
                  | exact ⟨j, _, _, rfl, by omega, by simp; omega, hid hfin⟩
                  | ((repeat apply Exists.intro); exact ⟨⟨j, _, _, rfl, by omega, by simp; omega, hid hfin⟩, rfl⟩)
              case measure => simp [RowKit.intOf]; omega
    · have hOJ := HX.out.2.2.2.over (by omega)
      go_wp2
      go_ret
      rw [← hOJ]
      exact ⟨_, ys, rfl, HX.out.1, HX.out.2.1, HX.out.2.2.1⟩
end Go.Proofs.YtialeicpelehoaaDoor

/-
  The reader's readTag: its walk.
-/
namespace Go.Proofs.YtialeicpelehoaaDoor
open Go.RowKit Go.Lib Own

theorem pass_le (L : List UInt8) (s : Nat) : (passL s L).1 ≤ L.length := by
  rcases pass_append L [] s with ⟨_, h, _⟩ | ⟨_, h, _⟩
  · exact h
  · omega
theorem pass_take (L : List UInt8) (s : Nat) : (passL s (L.take (passL s L).1)).1 = (L.take (passL s L).1).length := by
  have hle := pass_le L s
  have hlen : (L.take (passL s L).1).length = (passL s L).1 := by rw [List.length_take]; omega
  rcases pass_append (L.take (passL s L).1) (L.drop (passL s L).1) s with ⟨_, h1, h2⟩ | ⟨_, h1, _⟩
  · rw [List.take_append_drop] at h2
    rw [← h2, hlen]
  · exact h1
theorem row_low {W : World} {B base : Nat} {e : TypeId} {size n : Nat} {v : Value} {xs : List Value} (h : W.ownsRow B e size v n xs) (hb : base ≤ B) : W.ownsRow base e size v n xs := by
  refine ⟨h.1, ?_⟩
  rcases h.2 with h2 | ⟨g, cap, cur, rfl, hg0, rest⟩
  · exact .inl h2
  · exact .inr ⟨g, cap, cur, rfl, by omega, rest⟩
theorem Rdr.setMode {W : World} {base b : Nat} {win : Int} {data : ByteArray} {pos mode scan : Int} {eat : Bool} {evs : List Ev} {pend : List UInt8} (h : Rdr W base b win data pos mode scan eat evs pend) (q : Int) :
    Rdr (W.setCell ⟨b, 3, none⟩ (.int .i64 q)) base b win data pos q scan eat evs pend ∧ Below base W (W.setCell ⟨b, 3, none⟩ (.int .i64 q)) := by
  obtain ⟨ev, p, v, hS⟩ := h.it
  obtain ⟨hat, hlo⟩ := hS.heap
  exact ⟨⟨ev, p, v, hS.stored (rd_T _ _ _ _ _ _ _ _ _) 3 (by omega) (.int .i64 q)⟩, (just_set (j := 3) hat (.int .i64 q)).below hlo⟩
/-- an event is put into the reader's stream -/
theorem rdPut_any (base b : Nat) (win : Int) (data : ByteArray) (pos mode scan : Int) (eat : Bool) (evs : List Ev) (pend : List UInt8) (k n a t : Value) (e0 : Ev) (w : World) (h : Rdr w base b win data pos mode scan eat evs pend) (hlen : evs.length ≤ 9000000) (h1 : EvsAt w base [k, n, a, t] [e0])
    (hone : ∀ u ∈ [k, n, a, t], u.oneCell' = true) :
    Calls Tryd.prog 99 #[.pointer (some ⟨b, 6, none⟩), .agg #[k, n, a, t]] w fun e w' => e = .returned (.tuple #[]) ∧
      Rdr w' base b win data pos mode scan eat (flushE (evs, pend) ++ [e0]) [] ∧ Below base w w' := by
  obtain ⟨ev, p, v, hS⟩ := h.it
  refine (put_any base b 6 _ _ evs pend k n a t e0 w hS (rd_T _ _ _ _ _ _ _ _ _) hlen h1 hone).mono ?_
  rintro e w' ⟨rfl, e1, p1, v1, h2, h3⟩
  exact ⟨rfl, ⟨e1, p1, v1, h2⟩, h3⟩
theorem Rdr.ended {W : World} {base b : Nat} {win : Int} {data : ByteArray} {pos mode scan : Int} {eat : Bool} {evs : List Ev} {pend : List UInt8} (h : Rdr W base b win data pos mode scan eat evs pend) (E S : Int) :
    Rdr ((((W.setCell ⟨b, 3, none⟩ (.int .i64 0)).setCell ⟨b, 5, none⟩ (.bool false)).setCell ⟨b, 2, none⟩ (.int .i64 E)).setCell ⟨b, 4, none⟩ (.int .i64 S)) base b win data E 0 S false evs pend ∧
      Below base W ((((W.setCell ⟨b, 3, none⟩ (.int .i64 0)).setCell ⟨b, 5, none⟩ (.bool false)).setCell ⟨b, 2, none⟩ (.int .i64 E)).setCell ⟨b, 4, none⟩ (.int .i64 S)) := by
  obtain ⟨r1, b1⟩ := h.setMode 0
  obtain ⟨r2, b2⟩ := r1.setEat false
  obtain ⟨r3, b3⟩ := r2.setPos E
  obtain ⟨r4, b4⟩ := r3.setScan S
  exact ⟨r4, ((b1.trans b2).trans b3).trans b4⟩
theorem Rdr.ended2 {W : World} {base b : Nat} {win : Int} {data : ByteArray} {pos mode scan : Int} {eat : Bool} {evs : List Ev} {pend : List UInt8} (h : Rdr W base b win data pos mode scan eat evs pend) (E S M : Int) (B : Bool) :
    Rdr ((((((W.setCell ⟨b, 3, none⟩ (.int .i64 0)).setCell ⟨b, 5, none⟩ (.bool false)).setCell ⟨b, 3, none⟩ (.int .i64 M)).setCell ⟨b, 5, none⟩ (.bool B)).setCell ⟨b, 2, none⟩ (.int .i64 E)).setCell ⟨b, 4, none⟩ (.int .i64 S)) base b win data E M S B evs pend ∧
      Below base W ((((((W.setCell ⟨b, 3, none⟩ (.int .i64 0)).setCell ⟨b, 5, none⟩ (.bool false)).setCell ⟨b, 3, none⟩ (.int .i64 M)).setCell ⟨b, 5, none⟩ (.bool B)).setCell ⟨b, 2, none⟩ (.int .i64 E)).setCell ⟨b, 4, none⟩ (.int .i64 S)) := by
  obtain ⟨r1, b1⟩ := h.setMode 0
  obtain ⟨r2, b2⟩ := r1.setEat false
  obtain ⟨r3, b3⟩ := r2.setMode M
  obtain ⟨r4, b4⟩ := r3.setEat B
  obtain ⟨r5, b5⟩ := r4.setPos E
  obtain ⟨r6, b6⟩ := r5.setScan S
  exact ⟨r6, ((((b1.trans b2).trans b3).trans b4).trans b5).trans b6⟩

set_option maxHeartbeats 8000000 in
set_option maxRecDepth 100000 in
theorem readTag_any (base b win : Nat) (data : ByteArray) (pos k mode : Nat) (eat : Bool) (evs : List Ev) (pend : List UInt8) (m : Int) (w : World) (h : Rdr w base b win data pos mode 0 eat evs pend) (hd : data.size ≤ 10000000) (hk : k = 1 ∨ k = 2) (hp : pos + k ≤ data.size)
    (hwin : win ≤ 4096) (hel : evs.length ≤ 8000000) (hT : LexTabs base w m) :
    Calls Tryd.prog 87 #[.pointer (some ⟨b, 0, none⟩), .int .i64 ((pos + k : Nat) : Int)] w fun e w' => StepAt w w' base b win data pos evs pend e (tagL win k (data.data.toList.drop pos) ⟨mode, 0, eat⟩) := by
  obtain ⟨⟨c0, c1, c2, c3, c4, c5⟩, hf, _⟩ := h.cells
  obtain ⟨a, ha⟩ : ∃ a, pos + k = a := ⟨_, rfl⟩
  have hak : a = pos + 1 ∨ a = pos + 2 := by omega
  have hpass := pass_any data a 3 w (by omega) (by omega) (.inr (by omega)) hT.tag
  have hD : (data.data.toList.drop pos).drop k = data.data.toList.drop a := by rw [List.drop_drop, ha]
  unfold tagL
  rw [hD]
  have hple := pass_le (data.data.toList.drop a) 3
  have hpt := pass_take (data.data.toList.drop a) 3
  obtain ⟨p, hP⟩ : ∃ p, passL 3 (data.data.toList.drop a) = p := ⟨_, rfl⟩
  rw [hP] at hpass hple hpt ⊢
  obtain ⟨p1, p2⟩ := p
  simp only at hpass hple hpt ⊢
  rw [List.length_drop, ← size_eq] at hple
  obtain ⟨tag, htag⟩ : ∃ tag, (data.data.toList.drop a).take p1 = tag := ⟨_, rfl⟩
  rw [htag] at hpt ⊢
  obtain ⟨E, hE⟩ : ∃ E, a + p1 = E := ⟨_, rfl⟩
  have htl : (data.extract a E).data.toList = tag := by rw [part_slice, ← htag, List.drop_take, ← hE, Nat.add_sub_cancel_left]
  have htz : (data.extract a E).size = p1 := by rw [ByteArray.size_extract]; omega
  have hname := fun W hTW => tagName_any (data.extract a E) W (by omega) hTW
  rw [htl] at hname
  obtain ⟨T, hTT⟩ : ∃ T, data.extract a E = T := ⟨_, rfl⟩
  rw [hTT] at hname htl htz
  rw [hE] at hpass
  obtain ⟨N, hN⟩ : ∃ N, tagNameL tag = N := ⟨_, rfl⟩
  rw [hN] at hname ⊢
  obtain ⟨nb, hnb⟩ : ∃ nb : ByteArray, (⟨N.toArray⟩ : ByteArray) = nb := ⟨_, rfl⟩
  have hnbl : nb.data.toList = N := by rw [← hnb]
  rw [hnb] at hname
  have hin := fun W => inside_any nb W
  have heat := fun W => eats_any nb W
  rw [hnbl] at hin heat
  have hsub : IntKind.i64.wrap ((E : Int) - (pos : Int)) = ((k + p1 : Nat) : Int) := by rw [IntKind.wrap_i64]; omega
  have hadd : IntKind.i64.wrap ((pos : Int) + 1) = ((pos + 1 : Nat) : Int) := by rw [IntKind.wrap_i64]; omega
  have hEd : E ≤ data.size := by omega
  have haE : a ≤ E := by omega
  have hpE : pos + (k + p1) = E := by omega
  have HP := hid hpass
  have HN := hid hname
  have HT := hid hT
  have HR := hid h
  have HI := hid hin
  have HE := hid heat
  have HPT := hid (fun (_ : True) => hpt)
  have HTL := hid (fun (_ : True) => htl)
  have f2 := hf 2
  have f3 := hf 3
  have f4 := hf 4
  have f5 := hf 5
  rw [ha]
  clear hpass hname hin heat hT h hf hpt htl hD hP htag hE hN hnbl hp
  obtain ⟨fi, hfi⟩ : ∃ fi, k + p1 = fi := ⟨_, rfl⟩
  have hp1f : p1 ≤ fi := by omega
  rw [hfi] at hsub hpE ⊢
  clear hfi
  have hq1 : (k = 1 ∧ ((a : Int) == ((pos + 1 : Nat) : Int)) = true) ∨ (k = 2 ∧ ((a : Int) == ((pos + 1 : Nat) : Int)) = false) := by
    rcases hk with rfl | rfl
    · exact .inl ⟨rfl, beq_iff_eq.2 (by omega)⟩
    · exact .inr ⟨rfl, beq_eq_false_iff_ne.2 (by omega)⟩
  by_cases hfit : fi ≤ win
  · have qf : (fi : Int) ≤ (win : Int) := by omega
    by_cases hs : p2 = 0
    · subst hs
      rw [if_neg (fun h => h.2 rfl), if_pos hfit]
      have hTz : T.size ≤ 1000000 := by clear hsub; omega
      have hrow := fun W hTT hC hmx => attrs_any T m W hTz (by rw [HTL.out trivial]; exact HPT.out trivial) hTT hC hmx
      rw [HTL.out trivial] at hrow
      have HROW := hid hrow
      clear hrow htz HPT HTL
      rcases hq1 with ⟨rfl, qk⟩ | ⟨rfl, qk⟩
      · simp only [if_true]
        generalize attrsL 3 [] [] tag = AT at HROW ⊢
        generalize insideL N = IN at HI ⊢
        generalize eatsL N = EA at HE ⊢
        clear hk ha hak hfit
        go_enter Tryd.func87, Tryd.ntmps87
        go_wp2_with (go_at_call 84; refine HP.out.mono ?_; rintro e w1 ⟨rfl, nd, rfl⟩)
        go_quiet (fail)
        go_wp2_with (go_at_call 98; refine (HN.out _ (by exact HT.out.tag)).mono ?_; rintro e w2 ⟨rfl, b2⟩; have hr2 := (HR.out.drewN (nd + nq)).below b2; obtain ⟨⟨d0, d1, d2, d3, d4, d5⟩, df, _⟩ := hr2.cells; have e2 := df 2; have e3 := df 3; have e4 := df 4; have e5 := df 5; clear df)
        have hb2 : Below base w w2 := (below_drewN (Below.refl base w) (nd + nq)).trans (b2.mono HR.out.size)
        have ht2 := HT.out.below hb2
        have HR2 := hid hr2
        have HB2 := hid hb2
        have HT2 := hid ht2
        clear hr2 hb2 ht2 b2
        clear c0 c1 c2 c3 c4 c5 f2 f3 f4 f5
        go_region_law (first
          | (go_simp; go_at_call 100; refine (HROW.out _ (by exact HT2.out.tag) (by exact ⟨HT2.out.ch.names, HT2.out.ch.repl⟩) (by exact HT2.out.max)).mono ?_; rintro e w3 ⟨v, rfl, hrow3, b3⟩; obtain ⟨vp, vc, rfl⟩ := row_shape hrow3; have hr3 := HR2.out.drew.below b3; have hb3 : Below base w2 w3 := Below.mono (B := w2.heap.size) ⟨b3.os, b3.tape, b3.output, b3.size, b3.block⟩ HR2.out.size; have hrow4 := row_low hrow3 (by exact HR2.out.size))
          | (go_simp; go_at_call 99; refine (rdPut_any base b win data pos mode 0 eat evs pend (.int .i64 1) (.string nb) (.slice vp AT.length vc) (.string ⟨#[]⟩) (.start N AT) _ (by exact hr3) (by omega) (by exact ⟨⟨rfl, by rw [← hnb]; rfl, hrow4, rfl⟩, trivial⟩) (by simp [Value.oneCell'])).mono ?_; rintro e w4 ⟨rfl, hr4, b4⟩; obtain ⟨⟨g0, g1, g2, g3, g4, g5⟩, gf, _⟩ := hr4.cells; have j2 := gf 2; have j3 := gf 3; have j4 := gf 4; have j5 := gf 5; clear gf))
        all_goals
          have hb4 := (HB2.out.trans hb3).trans b4
          have HR4 := hid hr4
          have HB4 := hid hb4
          clear hr4 hb4 hr3 hb3 b3 b4 hrow3 hrow4 d0 d1 d2 d3 d4 d5 e2 e3 e4 e5
          go_wp2_with (first | (go_at_call 101; refine (HI.out _).mono ?_; rintro e w' ⟨rfl, rfl⟩) | (go_at_call 102; refine (HE.out _).mono ?_; rintro e w' ⟨rfl, rfl⟩))
          go_ret
          exact ⟨rfl, by rw [hpE]; exact (HR4.out.ended2 _ _ _ _).1, HB4.out.trans (HR4.out.ended2 _ _ _ _).2⟩
      · have h21 : ¬ (2 = 1) := by decide
        simp only [if_neg h21]
        clear hk ha hak hfit HROW
        go_enter Tryd.func87, Tryd.ntmps87
        go_wp2_with (go_at_call 84; refine HP.out.mono ?_; rintro e w1 ⟨rfl, nd, rfl⟩)
        go_quiet (fail)
        go_wp2_with (first | (go_at_call 98; refine (HN.out _ (by exact HT.out.tag)).mono ?_; rintro e w2 ⟨rfl, b2⟩; have hr2 := (HR.out.drewN (nd + nq)).below b2; obtain ⟨⟨d0, d1, d2, d3, d4, d5⟩, df, _⟩ := hr2.cells; have e2 := df 2; have e3 := df 3; have e4 := df 4; have e5 := df 5; clear df) | (go_at_call 99; refine (rdPut_any base b win data pos mode 0 eat evs pend (.int .i64 2) (.string nb) (.slice none 0 0) (.string ⟨#[]⟩) (.stop N) _ (by exact hr2) (by omega) (by exact ⟨⟨rfl, by rw [← hnb]; rfl, rfl, rfl⟩, trivial⟩) (by simp [Value.oneCell'])).mono ?_; rintro e w4 ⟨rfl, hr4, b4⟩; obtain ⟨⟨g0, g1, g2, g3, g4, g5⟩, gf, _⟩ := hr4.cells; have j2 := gf 2; have j3 := gf 3; have j4 := gf 4; have j5 := gf 5; clear gf))
        have hb2 : Below base w w2 := (below_drewN (Below.refl base w) (nd + nq)).trans (b2.mono HR.out.size)
        go_ret
        exact ⟨rfl, by rw [hpE]; exact (hr4.ended _ _).1, (hb2.trans b4).trans (hr4.ended _ _).2⟩
    · rw [if_pos ⟨hfit, hs⟩]
      have qs : ((p2 : Int) != 0) = true := by rw [bne, beq_eq_false_iff_ne.2 (by omega)]; rfl
      clear HN HI HE HPT HTL hTT htz hq1
      go_enter Tryd.func87, Tryd.ntmps87
      go_wp2_with (go_at_call 84; refine HP.out.mono ?_; rintro e w1 ⟨rfl, nd, rfl⟩)
      go_quiet (fail)
      go_wp2
      go_ret
      exact ⟨rfl, HR.out.drewN _, below_drewN (Below.refl base w) _⟩
  · rw [if_neg (fun h => hfit h.1), if_neg hfit]
    have qf : ¬ (fi : Int) ≤ (win : Int) := by omega
    clear HPT HTL htz
    rcases hq1 with ⟨rfl, qk⟩ | ⟨rfl, qk⟩
    · simp only [if_true]
      generalize insideL N = IN at HI ⊢
      generalize eatsL N = EA at HE ⊢
      clear hk ha hak hfit
      go_enter Tryd.func87, Tryd.ntmps87
      go_wp2_with (go_at_call 84; refine HP.out.mono ?_; rintro e w1 ⟨rfl, nd, rfl⟩)
      go_quiet (fail)
      go_wp2_with (go_at_call 98; refine (HN.out _ (by exact HT.out.tag)).mono ?_; rintro e w2 ⟨rfl, b2⟩; have hr2 := (HR.out.drewN (nd + nq)).below b2; obtain ⟨⟨d0, d1, d2, d3, d4, d5⟩, df, _⟩ := hr2.cells; have e2 := df 2; have e3 := df 3; have e4 := df 4; have e5 := df 5; clear df)
      have hb2 : Below base w w2 := (below_drewN (Below.refl base w) (nd + nq)).trans (b2.mono HR.out.size)
      clear c0 c1 c2 c3 c4 c5 f2 f3 f4 f5
      go_wp2_with (first | (go_at_call 101; refine (HI.out _).mono ?_; rintro e w' ⟨rfl, rfl⟩) | (go_at_call 102; refine (HE.out _).mono ?_; rintro e w' ⟨rfl, rfl⟩))
      go_ret
      exact ⟨rfl, by rw [hpE]; exact (hr2.ended2 _ _ _ _).1, hb2.trans (hr2.ended2 _ _ _ _).2⟩
    · have h21 : ¬ (2 = 1) := by decide
      simp only [if_neg h21]
      clear hk ha hak hfit
      go_enter Tryd.func87, Tryd.ntmps87
      go_wp2_with (go_at_call 84; refine HP.out.mono ?_; rintro e w1 ⟨rfl, nd, rfl⟩)
      go_quiet (fail)
      go_wp2_with (go_at_call 98; refine (HN.out _ (by exact HT.out.tag)).mono ?_; rintro e w2 ⟨rfl, b2⟩; have hr2 := (HR.out.drewN (nd + nq)).below b2; obtain ⟨⟨d0, d1, d2, d3, d4, d5⟩, df, _⟩ := hr2.cells; have e2 := df 2; have e3 := df 3; have e4 := df 4; have e5 := df 5; clear df)
      have hb2 : Below base w w2 := (below_drewN (Below.refl base w) (nd + nq)).trans (b2.mono HR.out.size)
      go_ret
      exact ⟨rfl, by rw [hpE]; exact (hr2.ended _ _).1, hb2.trans (hr2.ended _ _).2⟩
end Go.Proofs.YtialeicpelehoaaDoor
