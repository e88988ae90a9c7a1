/-
  Parts of the walk, joined: MakeRd, FeedAll, Within, ResumeP, Resume, TabsOf.
-/
import Derived.Test.YtialeicpelehoaaDoorPartJ
import Derived.Deep.CutRange
import Derived.Laws.AppendOwnNone
import Derived.Test.YtialeicpelehoaaDoorPartH
import Derived.Test.YtialeicpelehoaaDoorRows
import Derived.Test.YtialeicpelehoaaDoorPartC
import Derived.Test.YtialeicpelehoaaDoorPartE
import Derived.Lib.LaidU8T
import Derived.Lib.LaidTab
import Derived.ChangeSame
import Derived.ChangeArms
/-
  The reader's making and its state: their walks.
-/
namespace Go.Proofs.YtialeicpelehoaaDoor
open Go.RowKit Go.Lib Own

set_option maxHeartbeats 2000000 in
theorem allowed_any (win mode scan : Nat) (eat : Bool) (held : ByteArray) (w : World) (h1 : 32 ≤ win) (h2 : win ≤ 4096) (h3 : mode ≤ 10) (h4 : scan ≤ 10) :
    Calls Tryd.prog 21 #[.int .i64 win, .agg #[.int .i64 mode, .int .i64 scan, .bool eat, .string held]] w fun e w' => e = .returned (.bool true) ∧ Below w.heap.size w w' := by
  have q1 : (32 : Int) ≤ (win : Int) := by omega
  have q2 : (win : Int) ≤ 4096 := by omega
  have q3 : (0 : Int) ≤ (mode : Int) := by omega
  have q4 : (mode : Int) ≤ 10 := by omega
  have q5 : (0 : Int) ≤ (scan : Int) := by omega
  have q6 : (scan : Int) ≤ 10 := by omega
  go_enter Tryd.func21, Tryd.ntmps21
  go_wp2
  go_ret
  exact ⟨rfl, (Below.refl _ _).alloc (Nat.le_refl _) _⟩

set_option maxHeartbeats 2000000 in
theorem new_any (win : Int) (mode scan : Int) (eat : Bool) (held text data : ByteArray) (hda : held ++ text = data) (hlen : held.size + text.size ≤ 10000000) (w : World) :
    Calls Tryd.prog 22 #[.int .i64 win, .agg #[.int .i64 mode, .int .i64 scan, .bool eat, .string held], .string text] w fun e w' => ∃ b, e = .returned (.pointer (some ⟨b, 0, none⟩)) ∧
      Rdr w' w.heap.size b win data 0 mode scan eat [] [] ∧ Below w.heap.size w w' := by
  have hno : ¬ 9223372036854775807 < held.size + text.size := by omega
  go_enter Tryd.func22, Tryd.ntmps22
  go_wp2
  go_ret
  have hb : Below w.heap.size w ((w.alloc (.cells #[.int .i64 mode, .int .i64 scan, .bool eat, .string held] 34)).alloc (.cells (rdC win data 0 mode scan eat (.slice none 0 0) (.pointer none) (.slice none 0 0)) 61)) :=
    ((Below.refl w.heap.size w).alloc (Nat.le_refl _) _).alloc (by simp) _
  refine ⟨w.heap.size + 1, ?_, ⟨.slice none 0 0, .pointer none, .slice none 0 0, ⟨.slice none 0 0, .pointer none, .slice none 0 0, [], rfl, ⟨?_, by omega, rfl, rfl, .inl rfl, World.ownsRowF_nil _ _ _ _, by simp [Value.ownBlock]⟩, World.ownsRow_nil _ _ _ _, trivial⟩⟩, hb⟩
  · simp
  · have := heap_alloc_new (w.alloc (.cells #[.int .i64 mode, .int .i64 scan, .bool eat, .string held] 34)) (.cells (rdC win data 0 mode scan eat (.slice none 0 0) (.pointer none) (.slice none 0 0)) 61)
    show (World.alloc _ (.cells (rdC win data 0 mode scan eat (.slice none 0 0) (.pointer none) (.slice none 0 0)) _)).heap[_]? = _
    simpa using this

theorem Rdr.alloc {W : World} {base b : Nat} {win : Int} {data : ByteArray} {pos mode scan : Int} {eat : Bool} {evs : List Ev} {pend : List UInt8} (h : Rdr W base b win data pos mode scan eat evs pend) (X : Obj) : Rdr (W.alloc X) base b win data pos mode scan eat evs pend := by
  obtain ⟨ev, p, v, hS⟩ := h.it
  exact ⟨ev, p, v, hS.alloc X⟩

theorem st4 {B : Nat} {w w1 : World} (h : Below B w w1) {r : Nat} (hr : B ≤ r) (v0 v1 v2 v3 : Value) : Below B w ((((w1.drew.setCell ⟨r, 0, none⟩ v0).setCell ⟨r, 1, none⟩ v1).setCell ⟨r, 2, none⟩ v2).setCell ⟨r, 3, none⟩ v3) := by
  have s0 : Below B w w1.drew := below_drewN h 1
  have s1 : Below B w (w1.drew.setCell ⟨r, 0, none⟩ v0) := s0.setCell hr _
  have s2 : Below B w ((w1.drew.setCell ⟨r, 0, none⟩ v0).setCell ⟨r, 1, none⟩ v1) := s1.setCell hr _
  have s3 : Below B w (((w1.drew.setCell ⟨r, 0, none⟩ v0).setCell ⟨r, 1, none⟩ v1).setCell ⟨r, 2, none⟩ v2) := s2.setCell hr _
  exact s3.setCell hr _

set_option maxHeartbeats 4000000 in
set_option maxRecDepth 10000 in
theorem state_any (base b : Nat) (win : Int) (data : ByteArray) (pos : Nat) (mode scan : Int) (eat : Bool) (evs : List Ev) (pend : List UInt8) (w : World) (h : Rdr w base b win data pos mode scan eat evs pend) (hd : data.size ≤ 10000000) (hp : pos ≤ data.size) :
    Calls Tryd.prog 24 #[.pointer (some ⟨b, 0, none⟩)] w fun e w' => e = .returned (.agg #[.int .i64 mode, .int .i64 scan, .bool eat, .string (data.extract pos data.size)]) ∧
      Rdr w' base b win data pos mode scan eat evs pend ∧ Below base w w' := by
  obtain ⟨⟨c0, c1, c2, c3, c4, c5⟩, hf, hlo⟩ := h.cells
  have hbs : b < w.heap.size := cell_block c0
  obtain ⟨t, ht⟩ : ∃ t : ByteArray, data.extract pos data.size = t := ⟨_, rfl⟩
  have htz : t.size ≤ 10000000 := by rw [← ht, ByteArray.size_extract]; omega
  have hcl := fun W => clone_any t W (by omega)
  have HC := hid hcl
  have HR := hid h
  rw [ht]
  clear hcl h hf
  go_enter Tryd.func24, Tryd.ntmps24
  go_upto_region 1 with fail
  go_cut [3] from 4 to 13 (fun hv wc => hv = .string t ∧ Hid (Rdr wc base b win data pos mode scan eat evs pend ∧ Below w.heap.size w wc ∧ wc.heap[w.heap.size]? = some (.cells #[.int .i64 0, .int .i64 0, .bool false, .string ⟨#[]⟩] 34 (0, 0))))
  case first =>
    go_region_law (go_simp; go_at_call 37; refine (HC.out _).mono ?_; rintro e w1 ⟨rfl, b1⟩)
    all_goals
      have hr1 := (HR.out.alloc (.cells #[.int .i64 0, .int .i64 0, .bool false, .string ⟨#[]⟩] 34)).drew.below b1
      have hres : w1.heap[w.heap.size]? = some (.cells #[.int .i64 0, .int .i64 0, .bool false, .string ⟨#[]⟩] 34 (0, 0)) := (b1.block w.heap.size (by show w.heap.size < _; simp [World.drew])).trans (heap_alloc_new w _)
      have hb1 : Below w.heap.size w w1 := ((Below.refl w.heap.size w).alloc (Nat.le_refl _) (.cells #[.int .i64 0, .int .i64 0, .bool false, .string ⟨#[]⟩] 34)).trans (Below.mono (B := (w.alloc (.cells #[.int .i64 0, .int .i64 0, .bool false, .string ⟨#[]⟩] 34)).heap.size) ⟨b1.os, b1.tape, b1.output, b1.size, b1.block⟩ (by simp))
      have HX := hid (And.intro hr1 (And.intro hb1 hres))
      clear hr1 hres hb1 b1
      go_wp2_with fail
      go_meet
      exact ⟨rfl, HX⟩
  case rest =>
    obtain ⟨rfl, HX⟩ := hcut
    obtain ⟨hr1, hb1, hres⟩ := HX.out
    obtain ⟨⟨d0, d1, d2, d3, d4, d5⟩, _, _⟩ := hr1.cells
    have r0 := cell_at hres (j := 0) rfl
    have r1 := cell_at hres (j := 1) rfl
    have r2 := cell_at hres (j := 2) rfl
    have r3 := cell_at hres (j := 3) rfl
    have rf0 := free_at hres 0
    have rf1 := free_at hres 1
    have rf2 := free_at hres 2
    have rf3 := free_at hres 3
    have HFI := hid (st4 hb1 (Nat.le_refl _) (.int .i64 mode) (.int .i64 scan) (.bool eat) (.string t))
    clear hr1 hb1 hres c0 c1 c2 c3 c4 c5
    go_upto_region 2 with fail
    go_cut [] from 14 to 27 (fun wc2 => Hid (Below w.heap.size w wc2) ∧ wc2.cell? ⟨w.heap.size, 0, none⟩ = some (.int .i64 mode) ∧ wc2.cell? ⟨w.heap.size, 1, none⟩ = some (.int .i64 scan) ∧ wc2.cell? ⟨w.heap.size, 2, none⟩ = some (.bool eat) ∧ wc2.cell? ⟨w.heap.size, 3, none⟩ = some (.string t))
    case first =>
      go_region
      all_goals
        go_wp2_with fail
        go_meet
        refine ⟨HFI, ?_, ?_, ?_, ?_⟩
        all_goals simp [go_sem, r0, r1, r2, r3]
    case rest =>
      obtain ⟨HB, e0, e1, e2, e3⟩ := hcut
      go_wp2_with fail
      refine bodyPost_ret (v := .agg #[.int .i64 mode, .int .i64 scan, .bool eat, .string t]) ?_ rfl ⟨rfl, HR.out.below HB.out, HB.out.mono HR.out.size⟩
      simp [results, Tryd.results24, go_sem, e0, e1, e2, e3]
end Go.Proofs.YtialeicpelehoaaDoor

/-
  lexer.Feed, Finish, Lex: their walks.
-/
namespace Go.Proofs.YtialeicpelehoaaDoor
open Go.RowKit Go.Lib Own

theorem LexTabs.up {base base2 : Nat} {w : World} {m : Int} (h : LexTabs base w m) (hb : base ≤ base2) : LexTabs base2 w m :=
  ⟨h.tag, h.ch, h.max, Nat.lt_of_lt_of_le h.l1 hb, Nat.lt_of_lt_of_le h.l2 hb, Nat.lt_of_lt_of_le h.l3 hb, Nat.lt_of_lt_of_le h.l4 hb⟩
theorem evs_low {W : World} {B base : Nat} (hb : base ≤ B) : ∀ (xs : List Value) (l : List Ev), EvsAt W B xs l → EvsAt W base xs l
  | [], [], _ => trivial
  | k :: n :: a :: t :: r, e :: l, ⟨h1, h2⟩ => by
    refine ⟨?_, evs_low hb r l h2⟩
    cases e with
    | text b => exact h1
    | start m at_ => exact ⟨h1.1, h1.2.1, row_low h1.2.2.1 hb, h1.2.2.2⟩
    | stop m => exact h1
  | [], _ :: _, h => h.elim
  | [_], _, h => by cases ‹List Ev› <;> exact h.elim
  | [_, _], _, h => by cases ‹List Ev› <;> exact h.elim
  | [_, _, _], _, h => by cases ‹List Ev› <;> exact h.elim
  | _ :: _ :: _ :: _ :: _, [], h => h.elim
theorem rest_str {win : Nat} (hW : 32 ≤ win) (st : LS) (h0 : st.scan ≤ 10) (data : ByteArray) : (data.extract (data.size - (runL win st data.data.toList).2.1.length) data.size) = ⟨(runL win st data.data.toList).2.1.toArray⟩ := by
  obtain ⟨h1, h2⟩ := run_rest hW st data.data.toList h0
  have h3 : (data.extract (data.size - (runL win st data.data.toList).2.1.length) data.size).data.toList = (runL win st data.data.toList).2.1 := by
    rw [extract_to_end]
    conv => rhs; rw [h2]
    rw [size_eq]
  show (⟨(data.extract (data.size - (runL win st data.data.toList).2.1.length) data.size).data.toList.toArray⟩ : ByteArray) = _
  rw [h3]
/-- the four stores into a state's block -/
theorem four_other (W : World) (r : Nat) (v0 v1 v2 v3 : Value) (k : Nat) (hk : k ≠ r) : ((((W.setCell ⟨r, 0, none⟩ v0).setCell ⟨r, 1, none⟩ v1).setCell ⟨r, 2, none⟩ v2).setCell ⟨r, 3, none⟩ v3).heap[k]? = W.heap[k]? := by
  rw [heap_setCell_other _ _ _ _ hk, heap_setCell_other _ _ _ _ hk, heap_setCell_other _ _ _ _ hk, heap_setCell_other _ _ _ _ hk]

set_option maxHeartbeats 8000000 in
set_option maxRecDepth 100000 in
theorem finish_any (win : Nat) (st : LS) (held : ByteArray) (broken : Bool) (m : Int) (w : World) (hsz : held.size ≤ 4000000) (hW : 32 ≤ win) (hwin : win ≤ 4096) (hs : st.scan ≤ 10) (hm : st.mode ≤ 10) (hT : LexTabs w.heap.size w m) (hbr : broken = false) :
    Calls Tryd.prog 13 #[.int .i64 win, .agg #[.int .i64 st.mode, .int .i64 st.scan, .bool st.eat, .string held], .bool broken] w fun e w' => ∃ ev xs, e = .returned ev ∧
      w'.ownsRow w.heap.size 44 4 ev (evsL (wholeL win st held.data.toList)).length xs ∧ EvsAt w' w.heap.size xs (evsL (wholeL win st held.data.toList)) ∧ Below w.heap.size w w' := by
  subst hbr
  have hal := fun W => allowed_any win st.mode st.scan st.eat held W hW hwin hm hs
  have hnw := fun W => new_any win st.mode st.scan st.eat held ⟨#[]⟩ held (by rw [show (⟨#[]⟩ : ByteArray) = ByteArray.empty from rfl, ByteArray.append_empty]) (by show held.size + 0 ≤ _; omega) W
  obtain ⟨R1, hR1⟩ : ∃ R1, (runL win st held.data.toList).1 = R1 := ⟨_, rfl⟩
  obtain ⟨R2, hR2⟩ : ∃ R2, (runL win st held.data.toList).2.1 = R2 := ⟨_, rfl⟩
  obtain ⟨R3, hR3⟩ : ∃ R3, (runL win st held.data.toList).2.2 = R3 := ⟨_, rfl⟩
  obtain ⟨EF, hEF⟩ : ∃ EF, (putAll ([], []) R3).1 = EF := ⟨_, rfl⟩
  obtain ⟨PF, hPF⟩ : ∃ PF, (putAll ([], []) R3).2 = PF := ⟨_, rfl⟩
  have hRA : ReadAt win held.data.toList 0 st [] [] R1 R2 EF PF := ⟨R3, by rw [List.drop_zero, ← hR1, ← hR2, ← hR3], by rw [← hEF, ← hPF]⟩
  obtain ⟨g1, g2⟩ := run_grow hW st held.data.toList hs ([], [])
  obtain ⟨k1, k2⟩ := run_rest hW st held.data.toList hs
  have hsc := run_scan hW held.data.toList.length st held.data.toList hs (Nat.le_refl _)
  have hmo := run_mode hW st held.data.toList hs hm
  rw [hR3, hR2] at g1 g2
  rw [hR2] at k1 k2
  rw [hR1] at hsc hmo
  rw [hEF] at g1
  rw [hPF] at g2
  rw [← size_eq] at g1 g2 k1 k2
  simp only [List.length_nil, Nat.zero_add] at g1 g2
  have hrd := fun base b W hr hTW => read_any base b win held st m W hr hsz hW hwin hs hm hTW R1 R2 EF PF hRA
  have hdr : held.data.toList.drop (held.size - R2.length) = R2 := k2.symm
  have hen := fun base b W hr hTW => end_any base b win held (held.size - R2.length) R1 EF PF m W hr hsz (by omega) hsc hmo (by omega) hTW
  rw [hdr] at hen
  have hwhole : ∀ PE, putAll (EF, PF) (endL R1 R2) = (EF, PE) → evsL (wholeL win st held.data.toList) = flushE (EF, PE) := fun PE hPE => by
    unfold wholeL
    rw [hR1, hR2, hR3]
    show flushE (putAll ([], []) (R3 ++ endL R1 R2)) = _
    rw [putAll_app, show putAll ([], []) R3 = (EF, PF) by rw [← hEF, ← hPF], hPE]
  have hev := fun base b o cs T PE W (hW1 : StreamAt W base b o cs T EF PE) hT1 => events_any base b o cs T EF PE W hW1 hT1 (by omega)
  have HAL := hid hal
  have HNW := hid hnw
  have HRD := hid hrd
  have HEN := hid hen
  have HEV := hid hev
  have HWH := hid hwhole
  have HT := hid hT
  clear hal hnw hrd hen hev hwhole hT hRA g1 g2 k1 k2 hsc hmo hdr hR1 hR2 hR3 hEF hPF
  go_enter Tryd.func13, Tryd.ntmps13
  go_wp2_with (first
    | (go_at_call 21; refine (HAL.out _).mono ?_; rintro e w1 ⟨rfl, b1⟩; have hbx : w1.heap[w.heap.size]? = some (.cells #[.int .i64 st.mode, .int .i64 st.scan, .bool st.eat, .string held] 34 (0, 0)) := (b1.block _ (by simp)).trans (heap_alloc_new w _); have x0 := cell_at hbx (j := 0) rfl; have x1 := cell_at hbx (j := 1) rfl; have x2 := cell_at hbx (j := 2) rfl; have x3 := cell_at hbx (j := 3) rfl; have hB1 : Below w.heap.size w w1 := ((Below.refl w.heap.size w).alloc (Nat.le_refl _) _).trans (b1.mono (by simp)); clear b1 hbx)
    | (go_at_call 22; refine (HNW.out _).mono ?_; rintro e w2 ⟨b, rfl, hr2, b2⟩; have hT2 := ((HT.out.below hB1).up hB1.size).below b2)
    | (go_at_call 23; refine (HRD.out _ b _ (by exact hr2) (by exact hT2)).mono ?_; rintro e w3 ⟨rfl, hr3, b3⟩; have hT3 := hT2.below b3)
    | (go_at_call 26; refine (HEN.out _ b _ (by exact hr3) (by exact hT3)).mono ?_; rintro e w4 ⟨rfl, ⟨p4, m4, s4, e4, PE, hr4, hPE⟩, b4⟩; obtain ⟨ev4, pp4, v4, hS4⟩ := hr4.it)
    | (go_at_call 25; refine (HEV.out _ b 6 _ _ PE _ (by exact hS4) (rd_T _ _ _ _ _ _ _ _ _)).mono ?_; rintro e w5 ⟨ev5, xs5, rfl, hrow5, hevs5, b5⟩))
  go_ret
  refine ⟨_, xs5, rfl, ?_, ?_, hB1.trans ((((b2.trans b3).trans b4).trans b5).mono hB1.size)⟩
  · rw [HWH.out PE hPE]; exact row_low hrow5 hB1.size
  · rw [HWH.out PE hPE]; exact evs_low hB1.size _ _ hevs5

set_option maxHeartbeats 1000000 in
theorem lex_any (win : Nat) (text : ByteArray) (m : Int) (w : World) (hsz : text.size ≤ 4000000) (hW : 32 ≤ win) (hwin : win ≤ 4096) (hT : LexTabs w.heap.size w m) :
    Calls Tryd.prog 15 #[.int .i64 win, .string text] w fun e w' => ∃ ev xs, e = .returned ev ∧
      w'.ownsRow w.heap.size 44 4 ev (evsL (wholeL win st0 text.data.toList)).length xs ∧ EvsAt w' w.heap.size xs (evsL (wholeL win st0 text.data.toList)) ∧ Below w.heap.size w w' := by
  have hf := finish_any win st0 text false m w hsz hW hwin (by decide) (by decide) hT rfl
  generalize evsL (wholeL win st0 text.data.toList) = J at hf ⊢
  have HF := hid hf
  clear hf hT
  go_enter Tryd.func15, Tryd.ntmps15
  go_wp2_with (go_at_call 13; refine HF.out.mono ?_; rintro e w1 ⟨ev, xs, rfl, h1, h2, h3⟩)
  go_ret
  exact ⟨_, xs, rfl, h1, h2, h3⟩

set_option maxHeartbeats 8000000 in
set_option maxRecDepth 100000 in
theorem feed_any (win : Nat) (st : LS) (held text data : ByteArray) (hda : held ++ text = data) (m : Int) (w : World) (hsz : data.size ≤ 4000000) (hW : 32 ≤ win) (hwin : win ≤ 4096) (hs : st.scan ≤ 10) (hm : st.mode ≤ 10) (hT : LexTabs w.heap.size w m) :
    Calls Tryd.prog 12 #[.int .i64 win, .agg #[.int .i64 st.mode, .int .i64 st.scan, .bool st.eat, .string held], .string text] w fun e w' => ∃ ev xs,
      e = .returned (.tuple #[.agg #[.int .i64 (runL win st data.data.toList).1.mode, .int .i64 (runL win st data.data.toList).1.scan, .bool (runL win st data.data.toList).1.eat, .string ⟨(runL win st data.data.toList).2.1.toArray⟩], ev]) ∧
      w'.ownsRow w.heap.size 44 4 ev (evsL (runL win st data.data.toList).2.2).length xs ∧ EvsAt w' w.heap.size xs (evsL (runL win st data.data.toList).2.2) ∧ Below w.heap.size w w' := by
  have hhs : held.size + text.size = data.size := by rw [← hda, ByteArray.size_append]
  have hal := fun W => allowed_any win st.mode st.scan st.eat held W hW hwin hm hs
  have hnw := fun W => new_any win st.mode st.scan st.eat held text data hda (by omega) W
  have hRS := rest_str hW st hs data
  obtain ⟨R1, hR1⟩ : ∃ R1, (runL win st data.data.toList).1 = R1 := ⟨_, rfl⟩
  obtain ⟨R2, hR2⟩ : ∃ R2, (runL win st data.data.toList).2.1 = R2 := ⟨_, rfl⟩
  obtain ⟨R3, hR3⟩ : ∃ R3, (runL win st data.data.toList).2.2 = R3 := ⟨_, rfl⟩
  obtain ⟨EF, hEF⟩ : ∃ EF, (putAll ([], []) R3).1 = EF := ⟨_, rfl⟩
  obtain ⟨PF, hPF⟩ : ∃ PF, (putAll ([], []) R3).2 = PF := ⟨_, rfl⟩
  have hRA : ReadAt win data.data.toList 0 st [] [] R1 R2 EF PF := ⟨R3, by rw [List.drop_zero, ← hR1, ← hR2, ← hR3], by rw [← hEF, ← hPF]⟩
  obtain ⟨g1, g2⟩ := run_grow hW st data.data.toList hs ([], [])
  obtain ⟨k1, _⟩ := run_rest hW st data.data.toList hs
  rw [hR3, hR2] at g1 g2
  rw [hR2] at k1 hRS
  rw [hEF] at g1
  rw [hPF] at g2
  rw [← size_eq] at g1 g2 k1
  simp only [List.length_nil, Nat.zero_add] at g1 g2
  have hrd := fun base b W hr hTW => read_any base b win data st m W hr hsz hW hwin hs hm hTW R1 R2 EF PF hRA
  have hst := fun base b W hr => state_any base b win data (data.size - R2.length) R1.mode R1.scan R1.eat EF PF W hr (by omega) (by omega)
  rw [hRS] at hst
  have hev := fun base b o cs T W (hW1 : StreamAt W base b o cs T EF PF) hT1 => events_any base b o cs T EF PF W hW1 hT1 (by omega)
  have hfl : evsL R3 = flushE (EF, PF) := by
    show flushE (putAll ([], []) R3) = _
    rw [← hEF, ← hPF]
  rw [hR1, hR2, hR3, hfl]
  obtain ⟨rb, hrb⟩ : ∃ rb : ByteArray, (⟨R2.toArray⟩ : ByteArray) = rb := ⟨_, rfl⟩
  rw [hrb] at hst ⊢
  generalize flushE (EF, PF) = J at hev ⊢
  have HAL := hid hal
  have HNW := hid hnw
  have HRD := hid hrd
  have HST := hid hst
  have HEV := hid hev
  have HT := hid hT
  clear hal hnw hrd hst hev hT hRA g1 g2 k1 hRS hR1 hR2 hR3 hEF hPF hfl hrb hda hhs
  go_enter Tryd.func12, Tryd.ntmps12
  go_wp2_with (first
    | (go_at_call 21; refine (HAL.out _).mono ?_; rintro e w1 ⟨rfl, b1⟩; have hbx : w1.heap[w.heap.size]? = some (.cells #[.int .i64 st.mode, .int .i64 st.scan, .bool st.eat, .string held] 34 (0, 0)) := (b1.block _ (by simp; omega)).trans ((alloc_old _ _ _ (by simp)).trans (heap_alloc_new w _)); have x0 := cell_at hbx (j := 0) rfl; have x1 := cell_at hbx (j := 1) rfl; have x2 := cell_at hbx (j := 2) rfl; have x3 := cell_at hbx (j := 3) rfl; have hB1 : Below w.heap.size w w1 := (((Below.refl w.heap.size w).alloc (Nat.le_refl _) _).alloc (by simp) _).trans (b1.mono (by simp; omega)); have hsz1 := b1.size; have hre : w1.heap[w.heap.size + 1]? = some (.cells #[.int .i64 0, .int .i64 0, .bool false, .string ⟨#[]⟩] 34 (0, 0)) := (b1.block _ (by simp)).trans (by have := heap_alloc_new (w.alloc (.cells #[.int .i64 st.mode, .int .i64 st.scan, .bool st.eat, .string held] 34)) (.cells #[.int .i64 0, .int .i64 0, .bool false, .string ⟨#[]⟩] 34); simpa using this); clear b1 hbx)
    | (go_at_call 22; refine (HNW.out _).mono ?_; rintro e w2 ⟨b, rfl, hr2, b2⟩; have hT2 := ((HT.out.below hB1).up hB1.size).below b2)
    | (go_at_call 23; refine (HRD.out _ b _ (by exact hr2) (by exact hT2)).mono ?_; rintro e w3 ⟨rfl, hr3, b3⟩)
    | fail)
  have hlt1 : w.heap.size + 1 < w1.heap.size := by simp at hsz1; omega
  have hre3 := ((b3.block _ hlt1).trans (b2.block _ hlt1)).trans hre
  have hB3 : Below w.heap.size w w3 := hB1.trans ((b2.trans b3).mono hB1.size)
  have HX := hid (And.intro hr3 (And.intro hre3 hB3))
  clear hre hre3 hB3 hr3 hr2 b2 b3 hT2 x0 x1 x2 x3 hsz1
  go_cut [7] from 20 to 25 (fun ev wc => Hid (∃ xs, wc.ownsRow w.heap.size 44 4 ev J.length xs ∧ EvsAt wc w.heap.size xs J ∧ Below w.heap.size w wc) ∧ wc.cell? ⟨w.heap.size + 1, 0, none⟩ = some (.int .i64 R1.mode) ∧ wc.cell? ⟨w.heap.size + 1, 1, none⟩ = some (.int .i64 R1.scan) ∧ wc.cell? ⟨w.heap.size + 1, 2, none⟩ = some (.bool R1.eat) ∧ wc.cell? ⟨w.heap.size + 1, 3, none⟩ = some (.string rb))
  case first =>
    go_region_law (first
      | (go_simp; go_at_call 24; refine (HST.out _ b _ (by exact HX.out.1.drew)).mono ?_; rintro e w4 ⟨rfl, hr4, b4⟩; obtain ⟨ev4, p4, v4, hS4⟩ := hr4.it)
      | (go_simp; go_at_call 25; refine (HEV.out _ b 6 _ _ _ (by exact hS4) (rd_T _ _ _ _ _ _ _ _ _)).mono ?_; rintro e w5 ⟨ev5, xs5, rfl, hrow5, hevs5, b5⟩; have hre5 : w5.heap[w.heap.size + 1]? = some (.cells #[.int .i64 0, .int .i64 0, .bool false, .string ⟨#[]⟩] 34 (0, 0)) := ((b5.block _ hlt1).trans (b4.block _ hlt1)).trans (by exact HX.out.2.1); have r0 := cell_at hre5 (j := 0) rfl; have r1 := cell_at hre5 (j := 1) rfl; have r2 := cell_at hre5 (j := 2) rfl; have r3 := cell_at hre5 (j := 3) rfl; have rf0 := free_at hre5 0; have rf1 := free_at hre5 1; have rf2 := free_at hre5 2; have rf3 := free_at hre5 3))
    all_goals
      have hB5 : Below w.heap.size w w5 := HX.out.2.2.trans (Below.mono (B := w1.heap.size) (((⟨rfl, rfl, rfl, Nat.le_refl _, fun _ _ => rfl⟩ : Below w1.heap.size w3 w3.drew).trans b4).trans b5) hB1.size)
      have HY := hid (And.intro hB5 (And.intro hre5 (And.intro hrow5 hevs5)))
      clear hB5 hre5 hrow5 hevs5 b4 b5 hr4 hS4
      go_wp2_with fail
      go_meet
      obtain ⟨hB5, hre5, hrow5, hevs5⟩ := HY.out
      refine ⟨hid ⟨xs5, row_just (row_low hrow5 hB1.size) hre5 (by decide) (four_other _ _ _ _ _ _), evs_mono (fun a n ys hr => row_just hr hre5 (by decide) (four_other _ _ _ _ _ _)) _ _ (evs_low hB1.size _ _ hevs5), ?_⟩, ?_, ?_, ?_, ?_⟩
      · exact (((hB5.setCell (by simp) _).setCell (by simp) _).setCell (by simp) _).setCell (by simp) _
      all_goals simp [go_sem, r0, r1, r2, r3]
  case rest =>
    obtain ⟨HZ, e0, e1, e2, e3⟩ := hcut
    obtain ⟨xs, z1, z2, z3⟩ := HZ.out
    go_wp2_with fail
    refine bodyPost_ret (v := .tuple #[.agg #[.int .i64 R1.mode, .int .i64 R1.scan, .bool R1.eat, .string rb], _]) ?_ rfl ⟨_, xs, rfl, z1, z2, z3⟩
    simp [results, Tryd.results12, go_sem, e0, e1, e2, e3]
end Go.Proofs.YtialeicpelehoaaDoor

/-
  The statement's within and begun, the reader's making, its state, isAllowed: their walks.
-/
namespace Go.Proofs.YtialeicpelehoaaDoor
open Go.RowKit Go.Lib Own

set_option maxHeartbeats 2000000 in
theorem within_any (n : Int) (h0 : -9223372036854775808 ≤ n) (h1 : n ≤ 9223372036854775807) (w : World) :
    Calls Tryd.prog 11 #[.int .i64 n, .int .i64 32, .int .i64 4096] w fun e w' => ∃ k : Nat, e = .returned (.int .i64 (k : Int)) ∧ 32 ≤ k ∧ k ≤ 4096 ∧ w' = w := by
  have hs : IntKind.i64.wrap ((4096 : Int) - 32) = 4064 := by rw [IntKind.wrap_i64]; omega
  have hs2 : IntKind.i64.wrap ((4064 : Int) + 1) = 4065 := by rw [IntKind.wrap_i64]; omega
  by_cases hin : 32 ≤ n ∧ n ≤ 4096
  · obtain ⟨a, b⟩ := hin
    go_enter Tryd.func11, Tryd.ntmps11
    go_wp2
    all_goals go_ret
    all_goals exact ⟨n.toNat, ret_i64 (by omega), by omega, by omega, rfl⟩
  · have hm : n.tmod 4065 < 4065 := by have := Int.tmod_lt_of_pos n (show (0 : Int) < 4065 by omega); exact this
    have hm2 : -4065 < n.tmod 4065 := by
      have h3 := Int.tmod_lt_of_pos (-n) (show (0 : Int) < 4065 by omega)
      rw [Int.neg_tmod] at h3
      omega
    generalize hr : n.tmod 4065 = r at hm hm2
    have hin2 : (32 ≤ n ∧ ¬ n ≤ 4096) ∨ ¬ 32 ≤ n := by omega
    have hor : r < 0 ∨ ¬ r < 0 := by omega
    have hw1 : IntKind.i64.wrap (r + 4065) = r + 4065 := by rw [IntKind.wrap_i64]; omega
    have hw2 : IntKind.i64.wrap (32 + r) = 32 + r := by rw [IntKind.wrap_i64]; omega
    rcases hor with h | h
    · have hw3 : IntKind.i64.wrap (32 + (r + 4065)) = 32 + (r + 4065) := by rw [IntKind.wrap_i64]; omega
      rcases hin2 with ⟨i1, i2⟩ | i1
      all_goals
        go_enter Tryd.func11, Tryd.ntmps11
        go_wp2
        all_goals go_ret
        all_goals exact ⟨(32 + (r + 4065)).toNat, ret_i64 (by omega), by omega, by omega, rfl⟩
    · rcases hin2 with ⟨i1, i2⟩ | i1
      all_goals
        go_enter Tryd.func11, Tryd.ntmps11
        go_wp2
        all_goals go_ret
        all_goals exact ⟨(32 + r).toNat, ret_i64 (by omega), by omega, by omega, rfl⟩
set_option maxHeartbeats 2000000 in
theorem begun_any (s : ByteArray) (r : List UInt8) (hs : s.data.toList = 120 :: r) (w : World) :
    Calls Tryd.prog 9 #[.string s] w fun e w' => e = .returned (.bool true) ∧ w' = w := by
  have hz : 0 < s.size := by rw [size_eq, hs]; simp
  obtain ⟨x, hx⟩ : ∃ x, s[0]'hz = x := ⟨_, rfl⟩
  have hl := getElem_list hz hx
  rw [hs] at hl
  simp only [List.getElem?_cons_zero, Option.some.injEq] at hl
  have q : ((x.toNat : Int) == 120) = true := by rw [← hl]; rfl
  clear hl hs
  go_enter Tryd.func9, Tryd.ntmps9
  go_wp2
  go_ret
  exact ⟨rfl, rfl⟩
end Go.Proofs.YtialeicpelehoaaDoor

/-
  Feeding in pieces: how long the lists and the texts grow; a row of events appended to another.
-/
namespace Go.Proofs.YtialeicpelehoaaDoor
open Go.RowKit Go.Lib Own

theorem tot_app (a b : List Ev) : tot (a ++ b) = tot a + tot b := by unfold tot; rw [List.map_append, List.sum_append]
theorem tot_jcons (e : Ev) (r : List Ev) : tot (jcons e r) = (evT e).length + tot r := by
  cases e with
  | start n a => simp [jcons, tot]
  | stop n => simp [jcons, tot]
  | text b =>
    cases r with
    | nil => simp [jcons, tot]
    | cons f r =>
      cases f with
      | start n a => simp [jcons, tot]
      | stop n => simp [jcons, tot]
      | text c =>
        simp only [jcons, tot, List.map_cons, List.sum_cons, evT, List.length_append]
        omega
theorem tot_join : ∀ l : List Ev, tot (joinEv l) = tot l
  | [] => rfl
  | e :: r => by
    show tot (jcons e (joinEv r)) = _
    rw [tot_jcons, tot_join r]
    simp [tot]
def itot (l : List Item) : Nat := tot (l.map toEv)
theorem itot_app (a b : List Item) : itot (a ++ b) = itot a + itot b := by unfold itot; rw [List.map_append, tot_app]
theorem itot_small {n : Nat} {it : List Item} (h : Small n it) : itot it ≤ 4 * n := by
  rcases h with rfl | ⟨b, rfl, hb⟩ | ⟨x, a, rfl⟩ | ⟨x, rfl⟩
  · exact Nat.zero_le _
  · simpa [itot, tot, toEv, evT] using hb
  · simp [itot, tot, toEv, evT]
  · simp [itot, tot, toEv, evT]
theorem itot_run {W : Nat} (hW : 32 ≤ W) (st : LS) (L : List UInt8) (h0 : st.scan ≤ 10) : itot (runL W st L).2.2 ≤ 4 * L.length := by
  refine run_ind hW (fun _ L R => itot R.2.2 ≤ 4 * L.length) (fun _ => Nat.zero_le _) (fun _ _ _ _ _ _ _ => Nat.zero_le _) ?_ L.length st L h0 (Nat.le_refl _)
  intro st L n st' it R hs hL h ih
  obtain ⟨h1, h2, -⟩ := step_pos hW hs hL h
  have h3 := itot_small (step_small h)
  simp only
  rw [itot_app]
  rw [List.length_drop] at ih
  omega
theorem itot_bytes : ∀ (st : LS) (L : List UInt8), itot (bytesL st L) ≤ L.length
  | _, [] => Nat.zero_le _
  | st, c :: r => by
    have ih := itot_bytes (noEat st) r
    have h1 := itot_small (small_unit (n := 1) st (b := [c]) (by simp))
    have h2 : itot (unitL2 st [c]) ≤ 1 := by
      unfold unitL2
      split <;> simp [itot, tot, toEv, evT]
    rw [bytesL, itot_app, List.length_cons]
    omega
theorem itot_end (st : LS) (L : List UInt8) : itot (endL st L) ≤ 4 * L.length := by
  unfold endL
  split
  · exact Nat.zero_le _
  · split
    · exact itot_small (small_unit (n := L.length) st (unr_len false _ L (Nat.le_refl _)))
    · split
      · have := itot_bytes st L
        omega
      · exact Nat.zero_le _
theorem tot_whole {W : Nat} (hW : 32 ≤ W) (L : List UInt8) : tot (evsL (wholeL W st0 L)) ≤ 8 * L.length := by
  have hfull : ∀ i ∈ wholeL W st0 L, fullI i := fun i hi => by
    rcases List.mem_append.1 hi with hi | hi
    · exact run_full hW _ st0 _ (by decide) (Nat.le_refl _) i hi
    · exact end_full _ _ i hi
  rw [evs_join _ hfull, tot_join]
  show itot (wholeL W st0 L) ≤ _
  unfold wholeL
  rw [itot_app]
  have h1 := itot_run hW st0 L (by decide)
  have h2 := itot_end (runL W st0 L).1 (runL W st0 L).2.1
  have h3 := (run_rest hW st0 L (by decide)).1
  omega
theorem evs_grow {W : Nat} (hW : 32 ≤ W) (st : LS) (L : List UInt8) (h0 : st.scan ≤ 10) : (evsL (runL W st L).2.2).length ≤ 2 * (L.length - (runL W st L).2.1.length) + 1 := by
  have h1 := (run_grow hW st L h0 ([], [])).1
  have h2 := flush_len (putAll ([], []) (runL W st L).2.2)
  show (flushE (putAll ([], []) (runL W st L).2.2)).length ≤ _
  simp only [List.length_nil, Nat.zero_add] at h1
  omega
theorem end_grow (st : LS) (L : List UInt8) : (evsL (endL st L)).length ≤ 1 := by
  have hb : ∀ (L : List UInt8) (st : LS) (P : List UInt8), ∃ PF, putAll ([], P) (bytesL st L) = ([], PF) := fun L st P => bytes_put [] L st P
  show (flushE (putAll ([], []) (endL st L))).length ≤ 1
  have key : ∃ PF, putAll ([], []) (endL st L) = ([], PF) := by
    unfold endL
    split
    · exact ⟨[], rfl⟩
    · split
      · exact ⟨_, put_unit _ _ _ _⟩
      · split
        · exact hb _ _ _
        · exact ⟨[], rfl⟩
  obtain ⟨PF, h⟩ := key
  rw [h]
  exact flush_len ([], PF)

/-! ## the pieces -/

theorem getD_drop' {ss : List ByteArray} {k : Nat} (hk : k < ss.length) : ss = ss.take k ++ ss.getD k ByteArray.empty :: ss.drop (k + 1) := by
  have h1 : ss.getD k ByteArray.empty = ss[k] := by simp [List.getD, hk]
  rw [h1, ← List.drop_eq_getElem_cons hk, List.take_append_drop]
theorem piece_len' {ss : List ByteArray} {len k : Nat} {p : ByteArray} {whole : List UInt8} (hlen : ss.length = len) (hlt : k < len) (hp : ss.getD k ByteArray.empty = p)
    (hsum : (ss.flatMap (·.data.toList)).length ≤ 1048576) (hw : whole = 120 :: (ss.take k).flatMap (·.data.toList)) : whole.length + p.size ≤ 1048577 := by
  have e := getD_drop' (ss := ss) (k := k) (by omega)
  rw [hp] at e
  have h2 : (ss.flatMap (·.data.toList)).length = ((ss.take k).flatMap (·.data.toList)).length + (p.data.toList.length + ((ss.drop (k + 1)).flatMap (·.data.toList)).length) := by
    conv => lhs; rw [e]
    rw [List.flatMap_append, List.flatMap_cons, List.length_append, List.length_append]
  rw [hw, size_eq, List.length_cons]
  omega
theorem whole_next' {ss : List ByteArray} {len k : Nat} {p : ByteArray} {whole : List UInt8} (hlen : ss.length = len) (hlt : k < len) (hp : ss.getD k ByteArray.empty = p)
    (hw : whole = 120 :: (ss.take k).flatMap (·.data.toList)) : whole ++ p.data.toList = 120 :: (ss.take (k + 1)).flatMap (·.data.toList) := by
  have e : ss.take (k + 1) = ss.take k ++ [p] := by
    rw [List.take_succ_eq_append_getElem (by omega), ← hp]
    simp [List.getD, show k < ss.length by omega]
  rw [e, hw, List.flatMap_append]
  simp

/-! ## a row of events behind another -/

theorem evs_one {W : World} {B : Nat} : ∀ (xs : List Value) (l : List Ev), EvsAt W B xs l → ∀ u ∈ xs, u.oneCell' = true
  | [], [], _, u, hu => by cases hu
  | k :: n :: a :: t :: r, e :: l, ⟨h1, h2⟩, u, hu => by
    rcases List.mem_cons.1 hu with h | hu
    · subst h; cases e <;> (rw [h1.1]; rfl)
    · rcases List.mem_cons.1 hu with h | hu
      · subst h; cases e <;> (rw [h1.2.1]; rfl)
      · rcases List.mem_cons.1 hu with h | hu
        · subst h
          cases e with
          | text b => rw [h1.2.2.1]; rfl
          | start m at_ =>
            obtain ⟨p, c, h⟩ := row_shape h1.2.2.1
            rw [h]; rfl
          | stop m => rw [h1.2.2.1]; rfl
        · rcases List.mem_cons.1 hu with h | hu
          · subst h; cases e <;> (rw [h1.2.2.2]; rfl)
          · exact evs_one r l h2 u hu
  | [], _ :: _, h, _, _ => h.elim
  | [_], _, h, _, _ => by cases ‹List Ev› <;> exact h.elim
  | [_, _], _, h, _, _ => by cases ‹List Ev› <;> exact h.elim
  | [_, _, _], _, h, _, _ => by cases ‹List Ev› <;> exact h.elim
  | _ :: _ :: _ :: _ :: _, [], h, _, _ => h.elim
theorem wpList_append_evs {w : World} {ops : Array Oper} {rest : List Oper} {o : Oper} {a : Act} {Q : Exit → Act → World → Prop} (hgd : o.guard = none) (s x : Operand)
    (ho : o.op = .call { callee := .builtin .append, args := #[s, x], argTypes := #[35, 35] }) (base B2 : Nat) (v vx : Value) (l m : List Ev) (xs ys : List Value) (hs : a.eval s = v) (hx : a.eval x = vx)
    (hown : w.ownsRow base 44 4 v l.length xs) (he : EvsAt w base xs l) (hown2 : w.ownsRow B2 44 4 vx m.length ys) (he2 : EvsAt w base ys m) (hbase : base ≤ w.heap.size) (hsz : l.length + m.length ≤ 1000000000)
    (h : ∀ v' w' zs, w'.ownsRow base 44 4 v' (l ++ m).length zs → EvsAt w' base zs (l ++ m) → w.grownBy w' v.ownBlock → wpList Tryd.prog ops Q rest (a.put o.dst v') w') : wpList Tryd.prog ops Q (o :: rest) a w := by
  obtain ⟨i0, hi, hz0, hz1, hz2⟩ := info_parts info_event
  rcases hown2.2 with ⟨rfl, h0⟩ | ⟨g, cap, cur, rfl, _⟩
  · obtain rfl : m = [] := List.length_eq_zero_iff.1 h0
    refine wpList_append_own_none hgd s x 35 ho base 44 i0 4 Tryd.underlying35 hi v l.length xs hs hown hx ?_
    refine h v w xs (by rw [List.append_nil]; exact hown) (by rw [List.append_nil]; exact he) ?_
    exact ⟨rfl, rfl, rfl, Nat.le_refl _, fun _ _ _ => rfl⟩
  · refine wpList_append_own w hgd s x 35 ho base 44 i0 (.agg #[.int .i64 0, .string ⟨#[]⟩, .slice none 0 0, .string ⟨#[]⟩]) 4 64 Tryd.underlying35 hi hz0 hz1 hz2 rfl (by decide) v l.length xs hs hown ⟨g, 0, none⟩ m.length cap ys hx (evs_len ys m he2) ?_ (evs_one ys m he2) (by unfold maxLen; omega) (by omega) hbase ?_
    · intro j u hj
      have hadd : (⟨g, 0, none⟩ : Addr).add j = ⟨g, j, none⟩ := by unfold Addr.add; split <;> simp_all
      rw [hadd, hown2.cellAt j (by have := (List.getElem?_eq_some_iff.1 hj).1; rw [evs_len ys m he2] at this; exact this)]
      exact hj
    · intro v' w' h2 h3 _
      refine h v' w' (xs ++ ys) (by rw [List.length_append]; exact h2) ?_ h3
      exact evs_mono (fun a n zs hr => hr.kept h3 (rows_ne hr hown (by decide))) _ _ (evs_app xs l ys m he he2)
end Go.Proofs.YtialeicpelehoaaDoor

/-
  The statement LawResume: its walk.
-/
namespace Go.Proofs.YtialeicpelehoaaDoor
open Go.RowKit Go.Lib Own

theorem four_at {W : World} {r : Nat} {a b c d v0 v1 v2 v3 : Value} {T : TypeId} (h : W.heap[r]? = some (.cells #[a, b, c, d] T (0, 0))) :
    ((((W.setCell ⟨r, 0, none⟩ v0).setCell ⟨r, 1, none⟩ v1).setCell ⟨r, 2, none⟩ v2).setCell ⟨r, 3, none⟩ v3).heap[r]? = some (.cells #[v0, v1, v2, v3] T (0, 0)) := by
  simp [World.setCell, Array.getElem?_modify, h]
theorem four_below {B : Nat} {w W : World} (h : Below B w W) {r : Nat} (hr : B ≤ r) (v0 v1 v2 v3 : Value) : Below B w ((((W.setCell ⟨r, 0, none⟩ v0).setCell ⟨r, 1, none⟩ v1).setCell ⟨r, 2, none⟩ v2).setCell ⟨r, 3, none⟩ v3) :=
  (((h.setCell hr _).setCell hr _).setCell hr _).setCell hr _
theorem x_fed {W : Nat} (hW : 32 ≤ W) : (evsL (runL W st0 [120]).2.2).length + 2 * (runL W st0 [120]).2.1.length ≤ 3 ∧ Fed W [120] (runL W st0 [120]).1 (runL W st0 [120]).2.1 (evsL (runL W st0 [120]).2.2) := by
  refine ⟨?_, Fed.first hW⟩
  have := evs_grow hW st0 [120] (by decide)
  have h2 := (run_rest hW st0 [120] (by decide)).1
  simp only [List.length_cons, List.length_nil] at this h2
  omega
/-- what the loop keeps in memory -/
structure Loop (w wr : World) (sb gb nb cb : Nat) (allv : Value) (st : LS) (held whole : List UInt8) (all : List Ev) : Prop where
  it : ∃ xs, wr.ownsRow w.heap.size 44 4 allv all.length xs ∧ EvsAt wr w.heap.size xs all
  n : ownsN wr 5 gb nb cb (byteCells whole)
  gl : w.heap.size ≤ gb
  sl : w.heap.size ≤ sb
  s : wr.heap[sb]? = some (.cells #[.int .i64 st.mode, .int .i64 st.scan, .bool st.eat, .string ⟨held.toArray⟩] 34 (0, 0))
  b : Below w.heap.size w wr

set_option maxHeartbeats 8000000 in
set_option maxRecDepth 100000 in
theorem resume_walk (n : Int) (h0 : -9223372036854775808 ≤ n) (h1 : n ≤ 9223372036854775807) (ad : Option Addr) (len cap : Nat) (ss : List ByteArray) (m : Int) (w : World) (hsum : (ss.flatMap (·.data.toList)).length ≤ 1048576) (hmax : len ≤ 1048576) (hlen : ss.length = len)
    (hcell : ∀ j, j < len → ∃ b off, ad = some ⟨b, off, none⟩ ∧ w.cell? ⟨b, off + j, none⟩ = some (.string (ss.getD j ByteArray.empty))) (hT : LexTabs w.heap.size w m) :
    Calls Tryd.prog 4 #[.int .i64 n, .slice ad len cap] w fun e w' => e = .returned (.bool true) ∧ Below w.heap.size w w' := by
  obtain ⟨ub, hub, hub0, hub1, hub2⟩ := info_parts info_u8
  have HT := hid hT
  have hwn := fun W => within_any n h0 h1 W
  have HWN := hid hwn
  clear hT hwn
  go_enter Tryd.func4, Tryd.ntmps4
  go_wp2_with (go_at_call 11; refine (HWN.out _).mono ?_; rintro e w9 ⟨win, rfl, hW, hwin, hw9⟩; rw [hw9]; clear hw9 w9)
  have hf := feed_any win st0 ⟨#[]⟩ ⟨#[120]⟩ ⟨#[120]⟩ rfl m w (by decide) hW hwin (by decide) (by decide) HT.out
  rw [show (⟨#[120]⟩ : ByteArray).data.toList = [120] from rfl] at hf
  obtain ⟨hx1, hx2⟩ := x_fed hW
  obtain ⟨S, hS⟩ : ∃ S, (runL win st0 [120]).1 = S := ⟨_, rfl⟩
  obtain ⟨Hd, hHd⟩ : ∃ Hd, (runL win st0 [120]).2.1 = Hd := ⟨_, rfl⟩
  obtain ⟨Al, hAl⟩ : ∃ Al, evsL (runL win st0 [120]).2.2 = Al := ⟨_, rfl⟩
  rw [hS, hHd, hAl] at hf hx2
  rw [hAl, hHd] at hx1
  obtain ⟨hb, hhb⟩ : ∃ hb : ByteArray, (⟨Hd.toArray⟩ : ByteArray) = hb := ⟨_, rfl⟩
  rw [hhb] at hf
  have HF := hid hf
  have HX2 := hid (And.intro hx2 (And.intro hx1 hhb))
  clear hf hx1 hx2 hS hHd hAl hhb
  go_wp2_with fail
  refine HF.out.mono ?_
  rintro e W1 ⟨ev1, xs1, rfl, hrow1, hevs1, b1⟩
  have hcv : (convert 27 27 (.slice (some ⟨W1.heap.size + 1, 0, none⟩) 1 1)).run Tryd.prog ((W1.alloc (.cells #[.int .i64 S.mode, .int .i64 S.scan, .bool S.eat, .string hb] 34)).alloc (.cells #[.int .u8 120] 5)) = .ok (.slice (some ⟨W1.heap.size + 1, 0, none⟩) 1 1) ((W1.alloc (.cells #[.int .i64 S.mode, .int .i64 S.scan, .bool S.eat, .string hb] 34)).alloc (.cells #[.int .u8 120] 5 (1, 2))) := by
    have := run_convert_bytes_const (P := Tryd.prog) (W1.alloc (.cells #[.int .i64 S.mode, .int .i64 S.scan, .bool S.eat, .string hb] 34)) 27 5 #[.int .u8 120] 1 1 Tryd.underlying27 Tryd.underlying5
    simpa using this
  obtain ⟨V, hV⟩ : ∃ V, (W1.alloc (.cells #[.int .i64 S.mode, .int .i64 S.scan, .bool S.eat, .string hb] 34)).alloc (.cells #[.int .u8 120] 5 (1, 2)) = V := ⟨_, rfl⟩
  have hLoop : Loop w V W1.heap.size (W1.heap.size + 1) 1 1 ev1 S Hd [120] Al := by
    have hs1 : (W1.alloc (.cells #[.int .i64 S.mode, .int .i64 S.scan, .bool S.eat, .string hb] 34)).heap.size = W1.heap.size + 1 := by simp
    have hb1 := b1.size
    refine ⟨⟨xs1, ?_, ?_⟩, ⟨#[.int .u8 120], (1, 2), ?_, .inl (Nat.le_refl _), Nat.le_refl _, by unfold maxLen; omega, rfl, rfl, rfl⟩, by omega, hb1, ?_, ?_⟩
    · rw [← hV]; exact (hrow1.alloc _).alloc _
    · rw [← hV]; exact evs_mono (fun a n ys hr => (hr.alloc _).alloc _) _ _ hevs1
    · rw [← hV, ← hs1]; exact heap_alloc_new _ _
    · rw [← hV, HX2.out.2.2]; exact (alloc_old _ _ _ (by simp)).trans (heap_alloc_new W1 _)
    · rw [← hV]; exact (b1.alloc hb1 _).alloc (by simp; omega) _
  rw [hV] at hcv
  have HL := hid hLoop
  have hW1s := b1.size
  clear hrow1 hevs1 b1 hLoop hV
  obtain ⟨sb, hsb⟩ : ∃ sb, W1.heap.size = sb := ⟨_, rfl⟩
  rw [hsb] at HL hcv
  go_wp2
  clear hcv HF HWN
  go_loopw [7, 8, 26] (fun av bv iv wr => ∃ (k gb nb cb : Nat) (st : LS) (held whole : List UInt8) (all : List Ev), k ≤ len ∧ iv = .int .i64 k ∧ bv = .slice (some ⟨gb, 0, none⟩) nb cb ∧ Hid (whole = 120 :: (ss.take k).flatMap (·.data.toList)) ∧ Hid (Fed win whole st held all ∧ Loop w wr sb gb nb cb av st held whole all) ∧ all.length + 2 * held.length ≤ 2 * whole.length + k + 1) (fun _ _ iv _ => len - (RowKit.intOf iv).toNat)
  case atStart => exact ⟨0, sb + 1, 1, 1, S, Hd, [120], Al, Nat.zero_le _, rfl, rfl, hid rfl, hid ⟨HX2.out.1, HL.out⟩, HX2.out.2.1⟩
  case round =>
    obtain ⟨k, gb, nb, cb, st, held, whole, all, hk, rfl, rfl, HWH, HFL, hbnd⟩ := hrel
    clear HL HX2
    by_cases hlt : k < len
    · obtain ⟨b, off, rfl, hc0⟩ := hcell k hlt
      have HLT := hid hlt
      obtain ⟨p, hp⟩ : ∃ p, ss.getD k ByteArray.empty = p := ⟨_, rfl⟩
      rw [hp] at hc0
      obtain ⟨hfed, hloop⟩ := HFL.out
      have hcb := cell_block hc0
      have hc := cell_low hc0 hloop.b hcb
      have c0 := cell_at hloop.s (j := 0) rfl
      have c1 := cell_at hloop.s (j := 1) rfl
      have c2 := cell_at hloop.s (j := 2) rfl
      have c3 := cell_at hloop.s (j := 3) rfl
      have hpl := piece_len' hlen hlt hp hsum HWH.out
      have hwn := whole_next' hlen hlt hp HWH.out
      obtain ⟨s1, s2, s3, s4⟩ := hfed.small hW
      obtain ⟨data, hda⟩ : ∃ data, (⟨held.toArray⟩ : ByteArray) ++ p = data := ⟨_, rfl⟩
      have hdl : data.data.toList = held ++ p.data.toList := by rw [← hda, ByteArray.data_append, Array.toList_append]
      have hdz : data.size = held.length + p.size := by rw [size_eq, hdl, List.length_append, ← size_eq]
      have hfd := feed_any win st ⟨held.toArray⟩ p data hda m wr.drew (by omega) hW hwin s3 s4 (by exact ((HT.out.below hloop.b).up hloop.b.size).drewN 1)
      rw [hdl] at hfd
      have hnext := hfed.next hW p.data.toList
      obtain ⟨t1, t2, t3, t4⟩ := hnext.small hW
      have hgrow := evs_grow hW st (held ++ p.data.toList) s3
      have hrest := (run_rest hW st (held ++ p.data.toList) s3).1
      rw [List.length_append, ← size_eq] at hgrow hrest
      obtain ⟨S2, hS2⟩ : ∃ S2, (runL win st (held ++ p.data.toList)).1 = S2 := ⟨_, rfl⟩
      obtain ⟨H2, hH2⟩ : ∃ H2, (runL win st (held ++ p.data.toList)).2.1 = H2 := ⟨_, rfl⟩
      obtain ⟨A2, hA2⟩ : ∃ A2, evsL (runL win st (held ++ p.data.toList)).2.2 = A2 := ⟨_, rfl⟩
      rw [hS2, hH2, hA2] at hfd hnext
      rw [hH2, hA2] at hgrow
      rw [hH2] at t1 hrest
      obtain ⟨hb2, hhb2⟩ : ∃ hb2 : ByteArray, (⟨H2.toArray⟩ : ByteArray) = hb2 := ⟨_, rfl⟩
      have hhz : hb2.size = H2.length := by rw [← hhb2]; rfl
      rw [hhb2] at hfd
      obtain ⟨hd9, hhd9⟩ : ∃ hd9 : ByteArray, (⟨held.toArray⟩ : ByteArray) = hd9 := ⟨_, rfl⟩
      rw [hhd9] at hfd c3
      have hwl : (whole ++ p.data.toList).length = whole.length + p.size := by rw [List.length_append, ← size_eq]
      have hbnd2 : (all ++ A2).length + 2 * H2.length ≤ 2 * (whole ++ p.data.toList).length + (k + 1) + 1 := by rw [hwl, List.length_append]; omega
      have hall : all.length + A2.length ≤ 1000000000 := by omega
      have hnb : whole.length = nb := by obtain ⟨_, _, _, _, _, _, _, h, _⟩ := hloop.n; rw [byteCells_length] at h; exact h
      have hnbp : nb + p.size ≤ 140737488355328 := by omega
      have hng : ¬ ((win : Int) < (hb2.size : Int)) := by omega
      have HFD := hid hfd
      have HNX := hid (And.intro hnext (And.intro hbnd2 (And.intro hwn hhb2)))
      have HSZ := hid (And.intro hall (And.intro hnbp hnb))
      clear hfd hnext hbnd2 hwn hhb2 hall hnbp hnb s1 s2 s3 s4 t1 t2 t3 t4 hgrow hrest hS2 hH2 hA2 hda hdl hdz hpl hwl hhz hhd9 hbnd hfed hp
      go_wp2_with fail
      go_region_law (go_simp; go_at_call 12; refine HFD.out.mono ?_; rintro e W3 ⟨ev3, xs3, rfl, hrow3, hevs3, b3⟩; have hg3 : wr.grownBy W3 none := ⟨b3.os, b3.tape, b3.output, b3.size, fun j hj _ => b3.block j hj⟩; have hst3 : W3.heap[sb]? = some (.cells #[.int .i64 st.mode, .int .i64 st.scan, .bool st.eat, .string ⟨held.toArray⟩] 34 (0, 0)) := (b3.block sb (Array.getElem?_eq_some_iff.1 hloop.s).1).trans hloop.s; have d0 := cell_at hst3 (j := 0) rfl; have d1 := cell_at hst3 (j := 1) rfl; have d2 := cell_at hst3 (j := 2) rfl; have d3 := cell_at hst3 (j := 3) rfl; have df0 := free_at hst3 0; have df1 := free_at hst3 1; have df2 := free_at hst3 2; have df3 := free_at hst3 3)
      all_goals
        obtain ⟨xs, hxs, exs⟩ := hloop.it
        have hs4 := four_at (v0 := .int .i64 S2.mode) (v1 := .int .i64 S2.scan) (v2 := .bool S2.eat) (v3 := .string hb2) hst3
        have hA4 := row_just (hxs.kept hg3 (Classical.em _)) hst3 (by decide) (four_other W3 sb (.int .i64 S2.mode) (.int .i64 S2.scan) (.bool S2.eat) (.string hb2))
        have eA4 := evs_mono (fun a n ys hr => row_just (hr.kept hg3 (Classical.em _)) hst3 (by decide) (four_other W3 sb (.int .i64 S2.mode) (.int .i64 S2.scan) (.bool S2.eat) (.string hb2))) _ _ exs
        have hB4 := row_just (row_low hrow3 (by exact hloop.b.size)) hst3 (by decide) (four_other W3 sb (.int .i64 S2.mode) (.int .i64 S2.scan) (.bool S2.eat) (.string hb2))
        have eB4 := evs_mono (fun a n ys hr => row_just hr hst3 (by decide) (four_other W3 sb (.int .i64 S2.mode) (.int .i64 S2.scan) (.bool S2.eat) (.string hb2))) _ _ (evs_low (by exact hloop.b.size) _ _ hevs3)
        have hgsb : gb ≠ sb := (blockN_ne hloop.s hloop.n (by decide)).symm
        have hN4 : ownsN ((((W3.setCell ⟨sb, 0, none⟩ (.int .i64 S2.mode)).setCell ⟨sb, 1, none⟩ (.int .i64 S2.scan)).setCell ⟨sb, 2, none⟩ (.bool S2.eat)).setCell ⟨sb, 3, none⟩ (.string hb2)) 5 gb nb cb (byteCells whole) := hloop.n.kept ((four_other W3 sb _ _ _ _ gb hgsb).trans (b3.block gb (by exact hloop.n.lt)))
        have bel4 := four_below (hloop.b.trans (Below.mono (B := wr.heap.size) (⟨b3.os, b3.tape, b3.output, b3.size, b3.block⟩ : Below wr.heap.size wr W3) hloop.b.size)) hloop.sl (.int .i64 S2.mode) (.int .i64 S2.scan) (.bool S2.eat) (.string hb2)
        have HSL := hid hloop.sl
        have HGL := hid hloop.gl
        clear hrow3 hevs3 b3 hg3 hst3 d0 d1 d2 d3 df0 df1 df2 df3 hxs exs hc c0 c1 c2 c3 hloop HFL HFD
        go_wp2_with (at_builtin; refine wpList_append_evs rfl (.tmp 39) (.tmp 40) rfl w.heap.size w.heap.size _ _ all A2 xs xs3 rfl rfl (by exact hA4) (by exact eA4) (by exact hB4) (by exact eB4) (by exact bel4.size) HSZ.out.1 ?_)
        intro v5 W5 zs hA5 eA5 hg5
        have hs5 := (hg5.block sb (Array.getElem?_eq_some_iff.1 hs4).1 (fun e => row_ne hA4 hs4 (by decide) e.symm)).trans hs4
        have hN5 := hN4.kept (hg5.block gb hN4.lt (fun e => rowN_ne hA4 hN4 (by decide) e.symm))
        have bel5 : Below w.heap.size w W5 := bel4.grown hg5 bel4.size (fun k hk => (hA4.lt k hk).1)
        have hc5 := cell_low hc0 bel5 hcb
        have HZ5 := hid (And.intro hA5 (And.intro eA5 (And.intro hs5 bel5)))
        clear hA4 eA4 hB4 eB4 hs4 hN4 bel4 hg5 hA5 eA5 hs5 bel5
        go_wp2_with (at_builtin; refine wpList_append_marked _ rfl (.tmp 42) (.tmp 46) 27 9 rfl 5 ub Tryd.underlying27 Tryd.underlying9 hub hub0 hub1 hub2 gb nb cb (byteCells whole) rfl (by exact hN5) p rfl HSZ.out.2.1 ?_)
        intro gb6 cb6 W6 ho6 hg6 hor6
        obtain ⟨hA5, eA5, hs5, bel5⟩ := HZ5.out
        have hA6 := hA5.kept hg6 (.inr (rowN_ne hA5 hN5 (by decide)))
        have eA6 := evs_mono (fun a n ys hr => hr.kept hg6 (.inr (rowN_ne hr hN5 (by decide)))) _ _ eA5
        have hs6 := (hg6.block sb (Array.getElem?_eq_some_iff.1 hs5).1 (fun e => hgsb (Option.some.inj e).symm)).trans hs5
        have hgb6 : w.heap.size ≤ gb6 := by have := HGL.out; have := bel5.size; rcases hor6 with h | h <;> omega
        have bel6 : Below w.heap.size w W6 := bel5.trans ⟨hg6.os, hg6.tape, hg6.output, hg6.size, fun j hj => hg6.block j (by have := bel5.size; omega) (by intro e; have := HGL.out; simp at e; omega)⟩
        have e3 := cell_at hs6 (j := 3) rfl
        have HL6 : Hid (Fed win (whole ++ p.data.toList) S2 H2 (all ++ A2) ∧ Loop w W6 sb gb6 (nb + p.size) cb6 v5 S2 H2 (whole ++ p.data.toList) (all ++ A2)) := hid ⟨HNX.out.1, ⟨zs, by rw [List.length_append]; exact hA6, eA6⟩, by rw [byteCells_append]; exact ho6, hgb6, HSL.out, by rw [HNX.out.2.2.2]; exact hs6, bel6⟩
        clear hA5 eA5 hs5 bel5 hA6 eA6 hs6 bel6 ho6 hg6 hN5 HZ5 hc5
        go_wp2
        go_roundw
        case rel =>
          have hq := HLT.out
          exact ⟨k + 1, gb6, nb + p.size, cb6, S2, H2, whole ++ p.data.toList, all ++ A2, by omega, by go_num, rfl, hid HNX.out.2.2.1, HL6, HNX.out.2.1⟩
        case measure => have hq := HLT.out; simp [RowKit.intOf]; omega
    · have hkl : k = len := by omega
      obtain ⟨hfed, hloop⟩ := HFL.out
      obtain ⟨s1, s2, s3, s4⟩ := hfed.small hW
      obtain ⟨l1, l2⟩ := hfed.last hW
      have hwl : whole.length ≤ 1048577 := by
        rw [HWH.out, hkl, List.take_of_length_le (by omega)]
        simp only [List.length_cons]
        omega
      have hwx : ∃ r, whole = 120 :: r := ⟨_, HWH.out⟩
      obtain ⟨LE, hLE⟩ : ∃ LE, evsL (endL st held) = LE := ⟨_, rfl⟩
      have hLEn : LE.length ≤ 1 := by rw [← hLE]; exact end_grow st held
      have hfw : evsL (wholeL win st held) = LE := by
        unfold wholeL
        rw [l1, ← hLE]
        rfl
      rw [hLE] at l2
      have htw := tot_whole hW whole
      obtain ⟨J, hJ⟩ : ∃ J, evsL (wholeL win st0 whole) = J := ⟨_, rfl⟩
      rw [hJ] at l2 htw
      have htot : tot (all ++ LE) ≤ 100000000000 := by rw [← tot_join, l2]; omega
      have hJx : ∃ bb l, J = .text (120 :: bb) :: l := by
        obtain ⟨r, hr⟩ := hwx
        rw [← hJ, hr]
        exact whole_x hW r
      have hfi := finish_any win st ⟨held.toArray⟩ false m wr (by show held.length ≤ _; omega) hW hwin s3 s4 ((HT.out.below hloop.b).up hloop.b.size) rfl
      rw [show (⟨held.toArray⟩ : ByteArray).data.toList = held from rfl, hfw] at hfi
      have hal : all.length + LE.length ≤ 1000000000 := by omega
      have c0 := cell_at hloop.s (j := 0) rfl
      have c1 := cell_at hloop.s (j := 1) rfl
      have c2 := cell_at hloop.s (j := 2) rfl
      have c3 := cell_at hloop.s (j := 3) rfl
      obtain ⟨hd9, hhd9⟩ : ∃ hd9 : ByteArray, (⟨held.toArray⟩ : ByteArray) = hd9 := ⟨_, rfl⟩
      rw [hhd9] at hfi c3
      obtain ⟨wb, hwb⟩ : ∃ wb : ByteArray, (⟨whole.toArray⟩ : ByteArray) = wb := ⟨_, rfl⟩
      have hwbl : wb.data.toList = whole := by rw [← hwb]
      have hlx := fun W (hTW : LexTabs W.heap.size W m) => lex_any win wb m W (by rw [size_eq, hwbl]; omega) hW hwin hTW
      rw [hwbl, hJ] at hlx
      have HFI := hid hfi
      have HLX := hid hlx
      have HP := hid (And.intro l2 (And.intro htot (And.intro hal (And.intro hJx hwb))))
      clear hfi hlx hfed s1 s2 s3 s4 l1 l2 hwl hwx hLE hLEn hfw htw hJ htot hJx hal hhd9 hwb hwbl hbnd HWH hcell hsum
      go_wp2_with fail
      refine HFI.out.mono ?_
      rintro e W1 ⟨ev1, xsL, rfl, hL1, eL1, b1⟩
      obtain ⟨xs, hxs, exs⟩ := hloop.it
      have hg1 : wr.grownBy W1 none := ⟨b1.os, b1.tape, b1.output, b1.size, fun j hj _ => b1.block j hj⟩
      have hA1 := hxs.kept hg1 (Classical.em _)
      have eA1 := evs_mono (fun a n ys hr => hr.kept hg1 (Classical.em _)) _ _ exs
      have hL2 := row_low hL1 hloop.b.size
      have eL2 := evs_low hloop.b.size _ _ eL1
      have hN1 := hloop.n.kept (b1.block gb hloop.n.lt)
      have bel1 := hloop.b.trans (b1.mono hloop.b.size)
      clear hxs exs hL1 eL1 b1 hg1 c0 c1 c2 c3 hloop HFL HFI
      go_wp2_with (at_builtin; refine wpList_append_evs rfl (.tmp 57) (.tmp 58) rfl w.heap.size w.heap.size _ _ all LE xs xsL rfl rfl (by exact hA1) (by exact eA1) (by exact hL2) (by exact eL2) (by exact bel1.size) HP.out.2.2.1 ?_)
      intro v5 W2 zs hA2 eA2 hg2
      have hN2 := hN1.kept (hg2.block gb hN1.lt (fun e => rowN_ne hA1 hN1 (by decide) e.symm))
      have bel2 : Below w.heap.size w W2 := bel1.grown hg2 bel1.size (fun k hk => (hA1.lt k hk).1)
      have hjt := joinTexts_any w.heap.size v5 zs (all ++ LE) W2 (by rw [List.length_append]; exact hA2) eA2 (by rw [List.length_append]; exact HP.out.2.2.1) HP.out.2.1
      rw [HP.out.1] at hjt
      have HJT := hid hjt
      clear hA1 eA1 hL2 eL2 hN1 bel1 hg2 hA2 eA2 hjt
      go_wp2_with fail
      refine HJT.out.mono ?_
      rintro e W3 ⟨vG, ysG, rfl, hG3, eG2, b3⟩
      have hN3 := hN2.kept (b3.block gb hN2.lt)
      have bel3 := bel2.trans (b3.mono bel2.size)
      have hcv := ownsN_text hN3
      rw [HP.out.2.2.2.2] at hcv
      have eG3 : EvsAt W3 w.heap.size ysG J := evs_mono (fun a n ys hr => hr.kept (row := none) ⟨b3.os, b3.tape, b3.output, b3.size, fun j hj _ => b3.block j hj⟩ (Classical.em _)) _ _ eG2
      have hT3 := (HT.out.below bel3).up bel3.size
      have hlx3 := HLX.out W3 hT3
      have HLX3 := hid hlx3
      have HG := hid (And.intro hG3 (And.intro eG3 bel3))
      have hbs2 := hid bel2.size
      clear hG3 eG2 eG3 b3 hN3 bel3 hN2 bel2 hT3 hlx3 HJT HLX
      go_wp2_with fail
      refine HLX3.out.mono ?_
      rintro e W4 ⟨vD, xsD, rfl, hD4, eD4, b4⟩
      obtain ⟨hG3, eG3, bel3⟩ := HG.out
      have hg4 : W3.grownBy W4 none := ⟨b4.os, b4.tape, b4.output, b4.size, fun j hj _ => b4.block j hj⟩
      have hG4 := row_low (hG3.kept hg4 (Classical.em _)) hbs2.out
      have eG4 := evs_mono (fun a n ys hr => hr.kept hg4 (Classical.em _)) _ _ eG3
      have hse := sameEvents_any w.heap.size W3.heap.size vG vD ysG xsD J W4 hG4 eG4 hD4 eD4
      obtain ⟨bb, lJ, hJ2⟩ := HP.out.2.2.2.1
      have hJl : 0 < J.length := by rw [hJ2]; simp
      obtain ⟨gD, caD, aD, hvD, _, _, z0, _, _, z3, _, _⟩ := ev_cells hD4 eD4 0 hJl
      have hJ0 : J[0] = .text (120 :: bb) := by simp [hJ2]
      rw [hJ0] at z0 z3
      subst hvD
      change W4.cell? ⟨gD, 0, none⟩ = some (.int .i64 3) at z0
      change W4.cell? ⟨gD, 3, none⟩ = some (strV (120 :: bb)) at z3
      obtain ⟨xb, hxb⟩ : ∃ xb : ByteArray, (⟨(120 :: bb).toArray⟩ : ByteArray) = xb := ⟨_, rfl⟩
      unfold strV at z3
      rw [hxb] at z3
      have hbg := fun W => begun_any xb bb (by rw [← hxb]) W
      have HSE := hid hse
      have HBG := hid hbg
      have HB4 := hid (bel3.trans (b4.mono bel3.size))
      have hjpos : (0 : Int) < (J.length : Int) := by omega
      clear hse hbg hG3 eG3 bel3 hg4 hG4 eG4 hD4 eD4 b4 hJ2 hJ0 hxb HG HLX3
      go_wp2_with (first | (go_at_call 16; refine HSE.out.mono ?_; rintro e W5 ⟨rfl, nd, rfl⟩) | (go_at_call 9; refine (HBG.out _).mono ?_; rintro e W6 ⟨rfl, rfl⟩))
      go_ret
      exact ⟨rfl, below_drewN HB4.out _⟩
end Go.Proofs.YtialeicpelehoaaDoor

/-
  From what a row says of the six tables to what lies in memory.
-/
namespace Go.Proofs.YtialeicpelehoaaDoor
open Go.RowKit Go.Lib Go.ChangeShapes

theorem range_of {P : Program} {w : World} {n : String} {g : Nat} {cs : Array Value} {L : List Value} (hg : P.globalNamed n = some g) (hvar : w.var? P n = some cs) (h : ∀ (j : Nat) (v : Value), L[j]? = some v → cs.toList[j]? = some v) : w.rangeAt g 0 L := by
  intro j v hv
  rw [Nat.zero_add, World.var?_cell hg hvar j, ← Array.getElem?_toList]
  exact h j v hv
theorem ints_of {P : Program} {w : World} {n : String} {g t e m : Nat} {k : IntKind} {zs : List Int} (hg : P.globalNamed n = some g) (ht : (P.globals[g]?).map (·.type) = some t)
    (hu : P.underlying t = some (.array m e)) (he : P.underlying e = some (.int k)) (hce : P.cellsOf e = 1) (hct : P.cellsOf t = m) (h : VarReads P w n (tabData k zs)) : w.rangeAt g 0 (zs.map fun z => .int k z) := by
  obtain ⟨g', t', cs, fuel, p, hg', hty, hvar, hd⟩ := h
  obtain rfl := Option.some.inj (hg.symm.trans hg')
  obtain rfl := Option.some.inj (ht.symm.trans hty)
  have hcs := cells_of_tab hu he hce hct hd
  exact range_of hg hvar (fun j v hv => by rw [hcs]; exact hv)
theorem one_at {α : Type} {l : List α} {j : Nat} {x : α} (h : (l.drop j).take 1 = [x]) : l[j]? = some x := by
  have := congrArg (·[0]?) h
  simpa using this
theorem strs_of {P : Program} {w : World} {n : String} {g t e m : Nat} {T : List (List UInt8)} (hg : P.globalNamed n = some g) (ht : (P.globals[g]?).map (·.type) = some t)
    (hu : P.underlying t = some (.array m e)) (he : P.underlying e = some .string) (hce : P.cellsOf e = 1) (hm : T.length = m) (h : VarReads P w n (.agg (T.map fun x => .lit (.string x)))) : w.rangeAt g 0 (T.map strV) := by
  obtain ⟨g', t', cs, fuel, p, hg', hty, hvar, hd⟩ := h
  obtain rfl := Option.some.inj (hg.symm.trans hg')
  obtain rfl := Option.some.inj (ht.symm.trans hty)
  refine range_of hg hvar (fun j v hv => ?_)
  rw [List.getElem?_map] at hv
  obtain ⟨x, hx, rfl⟩ := Option.map_eq_some_iff.1 hv
  obtain ⟨fuel', d, q, hdi, hel⟩ := array_elem hu hd j (by rw [← hm]; exact (List.getElem?_eq_some_iff.1 hx).1)
  rw [List.getElem?_map, hx] at hdi
  simp only [Option.map_some, Option.some.injEq] at hdi
  subst hdi
  rw [hce, Nat.mul_one] at hel
  obtain ⟨s, hs, hx2, _⟩ := DataW.trod_string he hel
  simp only [Prod.mk.injEq, DataW.lit.injEq, Lit.string.injEq] at hx2
  rw [one_at hs]
  unfold strV
  rw [hx2.1]
theorem flat_even {f g : List UInt8 × Int → Value} : ∀ (T : List (List UInt8 × Int)) (k : Nat), (T.flatMap fun t => [f t, g t])[k * 2]? = T[k]?.map f ∧ (T.flatMap fun t => [f t, g t])[k * 2 + 1]? = T[k]?.map g
  | [], k => by simp
  | t :: T, 0 => by simp
  | t :: T, k + 1 => by
    have := flat_even (f := f) (g := g) T k
    rw [show (k + 1) * 2 = k * 2 + 2 from by omega, show k * 2 + 2 + 1 = k * 2 + 1 + 2 from by omega, List.flatMap_cons]
    simpa using this
theorem pairs_of {P : Program} {w : World} {n : String} {g t e m ts ti : Nat} {f0 f1 : Field} {T : List (List UInt8 × Int)} (hg : P.globalNamed n = some g) (ht : (P.globals[g]?).map (·.type) = some t)
    (hu : P.underlying t = some (.array m e)) (he : P.underlying e = some (.struct #[f0, f1])) (hce : P.cellsOf e = 2) (hm : T.length = m)
    (h0 : f0.type = ts ∧ f0.offset = 0) (h1 : f1.type = ti ∧ f1.offset = 1) (hs : P.underlying ts = some .string) (hcs : P.cellsOf ts = 1) (hi : P.underlying ti = some (.int .i32)) (hci : P.cellsOf ti = 1)
    (h : VarReads P w n (.agg (T.map fun x => .agg [.lit (.string x.1), .lit (.int .i32 x.2)]))) : w.rangeAt g 0 (T.flatMap fun t => [strV t.1, .int .i32 t.2]) := by
  obtain ⟨g', t', cs, fuel, p, hg', hty, hvar, hd⟩ := h
  obtain rfl := Option.some.inj (hg.symm.trans hg')
  obtain rfl := Option.some.inj (ht.symm.trans hty)
  have key : ∀ k x, T[k]? = some x → cs.toList[k * 2]? = some (strV x.1) ∧ cs.toList[k * 2 + 1]? = some (.int .i32 x.2) := by
    intro k x hx
    obtain ⟨fuel', d, q, hdi, hel⟩ := array_elem hu hd k (by rw [← hm]; exact (List.getElem?_eq_some_iff.1 hx).1)
    rw [List.getElem?_map, hx] at hdi
    simp only [Option.map_some, Option.some.injEq] at hdi
    subst hdi
    obtain ⟨y0, y1, n', hy, _, e0, e1⟩ := trod_struct2 he hel
    rw [h0.1, h0.2, hcs, hce] at e0
    rw [h1.1, h1.2, hci, hce] at e1
    obtain ⟨s, hs1, hs2, _⟩ := DataW.trod_string hs e0
    obtain ⟨z, hz1, hz2, _⟩ := DataW.trod_int hi e1
    rw [hs2, hz2] at hy
    simp only [Prod.mk.injEq, DataW.agg.injEq, List.cons.injEq, DataW.lit.injEq, Lit.string.injEq, Lit.int.injEq, true_and, and_true] at hy
    have a0 := one_at hs1
    have a1 := one_at hz1
    rw [List.getElem?_take_of_lt (by omega), List.getElem?_drop] at a0 a1
    refine ⟨?_, ?_⟩
    · rw [show k * 2 = k * 2 + 0 from rfl, a0]
      unfold strV
      rw [hy.1.1]
    · rw [a1, hy.1.2]
  refine range_of hg hvar (fun j v hv => ?_)
  obtain ⟨f1', f2'⟩ := flat_even (f := fun t => strV t.1) (g := fun t => .int .i32 t.2) T (j / 2)
  rcases Nat.mod_two_eq_zero_or_one j with h2 | h2
  · have e : j = j / 2 * 2 := by omega
    rw [e] at hv ⊢
    rw [f1'] at hv
    obtain ⟨x, hx, rfl⟩ := Option.map_eq_some_iff.1 hv
    exact (key _ x hx).1
  · have e : j = j / 2 * 2 + 1 := by omega
    rw [e] at hv ⊢
    rw [f2'] at hv
    obtain ⟨x, hx, rfl⟩ := Option.map_eq_some_iff.1 hv
    exact (key _ x hx).2
end Go.Proofs.YtialeicpelehoaaDoor
