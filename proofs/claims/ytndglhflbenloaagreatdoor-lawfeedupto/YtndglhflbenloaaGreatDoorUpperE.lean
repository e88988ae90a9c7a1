/-
  Parts of the walk, joined: RefFinish, RefFeed, BothFeed, AppendTwo, SameEv, ApartA, ApartB, Fresh, FeedLaw, TabsOf.
-/
import Derived.Test.YtndglhflbenloaaGreatDoorUpperD
import Derived.Test.YtndglhflbenloaaGreatDoorUpperB
import Derived.Maps.AppendAt
import Derived.Laws.AppendOwnNone
import Derived.Test.YtndglhflbenloaaGreatDoorGen
import Derived.BigQuiet
import Derived.Test.YtndglhflbenloaaGreatDoorUpperC
import Derived.Test.YtndglhflbenloaaGreatDoorShelf
import Derived.Test.YtndglhflbenloaaGreatDoorRows
import Derived.Test.YtndglhflbenloaaGreatDoorRefTabs
import Derived.Test.YtndglhflbenloaaGreatDoorFindName
import Derived.Lib.LaidU8T
import Derived.Lib.LaidTab
import Derived.ChangeSame
import Derived.ChangeArms
/-
  What is allowed to the lexer; the reference's Feed, Finish and Lex: their walks.
-/
namespace Go.Proofs.YtndglhflbenloaaGreatDoor
open Go.RowKit Go.Lib Own

def LexOk (win mode scan : Int) : Prop := 32 ≤ win ∧ win ≤ 4096 ∧ 0 ≤ mode ∧ mode ≤ 10 ∧ 0 ≤ scan ∧ scan ≤ 10
set_option maxHeartbeats 4000000 in
theorem lexable_yes (win mode scan : Int) (eat : Bool) (held : ByteArray) (w : World) (h : LexOk win mode scan) :
    Calls Tryz.prog 16 #[.int .i64 win, .agg #[.int .i64 mode, .int .i64 scan, .bool eat, .string held]] w fun e w' => e = .returned (.bool true) ∧ Below w.heap.size w w' := by
  obtain ⟨q1, q2, q3, q4, q5, q6⟩ := h
  go_enter Tryz.func16, Tryz.ntmps16
  go_wp2
  go_ret
  exact ⟨rfl, (Below.refl _ _).alloc (Nat.le_refl _) _⟩
set_option maxHeartbeats 4000000 in
theorem lexable_no (win mode scan : Int) (eat : Bool) (held : ByteArray) (w : World) (h : ¬ LexOk win mode scan) :
    Calls Tryz.prog 16 #[.int .i64 win, .agg #[.int .i64 mode, .int .i64 scan, .bool eat, .string held]] w fun e w' => e = .returned (.bool false) ∧ Below w.heap.size w w' := by
  by_cases q1 : 32 ≤ win
  · by_cases q2 : win ≤ 4096
    · by_cases q3 : 0 ≤ mode
      · by_cases q4 : mode ≤ 10
        · by_cases q5 : 0 ≤ scan
          · by_cases q6 : scan ≤ 10
            · exact absurd ⟨q1, q2, q3, q4, q5, q6⟩ h
            · clear h
              go_enter Tryz.func16, Tryz.ntmps16
              go_wp2
              go_ret
              exact ⟨rfl, (Below.refl _ _).alloc (Nat.le_refl _) _⟩
          · clear h
            go_enter Tryz.func16, Tryz.ntmps16
            go_wp2
            go_ret
            exact ⟨rfl, (Below.refl _ _).alloc (Nat.le_refl _) _⟩
        · clear h
          go_enter Tryz.func16, Tryz.ntmps16
          go_wp2
          go_ret
          exact ⟨rfl, (Below.refl _ _).alloc (Nat.le_refl _) _⟩
      · clear h
        go_enter Tryz.func16, Tryz.ntmps16
        go_wp2
        go_ret
        exact ⟨rfl, (Below.refl _ _).alloc (Nat.le_refl _) _⟩
    · clear h
      go_enter Tryz.func16, Tryz.ntmps16
      go_wp2
      go_ret
      exact ⟨rfl, (Below.refl _ _).alloc (Nat.le_refl _) _⟩
  · clear h
    go_enter Tryz.func16, Tryz.ntmps16
    go_wp2
    go_ret
    exact ⟨rfl, (Below.refl _ _).alloc (Nat.le_refl _) _⟩
set_option maxHeartbeats 4000000 in
theorem isAllowed_yes (win mode scan : Int) (eat : Bool) (held : ByteArray) (w : World) (h : LexOk win mode scan) :
    Calls Tryz.prog 11 #[.int .i64 win, .agg #[.int .i64 mode, .int .i64 scan, .bool eat, .string held]] w fun e w' => e = .returned (.bool true) ∧ Below w.heap.size w w' := by
  obtain ⟨q1, q2, q3, q4, q5, q6⟩ := h
  go_enter Tryz.func11, Tryz.ntmps11
  go_wp2
  go_ret
  exact ⟨rfl, (Below.refl _ _).alloc (Nat.le_refl _) _⟩
set_option maxHeartbeats 4000000 in
theorem isAllowed_no (win mode scan : Int) (eat : Bool) (held : ByteArray) (w : World) (h : ¬ LexOk win mode scan) :
    Calls Tryz.prog 11 #[.int .i64 win, .agg #[.int .i64 mode, .int .i64 scan, .bool eat, .string held]] w fun e w' => e = .returned (.bool false) ∧ Below w.heap.size w w' := by
  by_cases q1 : 32 ≤ win
  · by_cases q2 : win ≤ 4096
    · by_cases q3 : 0 ≤ mode
      · by_cases q4 : mode ≤ 10
        · by_cases q5 : 0 ≤ scan
          · by_cases q6 : scan ≤ 10
            · exact absurd ⟨q1, q2, q3, q4, q5, q6⟩ h
            · clear h
              go_enter Tryz.func11, Tryz.ntmps11
              go_wp2
              go_ret
              exact ⟨rfl, (Below.refl _ _).alloc (Nat.le_refl _) _⟩
          · clear h
            go_enter Tryz.func11, Tryz.ntmps11
            go_wp2
            go_ret
            exact ⟨rfl, (Below.refl _ _).alloc (Nat.le_refl _) _⟩
        · clear h
          go_enter Tryz.func11, Tryz.ntmps11
          go_wp2
          go_ret
          exact ⟨rfl, (Below.refl _ _).alloc (Nat.le_refl _) _⟩
      · clear h
        go_enter Tryz.func11, Tryz.ntmps11
        go_wp2
        go_ret
        exact ⟨rfl, (Below.refl _ _).alloc (Nat.le_refl _) _⟩
    · clear h
      go_enter Tryz.func11, Tryz.ntmps11
      go_wp2
      go_ret
      exact ⟨rfl, (Below.refl _ _).alloc (Nat.le_refl _) _⟩
  · clear h
    go_enter Tryz.func11, Tryz.ntmps11
    go_wp2
    go_ret
    exact ⟨rfl, (Below.refl _ _).alloc (Nat.le_refl _) _⟩
theorem lxg_new (w : World) (win mode scan : Int) (eat : Bool) (held : ByteArray) : Lxg (w.alloc (.cells (lxC win mode scan eat held (.slice none 0 0) (.slice none 0 0)) 46)) w.heap.size w.heap.size win mode scan eat held [] [] :=
  ⟨Nat.le_refl _, .slice none 0 0, .slice none 0 0, [], heap_alloc_new w _, World.ownsRow_nil _ _ _ _, trivial, World.ownsRow_nil _ _ _ _⟩
theorem RefTabsB.up {base base2 : Nat} {w : World} (h : RefTabsB base w) (hb : base ≤ base2) : RefTabsB base2 w :=
  ⟨h.tabs, Nat.lt_of_lt_of_le h.l1 hb, Nat.lt_of_lt_of_le h.l2 hb, Nat.lt_of_lt_of_le h.l3 hb, Nat.lt_of_lt_of_le h.l4 hb, Nat.lt_of_lt_of_le h.l5 hb, Nat.lt_of_lt_of_le h.l6 hb⟩
/-- what Finish and Lex answer -/
def EvsSaid (J : List Ev) (w : World) (e : Ending) (w' : World) : Prop :=
  ∃ ev xs, e = .returned ev ∧ w'.ownsRow w.heap.size 52 4 ev J.length xs ∧ EvsAt w' w.heap.size xs J ∧ Below w.heap.size w w'
theorem EvsSaid.of {J : List Ev} {w w1 W : World} {b : Nat} {win mode scan : Int} {eat : Bool} {held : ByteArray} {P : List UInt8} {ev : Value} (hL : Lxg W w1.heap.size b win mode scan eat held J P) (hev : W.cell? ⟨b, 5, none⟩ = some ev) (hle : w.heap.size ≤ w1.heap.size) (hB : Below w.heap.size w W) : EvsSaid J w (.returned ev) W := by
  obtain ⟨ev2, wd, xs, h1, h2, h3, h4⟩ := hL.it
  have h5 : W.cell? ⟨b, 5, none⟩ = some ev2 := cell_at h1 rfl
  rw [h5] at hev
  obtain rfl := Option.some.inj hev
  exact ⟨ev2, xs, rfl, row_lower h2 hle, evs_low hle _ _ h3, hB⟩
theorem Lxg.evs {W : World} {base b : Nat} {win mode scan : Int} {eat : Bool} {held : ByteArray} {E : List Ev} {P : List UInt8} (h : Lxg W base b win mode scan eat held E P) : ∃ p c, W.cell? ⟨b, 5, none⟩ = some (.slice p E.length c) := by
  obtain ⟨ev, wd, xs, h1, h2, _⟩ := h.it
  obtain ⟨p, c, rfl⟩ := row_shape h2
  exact ⟨p, c, cell_at h1 rfl⟩

set_option maxHeartbeats 8000000 in
set_option maxRecDepth 100000 in
theorem refFinish_any (win : Nat) (st : LS) (held : ByteArray) (broken : Bool) (w : World) (hsz : held.size ≤ 2000000) (hW : 32 ≤ win) (hwin : win ≤ 4096) (hs : st.scan ≤ 10) (hm : st.mode ≤ 10) (hT : RefTabsB w.heap.size w) :
    Calls Tryz.prog 8 #[.int .i64 win, .agg #[.int .i64 st.mode, .int .i64 st.scan, .bool st.eat, .string held], .bool broken] w (EvsSaid (evsL (if broken then (runL win st held.data.toList).2.2 else wholeL win st held.data.toList)) w) := by
  have hal := fun W => lexable_yes win st.mode st.scan st.eat held W ⟨by omega, by omega, by omega, by omega, by omega, by omega⟩
  obtain ⟨R1, hR1⟩ : ∃ R1, (runL win st held.data.toList).1 = R1 := ⟨_, rfl⟩
  obtain ⟨R2, hR2⟩ : ∃ R2, (runL win st held.data.toList).2.1 = R2 := ⟨_, rfl⟩
  obtain ⟨R3, hR3⟩ : ∃ R3, (runL win st held.data.toList).2.2 = R3 := ⟨_, rfl⟩
  obtain ⟨EF, hEF⟩ : ∃ EF, (putAll ([], []) R3).1 = EF := ⟨_, rfl⟩
  obtain ⟨PF, hPF⟩ : ∃ PF, (putAll ([], []) R3).2 = PF := ⟨_, rfl⟩
  have hRA : ReadAt win held.data.toList 0 st [] [] R1 R2 EF PF := ⟨R3, by rw [List.drop_zero, ← hR1, ← hR2, ← hR3], by rw [← hEF, ← hPF]⟩
  obtain ⟨g1, g2⟩ := run_grow hW st held.data.toList hs ([], [])
  obtain ⟨k1, k2⟩ := run_rest hW st held.data.toList hs
  have hmo := run_mode hW st held.data.toList hs hm
  have hraw := rest_raw hW held.data.toList.length st held.data.toList hs hm (Nat.le_refl _)
  rw [hR3, hR2] at g1 g2
  rw [hR2] at k1 k2
  rw [hR1] at hmo
  rw [hR1, hR2] at hraw
  rw [hEF] at g1
  rw [hPF] at g2
  rw [← size_eq] at g1 g2 k1
  simp only [List.length_nil, Nat.zero_add] at g1 g2
  have htx := fun base b W h hTW => refText_any base b win st held ⟨#[]⟩ held (by rw [show (⟨#[]⟩ : ByteArray) = ByteArray.empty from rfl, ByteArray.append_empty]) W h hsz hW hs hm hTW R1 R2 EF PF hRA
  have hrz : (⟨R2.toArray⟩ : ByteArray).size ≤ 2000000 := by show R2.toArray.size ≤ _; simp; omega
  have hen := fun base b W h hTW => refEnd_any base b win R1 ⟨R2.toArray⟩ EF PF W h hrz (by omega) hmo hTW
  rw [show (⟨R2.toArray⟩ : ByteArray).data.toList = R2 from rfl] at hen
  have hP2 : flushE (EF, (putAll (EF, PF) (endRL R1 R2)).2) = evsL (wholeL win st held.data.toList) := by
    have hsame := end_same R1 R2 hraw (EF, PF)
    have hE1 : (putAll (EF, PF) (endRL R1 R2)).1 = EF := by
      unfold endRL
      split
      · rfl
      · split
        · rw [unit_put]
        · split
          · rw [unit_put]
          · rfl
    unfold wholeL
    rw [hR1, hR2, hR3]
    show _ = flushE (putAll ([], []) (R3 ++ endL R1 R2))
    rw [putAll_app, show putAll ([], []) R3 = (EF, PF) by rw [← hEF, ← hPF], ← hsame]
    rw [show putAll (EF, PF) (endRL R1 R2) = (EF, (putAll (EF, PF) (endRL R1 R2)).2) from Prod.ext hE1 rfl]
  have hP3 : flushE (EF, PF) = evsL (runL win st held.data.toList).2.2 := by
    rw [hR3]
    show _ = flushE (putAll ([], []) R3)
    rw [← hEF, ← hPF]
  have hga := fun base b mo sc ea he P W h => gathered_any base b win mo sc ea he EF P W h (by omega)
  generalize (putAll (EF, PF) (endRL R1 R2)).2 = P2 at hen hP2
  have HAL := hid hal
  have HTX := hid htx
  have HEN := hid hen
  have HGA := hid hga
  have HT := hid hT
  generalize wholeL win st held.data.toList = WL at hP2 ⊢
  generalize (runL win st held.data.toList).2.2 = RL at hP3 ⊢
  have HP2 := hid hP2
  have HP3 := hid hP3
  clear hal htx hen hga hT hRA g1 g2 k1 k2 hmo hraw hR1 hR2 hR3 hEF hPF hrz hP2 hP3
  obtain ⟨rb, hrb⟩ : ∃ rb : ByteArray, (⟨R2.toArray⟩ : ByteArray) = rb := ⟨_, rfl⟩
  rw [hrb] at HTX HEN
  clear hrb
  cases broken
  · simp only [Bool.false_eq_true, if_false]
    rw [← HP2.out]
    go_enter Tryz.func8, Tryz.ntmps8
    go_wp2_with (first
      | (go_at_call 16; refine (HAL.out _).mono ?_; rintro e w1 ⟨rfl, b1⟩; obtain ⟨hB1, hlt1, hb1, hb2⟩ := after_alloc b1; have x0 : w1.cell? ⟨w.heap.size, 0, none⟩ = some (.int .i64 st.mode) := cell_at hb1 rfl; have x1 : w1.cell? ⟨w.heap.size, 1, none⟩ = some (.int .i64 st.scan) := cell_at hb1 rfl; have x2 : w1.cell? ⟨w.heap.size, 2, none⟩ = some (.bool st.eat) := cell_at hb1 rfl; have x3 : w1.cell? ⟨w.heap.size, 3, none⟩ = some (.string held) := cell_at hb1 rfl; clear b1 hb1 hb2)
      | (go_at_call 17; refine (HTX.out w1.heap.size w1.heap.size _ (by exact lxg_new w1 win st.mode st.scan st.eat held) ((((HT.out.below hB1).up (Nat.le_of_lt hlt1))).below ((Below.refl _ _).alloc (Nat.le_refl _) _))).mono ?_; rintro e w2 ⟨rfl, hL2, b2⟩; have hT2 := ((((HT.out.below hB1).up (Nat.le_of_lt hlt1))).below ((Below.refl _ _).alloc (Nat.le_refl _) _)).below b2)
      | (go_at_call 22; refine (HEN.out w1.heap.size w1.heap.size _ hL2 hT2.tabs).mono ?_; rintro e w3 ⟨rfl, mo, sc, ea, he, hL3, b3⟩)
      | (go_at_call 18; refine (HGA.out w1.heap.size w1.heap.size mo sc ea he _ _ hL3).mono ?_; rintro e w4 ⟨rfl, hL4, b4, -⟩; obtain ⟨ep, ec, hev⟩ := hL4.evs))
    go_ret
    exact EvsSaid.of hL4 hev (Nat.le_of_lt hlt1) (hB1.trans (Below.mono (((Below.refl w1.heap.size w1).alloc (Nat.le_refl _) _).trans ((b2.trans b3).trans b4)) (Nat.le_of_lt hlt1)))
  · simp only [if_true]
    rw [← HP3.out]
    go_enter Tryz.func8, Tryz.ntmps8
    go_wp2_with (first
      | (go_at_call 16; refine (HAL.out _).mono ?_; rintro e w1 ⟨rfl, b1⟩; obtain ⟨hB1, hlt1, hb1, hb2⟩ := after_alloc b1; have x0 : w1.cell? ⟨w.heap.size, 0, none⟩ = some (.int .i64 st.mode) := cell_at hb1 rfl; have x1 : w1.cell? ⟨w.heap.size, 1, none⟩ = some (.int .i64 st.scan) := cell_at hb1 rfl; have x2 : w1.cell? ⟨w.heap.size, 2, none⟩ = some (.bool st.eat) := cell_at hb1 rfl; have x3 : w1.cell? ⟨w.heap.size, 3, none⟩ = some (.string held) := cell_at hb1 rfl; clear b1 hb1 hb2)
      | (go_at_call 17; refine (HTX.out w1.heap.size w1.heap.size _ (by exact lxg_new w1 win st.mode st.scan st.eat held) ((((HT.out.below hB1).up (Nat.le_of_lt hlt1))).below ((Below.refl _ _).alloc (Nat.le_refl _) _))).mono ?_; rintro e w2 ⟨rfl, hL2, b2⟩)
      | (go_at_call 18; refine (HGA.out w1.heap.size w1.heap.size _ _ _ _ _ _ hL2).mono ?_; rintro e w4 ⟨rfl, hL4, b4, -⟩; obtain ⟨ep, ec, hev⟩ := hL4.evs))
    go_ret
    exact EvsSaid.of hL4 hev (Nat.le_of_lt hlt1) (hB1.trans (Below.mono (((Below.refl w1.heap.size w1).alloc (Nat.le_refl _) _).trans (b2.trans b4)) (Nat.le_of_lt hlt1)))
end Go.Proofs.YtndglhflbenloaaGreatDoor

/-
  The reference's Feed and Lex: their walks; what is not allowed.
-/
namespace Go.Proofs.YtndglhflbenloaaGreatDoor
open Go.RowKit Go.Lib Own

/-- what the code's Finish and Lex answer: its lists of attributes stand apart -/
def EvsSaidA (J : List Ev) (w : World) (e : Ending) (w' : World) : Prop :=
  ∃ ev xs, e = .returned ev ∧ w'.ownsRow w.heap.size 52 4 ev J.length xs ∧ EvsAt w' w.heap.size xs J ∧ Below w.heap.size w w' ∧ Apart xs
theorem nil_saidA {w w' : World} (hB : Below w.heap.size w w') : EvsSaidA [] w (.returned (.slice none 0 0)) w' := ⟨_, [], rfl, World.ownsRow_nil _ _ _ _, trivial, hB, trivial⟩
theorem nil_said {w w' : World} (hB : Below w.heap.size w w') : EvsSaid [] w (.returned (.slice none 0 0)) w' := ⟨_, [], rfl, World.ownsRow_nil _ _ _ _, trivial, hB⟩
set_option maxHeartbeats 4000000 in
set_option maxRecDepth 100000 in
theorem refFinish_no (win mode scan : Int) (eat : Bool) (held : ByteArray) (broken : Bool) (w : World) (h : ¬ LexOk win mode scan) :
    Calls Tryz.prog 8 #[.int .i64 win, .agg #[.int .i64 mode, .int .i64 scan, .bool eat, .string held], .bool broken] w (EvsSaid [] w) := by
  have HAL := hid (fun W => lexable_no win mode scan eat held W h)
  go_enter Tryz.func8, Tryz.ntmps8
  go_wp2_with (go_at_call 16; refine (HAL.out _).mono ?_; rintro e w1 ⟨rfl, b1⟩; obtain ⟨hB1, hlt1, hb1, hb2⟩ := after_alloc b1)
  go_ret
  exact nil_said hB1
set_option maxHeartbeats 4000000 in
set_option maxRecDepth 100000 in
theorem refLex_no (win : Int) (text : ByteArray) (w : World) (h : ¬ LexOk win 0 0) :
    Calls Tryz.prog 10 #[.int .i64 win, .string text] w (EvsSaid [] w) := by
  have HAL := hid (fun W => lexable_no win 0 0 false ⟨#[]⟩ W h)
  go_enter Tryz.func10, Tryz.ntmps10
  go_wp2_with (go_at_call 16; refine (HAL.out _).mono ?_; rintro e w1 ⟨rfl, b1⟩)
  go_ret
  exact nil_said b1
set_option maxHeartbeats 4000000 in
set_option maxRecDepth 100000 in
theorem finish_no (win mode scan : Int) (eat : Bool) (held : ByteArray) (broken : Bool) (w : World) (h : ¬ LexOk win mode scan) :
    Calls Tryz.prog 7 #[.int .i64 win, .agg #[.int .i64 mode, .int .i64 scan, .bool eat, .string held], .bool broken] w (EvsSaidA [] w) := by
  have HAL := hid (fun W => isAllowed_no win mode scan eat held W h)
  go_enter Tryz.func7, Tryz.ntmps7
  go_wp2_with (go_at_call 11; refine (HAL.out _).mono ?_; rintro e w1 ⟨rfl, b1⟩; obtain ⟨hB1, hlt1, hb1, hb2⟩ := after_alloc b1)
  go_ret
  exact nil_saidA hB1
set_option maxHeartbeats 4000000 in
set_option maxRecDepth 100000 in
theorem lex_no (win : Int) (text : ByteArray) (w : World) (h : ¬ LexOk win 0 0) :
    Calls Tryz.prog 9 #[.int .i64 win, .string text] w (EvsSaidA [] w) := by
  have HF := hid (finish_no win 0 0 false text false w h)
  go_enter Tryz.func9, Tryz.ntmps9
  go_wp2_with (go_at_call 7; refine HF.out.mono ?_; rintro e w1 ⟨ev, xs, rfl, h1, h2, h3⟩)
  go_ret
  exact ⟨_, xs, rfl, h1, h2, h3⟩

/-- what Feed answers -/
def FeedSaid (mo sc : Int) (ea : Bool) (he : ByteArray) (J : List Ev) (w : World) (e : Ending) (w' : World) : Prop :=
  ∃ ev xs, e = .returned (.tuple #[.agg #[.int .i64 mo, .int .i64 sc, .bool ea, .string he], ev]) ∧ w'.ownsRow w.heap.size 52 4 ev J.length xs ∧ EvsAt w' w.heap.size xs J ∧ Below w.heap.size w w' ∧ Apart xs
theorem after_two {w w1 : World} {cs cs2 : Array Value} {T T2 : TypeId} (b1 : Below ((w.alloc (.cells cs T)).alloc (.cells cs2 T2)).heap.size ((w.alloc (.cells cs T)).alloc (.cells cs2 T2)) w1) :
    Below w.heap.size w w1 ∧ w.heap.size + 1 < w1.heap.size ∧ w1.heap[w.heap.size + 1]? = some (.cells cs2 T2 (0, 0)) := by
  have h0 : w1.heap[w.heap.size + 1]? = some (.cells cs2 T2 (0, 0)) := (b1.block _ (by simp)).trans (by have := heap_alloc_new (w.alloc (.cells cs T)) (.cells cs2 T2); simpa using this)
  exact ⟨(((Below.refl w.heap.size w).alloc (Nat.le_refl _) _).alloc (by simp) _).trans (b1.mono (by simp; omega)), block_lt h0, h0⟩
theorem after_one {w w1 : World} {cs cs2 : Array Value} {T T2 : TypeId} (b1 : Below ((w.alloc (.cells cs T)).alloc (.cells cs2 T2)).heap.size ((w.alloc (.cells cs T)).alloc (.cells cs2 T2)) w1) :
    w1.heap[w.heap.size]? = some (.cells cs T (0, 0)) := (b1.block _ (by simp; omega)).trans ((Go.Lib.alloc_old _ _ _ (by simp)).trans (heap_alloc_new w _))
set_option maxHeartbeats 4000000 in
set_option maxRecDepth 100000 in
theorem feed_no (win mode scan : Int) (eat : Bool) (held text : ByteArray) (w : World) (h : ¬ LexOk win mode scan) :
    Calls Tryz.prog 4 #[.int .i64 win, .agg #[.int .i64 mode, .int .i64 scan, .bool eat, .string held], .string text] w (FeedSaid 0 0 false ⟨#[]⟩ [] w) := by
  have HAL := hid (fun W => isAllowed_no win mode scan eat held W h)
  go_enter Tryz.func4, Tryz.ntmps4
  go_wp2_with (go_at_call 11; refine (HAL.out _).mono ?_; rintro e w1 ⟨rfl, b1⟩; obtain ⟨hB1, hsz1, hre⟩ := after_two b1; have r0 : w1.cell? ⟨w.heap.size + 1, 0, none⟩ = some (.int .i64 0) := cell_at hre rfl; have r1 : w1.cell? ⟨w.heap.size + 1, 1, none⟩ = some (.int .i64 0) := cell_at hre rfl; have r2 : w1.cell? ⟨w.heap.size + 1, 2, none⟩ = some (.bool false) := cell_at hre rfl; have r3 : w1.cell? ⟨w.heap.size + 1, 3, none⟩ = some (.string ⟨#[]⟩) := cell_at hre rfl; have rf0 := free_at hre 0; have rf1 := free_at hre 1; have rf2 := free_at hre 2; have rf3 := free_at hre 3; clear b1 hre)
  refine bodyPost_ret (v := .tuple #[.agg #[.int .i64 0, .int .i64 0, .bool false, .string ⟨#[]⟩], .slice none 0 0]) ?_ rfl ⟨_, [], rfl, World.ownsRow_nil _ _ _ _, trivial, (((hB1.setCell (by simp) _).setCell (by simp) _).setCell (by simp) _).setCell (by simp) _, trivial⟩
  simp [results, Tryz.results4, go_sem, r0, r1, r2, r3]
set_option maxHeartbeats 4000000 in
set_option maxRecDepth 100000 in
theorem refFeed_no (win mode scan : Int) (eat : Bool) (held text : ByteArray) (w : World) (h : ¬ LexOk win mode scan) :
    Calls Tryz.prog 5 #[.int .i64 win, .agg #[.int .i64 mode, .int .i64 scan, .bool eat, .string held], .string text] w (FeedSaid 0 0 false ⟨#[]⟩ [] w) := by
  have HAL := hid (fun W => lexable_no win mode scan eat held W h)
  go_enter Tryz.func5, Tryz.ntmps5
  go_wp2_with (go_at_call 16; refine (HAL.out _).mono ?_; rintro e w1 ⟨rfl, b1⟩; obtain ⟨hB1, hsz1, hre⟩ := after_two b1; have r0 : w1.cell? ⟨w.heap.size + 1, 0, none⟩ = some (.int .i64 0) := cell_at hre rfl; have r1 : w1.cell? ⟨w.heap.size + 1, 1, none⟩ = some (.int .i64 0) := cell_at hre rfl; have r2 : w1.cell? ⟨w.heap.size + 1, 2, none⟩ = some (.bool false) := cell_at hre rfl; have r3 : w1.cell? ⟨w.heap.size + 1, 3, none⟩ = some (.string ⟨#[]⟩) := cell_at hre rfl; have rf0 := free_at hre 0; have rf1 := free_at hre 1; have rf2 := free_at hre 2; have rf3 := free_at hre 3; clear b1 hre)
  refine bodyPost_ret (v := .tuple #[.agg #[.int .i64 0, .int .i64 0, .bool false, .string ⟨#[]⟩], .slice none 0 0]) ?_ rfl ⟨_, [], rfl, World.ownsRow_nil _ _ _ _, trivial, (((hB1.setCell (by simp) _).setCell (by simp) _).setCell (by simp) _).setCell (by simp) _, trivial⟩
  simp [results, Tryz.results5, go_sem, r0, r1, r2, r3]

set_option maxHeartbeats 8000000 in
set_option maxRecDepth 100000 in
theorem refFeed_any (win : Nat) (st : LS) (held text data : ByteArray) (hda : held ++ text = data) (w : World) (hsz : data.size ≤ 2000000) (hW : 32 ≤ win) (hwin : win ≤ 4096) (hs : st.scan ≤ 10) (hm : st.mode ≤ 10) (hT : RefTabsB w.heap.size w) :
    Calls Tryz.prog 5 #[.int .i64 win, .agg #[.int .i64 st.mode, .int .i64 st.scan, .bool st.eat, .string held], .string text] w fun e w' => ∃ ev xs,
      e = .returned (.tuple #[.agg #[.int .i64 (runL win st data.data.toList).1.mode, .int .i64 (runL win st data.data.toList).1.scan, .bool (runL win st data.data.toList).1.eat, .string ⟨(runL win st data.data.toList).2.1.toArray⟩], ev]) ∧
      w'.ownsRow w.heap.size 52 4 ev (evsL (runL win st data.data.toList).2.2).length xs ∧ EvsAt w' w.heap.size xs (evsL (runL win st data.data.toList).2.2) ∧ Below w.heap.size w w' := by
  have hal := fun W => lexable_yes win st.mode st.scan st.eat held W ⟨by omega, by omega, by omega, by omega, by omega, by omega⟩
  obtain ⟨R1, hR1⟩ : ∃ R1, (runL win st data.data.toList).1 = R1 := ⟨_, rfl⟩
  obtain ⟨R2, hR2⟩ : ∃ R2, (runL win st data.data.toList).2.1 = R2 := ⟨_, rfl⟩
  obtain ⟨R3, hR3⟩ : ∃ R3, (runL win st data.data.toList).2.2 = R3 := ⟨_, rfl⟩
  obtain ⟨EF, hEF⟩ : ∃ EF, (putAll ([], []) R3).1 = EF := ⟨_, rfl⟩
  obtain ⟨PF, hPF⟩ : ∃ PF, (putAll ([], []) R3).2 = PF := ⟨_, rfl⟩
  have hRA : ReadAt win data.data.toList 0 st [] [] R1 R2 EF PF := ⟨R3, by rw [List.drop_zero, ← hR1, ← hR2, ← hR3], by rw [← hEF, ← hPF]⟩
  obtain ⟨g1, g2⟩ := run_grow hW st data.data.toList hs ([], [])
  rw [hR3, hR2] at g1 g2
  rw [hEF] at g1
  rw [← size_eq] at g1
  simp only [List.length_nil, Nat.zero_add] at g1
  have htx := fun base b W h hTW => refText_any base b win st held text data hda W h hsz hW hs hm hTW R1 R2 EF PF hRA
  have hfl : evsL R3 = flushE (EF, PF) := by
    show flushE (putAll ([], []) R3) = _
    rw [← hEF, ← hPF]
  have hga := fun base b mo sc ea he P W h => gathered_any base b win mo sc ea he EF P W h (by omega)
  rw [hR1, hR2, hR3, hfl]
  obtain ⟨rb, hrb⟩ : ∃ rb : ByteArray, (⟨R2.toArray⟩ : ByteArray) = rb := ⟨_, rfl⟩
  rw [hrb] at htx ⊢
  have HAL := hid hal
  have HTX := hid htx
  have HGA := hid hga
  have HT := hid hT
  clear hal htx hga hT hRA g1 g2 hR1 hR2 hR3 hEF hPF hfl hrb hda
  go_enter Tryz.func5, Tryz.ntmps5
  go_wp2_with (first
    | (go_at_call 16; refine (HAL.out _).mono ?_; rintro e w1 ⟨rfl, b1⟩; obtain ⟨hB1, hsz1, hre⟩ := after_two b1; have hb1 := after_one b1; have x0 : w1.cell? ⟨w.heap.size, 0, none⟩ = some (.int .i64 st.mode) := cell_at hb1 rfl; have x1 : w1.cell? ⟨w.heap.size, 1, none⟩ = some (.int .i64 st.scan) := cell_at hb1 rfl; have x2 : w1.cell? ⟨w.heap.size, 2, none⟩ = some (.bool st.eat) := cell_at hb1 rfl; have x3 : w1.cell? ⟨w.heap.size, 3, none⟩ = some (.string held) := cell_at hb1 rfl; have hlt1 : w.heap.size ≤ w1.heap.size := (by omega); clear b1 hb1)
    | (go_at_call 17; refine (HTX.out w1.heap.size w1.heap.size _ (by exact lxg_new w1 win st.mode st.scan st.eat held) ((((HT.out.below hB1).up hlt1)).below ((Below.refl _ _).alloc (Nat.le_refl _) _))).mono ?_; rintro e w2 ⟨rfl, hL2, b2⟩)
    | (go_at_call 18; refine (HGA.out w1.heap.size w1.heap.size _ _ _ _ _ _ hL2).mono ?_; rintro e w4 ⟨rfl, hL4, b4, -⟩; obtain ⟨ep, ec, hev⟩ := hL4.evs; have k4 := hL4.cells; obtain ⟨⟨d0, d1, d2, d3, d4⟩, df⟩ := k4)
    | fail)
  have hre4 := (b4.block _ hsz1).trans ((b2.block _ hsz1).trans ((Go.Lib.alloc_old w1 (.cells (lxC win st.mode st.scan st.eat held (.slice none 0 0) (.slice none 0 0)) 46) _ hsz1).trans hre))
  have r0 : w4.cell? ⟨w.heap.size + 1, 0, none⟩ = some (.int .i64 0) := cell_at hre4 rfl
  have r1 : w4.cell? ⟨w.heap.size + 1, 1, none⟩ = some (.int .i64 0) := cell_at hre4 rfl
  have r2 : w4.cell? ⟨w.heap.size + 1, 2, none⟩ = some (.bool false) := cell_at hre4 rfl
  have r3 : w4.cell? ⟨w.heap.size + 1, 3, none⟩ = some (.string ⟨#[]⟩) := cell_at hre4 rfl
  have rf0 := free_at hre4 0
  have rf1 := free_at hre4 1
  have rf2 := free_at hre4 2
  have rf3 := free_at hre4 3
  have HX := hid (And.intro hL4 (And.intro hre4 (hB1.trans (Below.mono (((Below.refl w1.heap.size w1).alloc (Nat.le_refl _) _).trans (b2.trans b4)) hlt1))))
  clear hL4 hre4 hB1 b2 b4 hL2 hre x0 x1 x2 x3 df
  go_region
  go_wp2_with fail
  obtain ⟨hL4, hre4, hB4⟩ := HX.out
  obtain ⟨ev2, wd, xs, h1, h2, h3, h4⟩ := hL4.it
  have h5 : w4.cell? ⟨w1.heap.size, 5, none⟩ = some ev2 := cell_at h1 rfl
  rw [h5] at hev
  obtain rfl := Option.some.inj hev
  have z2 := row_just (W' := ((((w4.setCell ⟨w.heap.size + 1, 0, none⟩ (.int .i64 R1.mode)).setCell ⟨w.heap.size + 1, 1, none⟩ (.int .i64 R1.scan)).setCell ⟨w.heap.size + 1, 2, none⟩ (.bool R1.eat)).setCell ⟨w.heap.size + 1, 3, none⟩ (.string rb)).drew) (row_lower h2 hlt1) hre4 (by decide) (four_other _ _ _ _ _ _)
  have z3 := evs_mono (W' := ((((w4.setCell ⟨w.heap.size + 1, 0, none⟩ (.int .i64 R1.mode)).setCell ⟨w.heap.size + 1, 1, none⟩ (.int .i64 R1.scan)).setCell ⟨w.heap.size + 1, 2, none⟩ (.bool R1.eat)).setCell ⟨w.heap.size + 1, 3, none⟩ (.string rb)).drew) (fun a n ys hr => row_just hr hre4 (by decide) (four_other _ _ _ _ _ _)) _ _ (evs_low hlt1 _ _ h3)
  have z4 : Below w.heap.size w ((((w4.setCell ⟨w.heap.size + 1, 0, none⟩ (.int .i64 R1.mode)).setCell ⟨w.heap.size + 1, 1, none⟩ (.int .i64 R1.scan)).setCell ⟨w.heap.size + 1, 2, none⟩ (.bool R1.eat)).setCell ⟨w.heap.size + 1, 3, none⟩ (.string rb)).drew := below_drewN ((((hB4.setCell (by simp) _).setCell (by simp) _).setCell (by simp) _).setCell (by simp) _) 1
  refine bodyPost_ret (v := .tuple #[.agg #[.int .i64 R1.mode, .int .i64 R1.scan, .bool R1.eat, .string rb], .slice ep (flushE (EF, PF)).length ec]) ?_ rfl ⟨_, xs, rfl, z2, z3, z4⟩
  simp [results, Tryz.results5, go_sem, r0, r1, r2, r3]
set_option maxHeartbeats 8000000 in
set_option maxRecDepth 100000 in
theorem refLex_any (win : Nat) (text : ByteArray) (w : World) (hsz : text.size ≤ 2000000) (hW : 32 ≤ win) (hwin : win ≤ 4096) (hT : RefTabsB w.heap.size w) :
    Calls Tryz.prog 10 #[.int .i64 win, .string text] w (EvsSaid (evsL (wholeL win st0 text.data.toList)) w) := by
  have hal := fun W => lexable_yes win 0 0 false ⟨#[]⟩ W ⟨by omega, by omega, by omega, by omega, by omega, by omega⟩
  have hs : st0.scan ≤ 10 := by decide
  have hm : st0.mode ≤ 10 := by decide
  obtain ⟨R1, hR1⟩ : ∃ R1, (runL win st0 text.data.toList).1 = R1 := ⟨_, rfl⟩
  obtain ⟨R2, hR2⟩ : ∃ R2, (runL win st0 text.data.toList).2.1 = R2 := ⟨_, rfl⟩
  obtain ⟨R3, hR3⟩ : ∃ R3, (runL win st0 text.data.toList).2.2 = R3 := ⟨_, rfl⟩
  obtain ⟨EF, hEF⟩ : ∃ EF, (putAll ([], []) R3).1 = EF := ⟨_, rfl⟩
  obtain ⟨PF, hPF⟩ : ∃ PF, (putAll ([], []) R3).2 = PF := ⟨_, rfl⟩
  have hRA : ReadAt win text.data.toList 0 st0 [] [] R1 R2 EF PF := ⟨R3, by rw [List.drop_zero, ← hR1, ← hR2, ← hR3], by rw [← hEF, ← hPF]⟩
  obtain ⟨g1, g2⟩ := run_grow hW st0 text.data.toList hs ([], [])
  obtain ⟨k1, k2⟩ := run_rest hW st0 text.data.toList hs
  have hmo := run_mode hW st0 text.data.toList hs hm
  have hraw := rest_raw hW text.data.toList.length st0 text.data.toList hs hm (Nat.le_refl _)
  rw [hR3, hR2] at g1 g2
  rw [hR2] at k1 k2
  rw [hR1] at hmo
  rw [hR1, hR2] at hraw
  rw [hEF] at g1
  rw [hPF] at g2
  rw [← size_eq] at g1 g2 k1
  simp only [List.length_nil, Nat.zero_add] at g1 g2
  have htx := fun base b W h hTW => refText_any base b win st0 ⟨#[]⟩ text text (by rw [show (⟨#[]⟩ : ByteArray) = ByteArray.empty from rfl, ByteArray.empty_append]) W h hsz hW hs hm hTW R1 R2 EF PF hRA
  have hrz : (⟨R2.toArray⟩ : ByteArray).size ≤ 2000000 := by show R2.toArray.size ≤ _; simp; omega
  have hen := fun base b W h hTW => refEnd_any base b win R1 ⟨R2.toArray⟩ EF PF W h hrz (by omega) hmo hTW
  rw [show (⟨R2.toArray⟩ : ByteArray).data.toList = R2 from rfl] at hen
  have hP2 : flushE (EF, (putAll (EF, PF) (endRL R1 R2)).2) = evsL (wholeL win st0 text.data.toList) := by
    have hsame := end_same R1 R2 hraw (EF, PF)
    have hE1 : (putAll (EF, PF) (endRL R1 R2)).1 = EF := by
      unfold endRL
      split
      · rfl
      · split
        · rw [unit_put]
        · split
          · rw [unit_put]
          · rfl
    unfold wholeL
    rw [hR1, hR2, hR3]
    show _ = flushE (putAll ([], []) (R3 ++ endL R1 R2))
    rw [putAll_app, show putAll ([], []) R3 = (EF, PF) by rw [← hEF, ← hPF], ← hsame]
    rw [show putAll (EF, PF) (endRL R1 R2) = (EF, (putAll (EF, PF) (endRL R1 R2)).2) from Prod.ext hE1 rfl]
  have hga := fun base b mo sc ea he P W h => gathered_any base b win mo sc ea he EF P W h (by omega)
  generalize (putAll (EF, PF) (endRL R1 R2)).2 = P2 at hen hP2
  have HAL := hid hal
  have HTX := hid htx
  have HEN := hid hen
  have HGA := hid hga
  have HT := hid hT
  generalize wholeL win st0 text.data.toList = WL at hP2 ⊢
  have HP2 := hid hP2
  clear hal htx hen hga hT hRA g1 g2 k1 k2 hmo hraw hR1 hR2 hR3 hEF hPF hrz hP2 hs hm
  obtain ⟨rb, hrb⟩ : ∃ rb : ByteArray, (⟨R2.toArray⟩ : ByteArray) = rb := ⟨_, rfl⟩
  rw [hrb] at HTX HEN
  clear hrb
  rw [← HP2.out]
  go_enter Tryz.func10, Tryz.ntmps10
  go_wp2_with (first
    | (go_at_call 16; refine (HAL.out _).mono ?_; rintro e w1 ⟨rfl, hB1⟩)
    | (go_at_call 17; refine (HTX.out w1.heap.size w1.heap.size _ (by exact lxg_new w1 win 0 0 false ⟨#[]⟩) ((((HT.out.below hB1).up hB1.size)).below ((Below.refl _ _).alloc (Nat.le_refl _) _))).mono ?_; rintro e w2 ⟨rfl, hL2, b2⟩; have hT2 := ((((HT.out.below hB1).up hB1.size)).below ((Below.refl _ _).alloc (Nat.le_refl _) _)).below b2)
    | (go_at_call 22; refine (HEN.out w1.heap.size w1.heap.size _ hL2 hT2.tabs).mono ?_; rintro e w3 ⟨rfl, mo, sc, ea, he, hL3, b3⟩)
    | (go_at_call 18; refine (HGA.out w1.heap.size w1.heap.size mo sc ea he _ _ hL3).mono ?_; rintro e w4 ⟨rfl, hL4, b4, -⟩; obtain ⟨ep, ec, hev⟩ := hL4.evs))
  go_ret
  exact EvsSaid.of hL4 hev hB1.size (hB1.trans (Below.mono (((Below.refl w1.heap.size w1).alloc (Nat.le_refl _) _).trans ((b2.trans b3).trans b4)) hB1.size))
end Go.Proofs.YtndglhflbenloaaGreatDoor

/-
  The code's Finish of a text that is broken off; what Feed, Finish and Lex answer, the code's and the reference's together.
-/
namespace Go.Proofs.YtndglhflbenloaaGreatDoor
open Go.RowKit Go.Lib Own

set_option maxHeartbeats 8000000 in
set_option maxRecDepth 100000 in
theorem finish_br (win : Nat) (st : LS) (held : ByteArray) (broken : Bool) (m : Int) (w : World) (hsz : held.size ≤ 4000000) (hW : 32 ≤ win) (hwin : win ≤ 4096) (hs : st.scan ≤ 10) (hm : st.mode ≤ 10) (hT : LexTabs w.heap.size w m) (hbr : broken = true) :
    Calls Tryz.prog 7 #[.int .i64 win, .agg #[.int .i64 st.mode, .int .i64 st.scan, .bool st.eat, .string held], .bool broken] w fun e w' => ∃ ev xs, e = .returned ev ∧
      w'.ownsRow w.heap.size 52 4 ev (evsL (runL win st held.data.toList).2.2).length xs ∧ EvsAt w' w.heap.size xs (evsL (runL win st held.data.toList).2.2) ∧ Below w.heap.size w w' ∧ Apart xs := by
  subst hbr
  have hal := fun W => allowed_any win st.mode st.scan st.eat held W hW hwin hm hs
  have hnw := fun W => new_any win st.mode st.scan st.eat held ⟨#[]⟩ held (by rw [show (⟨#[]⟩ : ByteArray) = ByteArray.empty from rfl, ByteArray.append_empty]) (by show held.size + 0 ≤ _; omega) W
  obtain ⟨R1, hR1⟩ : ∃ R1, (runL win st held.data.toList).1 = R1 := ⟨_, rfl⟩
  obtain ⟨R2, hR2⟩ : ∃ R2, (runL win st held.data.toList).2.1 = R2 := ⟨_, rfl⟩
  obtain ⟨R3, hR3⟩ : ∃ R3, (runL win st held.data.toList).2.2 = R3 := ⟨_, rfl⟩
  obtain ⟨EF, hEF⟩ : ∃ EF, (putAll ([], []) R3).1 = EF := ⟨_, rfl⟩
  obtain ⟨PF, hPF⟩ : ∃ PF, (putAll ([], []) R3).2 = PF := ⟨_, rfl⟩
  have hRA : ReadAt win held.data.toList 0 st [] [] R1 R2 EF PF := ⟨R3, by rw [List.drop_zero, ← hR1, ← hR2, ← hR3], by rw [← hEF, ← hPF]⟩
  obtain ⟨g1, g2⟩ := run_grow hW st held.data.toList hs ([], [])
  obtain ⟨k1, k2⟩ := run_rest hW st held.data.toList hs
  have hsc := run_scan hW held.data.toList.length st held.data.toList hs (Nat.le_refl _)
  have hmo := run_mode hW st held.data.toList hs hm
  rw [hR3, hR2] at g1 g2
  rw [hR2] at k1 k2
  rw [hR1] at hsc hmo
  rw [hEF] at g1
  rw [hPF] at g2
  rw [← size_eq] at g1 g2 k1 k2
  simp only [List.length_nil, Nat.zero_add] at g1 g2
  have hrd := fun base b W hr hTW => read_any base b win held st m W hr hsz hW hwin hs hm hTW R1 R2 EF PF hRA
  have hfl : evsL R3 = flushE (EF, PF) := by
    show flushE (putAll ([], []) R3) = _
    rw [← hEF, ← hPF]
  rw [hR3, hfl]
  have hev := fun base b o cs T PE W (hW1 : StreamAt W base b o cs T EF PE) hT1 => events_ap base b o cs T EF PE W hW1 hT1 (by omega)
  have HAL := hid hal
  have HNW := hid hnw
  have HRD := hid hrd
  have HEV := hid hev
  have HT := hid hT
  clear hal hnw hrd hev hT hRA g1 g2 k1 k2 hsc hmo hfl hR1 hR2 hR3 hEF hPF
  go_enter Tryz.func7, Tryz.ntmps7
  go_wp2_with (first
    | (go_at_call 11; refine (HAL.out _).mono ?_; rintro e w1 ⟨rfl, b1⟩; have hbx : w1.heap[w.heap.size]? = some (.cells #[.int .i64 st.mode, .int .i64 st.scan, .bool st.eat, .string held] 23 (0, 0)) := (b1.block _ (by simp)).trans (heap_alloc_new w _); have x0 := cell_at hbx (j := 0) rfl; have x1 := cell_at hbx (j := 1) rfl; have x2 := cell_at hbx (j := 2) rfl; have x3 := cell_at hbx (j := 3) rfl; have hB1 : Below w.heap.size w w1 := ((Below.refl w.heap.size w).alloc (Nat.le_refl _) _).trans (b1.mono (by simp)); clear b1 hbx)
    | (go_at_call 12; refine (HNW.out _).mono ?_; rintro e w2 ⟨b, rfl, hr2, b2⟩; have hT2 := ((HT.out.below hB1).up hB1.size).below b2)
    | (go_at_call 13; refine (HRD.out _ b _ (by exact hr2) (by exact hT2)).mono ?_; rintro e w3 ⟨rfl, hr3, b3⟩; obtain ⟨ev4, pp4, v4, hS4⟩ := hr3.it)
    | (go_at_call 15; refine (HEV.out _ b 6 _ _ _ _ (by exact hS4) (rd_T _ _ _ _ _ _ _ _ _)).mono ?_; rintro e w5 ⟨ev5, xs5, rfl, hrow5, hevs5, b5, hap5⟩))
  go_ret
  exact ⟨_, xs5, rfl, row_low hrow5 hB1.size, evs_low hB1.size _ _ hevs5, hB1.trans (((b2.trans b3).trans b5).mono hB1.size), hap5⟩

theorem gap_len : ∀ (f : Nat) (acc : List (List UInt8 × List UInt8)) (r : List UInt8), (gapL f acc r).1.length ≤ acc.length + f
  | 0, acc, r => Nat.le_refl _
  | f + 1, acc, r => by
    unfold gapL
    split
    · simp only; omega
    · split
      · simp only; omega
      · split
        · simp only [List.length_append, List.length_singleton]; omega
        · refine Nat.le_trans (gap_len f _ _) ?_
          simp only [List.length_append, List.length_singleton]; omega
theorem tagAt_len (L : List UInt8) : (tagAtL L).2.1.length ≤ L.length + 1 := by
  unfold tagAtL
  obtain ⟨a1, _, _⟩ := span_of (fun c => !tagE.contains c) L
  split
  · simp
  · rename_i c t h
    rw [h] at a1
    have h1 := gap_len (t.length + 2) [] (c :: t)
    have h2 := congrArg List.length a1
    simp only [List.length_append, List.length_cons, List.length_nil] at h1 h2 ⊢
    omega
/-- no start tag among these has more attributes than so many -/
def FewA (B : Nat) (it : List Item) : Prop := ∀ n a, Item.start n a ∈ it → a.length ≤ B
theorem told_few (kind : Nat) (S : List UInt8) (st : LS) (B : Nat) (h : S.length + 1 ≤ B) : FewA B (toldL kind S st).2 := by
  have h0 : FewA B [] := fun n a h => by simp at h
  have hu : ∀ b, FewA B (unitL2 st b) := fun b n a h => by
    unfold unitL2 at h
    split at h <;> simp at h
  unfold toldL
  split
  · exact hu _
  · split
    · exact h0
    · split
      · exact h0
      · split
        · split
          · intro n a h; simp at h
          · exact h0
        · split
          · split
            · intro n a hm
              simp only [List.mem_singleton, Item.start.injEq] at hm
              rw [hm.2]
              have := tagAt_len (S.drop 1)
              rw [List.length_drop] at this
              omega
            · exact h0
          · exact h0
theorem run_few {W : Nat} (hW : 32 ≤ W) : ∀ (N : Nat) (st : LS) (L : List UInt8), st.scan ≤ 10 → st.mode ≤ 10 → L.length ≤ N → ∀ B, N + 1 ≤ B → FewA B (runL W st L).2.2
  | 0, st, L, _, _, hN, B, _ => by
    obtain rfl := List.length_eq_zero_iff.1 (Nat.le_zero.1 hN)
    intro n a h
    rw [run_nil] at h
    simp at h
  | N + 1, st, L, h0, hm, hN, B, hB => by
    cases L with
    | nil => intro n a h; rw [run_nil] at h; simp at h
    | cons c r =>
      by_cases hs : st.scan = 0
      · obtain ⟨t1, t2⟩ := told_run hW st hs hm (c :: r) (by simp)
        by_cases hk : (pieceL W st.mode (c :: r)).1 = 0
        · rw [t1 hk]
          intro n a h
          simp at h
        · obtain ⟨n0, n1, st', it, ht, hs', hm', hr⟩ := t2 hk
          rw [hr]
          have ih := run_few hW N st' ((c :: r).drop (pieceL W st.mode (c :: r)).2) hs' hm' (by rw [List.length_drop]; simp only [List.length_cons] at hN ⊢; omega) B (by omega)
          have hf := told_few (pieceL W st.mode (c :: r)).1 ((c :: r).take (pieceL W st.mode (c :: r)).2) st B (by rw [List.length_take]; simp only [List.length_cons] at hN ⊢; omega)
          rw [ht] at hf
          intro n a h
          rcases List.mem_append.1 h with h | h
          · exact hf n a h
          · exact ih n a h
      · obtain ⟨a1, a2, a3, a4⟩ := skip_run hW st hs h0 (c :: r) (by simp)
        by_cases hz : (skipL st.scan (c :: r)).2 = 0
        · obtain ⟨n0, hr⟩ := a3 hz
          rw [hr]
          exact run_few hW N { st with scan := 0 } _ (by simp) hm (by rw [List.length_drop]; simp only [List.length_cons] at hN ⊢; omega) B (by omega)
        · rw [a4 hz]
          intro n a h
          simp at h
theorem end_few (st : LS) (L : List UInt8) (B : Nat) : FewA B (endL st L) := by
  have hu : ∀ (st : LS) b, FewA B (unitL2 st b) := fun st b n a h => by
    unfold unitL2 at h
    split at h <;> simp at h
  have hb : ∀ (L : List UInt8) (st : LS), FewA B (bytesL st L) := by
    intro L
    induction L with
    | nil => intro st n a h; simp [bytesL] at h
    | cons c r ih =>
      intro st n a h
      unfold bytesL at h
      rcases List.mem_append.1 h with h | h
      · exact hu _ _ n a h
      · exact ih _ n a h
  unfold endL
  split
  · intro n a h; simp at h
  · split
    · exact hu _ _
    · split
      · exact hb _ _
      · intro n a h; simp at h
theorem put_few (B : Nat) : ∀ (it : List Item) (s : List Ev × List UInt8), FewA B it → (∀ e ∈ s.1, (evA e).length ≤ B) → ∀ e ∈ (putAll s it).1, (evA e).length ≤ B
  | [], s, _, h, e, he => h e he
  | i :: it, s, hf, h, e, he => by
    have hfl : ∀ e ∈ flushE s, (evA e).length ≤ B := fun e he => by
      unfold flushE at he
      split at he
      · exact h e he
      · rcases List.mem_append.1 he with he | he
        · exact h e he
        · rw [List.mem_singleton.1 he]; exact Nat.zero_le _
    refine put_few B it (putI s i) (fun n a hm => hf n a (List.mem_cons_of_mem _ hm)) (fun e he => ?_) e he
    cases i with
    | unit b => exact h e he
    | start n a =>
      rcases List.mem_append.1 he with he | he
      · exact hfl e he
      · rw [List.mem_singleton.1 he]; exact hf n a (List.mem_cons_self ..)
    | stop n =>
      rcases List.mem_append.1 he with he | he
      · exact hfl e he
      · rw [List.mem_singleton.1 he]; exact Nat.zero_le _
theorem evs_few {B : Nat} {it : List Item} (h : FewA B it) : ∀ e ∈ evsL it, (evA e).length ≤ B := fun e he => by
  have hp := put_few B it ([], []) h (fun e he => by simp at he)
  unfold evsL flushE at he
  split at he
  · exact hp e he
  · rcases List.mem_append.1 he with he | he
    · exact hp e he
    · rw [List.mem_singleton.1 he]; exact Nat.zero_le _
/-- a list of events that is not too long -/
def FewE (J : List Ev) : Prop := J.length ≤ 5000000 ∧ ∀ e ∈ J, (evA e).length ≤ 5000000
theorem few_run {W : Nat} (hW : 32 ≤ W) (st : LS) (L : List UInt8) (h0 : st.scan ≤ 10) (hm : st.mode ≤ 10) (hL : L.length ≤ 2000000) : FewE (evsL (runL W st L).2.2) ∧ FewE (evsL (wholeL W st L)) := by
  obtain ⟨g1, _⟩ := run_grow hW st L h0 ([], [])
  have hr := run_few hW L.length st L h0 hm (Nat.le_refl _) 5000000 (by omega)
  have hw : FewA 5000000 (wholeL W st L) := fun n a h => by
    unfold wholeL at h
    rcases List.mem_append.1 h with h | h
    · exact hr n a h
    · exact end_few _ _ _ n a h
  have hfl : ∀ it : List Item, (evsL it).length ≤ (putAll ([], []) it).1.length + 1 := fun it => flush_len _
  refine ⟨⟨?_, evs_few hr⟩, ?_, evs_few hw⟩
  · have := hfl (runL W st L).2.2
    simp only [List.length_nil] at g1
    omega
  · have h2 := hfl (wholeL W st L)
    have h3 : (putAll ([], []) (wholeL W st L)).1.length = (putAll ([], []) (runL W st L).2.2).1.length := by
      unfold wholeL
      rw [putAll_app]
      have hpu : ∀ (s : List Ev × List UInt8) (st : LS) (b : List UInt8), (putAll s (unitL2 st b)).1 = s.1 := fun s st b => by
        unfold unitL2; split <;> rfl
      have hpb : ∀ (L : List UInt8) (st : LS) (s : List Ev × List UInt8), (putAll s (bytesL st L)).1 = s.1 := by
        intro L
        induction L with
        | nil => intro st s; rfl
        | cons c r ih => intro st s; unfold bytesL; rw [putAll_app, ih, hpu]
      unfold endL
      split
      · rfl
      · split
        · rw [hpu]
        · split
          · rw [hpb]
          · rfl
    simp only [List.length_nil] at g1
    omega
theorem EvsSaidA.plain {J : List Ev} {w : World} {e : Ending} {w' : World} (h : EvsSaidA J w e w') : EvsSaid J w e w' := by
  obtain ⟨ev, xs, h1, h2, h3, h4, _⟩ := h
  exact ⟨ev, xs, h1, h2, h3, h4⟩
/-- Finish, both -/
theorem finish_both (win mode scan : Int) (eat : Bool) (held : ByteArray) (broken : Bool) (hsz : held.size ≤ 2000000) : ∃ J, FewE J ∧
    (∀ W m, LexTabs W.heap.size W m → Calls Tryz.prog 7 #[.int .i64 win, .agg #[.int .i64 mode, .int .i64 scan, .bool eat, .string held], .bool broken] W (EvsSaidA J W)) ∧
    (∀ W, RefTabsB W.heap.size W → Calls Tryz.prog 8 #[.int .i64 win, .agg #[.int .i64 mode, .int .i64 scan, .bool eat, .string held], .bool broken] W (EvsSaid J W)) := by
  by_cases h : LexOk win mode scan
  · obtain ⟨q1, q2, q3, q4, q5, q6⟩ := h
    obtain ⟨W0, rfl⟩ : ∃ W0 : Nat, win = W0 := ⟨win.toNat, by omega⟩
    obtain ⟨m0, rfl⟩ : ∃ m0 : Nat, mode = m0 := ⟨mode.toNat, by omega⟩
    obtain ⟨s0, rfl⟩ : ∃ s0 : Nat, scan = s0 := ⟨scan.toNat, by omega⟩
    obtain ⟨f1, f2⟩ := few_run (W := W0) (by omega) ⟨m0, s0, eat⟩ held.data.toList (by show s0 ≤ 10; omega) (by show m0 ≤ 10; omega) (by rw [← size_eq]; exact hsz)
    cases broken
    · refine ⟨_, f2, fun W m hT => ?_, fun W hT => ?_⟩
      · exact finish_ap W0 ⟨m0, s0, eat⟩ held false m W (by omega) (by omega) (by omega) (by show s0 ≤ 10; omega) (by show m0 ≤ 10; omega) hT rfl
      · exact refFinish_any W0 ⟨m0, s0, eat⟩ held false W hsz (by omega) (by omega) (by show s0 ≤ 10; omega) (by show m0 ≤ 10; omega) hT
    · refine ⟨_, f1, fun W m hT => ?_, fun W hT => ?_⟩
      · exact finish_br W0 ⟨m0, s0, eat⟩ held true m W (by omega) (by omega) (by omega) (by show s0 ≤ 10; omega) (by show m0 ≤ 10; omega) hT rfl
      · exact refFinish_any W0 ⟨m0, s0, eat⟩ held true W hsz (by omega) (by omega) (by show s0 ≤ 10; omega) (by show m0 ≤ 10; omega) hT
  · exact ⟨[], ⟨by simp, fun e h => by simp at h⟩, fun W m _ => finish_no win mode scan eat held broken W h, fun W _ => refFinish_no win mode scan eat held broken W h⟩
theorem lex_both (win : Int) (text : ByteArray) (hsz : text.size ≤ 2000000) : ∃ J, FewE J ∧
    (∀ W m, LexTabs W.heap.size W m → Calls Tryz.prog 9 #[.int .i64 win, .string text] W (EvsSaidA J W)) ∧
    (∀ W, RefTabsB W.heap.size W → Calls Tryz.prog 10 #[.int .i64 win, .string text] W (EvsSaid J W)) := by
  by_cases h : LexOk win 0 0
  · obtain ⟨q1, q2, _⟩ := h
    obtain ⟨W0, rfl⟩ : ∃ W0 : Nat, win = W0 := ⟨win.toNat, by omega⟩
    obtain ⟨f1, f2⟩ := few_run (W := W0) (by omega) st0 text.data.toList (by decide) (by decide) (by rw [← size_eq]; exact hsz)
    exact ⟨_, f2, fun W m hT => lex_ap W0 text m W (by omega) (by omega) (by omega) hT, fun W hT => refLex_any W0 text W hsz (by omega) (by omega) hT⟩
  · exact ⟨[], ⟨by simp, fun e h => by simp at h⟩, fun W m _ => lex_no win text W h, fun W _ => refLex_no win text W h⟩
theorem feed_both (win mode scan : Int) (eat : Bool) (held text : ByteArray) (hsz : held.size + text.size ≤ 2000000) : ∃ mo sc ea he J, FewE J ∧ he.size ≤ 2000000 ∧
    (∀ W m, LexTabs W.heap.size W m → Calls Tryz.prog 4 #[.int .i64 win, .agg #[.int .i64 mode, .int .i64 scan, .bool eat, .string held], .string text] W (FeedSaid mo sc ea he J W)) ∧
    (∀ W, RefTabsB W.heap.size W → Calls Tryz.prog 5 #[.int .i64 win, .agg #[.int .i64 mode, .int .i64 scan, .bool eat, .string held], .string text] W fun e w' => ∃ ev xs, e = .returned (.tuple #[.agg #[.int .i64 mo, .int .i64 sc, .bool ea, .string he], ev]) ∧ w'.ownsRow W.heap.size 52 4 ev J.length xs ∧ EvsAt w' W.heap.size xs J ∧ Below W.heap.size W w') := by
  by_cases h : LexOk win mode scan
  · obtain ⟨q1, q2, q3, q4, q5, q6⟩ := h
    obtain ⟨W0, rfl⟩ : ∃ W0 : Nat, win = W0 := ⟨win.toNat, by omega⟩
    obtain ⟨m0, rfl⟩ : ∃ m0 : Nat, mode = m0 := ⟨mode.toNat, by omega⟩
    obtain ⟨s0, rfl⟩ : ∃ s0 : Nat, scan = s0 := ⟨scan.toNat, by omega⟩
    have hz : (held ++ text).size ≤ 2000000 := by rw [ByteArray.size_append]; exact hsz
    obtain ⟨f1, f2⟩ := few_run (W := W0) (by omega) ⟨m0, s0, eat⟩ (held ++ text).data.toList (by show s0 ≤ 10; omega) (by show m0 ≤ 10; omega) (by rw [← size_eq]; exact hz)
    obtain ⟨k1, _⟩ := run_rest (W := W0) (by omega) ⟨m0, s0, eat⟩ (held ++ text).data.toList (by show s0 ≤ 10; omega)
    refine ⟨_, _, _, _, _, f1, ?_, fun W m hT => feed_ap W0 ⟨m0, s0, eat⟩ held text (held ++ text) rfl m W (by omega) (by omega) (by omega) (by show s0 ≤ 10; omega) (by show m0 ≤ 10; omega) hT, fun W hT => refFeed_any W0 ⟨m0, s0, eat⟩ held text (held ++ text) rfl W hz (by omega) (by omega) (by show s0 ≤ 10; omega) (by show m0 ≤ 10; omega) hT⟩
    rw [← size_eq] at k1
    show (List.toArray _).size ≤ _
    simp only [List.size_toArray]
    omega
  · exact ⟨0, 0, false, ⟨#[]⟩, [], ⟨by simp, fun e h => by simp at h⟩, by decide, fun W m _ => feed_no win mode scan eat held text W h, fun W _ => (refFeed_no win mode scan eat held text W h).mono fun _ _ ⟨ev, xs, h1, h2, h3, h4, _⟩ => ⟨ev, xs, h1, h2, h3, h4⟩⟩
end Go.Proofs.YtndglhflbenloaaGreatDoor

/-
  Appending to a row that a call owns: where it grows into a new block, the old blocks stay as they were.
-/
namespace Go.Proofs.YtndglhflbenloaaGreatDoor
open Go.RowKit Go.Lib

theorem ok_inj {P : Program} {m : Sem Value} {w : World} {v v' : Value} {w1 w2 : World} (h : m.run P w = .ok v w1) (h' : m.run P w = .ok v' w2) : v = v' ∧ w1 = w2 := by
  rw [h] at h'
  cases h'
  exact ⟨rfl, rfl⟩
theorem run_append_two {P : Program} (w : World) (t ty : TypeId) (base : Nat) (e : TypeId) (i : TypeInfo) (z : Value) (size bytes : Nat) (ht : P.underlying t = some (.slice e)) (hi : P.info? e = some i) (hz : i.zero = some z)
    (hsize : i.size = size) (hby : i.bytes = bytes) (hzs : z.cells.size = size) (hsz : 0 < size)
    (v : Value) (n : Nat) (xs : List Value) (hown : w.ownsRow base e size v n xs)
    (ad : Addr) (m c : Nat) (news : List Value) (hl : news.length = m * size) (hnews : ∀ j u, news[j]? = some u → w.cell? (ad.add j) = some u) (h1 : ∀ u ∈ news, u.oneCell' = true)
    (hm : 0 < m) (h63 : n + m ≤ maxLen) (hbytes : (n + m) * bytes ≤ 140737488355328) (hbase : base ≤ w.heap.size) :
    ∃ g cap w', (Builtin.append_ #[t, t] ty #[v, .slice (some ad) m c]).run P w = .ok (.slice (some ⟨g, 0, none⟩) (n + m) cap) w' ∧ w'.ownsRow base e size (.slice (some ⟨g, 0, none⟩) (n + m) cap) (n + m) (xs ++ news) ∧ w.grownBy w' v.ownBlock ∧
      (v.ownBlock = some g ∨ g = w.heap.size ∧ ∀ k, k < w.heap.size → w'.heap[k]? = w.heap[k]?) := by
  obtain ⟨v', w', hr, h2, h3, _, _⟩ := run_append_own_at (P := P) w base t ty e i z size bytes ht hi hz hsize hby hzs hsz v n xs hown ad m c news hl hnews h1 h63 hbytes hbase
  have hsmall : n + m ≤ 9223372036854775807 := by simp only [maxLen] at h63; omega
  have hold : ∀ (o : Obj) (k : Nat), k < w.heap.size → (w.drew.alloc o).heap[k]? = w.heap[k]? := fun o k hk => Go.Lib.alloc_old w.drew o k hk
  subst hsize hby
  rcases hown.2 with ⟨rfl, rfl⟩ | ⟨g, cap, cur, rfl, hbg, hg, hnc, hcm, hcs, htake⟩
  · have hr2 := run_append_nil (P := P) w t ty e i z ht hi hz ad m c news hl hnews (by omega) (by omega) (by have hb := hbytes; simp only [Nat.zero_add] at hb; omega)
    obtain ⟨rfl, rfl⟩ := ok_inj hr hr2
    rw [Nat.zero_add] at h2 ⊢
    exact ⟨_, _, _, hr2, h2, h3, .inr ⟨rfl, hold _⟩⟩
  · by_cases hroom : n + m ≤ cap
    · obtain ⟨w2, hr2, _⟩ := run_append_fits (P := P) w base t ty e i i.size ht hi rfl g n cap xs hown ad m c news hl hnews h1 hroom
      obtain ⟨rfl, rfl⟩ := ok_inj hr hr2
      exact ⟨_, _, _, hr2, h2, h3, .inl rfl⟩
    · have holds : ∀ j u, xs[j]? = some u → w.cell? ((⟨g, 0, none⟩ : Addr).add j) = some u := hown.cells (g := g) rfl
      have hr2 := run_append_grow (P := P) w t ty e i z ht hi hz ⟨g, 0, none⟩ n cap xs hown.1 holds ad m c news hl hnews (by omega) (by omega) (growslice_fits (by omega) hbytes)
      obtain ⟨rfl, rfl⟩ := ok_inj hr hr2
      exact ⟨_, _, _, hr2, h2, h3, .inr ⟨rfl, hold _⟩⟩
theorem wpList_append_two {P : Program} (w : World) {ops : Array Oper} {rest : List Oper} {o : Oper} {a : Act} {Q : Exit → Act → World → Prop} (hgd : o.guard = none) (s x : Operand) (t : TypeId)
    (ho : o.op = .call { callee := .builtin .append, args := #[s, x], argTypes := #[t, t] })
    (base : Nat) (e : TypeId) (i : TypeInfo) (z : Value) (size bytes : Nat) (ht : P.underlying t = some (.slice e)) (hi : P.info? e = some i) (hz : i.zero = some z)
    (hsize : i.size = size) (hby : i.bytes = bytes) (hzs : z.cells.size = size) (hsz : 0 < size)
    (v : Value) (n : Nat) (xs : List Value) (hs : a.eval s = v) (hown : w.ownsRow base e size v n xs)
    (ad : Addr) (m c : Nat) (news : List Value) (hx : a.eval x = .slice (some ad) m c) (hl : news.length = m * size) (hnews : ∀ j u, news[j]? = some u → w.cell? (ad.add j) = some u) (h1 : ∀ u ∈ news, u.oneCell' = true)
    (hm : 0 < m) (h63 : n + m ≤ maxLen) (hbytes : (n + m) * bytes ≤ 140737488355328) (hbase : base ≤ w.heap.size)
    (h : ∀ g cap w', w'.ownsRow base e size (.slice (some ⟨g, 0, none⟩) (n + m) cap) (n + m) (xs ++ news) → w.grownBy w' v.ownBlock → (v.ownBlock = some g ∨ g = w.heap.size ∧ ∀ k, k < w.heap.size → w'.heap[k]? = w.heap[k]?) → wpList P ops Q rest (a.put o.dst (.slice (some ⟨g, 0, none⟩) (n + m) cap)) w') :
    wpList P ops Q (o :: rest) a w := by
  refine wpList_plain hgd fun K hK => ?_
  obtain ⟨g, cap, w', hr, h2, h3, h4⟩ := run_append_two (P := P) w t o.type base e i z size bytes ht hi hz hsize hby hzs hsz v n xs hown ad m c news hl hnews h1 hm h63 hbytes hbase
  unfold Oper.wp execOp
  simp only [ho, resolve, invoke, builtin, Sem.run_bind, Sem.run_pure, Result.andThen_ok, List.map_toArray, List.map_cons, List.map_nil, hs, hx, hr]
  exact hK _ _ (h g cap w' h2 h3 h4)
end Go.Proofs.YtndglhflbenloaaGreatDoor

/-
  The statement's comparing of events: its walk, where both hold the same.
-/
namespace Go.Proofs.YtndglhflbenloaaGreatDoor
open Go.RowKit Go.Lib Own

theorem attrs_at (l : List (List UInt8 × List UInt8)) (k : Nat) (a : List UInt8 × List UInt8) (h : l[k]? = some a) : (attrsV l)[k * 2]? = some (strV a.1) ∧ (attrsV l)[k * 2 + 1]? = some (strV a.2) := by
  induction l generalizing k with
  | nil => simp at h
  | cons b l ih =>
    cases k with
    | zero =>
      simp only [List.getElem?_cons_zero, Option.some.injEq] at h
      subst h
      exact ⟨rfl, rfl⟩
    | succ k =>
      rw [List.getElem?_cons_succ] at h
      obtain ⟨h1, h2⟩ := ih k h
      refine ⟨?_, ?_⟩
      · rw [show (k + 1) * 2 = k * 2 + 1 + 1 by omega]; exact h1
      · rw [show (k + 1) * 2 + 1 = k * 2 + 1 + 1 + 1 by omega]; exact h2
set_option maxHeartbeats 2000000 in
set_option maxRecDepth 10000 in
theorem sameAttrs_any (B1 B2 : Nat) (v1 v2 : Value) (l : List (List UInt8 × List UInt8)) (w : World) (h1 : w.ownsRow B1 65 2 v1 l.length (attrsV l)) (h2 : w.ownsRow B2 65 2 v2 l.length (attrsV l)) :
    Calls Tryz.prog 29 #[v1, v2] w fun e w' => e = .returned (.bool true) ∧ ∃ n, w' = w.drewN n := by
  have hl := row_max h1
  obtain ⟨p1, k1, rfl⟩ := row_shape h1
  obtain ⟨p2, k2, rfl⟩ := row_shape h2
  have hlen : (attrsV l).length = l.length * 2 := attrsV_len l
  have H1 := hid h1
  have H2 := hid h2
  clear h1 h2
  go_enter Tryz.func29, Tryz.ntmps29
  have q0 : ((l.length : Int) != (l.length : Int)) = false := by simp
  go_wp2
  go_loopw [13] (fun iv wr => ∃ k n : Nat, iv = .int .i64 k ∧ k ≤ l.length ∧ wr = w.drewN n) (fun iv _ => l.length - (RowKit.intOf iv).toNat)
  case atStart => exact ⟨0, 0, rfl, Nat.zero_le _, rfl⟩
  case round =>
    obtain ⟨k, n, rfl, hk, rfl⟩ := hrel
    by_cases hkl : k < l.length
    · obtain ⟨g1, ca1, e1, _, _, hc1⟩ := row_at H1.out (by omega)
      obtain ⟨g2, ca2, e2, _, _, hc2⟩ := row_at H2.out (by omega)
      cases e1
      cases e2
      obtain ⟨x1, x2⟩ := attrs_at l k l[k] (List.getElem?_eq_getElem hkl)
      have a1 := (hc1 (k * 2) (by omega)).trans x1
      have a2 := (hc1 (k * 2 + 1) (by omega)).trans x2
      have b1 := (hc2 (k * 2) (by omega)).trans x1
      have b2 := (hc2 (k * 2 + 1) (by omega)).trans x2
      obtain ⟨u1, hu1⟩ : ∃ u1, (⟨l[k].1.toArray⟩ : ByteArray) = u1 := ⟨_, rfl⟩
      obtain ⟨u2, hu2⟩ : ∃ u2, (⟨l[k].2.toArray⟩ : ByteArray) = u2 := ⟨_, rfl⟩
      unfold strV at a1 a2 b1 b2
      rw [hu1] at a1 b1
      rw [hu2] at a2 b2
      clear hc1 hc2 x1 x2 hu1 hu2 H1 H2
      go_wp2_with fail
      go_quiet (fail)
      go_wp2
      go_roundw
      case rel => exact ⟨k + 1, n + nq, rfl, by omega, by first | rfl | simp⟩
      case measure => simp [RowKit.intOf]; omega
    · go_wp2
      go_ret
      exact ⟨rfl, n, rfl⟩

/-- the four cells of an event in a row -/
theorem ev_cells {W : World} {base : Nat} {v : Value} {xs : List Value} {l : List Ev} (h : W.ownsRow base 52 4 v l.length xs) (he : EvsAt W base xs l) (k : Nat) (hk : k < l.length) :
    ∃ g cap a, v = .slice (some ⟨g, 0, none⟩) l.length cap ∧ base ≤ g ∧ g < W.heap.size ∧ W.cell? ⟨g, k * 4, none⟩ = some (.int .i64 (evK l[k] : Nat)) ∧ W.cell? ⟨g, k * 4 + 1, none⟩ = some (strV (evN l[k])) ∧ W.cell? ⟨g, k * 4 + 2, none⟩ = some a ∧
      W.cell? ⟨g, k * 4 + 3, none⟩ = some (strV (evT l[k])) ∧ W.ownsRow base 65 2 a (evA l[k]).length (attrsV (evA l[k])) ∧ EvsAt W base [.int .i64 (evK l[k] : Nat), strV (evN l[k]), a, strV (evT l[k])] [l[k]] := by
  obtain ⟨g, cap, hv, hg1, hg2, hc⟩ := row_at h (by omega)
  obtain ⟨a, a0, a1, a2, a3, a4, a5⟩ := evs_get xs l k l[k] he (List.getElem?_eq_getElem hk)
  exact ⟨g, cap, a, hv, hg1, hg2, (hc _ (by omega)).trans a0, (hc _ (by omega)).trans a1, (hc _ (by omega)).trans a2, (hc _ (by omega)).trans a3, a4, a5⟩

set_option maxHeartbeats 4000000 in
set_option maxRecDepth 10000 in
theorem sameEvents_any (B1 B2 : Nat) (v1 v2 : Value) (xs1 xs2 : List Value) (l : List Ev) (w : World) (h1 : w.ownsRow B1 52 4 v1 l.length xs1) (e1 : EvsAt w B1 xs1 l) (h2 : w.ownsRow B2 52 4 v2 l.length xs2) (e2 : EvsAt w B2 xs2 l) :
    Calls Tryz.prog 19 #[v1, v2] w fun e w' => e = .returned (.bool true) ∧ ∃ n, w' = w.drewN n := by
  have hl := row_max h1
  obtain ⟨p1, k1, rfl⟩ := row_shape h1
  obtain ⟨p2, k2, rfl⟩ := row_shape h2
  have H1 := hid (And.intro h1 e1)
  have H2 := hid (And.intro h2 e2)
  clear h1 h2 e1 e2
  go_enter Tryz.func19, Tryz.ntmps19
  have q0 : ((l.length : Int) != (l.length : Int)) = false := by simp
  go_wp2
  go_loopw [13] (fun iv wr => ∃ k : Nat, iv = .int .i64 k ∧ k ≤ l.length ∧ Hid (True → ∃ n, wr = w.drewN n)) (fun iv _ => l.length - (RowKit.intOf iv).toNat)
  case atStart => exact ⟨0, rfl, Nat.zero_le _, hid (fun _ => ⟨0, rfl⟩)⟩
  case round =>
    obtain ⟨k, rfl, hk, HQ⟩ := hrel
    by_cases hkl : k < l.length
    · obtain ⟨g1, ca1, a1, ex1, _, _, b0, b1, b2, b3, b4, _⟩ := ev_cells H1.out.1 H1.out.2 k hkl
      obtain ⟨g2, ca2, a2, ex2, _, _, d0, d1, d2, d3, d4, _⟩ := ev_cells H2.out.1 H2.out.2 k hkl
      cases ex1
      cases ex2
      obtain ⟨sp1, sc1, rfl⟩ := row_shape b4
      obtain ⟨sp2, sc2, rfl⟩ := row_shape d4
      have hq := HQ.out trivial
      replace b0 := cell_drew hq b0
      replace b1 := cell_drew hq b1
      replace b2 := cell_drew hq b2
      replace b3 := cell_drew hq b3
      replace d0 := cell_drew hq d0
      replace d1 := cell_drew hq d1
      replace d2 := cell_drew hq d2
      replace d3 := cell_drew hq d3
      have hsame := fun n => sameAttrs_any B1 B2 _ _ (evA l[k]) (wr.drewN n) (by obtain ⟨n', rfl⟩ := hq; exact b4) (by obtain ⟨n', rfl⟩ := hq; exact d4)
      have HS := hid hsame
      clear hsame b4 d4 hq H1 H2
      obtain ⟨u1, hu1⟩ : ∃ u1, (⟨(evN l[k]).toArray⟩ : ByteArray) = u1 := ⟨_, rfl⟩
      obtain ⟨u2, hu2⟩ : ∃ u2, (⟨(evT l[k]).toArray⟩ : ByteArray) = u2 := ⟨_, rfl⟩
      unfold strV at b1 b3 d1 d3
      rw [hu1] at b1 d1
      rw [hu2] at b3 d3
      have q1 : (((evK l[k] : Nat) : Int) != ((evK l[k] : Nat) : Int)) = false := by simp
      generalize ((evK l[k] : Nat) : Int) = z at *
      clear hu1 hu2
      go_wp2_with fail
      go_quiet (first | (go_at_call 29; refine Calls.quiet_of (HS.out _)))
      go_wp2
      go_roundw
      case rel =>
        obtain ⟨n, hn⟩ := HQ.out trivial
        exact ⟨k + 1, rfl, by omega, hid (fun _ => ⟨n + nq, by rw [hn]; simp⟩)⟩
      case measure => simp [RowKit.intOf]; omega
    · go_wp2
      go_ret
      exact ⟨rfl, HQ.out trivial⟩
end Go.Proofs.YtndglhflbenloaaGreatDoor

/-
  The statements' appended and allNamed: their walks.
-/
namespace Go.Proofs.YtndglhflbenloaaGreatDoor
open Go.RowKit Go.Lib Own

/-- attributes of one name -/
def namedV (nm : ByteArray) (ws : List ByteArray) : List Value := ws.flatMap fun x => [.string nm, .string x]
theorem namedV_len (nm : ByteArray) : ∀ ws : List ByteArray, (namedV nm ws).length = ws.length * 2
  | [] => rfl
  | x :: ws => by
    have := namedV_len nm ws
    unfold namedV at this ⊢
    simp only [List.flatMap_cons, List.length_append, List.length_cons, List.length_nil, this]
    omega
theorem namedV_app (nm : ByteArray) (a b : List ByteArray) : namedV nm (a ++ b) = namedV nm a ++ namedV nm b := by
  unfold namedV
  rw [List.flatMap_append]
theorem namedV_at (nm : ByteArray) : ∀ (ws : List ByteArray) (j : Nat), j < ws.length → (namedV nm ws)[j * 2]? = some (.string nm)
  | [], j, h => by simp at h
  | x :: ws, 0, _ => rfl
  | x :: ws, j + 1, h => by
    have := namedV_at nm ws j (by simpa using h)
    rw [show (j + 1) * 2 = j * 2 + 1 + 1 by omega]
    exact this
/-- a list of attributes that can be read, all of one name -/
def NamedR (W : World) (v : Value) (n : Nat) (nm : ByteArray) : Prop := n ≤ 9223372036854775807 ∧ ∃ p c, v = .slice p n c ∧ ∀ j, j < n → ∃ g, p = some ⟨g, 0, none⟩ ∧ W.cell? ⟨g, j * 2, none⟩ = some (.string nm) ∧ ∃ cs, W.heap[g]? = some (.cells cs 65 (0, 0))
theorem NamedR.of {W : World} {base n : Nat} {v : Value} {nm : ByteArray} {ws : List ByteArray} (h : W.ownsRow base 65 2 v n (namedV nm ws)) : NamedR W v n nm := by
  have hl : ws.length = n := by have := h.1; rw [namedV_len] at this; omega
  refine ⟨row_max h, ?_⟩
  obtain ⟨p, c, rfl⟩ := row_shape h
  refine ⟨p, c, rfl, fun j hj => ?_⟩
  obtain ⟨g, cap, e, _, _, hc⟩ := row_at h (by omega)
  cases e
  refine ⟨g, rfl, (hc _ (by omega)).trans (namedV_at nm ws j (by omega)), ?_⟩
  rcases h.2 with ⟨e2, _⟩ | ⟨g2, cap2, cur, e2, _, hh, _⟩
  · cases e2
  · cases e2
    exact ⟨cur, hh⟩
theorem NamedR.kept {W W' : World} {n : Nat} {v : Value} {nm : ByteArray} (h : NamedR W v n nm) (hk : 0 < n → ∀ k, v.ownBlock = some k → W'.heap[k]? = W.heap[k]?) : NamedR W' v n nm := by
  obtain ⟨h0, p, c, rfl, h1⟩ := h
  refine ⟨h0, p, c, rfl, fun j hj => ?_⟩
  obtain ⟨g, rfl, h2, cs, h3⟩ := h1 j hj
  have := hk (by omega) g rfl
  refine ⟨g, rfl, ?_, cs, by rw [this]; exact h3⟩
  unfold World.cell? at h2 ⊢
  rw [this]
  exact h2
theorem NamedR.own {W : World} {n : Nat} {v : Value} {nm : ByteArray} (h : NamedR W v n nm) (hn : 0 < n) : ∃ g, v.ownBlock = some g ∧ g < W.heap.size := by
  obtain ⟨h0, p, c, rfl, h1⟩ := h
  obtain ⟨g, rfl, h2, _⟩ := h1 0 hn
  exact ⟨g, rfl, cell_block h2⟩

set_option maxHeartbeats 2000000 in
set_option maxRecDepth 10000 in
theorem allNamed_any (v : Value) (n : Nat) (nm : ByteArray) (w : World) (h : NamedR w v n nm) :
    Calls Tryz.prog 32 #[v, .string nm] w fun e w' => e = .returned (.bool true) ∧ w' = w := by
  obtain ⟨h0, p, c, rfl, h1⟩ := h
  have H1 := hid h1
  clear h1
  go_enter Tryz.func32, Tryz.ntmps32
  go_wp2
  go_loopw [8] (fun iv wr => ∃ k : Nat, iv = .int .i64 k ∧ k ≤ n ∧ wr = w) (fun iv _ => n - (RowKit.intOf iv).toNat)
  case atStart => exact ⟨0, rfl, Nat.zero_le _, rfl⟩
  case round =>
    obtain ⟨k, rfl, hk, rfl⟩ := hrel
    by_cases hkl : k < n
    · obtain ⟨g, rfl, hc, _⟩ := H1.out k hkl
      clear H1
      go_wp2
      go_roundw
      case rel => exact ⟨k + 1, rfl, by omega, by first | rfl | trivial⟩
      case measure => simp [RowKit.intOf]; omega
    · go_wp2
      go_ret
      exact ⟨rfl, by first | rfl | trivial⟩

/-- a list of words that came in -/
structure WordsAt (W : World) (base : Nat) (a : Option Addr) (ss : List ByteArray) : Prop where
  at_ : ∀ j, j < ss.length → ∃ b o, a = some ⟨b, o, none⟩ ∧ b < base ∧ W.cell? ⟨b, o + j, none⟩ = some (.string (ss.getD j ByteArray.empty))
theorem WordsAt.below {W W' : World} {base : Nat} {a : Option Addr} {ss : List ByteArray} (h : WordsAt W base a ss) (hb : Below base W W') : WordsAt W' base a ss :=
  ⟨fun j hj => by
    obtain ⟨b, o, h1, h2, h3⟩ := h.at_ j hj
    exact ⟨b, o, h1, h2, cell_low h3 hb h2⟩⟩
theorem WordsAt.up {W : World} {base base2 : Nat} {a : Option Addr} {ss : List ByteArray} (h : WordsAt W base a ss) (hb : base ≤ base2) : WordsAt W base2 a ss :=
  ⟨fun j hj => by
    obtain ⟨b, o, h1, h2, h3⟩ := h.at_ j hj
    exact ⟨b, o, h1, by omega, h3⟩⟩

/-- a list that grows out of another one -/
structure Grows (w wr : World) (base : Nat) (v : Value) (n : Nat) (nm : ByteArray) (cv : Value) (K : Nat) (ws : List ByteArray) : Prop where
  own : wr.ownsRow base 65 2 cv K (namedV nm ws)
  le : n ≤ K
  low : base ≤ w.heap.size
  size : w.heap.size ≤ wr.heap.size
  fr : ∀ k, k < w.heap.size → v.ownBlock ≠ some k → wr.heap[k]? = w.heap[k]?
  bl : cv.ownBlock = v.ownBlock ∨ ∀ g, cv.ownBlock = some g → w.heap.size ≤ g
  be : Below base w wr
  nr : NamedR wr v n nm
theorem Grows.next {w wr w2 : World} {base : Nat} {v cv : Value} {n K g cap : Nat} {nm x : ByteArray} {ws : List ByteArray} {X : Obj} (h : Grows w wr base v n nm cv K ws)
    (h2 : w2.ownsRow base 65 2 (.slice (some ⟨g, 0, none⟩) (K + 1) cap) (K + 1) (namedV nm ws ++ [.string nm, .string x])) (h3 : (wr.alloc X).grownBy w2 cv.ownBlock)
    (h4 : cv.ownBlock = some g ∨ g = wr.heap.size + 1 ∧ ∀ k, k < wr.heap.size + 1 → w2.heap[k]? = (wr.alloc X).heap[k]?) : Grows w w2 base v n nm (.slice (some ⟨g, 0, none⟩) (K + 1) cap) (K + 1) (ws ++ [x]) := by
  have hown2 : w2.ownsRow base 65 2 (.slice (some ⟨g, 0, none⟩) (K + 1) cap) (K + 1) (namedV nm (ws ++ [x])) := by rw [namedV_app]; exact h2
  have hsz1 : (wr.alloc X).heap.size = wr.heap.size + 1 := by simp
  have hold : ∀ k, k < wr.heap.size → (wr.alloc X).heap[k]? = wr.heap[k]? := fun k hk => Go.Lib.alloc_old wr X k hk
  have hbs := h.size
  have hb3 : Below base wr w2 := ((Below.refl base wr).alloc (Nat.le_trans h.low hbs) X).grown h3 (by rw [hsz1]; have := h.low; omega) (fun k hk => (h.own.lt k hk).1)
  refine ⟨hown2, by have := h.le; omega, h.low, Nat.le_trans hbs hb3.size, fun k hk hv => ?_, ?_, h.be.trans hb3, ?_⟩
  · have hcv : cv.ownBlock ≠ some k := by
      rcases h.bl with e | e
      · rw [e]; exact hv
      · intro e2
        have := e k e2
        omega
    rw [h3.block k (by omega) (fun e => hcv e.symm), hold k (by omega)]
    exact h.fr k hk hv
  · rcases h4 with e | ⟨e, _⟩
    · rcases h.bl with e2 | e2
      · left
        show some g = _
        rw [← e2, e]
      · right
        intro g' hg'
        exact e2 g' (by rw [e]; exact hg')
    · right
      intro g' hg'
      have : g = g' := Option.some.inj hg'
      omega
  · -- what stood there can be read still
    by_cases hn : n = 0
    · obtain ⟨h0, p, c, rfl, h1⟩ := h.nr
      exact ⟨h0, p, c, rfl, fun j hj => by omega⟩
    · obtain ⟨g0, hg0, hlt⟩ := h.nr.own (by omega)
      by_cases hc : cv.ownBlock = some g0
      · rcases h4 with e | ⟨e, hk⟩
        · have hgg : g = g0 := by rw [hc] at e; exact (Option.some.inj e).symm
          subst hgg
          obtain ⟨h0, p, c, rfl, h1⟩ := h.nr
          obtain ⟨_, p2, c2, e2, h5⟩ := NamedR.of hown2
          cases e2
          refine ⟨h0, p, c, rfl, fun j hj => ?_⟩
          obtain ⟨g1, rfl, _⟩ := h1 j hj
          obtain ⟨g2, e3, h6, cs, h7⟩ := h5 j (by have := h.le; omega)
          have e4 : g2 = g := by cases e3; rfl
          have e5 : g1 = g := Option.some.inj hg0
          exact ⟨g1, rfl, by rw [e5]; rw [e4] at h6; exact h6, cs, by rw [e5]; rw [e4] at h7; exact h7⟩
        · exact h.nr.kept (fun _ k hk2 => by
            have : k = g0 := by rw [hg0] at hk2; exact (Option.some.inj hk2).symm
            subst this
            rw [hk k (by omega), hold k hlt])
      · exact h.nr.kept (fun _ k hk2 => by
          have : k = g0 := by rw [hg0] at hk2; exact (Option.some.inj hk2).symm
          subst this
          rw [h3.block k (by omega) (fun e => hc e.symm), hold k hlt])
theorem Grows.start {w : World} {base : Nat} {v : Value} {n : Nat} {nm : ByteArray} {ws : List ByteArray} (h : w.ownsRow base 65 2 v n (namedV nm ws)) (hb : base ≤ w.heap.size) : Grows w w base v n nm v n ws :=
  ⟨h, Nat.le_refl _, hb, Nat.le_refl _, fun _ _ _ => rfl, .inl rfl, Below.refl _ _, NamedR.of h⟩

set_option maxHeartbeats 4000000 in
set_option maxRecDepth 100000 in
theorem appended_any (base : Nat) (v : Value) (n : Nat) (nm : ByteArray) (ws : List ByteArray) (a : Option Addr) (mc : Nat) (ss : List ByteArray) (w : World) (h : w.ownsRow base 65 2 v n (namedV nm ws)) (hb : base ≤ w.heap.size) (hn : n ≤ 100000000) (hs : ss.length ≤ 100000000) (hw : WordsAt w base a ss) :
    Calls Tryz.prog 31 #[v, .string nm, .slice a ss.length mc] w fun e w' => ∃ u ws2, e = .returned u ∧ Grows w w' base v n nm u (n + 1 + ss.length) ws2 := by
  obtain ⟨i0, hii, hz0, hz1, hz2⟩ := info_parts info_attr
  obtain ⟨p, c, rfl⟩ := row_shape h
  have HG0 := hid (Grows.start h hb)
  have HW := hid hw
  clear hw
  go_enter Tryz.func31, Tryz.ntmps31
  go_wp2_with (at_builtin; refine wpList_append_two _ rfl (.tmp 8) (.tmp 11) 50 rfl base 65 i0 (.agg #[.string ⟨#[]⟩, .string ⟨#[]⟩]) 2 32 Tryz.underlying50 hii hz0 hz1 hz2 rfl (by decide) _ _ _ rfl (h.alloc _) ⟨_, 0, none⟩ 1 1 [.string nm, .string ⟨#[]⟩] rfl rfl (cells_newV _ _ _) (by simp [Value.oneCell']) (by decide) (by unfold maxLen; omega) (by omega) (by simp; omega) ?_)
  intro g cap w2 hown2 hgrow htwo
  have HG1 := hid (HG0.out.next hown2 hgrow htwo)
  clear hown2 hgrow htwo HG0 h
  go_wp2
  go_loopw [0, 15] (fun cv iv wr => ∃ (k : Nat) (ws2 : List ByteArray), iv = .int .i64 k ∧ k ≤ ss.length ∧ Grows w wr base (.slice p n c) n nm cv (n + 1 + k) ws2) (fun _ iv _ => ss.length - (RowKit.intOf iv).toNat)
  case atStart => exact ⟨0, _, rfl, Nat.zero_le _, HG1.out⟩
  case round =>
    obtain ⟨k, ws2, rfl, hk, hG⟩ := hrel
    by_cases hkl : k < ss.length
    · obtain ⟨b, o, rfl, hb2, hc⟩ := HW.out.at_ k hkl
      have hc2 := cell_low hc hG.be hb2
      obtain ⟨x, hx⟩ : ∃ x, ss.getD k ByteArray.empty = x := ⟨_, rfl⟩
      rw [hx] at hc2
      clear hc hx
      have hsz := hG.size
      have HG2 := hid hG
      obtain ⟨cp, cc, rfl⟩ := row_shape hG.own
      go_wp2_with (at_builtin; refine wpList_append_two _ rfl (.tmp 18) (.tmp 25) 50 rfl base 65 i0 (.agg #[.string ⟨#[]⟩, .string ⟨#[]⟩]) 2 32 Tryz.underlying50 hii hz0 hz1 hz2 rfl (by decide) _ _ _ rfl (HG2.out.own.alloc _) ⟨_, 0, none⟩ 1 1 [.string nm, .string x] rfl rfl (cells_newV _ _ _) (by simp [Value.oneCell']) (by decide) (by unfold maxLen; omega) (by omega) (by simp; omega) ?_)
      intro g3 cap3 w3 hown3 hgrow3 htwo3
      have HG3 := hid (HG2.out.next hown3 hgrow3 htwo3)
      clear hown3 hgrow3 htwo3 HG2 hG
      go_wp2
      go_roundw
      case rel => first | exact ⟨k + 1, _, rfl, by omega, HG3.out⟩ | ((repeat apply Exists.intro); exact ⟨⟨k + 1, _, rfl, by omega, HG3.out⟩, rfl⟩)
      case measure => simp [RowKit.intOf]; omega
    · obtain rfl : k = ss.length := by omega
      go_wp2
      go_ret
      exact ⟨_, ws2, rfl, hG⟩
end Go.Proofs.YtndglhflbenloaaGreatDoor

/-
  The statements' apartLists: its walk.
-/
namespace Go.Proofs.YtndglhflbenloaaGreatDoor
open Go.RowKit Go.Lib Own

/-- every block that is no list of events, of attributes or of such lists stays -/
def KeepT (w W : World) : Prop := ∀ (b : Nat) (cs : Array Value) (T : TypeId), w.heap[b]? = some (.cells cs T (0, 0)) → T ≠ 52 → T ≠ 65 → T ≠ 50 → W.heap[b]? = some (.cells cs T (0, 0))
theorem KeepT.refl (w : World) : KeepT w w := fun _ _ _ h _ _ _ => h
theorem KeepT.trans {w1 w2 w3 : World} (h : KeepT w1 w2) (h2 : KeepT w2 w3) : KeepT w1 w3 := fun b cs T hb e1 e2 e3 => h2 b cs T (h b cs T hb e1 e2 e3) e1 e2 e3
theorem KeepT.below {w W : World} (h : Below w.heap.size w W) : KeepT w W := fun b _ _ hb _ _ _ => (h.block b (Array.getElem?_eq_some_iff.1 hb).1).trans hb
theorem KeepT.row {W W' : World} {base : Nat} {e : TypeId} {size n : Nat} {v : Value} {xs : List Value} (h : W.ownsRow base e size v n xs) (he : e = 52 ∨ e = 65 ∨ e = 50) (hk : ∀ k, k < W.heap.size → v.ownBlock ≠ some k → W'.heap[k]? = W.heap[k]?) : KeepT W W' :=
  fun b cs T hb e1 e2 e3 => (hk b (Array.getElem?_eq_some_iff.1 hb).1 (row_ne h hb (by
    rcases he with rfl | rfl | rfl
    · exact e1
    · exact e2
    · exact e3))).trans hb
theorem info_list : (Tryz.prog.info? 50).map (fun i => (i.zero, i.size, i.bytes)) = some (some (.slice none 0 0), 1, 24) := by kernel_rfl
/-- the name that the statement gives list k -/
def nmOf (k : Nat) : ByteArray := ⟨(Go.Lib.itoa (k : Int)).toArray⟩
/-- the library's table of powers, ahead of block 'base' -/
structure PowB (base : Nat) (w : World) : Prop where
  tab : Go.Lib.TabIs Tryz.prog w "internal/strconv.uint64pow10" .u64 Go.Lib.pow10Tab
  lt : 7 < base
theorem PowB.below {base : Nat} {w w' : World} (h : PowB base w) (hb : Below base w w') : PowB base w' := by
  refine ⟨?_, h.lt⟩
  have h1 := h.tab
  have hg : Tryz.prog.globalNamed "internal/strconv.uint64pow10" = some 7 := by kernel_rfl
  unfold Go.Lib.TabIs World.var? at h1 ⊢
  rw [hg] at h1 ⊢
  simp only [Option.bind_some] at h1 ⊢
  rw [hb.block _ h.lt]
  exact h1
theorem itoa_any (k : Nat) (hk : k ≤ 10000000) (base : Nat) (w : World) (h : PowB base w) :
    Calls Tryz.prog 30 #[.int .i64 k] w fun e w' => e = .returned (.string (nmOf k)) ∧ Below w.heap.size w w' := by
  refine (Tryz.strconv_Itoa (k : Int) (by omega) (by omega) w h.tab).mono ?_
  rintro e w' ⟨rfl, n, os, rfl⟩
  refine ⟨rfl, rfl, rfl, rfl, ?_, fun k hk => ?_⟩
  · show w.heap.size ≤ (w.heap ++ os).size
    rw [Array.size_append]; omega
  · show (w.heap ++ os)[k]? = w.heap[k]?
    rw [Array.getElem?_append_left hk]

theorem named_step {nm : ByteArray} {ws : List ByteArray} {y0 y1 : Value} {ys : List Value} : ((namedV nm ws ++ y0 :: y1 :: ys).set (ws.length * 2) (.string nm)).set (ws.length * 2 + 1) (.string ⟨#[]⟩) = namedV nm (ws ++ [⟨#[]⟩]) ++ ys := by
  have hl := namedV_len nm ws
  rw [List.set_append, if_neg (by omega), hl, Nat.sub_self, List.set_cons_zero, List.set_append, if_neg (by omega), hl, Nat.add_sub_cancel_left]
  show namedV nm ws ++ (.string nm :: .string ⟨#[]⟩ :: ys) = _
  rw [namedV_app]
  simp [namedV]
/-- the lists that are written over and appended to -/
structure Fam (W : World) (base : Nat) (vs : List Value) (ns : Nat → Nat) (i : Nat) : Prop where
  row : ∀ (k : Nat) (v : Value), vs[k]? = some v → (k < i → ∃ ws, W.ownsRow base 65 2 v (ns k) (namedV (nmOf k) ws)) ∧ ∃ ys, W.ownsRow base 65 2 v (ns k) ys
def Dist (vs : List Value) : Prop := ∀ (j k : Nat) (v u : Value), vs[j]? = some v → vs[k]? = some u → j ≠ k → ∀ g, v.ownBlock = some g → u.ownBlock ≠ some g

/-- the second round: the lists that grew out of the first i -/
structure Two (w W : World) (base : Nat) (lv : Value) (N : Nat) (vs : List Value) (ns : Nat → Nat) (m i : Nat) (lgv : Value) (us : List Value) : Prop where
  be : Below base w W
  li : W.ownsRow base 50 1 lv N vs
  lg : W.ownsRow w.heap.size 50 1 lgv i us
  hi : ∀ (k : Nat) (v : Value), vs[k]? = some v → i ≤ k → ∃ ws, W.ownsRow base 65 2 v (ns k) (namedV (nmOf k) ws)
  lo : ∀ (k : Nat) (v : Value), vs[k]? = some v → k < i → NamedR W v (ns k) (nmOf k) ∧ ∃ u, us[k]? = some u ∧ NamedR W u (ns k + 1 + m) (nmOf k) ∧ ∀ (j : Nat) (vj : Value), i ≤ j → vs[j]? = some vj → ∀ g, vj.ownBlock = some g → u.ownBlock ≠ some g
  kp : KeepT w W
theorem NamedR.ne {W : World} {base n k : Nat} {v lgv : Value} {nm : ByteArray} {us : List Value} (h : NamedR W v n nm) (hn : 0 < n) (hl : W.ownsRow base 50 1 lgv k us) : ∀ g, v.ownBlock = some g → lgv.ownBlock ≠ some g := by
  obtain ⟨_, p, c, rfl, h1⟩ := h
  obtain ⟨g0, rfl, _, cs, h3⟩ := h1 0 hn
  intro g hg
  have : g0 = g := Option.some.inj hg
  subst this
  exact row_ne hl h3 (by decide)
theorem NamedR.below {W W' : World} {n : Nat} {v : Value} {nm : ByteArray} (h : NamedR W v n nm) (hb : Below W.heap.size W W') : NamedR W' v n nm :=
  h.kept (fun hn k hk => by
    obtain ⟨g, hg, hlt⟩ := h.own hn
    rw [hg] at hk
    cases hk
    exact hb.block _ hlt)
theorem Two.next {w wr w1 w2 w3 : World} {base N m i n K : Nat} {lv lgv lgv3 v u : Value} {vs us : List Value} {ns : Nat → Nat} {ws2 : List ByteArray} {X : Obj} (h : Two w wr base lv N vs ns m i lgv us) (hD : Dist vs) (hbase : base ≤ w.heap.size) (hlv : ∀ g, lv.ownBlock = some g → g < w.heap.size)
    (hv : vs[i]? = some v) (hn : ns i = n) (hK : K = n + 1 + m) (b1 : Below wr.heap.size wr w1) (hG : Grows w1 w2 base v n (nmOf i) u K ws2)
    (h3 : w3.ownsRow w.heap.size 50 1 lgv3 (i + 1) (us ++ [u])) (hg : (w2.alloc X).grownBy w3 lgv.ownBlock) : Two w w3 base lv N vs ns m (i + 1) lgv3 (us ++ [u]) := by
  subst hn hK
  have hbs := h.be.size
  have hul : us.length = i := by have := h.lg.1; omega
  have li1 := row_below h.li b1
  have lg1 := row_below h.lg b1
  obtain ⟨wsv, hvw⟩ := h.hi i v hv (Nat.le_refl _)
  have v1 := row_below hvw b1
  have li2 := row_of_block li1 (fun g e => hG.fr g (li1.lt g e).2 (rows_ne2 li1 v1 (by decide) g e))
  have lg2 := row_of_block lg1 (fun g e => hG.fr g (lg1.lt g e).2 (rows_ne2 lg1 v1 (by decide) g e))
  have F23 : ∀ k, k < w2.heap.size → lgv.ownBlock ≠ some k → w3.heap[k]? = w2.heap[k]? := fun k hk hne => (hg.block k (by simp; omega) (fun e => hne e.symm)).trans (Go.Lib.alloc_old w2 X k hk)
  have keepN : ∀ {v' : Value} {n' : Nat} {nm : ByteArray}, NamedR w2 v' n' nm → NamedR w3 v' n' nm := fun hN => hN.kept (fun hn k hk => by
    obtain ⟨g, hg2, hlt⟩ := hN.own hn
    have hne := hN.ne hn lg2 g hg2
    rw [hg2] at hk
    cases hk
    exact F23 _ hlt hne)
  have b3 : Below base w2 w3 := ((Below.refl base w2).alloc (Nat.le_trans hG.low hG.size) X).grown hg (by have := Nat.le_trans hG.low hG.size; simp; omega) (fun k hk => by have := (lg2.lt k hk).1; omega)
  refine ⟨((h.be.trans (b1.mono (Nat.le_trans hbase hbs))).trans hG.be).trans b3, ?_, h3, fun k vk hk hik => ?_, fun k vk hk hik => ?_, (h.kp.trans (KeepT.below b1)).trans ((KeepT.row v1 (.inr (.inl rfl)) (fun k hk hne => hG.fr k hk hne)).trans (KeepT.row lg2 (.inr (.inr rfl)) F23))⟩
  · exact row_of_block li2 (fun g e => F23 g (li2.lt g e).2 (fun e2 => by
      have := (lg2.lt g e2).1
      have := hlv g e
      omega))
  · obtain ⟨ws, hr⟩ := h.hi k vk hk (by omega)
    have r1 := row_below hr b1
    have r2 := row_of_block r1 (fun g e => hG.fr g (r1.lt g e).2 (hD k i vk v hk hv (by omega) g e))
    refine ⟨ws, row_of_block r2 (fun g e => F23 g (r2.lt g e).2 (rows_ne2 r2 lg2 (by decide) g e))⟩
  · by_cases hki : k = i
    · subst hki
      rw [hv] at hk
      obtain rfl := Option.some.inj hk
      refine ⟨keepN hG.nr, u, by rw [List.getElem?_append_right (by omega), hul, Nat.sub_self]; rfl, keepN (NamedR.of hG.own), fun j vj hj hvj g hgj => ?_⟩
      obtain ⟨ws, hr⟩ := h.hi j vj hvj (by omega)
      have r1 := row_below hr b1
      rcases hG.bl with e | e
      · rw [e]
        exact fun e2 => hD j k vj v hvj hv (by omega) g hgj e2
      · intro e2
        have := e g e2
        have := (r1.lt g hgj).2
        omega
    · obtain ⟨n1, u', hu', n2, n3⟩ := h.lo k vk hk (by omega)
      have keep12 : ∀ {v' : Value} {n' : Nat} {nm : ByteArray}, NamedR wr v' n' nm → (∀ g, v'.ownBlock = some g → v.ownBlock ≠ some g) → NamedR w2 v' n' nm := fun hN hne => (hN.below b1).kept (fun hn k hk => by
        obtain ⟨g, hg2, hlt⟩ := (hN.below b1).own hn
        have := hne g hg2
        rw [hg2] at hk
        cases hk
        exact hG.fr _ hlt this)
      refine ⟨keepN (keep12 n1 (fun g e => hD k i vk v hk hv hki g e)), u', by rw [List.getElem?_append_left (by omega)]; exact hu', keepN (keep12 n2 (fun g e e2 => n3 i v (Nat.le_refl _) hv g e2 e)), fun j vj hj hvj g hgj => n3 j vj (by omega) hvj g hgj⟩

set_option maxHeartbeats 8000000 in
set_option maxRecDepth 100000 in
theorem apart_any (base : Nat) (lv : Value) (vs : List Value) (ns : Nat → Nat) (a : Option Addr) (mc : Nat) (ss : List ByteArray) (w : World) (hl : w.ownsRow base 50 1 lv vs.length vs) (hF : Fam w base vs ns 0) (hD : Dist vs) (hns : ∀ k, k < vs.length → ns k ≤ 5000000) (hN : vs.length ≤ 5000000)
    (hb : base ≤ w.heap.size) (hs : ss.length ≤ 5000000) (hw : WordsAt w base a ss) (hP : PowB base w) :
    Calls Tryz.prog 20 #[lv, .slice a ss.length mc] w fun e w' => e = .returned (.bool true) ∧ Below base w w' ∧ KeepT w w' := by
  obtain ⟨N, hNN⟩ : ∃ N, vs.length = N := ⟨_, rfl⟩
  rw [hNN] at hl hN hns
  obtain ⟨lp, lc, rfl⟩ := row_shape hl
  have HLV := hid (fun g (e : (Value.slice lp N lc).ownBlock = some g) => (hl.lt g e).2)
  have HL := hid hl
  have HF := hid hF
  have HD := hid hD
  have HW := hid hw
  have HP := hid hP
  have HNN := hid (fun (_ : True) => hNN)
  have HNS := hid hns
  clear hl hF hD hw hP hNN hns
  go_enter Tryz.func20, Tryz.ntmps20
  go_wp2
  go_loopw [16] (fun iv wr => ∃ i : Nat, iv = .int .i64 i ∧ i ≤ N ∧ Hid (Below base w wr ∧ wr.ownsRow base 50 1 (.slice lp N lc) N vs ∧ Fam wr base vs ns i ∧ KeepT w wr)) (fun iv _ => N - (RowKit.intOf iv).toNat)
  case atStart => exact ⟨0, rfl, Nat.zero_le _, hid ⟨Below.refl _ _, HL.out, HF.out, KeepT.refl _⟩⟩
  case round =>
    obtain ⟨i, rfl, hi, HX⟩ := hrel
    by_cases hiN : i < N
    · obtain ⟨v, hv⟩ : ∃ v, vs[i]? = some v := ⟨_, List.getElem?_eq_getElem (by rw [HNN.out trivial]; exact hiN)⟩
      obtain ⟨ys0, hrow0⟩ := (HX.out.2.2.1.row i v hv).2
      obtain ⟨n, hn⟩ : ∃ n, ns i = n := ⟨_, rfl⟩
      rw [hn] at hrow0
      have hn5 : n ≤ 5000000 := by rw [← hn]; exact HNS.out i hiN
      obtain ⟨p, c, rfl⟩ := row_shape hrow0
      obtain ⟨gl, lcap, e0, hgl1, hgl2, hlc⟩ := row_at HX.out.2.1 (by omega)
      cases e0
      have cl := (hlc i (by omega)).trans hv
      have hit := fun W hW => itoa_any i (by omega) base W hW
      obtain ⟨nm, hnm⟩ : ∃ nm, nmOf i = nm := ⟨_, rfl⟩
      rw [hnm] at hit
      have HIT := hid hit
      have HR0 := hid hrow0
      have HV := hid hv
      have hP1 := HP.out.below HX.out.1
      have hbs := HX.out.1.size
      clear hit hrow0 hv hlc HL HF
      go_wp2_with (go_at_call 30; refine (HIT.out _ hP1).mono ?_; rintro e w1 ⟨rfl, b1⟩; have cl1 := cell_low cl b1 hgl2)
      go_loopw [26] (fun jv wr2 => ∃ (j : Nat) (ws : List ByteArray) (ys : List Value), jv = .int .i64 j ∧ j ≤ n ∧ ws.length = j ∧ Hid (wr2.ownsRow base 65 2 (.slice p n c) n (namedV nm ws ++ ys) ∧ Below base w1 wr2 ∧ ∀ b, (Value.slice p n c).ownBlock ≠ some b → wr2.heap[b]? = w1.heap[b]?)) (fun jv _ => n - (RowKit.intOf jv).toNat)
      case atStart => exact ⟨0, [], ys0, rfl, Nat.zero_le _, rfl, hid ⟨row_below HR0.out b1, Below.refl _ _, fun _ _ => rfl⟩⟩
      case round =>
        obtain ⟨j, ws, ys, rfl, hj, hws, HY⟩ := hrel
        have hlen := HY.out.1.1
        rw [List.length_append, namedV_len, hws] at hlen
        have hglp : (Value.slice p n c).ownBlock ≠ some gl := by
          have := rows_ne HX.out.2.1 HR0.out (by decide)
          rcases this with e | e
          · cases e
          · exact fun e2 => e (by rw [e2]; rfl)
        have hlb := HY.out.2.2 gl hglp
        by_cases hjn : j < n
        · obtain ⟨g, cap, e1, hg1, hg2, hc⟩ := row_at HY.out.1 (by omega)
          cases e1
          obtain ⟨y0, y1, ys2, rfl⟩ : ∃ y0 y1 ys2, ys = y0 :: y1 :: ys2 := by
            cases ys with
            | nil => simp at hlen; omega
            | cons y0 ys =>
              cases ys with
              | nil => simp at hlen; omega
              | cons y1 ys2 => exact ⟨y0, y1, ys2, rfl⟩
          have hnl := namedV_len nm ws
          have k0 : wr.cell? ⟨g, j * 2, none⟩ = some y0 := (hc (j * 2) (by omega)).trans (by rw [List.getElem?_append_right (by omega), hnl, hws, Nat.sub_self]; rfl)
          have k1 : wr.cell? ⟨g, j * 2 + 1, none⟩ = some y1 := (hc (j * 2 + 1) (by omega)).trans (by rw [List.getElem?_append_right (by omega), hnl, hws, Nat.add_sub_cancel_left]; rfl)
          have f0 := HY.out.1.frozenAt (j * 2)
          have f1 := HY.out.1.frozenAt (j * 2 + 1)
          have cl2 : wr.cell? ⟨gl, i, none⟩ = some (.slice (some ⟨g, 0, none⟩) n c) := by
            unfold World.cell? at cl1 ⊢
            rw [hlb]
            exact cl1
          have hst := ((HY.out.1.stored (j * 2) (.string nm)).1.stored (j * 2 + 1) (.string ⟨#[]⟩)).1
          rw [← hws, named_step, hws] at hst
          have hfr : ∀ b, (Value.slice (some ⟨g, 0, none⟩) n c).ownBlock ≠ some b → ((wr.setCell ⟨g, j * 2, none⟩ (.string nm)).setCell ⟨g, j * 2 + 1, none⟩ (.string ⟨#[]⟩)).heap[b]? = w1.heap[b]? := fun b hb2 => by
            have hne : b ≠ g := fun e => hb2 (by rw [e]; rfl)
            rw [heap_setCell_other _ _ _ _ hne, heap_setCell_other _ _ _ _ hne]
            exact HY.out.2.2 b hb2
          have hbe : Below base w1 ((wr.setCell ⟨g, j * 2, none⟩ (.string nm)).setCell ⟨g, j * 2 + 1, none⟩ (.string ⟨#[]⟩)) := (HY.out.2.1.setCell hg1 _).setCell hg1 _
          have HZ := hid (And.intro hst (And.intro hbe hfr))
          clear hst hbe hfr hlen hlb hglp hc hnl HY
          go_wp2
          go_roundw
          case rel => first | exact ⟨j + 1, ws ++ [⟨#[]⟩], ys2, rfl, by omega, by simp [hws], HZ⟩ | ((repeat apply Exists.intro); exact ⟨⟨j + 1, ws ++ [⟨#[]⟩], ys2, rfl, by omega, by simp [hws], HZ⟩, rfl⟩)
          case measure => simp [RowKit.intOf]; omega
        · obtain rfl : j = n := by omega
          obtain rfl : ys = [] := List.eq_nil_of_length_eq_zero (by omega)
          have hbw : Below base w wr := (HX.out.1.trans (b1.mono (Nat.le_trans hb hbs))).trans HY.out.2.1
          have hlrow : wr.ownsRow base 50 1 (.slice (some ⟨gl, 0, none⟩) N lc) N vs := row_of_block (row_below HX.out.2.1 b1) (fun g hg => by cases hg; exact hlb)
          have hfam : Fam wr base vs ns (i + 1) := ⟨fun k u hu => by
            by_cases hki : k = i
            · subst hki
              rw [HV.out] at hu
              obtain rfl := Option.some.inj hu
              have hr := HY.out.1
              rw [List.append_nil] at hr
              rw [hnm, hn]
              exact ⟨fun _ => ⟨ws, hr⟩, _, hr⟩
            · obtain ⟨f1, ys9, f2⟩ := HX.out.2.2.1.row k u hu
              have hkeep : ∀ g, u.ownBlock = some g → wr.heap[g]? = w1.heap[g]? := fun g hg => HY.out.2.2 g (HD.out k i u _ hu HV.out hki g hg)
              refine ⟨fun h => ?_, ys9, row_of_block (row_below f2 b1) hkeep⟩
              obtain ⟨ws9, f3⟩ := f1 (by omega)
              exact ⟨ws9, row_of_block (row_below f3 b1) hkeep⟩⟩
          have hkp := HX.out.2.2.2.trans ((KeepT.below b1).trans (KeepT.row (row_below HR0.out b1) (.inr (.inl rfl)) (fun k _ hne => HY.out.2.2 k hne)))
          have HZ := hid (And.intro hbw (And.intro hlrow (And.intro hfam hkp)))
          clear hbw hlrow hfam hkp hlen hlb hglp HY
          go_wp2
          go_roundw
          case rel => first | exact ⟨i + 1, rfl, by omega, HZ⟩ | ((repeat apply Exists.intro); exact ⟨⟨i + 1, rfl, by omega, HZ⟩, rfl⟩)
          case measure => simp [RowKit.intOf]; omega
    · have hT0 : Two w wr base (.slice lp N lc) N vs ns ss.length 0 (.slice none 0 0) [] := ⟨HX.out.1, HX.out.2.1, World.ownsRow_nil _ _ _ _, fun k v hk _ => (HX.out.2.2.1.row k v hk).1 (by
        have := (List.getElem?_eq_some_iff.1 hk).1
        rw [HNN.out trivial] at this
        omega), fun k v hk h => absurd h (Nat.not_lt_zero _), HX.out.2.2.2⟩
      have HT0 := hid hT0
      clear HL HF hT0 HX
      obtain ⟨li0, lhi, lhz0, lhz1, lhz2⟩ := info_parts info_list
      go_wp2_with fail
      go_loopw [5, 41] (fun lgv iv wr2 => ∃ (i : Nat) (us : List Value), iv = .int .i64 i ∧ i ≤ N ∧ Hid (Two w wr2 base (.slice lp N lc) N vs ns ss.length i lgv us)) (fun _ iv _ => N - (RowKit.intOf iv).toNat)
      case atStart => exact ⟨0, [], rfl, Nat.zero_le _, HT0⟩
      case round =>
        obtain ⟨i, us, rfl, hi, HT⟩ := hrel
        clear HT0
        by_cases hiN : i < N
        · obtain ⟨v, hv⟩ : ∃ v, vs[i]? = some v := ⟨_, List.getElem?_eq_getElem (by rw [HNN.out trivial]; exact hiN)⟩
          obtain ⟨ws, hrow⟩ := HT.out.hi i v hv (Nat.le_refl _)
          obtain ⟨n, hn⟩ : ∃ n, ns i = n := ⟨_, rfl⟩
          have hn5 : n ≤ 5000000 := by rw [← hn]; exact HNS.out i hiN
          rw [hn] at hrow
          obtain ⟨p, c, rfl⟩ := row_shape hrow
          obtain ⟨gl, lcap, e0, hgl1, hgl2, hlc⟩ := row_at HT.out.li (by omega)
          cases e0
          have cl := (hlc i (by omega)).trans hv
          have hit := fun W hW => itoa_any i (by omega) base W hW
          have HNM := hid (fun (_ : True) => (rfl : nmOf i = nmOf i))
          obtain ⟨nm, hnm⟩ : ∃ nm, nmOf i = nm := ⟨_, rfl⟩
          rw [hnm] at hit hrow
          have HEQ := hid (fun (_ : True) => hnm)
          have HIT := hid hit
          have HR0 := hid hrow
          have HV := hid hv
          have HN := hid (fun (_ : True) => hn)
          have hP1 := HP.out.below HT.out.be
          have hw1 := HW.out.below HT.out.be
          have hbs := HT.out.be.size
          obtain ⟨lgp, lgc, rfl⟩ := row_shape HT.out.lg
          have HW1 := hid hw1
          clear hit hrow hv hlc hn hnm hw1 HNM
          go_wp2_with (first
            | (go_at_call 30; refine (HIT.out _ hP1).mono ?_; rintro e w1 ⟨rfl, b1⟩; have cl1 := cell_low cl b1 hgl2; have hb1s := b1.size)
            | (go_at_call 31; refine (appended_any base (.slice p n c) n nm ws a mc ss _ (row_below HR0.out b1) (by omega) (by omega) (by omega) (HW1.out.below (b1.mono (by omega)))).mono ?_; rintro e w2 ⟨u, ws2, rfl, hG⟩; obtain ⟨up, uc, rfl⟩ := row_shape hG.own; have hlg2 := row_of_block (row_below HT.out.lg b1) (fun g e => hG.fr g ((row_below HT.out.lg b1).lt g e).2 (rows_ne2 (row_below HT.out.lg b1) (row_below HR0.out b1) (by decide) g e)); have hws2 := hG.size; have HGG := hid hG)
            | (at_builtin; refine wpList_append_own _ rfl (.tmp 53) (.tmp 55) 49 rfl w.heap.size 50 li0 (.slice none 0 0) 1 24 Tryz.underlying49 lhi lhz0 lhz1 lhz2 rfl (by decide) _ _ _ rfl (hlg2.alloc _) ⟨_, 0, none⟩ 1 1 [.slice up (n + 1 + ss.length) uc] rfl rfl (cells_newV _ _ _) (by simp [Value.oneCell']) (by unfold maxLen; omega) (by omega) (by simp; omega) ?_))
          intro v' w3 hown3 hgrow3 _
          have hnext := HT.out.next HD.out hb HLV.out HV.out (HN.out trivial) rfl b1 (by rw [HEQ.out trivial]; exact HGG.out) hown3 hgrow3
          have HZ := hid hnext
          clear hnext hown3 hgrow3 HGG hlg2 hG b1 cl cl1
          go_wp2
          go_roundw
          case rel => first | exact ⟨i + 1, _, rfl, by omega, HZ⟩ | ((repeat apply Exists.intro); exact ⟨⟨i + 1, _, rfl, by omega, HZ⟩, rfl⟩)
          case measure => simp [RowKit.intOf]; omega
        · obtain rfl : i = N := by omega
          have hul : us.length = i := by have := HT.out.lg.1; omega
          have hall : ∀ (k : Nat) (v : Value), vs[k]? = some v → NamedR wr v (ns k) (nmOf k) ∧ ∃ u, us[k]? = some u ∧ NamedR wr u (ns k + 1 + ss.length) (nmOf k) := fun k v hk => by
            have hki : k < i := by
              have := (List.getElem?_eq_some_iff.1 hk).1
              rw [HNN.out trivial] at this
              exact this
            obtain ⟨n1, u, hu, n2, _⟩ := HT.out.lo k v hk hki
            exact ⟨n1, u, hu, n2⟩
          have hlg := row_lo2 HT.out.lg hb
          obtain ⟨lgp, lgc, rfl⟩ := row_shape hlg
          have H3 : Hid (Below base w wr ∧ wr.ownsRow base 50 1 (.slice lp i lc) i vs ∧ wr.ownsRow base 50 1 (.slice lgp i lgc) i us ∧ (∀ (k : Nat) (v : Value), vs[k]? = some v → NamedR wr v (ns k) (nmOf k) ∧ ∃ u, us[k]? = some u ∧ NamedR wr u (ns k + 1 + ss.length) (nmOf k)) ∧ KeepT w wr) := ⟨HT.out.be, HT.out.li, hlg, hall, HT.out.kp⟩
          clear HT hall hlg
          go_wp2_with fail
          go_loopw [60] (fun iv wr2 => ∃ k : Nat, iv = .int .i64 k ∧ k ≤ i ∧ Hid (Below base w wr2 ∧ wr2.ownsRow base 50 1 (.slice lp i lc) i vs ∧ wr2.ownsRow base 50 1 (.slice lgp i lgc) i us ∧ (∀ (k : Nat) (v : Value), vs[k]? = some v → NamedR wr2 v (ns k) (nmOf k) ∧ ∃ u, us[k]? = some u ∧ NamedR wr2 u (ns k + 1 + ss.length) (nmOf k)) ∧ KeepT w wr2)) (fun iv _ => i - (RowKit.intOf iv).toNat)
          case atStart => exact ⟨0, rfl, Nat.zero_le _, H3⟩
          case round =>
            obtain ⟨k, rfl, hk, HT⟩ := hrel
            clear H3
            by_cases hkN : k < i
            · obtain ⟨v, hv⟩ : ∃ v, vs[k]? = some v := ⟨_, List.getElem?_eq_getElem (by rw [HNN.out trivial]; exact hkN)⟩
              obtain ⟨n1, u, hu, n2⟩ := HT.out.2.2.2.1 k v hv
              obtain ⟨n, hn⟩ : ∃ n, ns k = n := ⟨_, rfl⟩
              have hn5 : n ≤ 5000000 := by rw [← hn]; exact HNS.out k hkN
              rw [hn] at n1 n2
              obtain ⟨K, hK⟩ : ∃ K, n + 1 + ss.length = K := ⟨_, rfl⟩
              rw [hK] at n2
              have q0 : ((K : Int) != (n : Int) + (ss.length : Int) + 1) = false := by rw [bne, beq_iff_eq.2 (by omega)]; rfl
              have hit := fun W hW => itoa_any k (by omega) base W hW
              obtain ⟨nm, hnm⟩ : ∃ nm, nmOf k = nm := ⟨_, rfl⟩
              rw [hnm] at hit n1 n2
              have m1 := n1
              have m2 := n2
              obtain ⟨_, vp, vc, rfl, _⟩ := m1
              obtain ⟨_, up, uc, rfl, _⟩ := m2
              obtain ⟨gl, lcap, e0, hgl1, hgl2, hlc⟩ := row_at HT.out.2.1 (by omega)
              cases e0
              obtain ⟨gm, mcap, e1, hgm1, hgm2, hmc⟩ := row_at HT.out.2.2.1 (by omega)
              cases e1
              have cl := (hlc k (by omega)).trans hv
              have cm := (hmc k (by omega)).trans hu
              have HIT := hid hit
              have N1 := hid n1
              have N2 := hid n2
              have hP1 := HP.out.below HT.out.1
              clear hit hlc hmc n1 n2 hv hu hn hnm hK
              go_wp2_with (go_at_call 30; refine (HIT.out _ hP1).mono ?_; rintro e w1 ⟨rfl, b1⟩; have cl1 := cell_low cl b1 hgl2; have cm1 := cell_low cm b1 hgm2; have hA1 := hid (fun q => (allNamed_any (.slice vp n vc) n nm (w1.drewN q) ((N1.out.below b1).kept (fun _ _ _ => rfl))).mono (fun _ _ (h : _ ∧ _) => And.intro h.1 (⟨0, h.2⟩ : ∃ q', _ = (w1.drewN q).drewN q'))); have hA2 := hid (fun q => (allNamed_any (.slice up K uc) K nm (w1.drewN q) ((N2.out.below b1).kept (fun _ _ _ => rfl))).mono (fun _ _ (h : _ ∧ _) => And.intro h.1 (⟨0, h.2⟩ : ∃ q', _ = (w1.drewN q).drewN q'))); clear cl cm)
              go_quiet (first | (go_at_call 32; first | (with_reducible refine Calls.quiet_of (hA1.out _)) | (with_reducible refine Calls.quiet_of (hA2.out _))))
              have hkeep : Below base wr (w1.drewN nq) := below_drewN (b1.mono (Nat.le_trans hb HT.out.1.size)) nq
              have HZ : Hid (Below base w (w1.drewN nq) ∧ (w1.drewN nq).ownsRow base 50 1 (.slice (some ⟨gl, 0, none⟩) i lc) i vs ∧ (w1.drewN nq).ownsRow base 50 1 (.slice (some ⟨gm, 0, none⟩) i lgc) i us ∧ (∀ (k : Nat) (v : Value), vs[k]? = some v → NamedR (w1.drewN nq) v (ns k) (nmOf k) ∧ ∃ u, us[k]? = some u ∧ NamedR (w1.drewN nq) u (ns k + 1 + ss.length) (nmOf k)) ∧ KeepT w (w1.drewN nq)) := by
                refine ⟨HT.out.1.trans hkeep, row_of_block (row_below HT.out.2.1 b1) (fun _ _ => rfl), row_of_block (row_below HT.out.2.2.1 b1) (fun _ _ => rfl), fun k v hv => ?_, fun b cs T h1 h2 h3 h4 => (HT.out.2.2.2.2.trans (KeepT.below b1)) b cs T h1 h2 h3 h4⟩
                obtain ⟨n1, u, hu, n2⟩ := HT.out.2.2.2.1 k v hv
                exact ⟨(n1.below b1).kept (fun _ _ _ => rfl), u, hu, (n2.below b1).kept (fun _ _ _ => rfl)⟩
              clear hkeep hA1 hA2 b1 cl1 cm1 HT N1 N2
              go_wp2
              go_roundw
              case rel => first | exact ⟨k + 1, rfl, by omega, HZ⟩ | ((repeat apply Exists.intro); exact ⟨⟨k + 1, rfl, by omega, HZ⟩, rfl⟩)
              case measure => simp [RowKit.intOf]; omega
            · go_wp2
              go_ret
              exact ⟨rfl, HT.out.1, HT.out.2.2.2.2⟩
end Go.Proofs.YtndglhflbenloaaGreatDoor

/-
  The statements' freshEvents: its walk.
-/
namespace Go.Proofs.YtndglhflbenloaaGreatDoor
open Go.RowKit Go.Lib Own

/-- the lists of attributes of events' cells -/
def colA : List Value → List Value
  | _ :: _ :: a :: _ :: r => a :: colA r
  | _ => []
theorem colA_get {W : World} {base : Nat} : ∀ (xs : List Value) (l : List Ev) (k : Nat), EvsAt W base xs l → k < l.length → (colA xs)[k]? = xs[k * 4 + 2]?
  | [], [], k, _, h => by simp at h
  | _ :: _ :: a :: _ :: r, e :: l, 0, _, _ => rfl
  | x0 :: x1 :: a :: x3 :: r, e :: l, k + 1, ⟨_, h2⟩, h => by
    have := colA_get r l k h2 (by simpa using h)
    show (a :: colA r)[k + 1]? = _
    rw [List.getElem?_cons_succ, this, show (k + 1) * 4 + 2 = k * 4 + 2 + 4 by omega]
    rfl
  | [], _ :: _, _, h, _ => h.elim
  | [_], _, _, h, _ => by cases ‹List Ev› <;> exact h.elim
  | [_, _], _, _, h, _ => by cases ‹List Ev› <;> exact h.elim
  | [_, _, _], _, _, h, _ => by cases ‹List Ev› <;> exact h.elim
  | _ :: _ :: _ :: _ :: _, [], _, h, _ => h.elim
theorem colA_len {W : World} {base : Nat} : ∀ (xs : List Value) (l : List Ev), EvsAt W base xs l → (colA xs).length = l.length
  | [], [], _ => rfl
  | _ :: _ :: a :: _ :: r, e :: l, ⟨_, h2⟩ => by
    have := colA_len r l h2
    show (a :: colA r).length = _
    simp [this]
  | [], _ :: _, h => h.elim
  | [_], _, h => by cases ‹List Ev› <;> exact h.elim
  | [_, _], _, h => by cases ‹List Ev› <;> exact h.elim
  | [_, _, _], _, h => by cases ‹List Ev› <;> exact h.elim
  | _ :: _ :: _ :: _ :: _, [], h => h.elim
theorem notIn_col {g : Nat} : ∀ (xs : List Value), NotIn g xs → ∀ (k : Nat) (v : Value), (colA xs)[k]? = some v → v.ownBlock ≠ some g
  | _ :: _ :: a :: _ :: r, h, 0, v, hv => by
    have : a = v := by simpa [colA] using hv
    rw [← this]
    exact h.1
  | _ :: _ :: a :: _ :: r, h, k + 1, v, hv => notIn_col r h.2 k v (by simpa [colA] using hv)
  | [], _, k, v, hv => by simp [colA] at hv
  | [_], _, k, v, hv => by simp [colA] at hv
  | [_, _], _, k, v, hv => by simp [colA] at hv
  | [_, _, _], _, k, v, hv => by simp [colA] at hv
theorem dist_of : ∀ (xs : List Value), Apart xs → Dist (colA xs)
  | _ :: _ :: a :: _ :: r, h => by
    have ih := dist_of r h.2
    intro j k v u hj hk hne g hg
    cases j with
    | zero =>
      cases k with
      | zero => exact absurd rfl hne
      | succ k =>
        have e1 : a = v := by simpa [colA] using hj
        rw [← e1] at hg
        exact notIn_col r (h.1 g hg) k u (by simpa [colA] using hk)
    | succ j =>
      cases k with
      | zero =>
        have e1 : a = u := by simpa [colA] using hk
        intro e2
        rw [← e1] at e2
        exact notIn_col r (h.1 g e2) j v (by simpa [colA] using hj) hg
      | succ k => exact ih j k v u (by simpa [colA] using hj) (by simpa [colA] using hk) (by omega) g hg
  | [], _ => fun j k v u hj => by simp [colA] at hj
  | [_], _ => fun j k v u hj => by simp [colA] at hj
  | [_, _], _ => fun j k v u hj => by simp [colA] at hj
  | [_, _, _], _ => fun j k v u hj => by simp [colA] at hj

theorem four_set {sc r : List Value} {i : Nat} {k n a t k' n' a' t' : Value} (h : sc.length = i * 4) : ((((sc ++ k :: n :: a :: t :: r).set (i * 4) k').set (i * 4 + 1) n').set (i * 4 + 2) a').set (i * 4 + 3) t' = sc ++ [k', n', a', t'] ++ r := by
  rw [← h, List.set_append, if_neg (by omega), Nat.sub_self, List.set_cons_zero, List.set_append, if_neg (by omega), Nat.add_sub_cancel_left, List.set_append, if_neg (by omega), Nat.add_sub_cancel_left, List.set_append, if_neg (by omega), Nat.add_sub_cancel_left]
  simp
/-- the rows of the attributes -/
def Rows4 (W : World) (base : Nat) (J : List Ev) (vs : List Value) : Prop := ∀ (k : Nat) (e : Ev) (v : Value), J[k]? = some e → vs[k]? = some v → W.ownsRow base 65 2 v (evA e).length (attrsV (evA e))
theorem rows4_of {W : World} {base : Nat} {xs : List Value} {J : List Ev} (h : EvsAt W base xs J) : Rows4 W base J (colA xs) := by
  intro k e v he hv
  have hk : k < J.length := (List.getElem?_eq_some_iff.1 he).1
  rw [colA_get xs J k h hk] at hv
  obtain ⟨a, _, _, h3, _, h5, _⟩ := evs_get xs J k e h he
  rw [h3] at hv
  obtain rfl := Option.some.inj hv
  exact h5
theorem Rows4.mono {W W' : World} {base : Nat} {J : List Ev} {vs : List Value} (h : Rows4 W base J vs) (hr : ∀ a n ys, W.ownsRow base 65 2 a n ys → W'.ownsRow base 65 2 a n ys) : Rows4 W' base J vs :=
  fun k e v he hv => hr _ _ _ (h k e v he hv)

/-- what freshEvents holds on its way -/
structure Frs (w W : World) (base : Nat) (J : List Ev) (vs : List Value) (gv : Value) (n : Nat) (cs : List Value) (lgv : Value) (i : Nat) : Prop where
  be : Below base w W
  got : W.ownsRow base 52 4 gv n cs
  lg : W.ownsRow base 50 1 lgv i (vs.take i)
  rows : Rows4 W base J vs
  kp : KeepT w W
/-- a list more -/
theorem Frs.list {w W w2 : World} {base : Nat} {J : List Ev} {vs : List Value} {gv lgv lgv2 v : Value} {n i : Nat} {cs : List Value} {X : Obj} (h : Frs w W base J vs gv n cs lgv i) (hb : base ≤ w.heap.size) (hv : vs[i]? = some v)
    (h2 : w2.ownsRow base 50 1 lgv2 (i + 1) (vs.take i ++ [v])) (hg : (W.alloc X).grownBy w2 lgv.ownBlock) : Frs w w2 base J vs gv n cs lgv2 (i + 1) := by
  have hbs := h.be.size
  have hlg := h.lg.alloc X
  refine ⟨h.be.trans (((Below.refl base W).alloc (by omega) X).grown hg (by simp; omega) (fun k hk => (hlg.lt k hk).1)), (h.got.alloc X).kept hg (rows_ne (h.got.alloc X) hlg (by decide)), ?_, h.rows.mono (fun a n ys hr => (hr.alloc X).kept hg (rows_ne (hr.alloc X) hlg (by decide))), h.kp.trans (KeepT.row h.lg (.inr (.inr rfl)) (fun k hk hne => (hg.block k (by simp; omega) (fun e => hne e.symm)).trans (Go.Lib.alloc_old W X k hk)))⟩
  rw [List.take_add_one, hv]
  exact h2
/-- an event is written over -/
theorem Frs.over {w W : World} {base g n c : Nat} {J : List Ev} {vs : List Value} {lgv : Value} {i l : Nat} {sc r : List Value} {k m a t k' m' a' t' : Value} (h : Frs w W base J vs (.slice (some ⟨g, 0, none⟩) n c) n (sc ++ k :: m :: a :: t :: r) lgv l) (hsc : sc.length = i * 4) (hgb : base ≤ g) :
    Frs w ((((W.setCell ⟨g, i * 4, none⟩ k').setCell ⟨g, i * 4 + 1, none⟩ m').setCell ⟨g, i * 4 + 2, none⟩ a').setCell ⟨g, i * 4 + 3, none⟩ t') base J vs (.slice (some ⟨g, 0, none⟩) n c) n (sc ++ [k', m', a', t'] ++ r) lgv l := by
  have h1 := ((((((h.got.stored (i * 4) k').1.stored (i * 4 + 1) m').1.stored (i * 4 + 2) a').1.stored (i * 4 + 3) t').1))
  rw [four_set hsc] at h1
  obtain ⟨cur, hcur⟩ : ∃ cur, W.heap[g]? = some (.cells cur 52 (0, 0)) := by
    rcases h.got.2 with ⟨e, _⟩ | ⟨g2, cap2, cur, e, _, hh, _⟩
    · cases e
    · cases e
      exact ⟨cur, hh⟩
  have hk : ∀ k2, k2 ≠ g → ((((W.setCell ⟨g, i * 4, none⟩ k').setCell ⟨g, i * 4 + 1, none⟩ m').setCell ⟨g, i * 4 + 2, none⟩ a').setCell ⟨g, i * 4 + 3, none⟩ t').heap[k2]? = W.heap[k2]? := fun k2 hne => by
    rw [heap_setCell_other _ _ _ _ hne, heap_setCell_other _ _ _ _ hne, heap_setCell_other _ _ _ _ hne, heap_setCell_other _ _ _ _ hne]
  exact ⟨(((h.be.setCell hgb _).setCell hgb _).setCell hgb _).setCell hgb _, h1, row_just h.lg hcur (by decide) hk, h.rows.mono (fun a n ys hr => row_just hr hcur (by decide) hk), h.kp.trans (KeepT.row h.got (.inl rfl) (fun k2 _ hne => hk k2 (fun e => hne (by rw [e]; rfl))))⟩
/-- the answer grows -/
theorem Frs.more {w W w2 : World} {base : Nat} {J : List Ev} {vs : List Value} {gv gv2 lgv : Value} {n i : Nat} {cs news : List Value} {X : Obj} (h : Frs w W base J vs gv n cs lgv i) (hb : base ≤ w.heap.size)
    (h2 : w2.ownsRow base 52 4 gv2 (n + 1) (cs ++ news)) (hg : (W.alloc X).grownBy w2 gv.ownBlock) : Frs w w2 base J vs gv2 (n + 1) (cs ++ news) lgv i := by
  have hbs := h.be.size
  have hgt := h.got.alloc X
  exact ⟨h.be.trans (((Below.refl base W).alloc (by omega) X).grown hg (by simp; omega) (fun k hk => (hgt.lt k hk).1)), h2, (h.lg.alloc X).kept hg (rows_ne (h.lg.alloc X) hgt (by decide)), h.rows.mono (fun a n ys hr => (hr.alloc X).kept hg (rows_ne (hr.alloc X) hgt (by decide))), h.kp.trans (KeepT.row h.got (.inl rfl) (fun k hk hne => (hg.block k (by simp; omega) (fun e => hne e.symm)).trans (Go.Lib.alloc_old W X k hk)))⟩

theorem drop_four {xs : List Value} {N i : Nat} (h : xs.length = N * 4) (hi : i < N) : ∃ k n a t, xs.drop (i * 4) = k :: n :: a :: t :: xs.drop ((i + 1) * 4) ∧ xs[i * 4 + 2]? = some a := by
  have h0 : i * 4 < xs.length := by omega
  have h1 : i * 4 + 1 < xs.length := by omega
  have h2 : i * 4 + 1 + 1 < xs.length := by omega
  have h3 : i * 4 + 1 + 1 + 1 < xs.length := by omega
  refine ⟨xs[i * 4], xs[i * 4 + 1], xs[i * 4 + 1 + 1], xs[i * 4 + 1 + 1 + 1], ?_, List.getElem?_eq_getElem h2⟩
  rw [List.drop_eq_getElem_cons h0, List.drop_eq_getElem_cons h1, List.drop_eq_getElem_cons h2, List.drop_eq_getElem_cons h3, show i * 4 + 1 + 1 + 1 + 1 = (i + 1) * 4 by omega]
theorem ev4_at {sc r : List Value} {i : Nat} {k n a t : Value} (h : sc.length = i * 4) : (sc ++ k :: n :: a :: t :: r)[i * 4]? = some k ∧ (sc ++ k :: n :: a :: t :: r)[i * 4 + 1]? = some n ∧ (sc ++ k :: n :: a :: t :: r)[i * 4 + 2]? = some a ∧ (sc ++ k :: n :: a :: t :: r)[i * 4 + 3]? = some t := by
  rw [← h]
  refine ⟨?_, ?_, ?_, ?_⟩
  · rw [List.getElem?_append_right (by omega), Nat.sub_self]; rfl
  · rw [List.getElem?_append_right (by omega), Nat.add_sub_cancel_left]; rfl
  · rw [List.getElem?_append_right (by omega), Nat.add_sub_cancel_left]; rfl
  · rw [List.getElem?_append_right (by omega), Nat.add_sub_cancel_left]; rfl

set_option maxHeartbeats 8000000 in
set_option maxRecDepth 100000 in
theorem fresh_any (base B2 : Nat) (gv dv : Value) (xs ys : List Value) (J : List Ev) (a : Option Addr) (mc : Nat) (ss : List ByteArray) (w : World) (hg : w.ownsRow base 52 4 gv J.length xs) (he : EvsAt w base xs J) (hap : Apart xs) (hd : w.ownsRow B2 52 4 dv J.length ys) (hde : EvsAt w B2 ys J)
    (hJ : J.length ≤ 5000000) (hA : ∀ e ∈ J, (evA e).length ≤ 5000000) (hb : base ≤ w.heap.size) (hs : ss.length ≤ 5000000) (hw : WordsAt w base a ss) (hP : PowB base w) :
    Calls Tryz.prog 6 #[gv, dv, .slice a ss.length mc] w fun e w' => e = .returned (.bool true) ∧ Below base w w' ∧ KeepT w w' := by
  have hsame := sameEvents_any base B2 gv dv xs ys J w hg he hd hde
  obtain ⟨p, c, rfl⟩ := row_shape hg
  obtain ⟨p2, c2, rfl⟩ := row_shape hd
  obtain ⟨vs, hvs⟩ : ∃ vs, colA xs = vs := ⟨_, rfl⟩
  have hvl : vs.length = J.length := by rw [← hvs]; exact colA_len xs J he
  have hcol : ∀ k, k < J.length → vs[k]? = xs[k * 4 + 2]? := fun k hk => by rw [← hvs]; exact colA_get xs J k he hk
  have hD : Dist vs := by rw [← hvs]; exact dist_of xs hap
  have hR4 : Rows4 w base J vs := by rw [← hvs]; exact rows4_of he
  have hxl : xs.length = J.length * 4 := evs_len xs J he
  have hns : ∀ k, k < J.length → ((J[k]?.map fun e => (evA e).length).getD 0) ≤ 5000000 := fun k hk => by
    rw [List.getElem?_eq_getElem hk]
    exact hA _ (List.getElem_mem hk)
  have hfam : ∀ W, Rows4 W base J vs → Fam W base vs (fun k => (J[k]?.map fun e => (evA e).length).getD 0) 0 := fun W h => ⟨fun k v hk => by
    have hkl : k < J.length := by rw [← hvl]; exact (List.getElem?_eq_some_iff.1 hk).1
    refine ⟨fun h => absurd h (Nat.not_lt_zero _), attrsV (evA J[k]), ?_⟩
    have := h k J[k] v (List.getElem?_eq_getElem hkl) hk
    simp only [List.getElem?_eq_getElem hkl, Option.map_some, Option.getD_some]
    exact this⟩
  have hone : ∀ k, k < J.length → ∀ W, Rows4 W base J vs → ∀ v, vs[k]? = some v → ∃ p n c, v = .slice p n c := fun k hk W h v hv => by
    obtain ⟨p, c, e⟩ := row_shape (h k J[k] v (List.getElem?_eq_getElem hk) hv)
    exact ⟨p, _, c, e⟩
  obtain ⟨N, hN⟩ : ∃ N, J.length = N := ⟨_, rfl⟩
  rw [hN] at hsame hg hd hJ hvl hcol hxl hns hone ⊢
  have hfin : ∀ lv W, Frs w W base J vs (.slice p N c) N xs lv N → True := fun _ _ _ => trivial
  have hend : ∀ (lp : Option Addr) (lc : Nat) (gv2 : Value) (n2 : Nat) (cs2 : List Value) (W : World), Frs w W base J vs gv2 n2 cs2 (.slice lp N lc) N → Calls Tryz.prog 20 #[.slice lp N lc, .slice a ss.length mc] W fun e w' => e = .returned (.bool true) ∧ Below base w w' ∧ KeepT w w' := fun lp lc gv2 n2 cs2 W h => by
    have hl := h.lg
    have hbs := h.be.size
    rw [List.take_of_length_le (by omega)] at hl
    have := apart_any base (.slice lp N lc) vs (fun k => (J[k]?.map fun e => (evA e).length).getD 0) a mc ss W (by rw [hvl]; exact hl) (hfam W h.rows) hD (by rw [hvl]; exact hns) (by omega) (by omega) hs (hw.below h.be) (hP.below h.be)
    exact this.mono fun e w' h2 => ⟨h2.1, h.be.trans h2.2.1, h.kp.trans h2.2.2⟩
  have H0 : ∀ nd, Frs w (w.drewN nd) base J vs (.slice p N c) N xs (.slice none 0 0) 0 := fun nd => ⟨below_drewN (Below.refl base w) nd, hg, World.ownsRow_nil _ _ _ _, hR4, KeepT.refl _⟩
  obtain ⟨li0, lhi, lhz0, lhz1, lhz2⟩ := info_parts info_list
  obtain ⟨ei0, ehi, ehz0, ehz1, ehz2⟩ := info_parts info_event
  have HS := hid hsame
  have H0 := hid H0
  have HEND := hid hend
  have HONE := hid hone
  have HCOL := hid hcol
  have HXL := hid (fun (_ : True) => hxl)
  have HVL := hid (fun (_ : True) => hvl)
  have HW := hid hw
  clear hsame hend hone hcol hxl hvl hvs hg hd he hde hap hD hR4 hns hfam hfin hN hA hw hP
  go_enter Tryz.func6, Tryz.ntmps6
  go_wp2_with (go_at_call 19; refine HS.out.mono ?_; rintro e w1 ⟨rfl, nd, rfl⟩)
  go_loopw [7, 16] (fun lgv iv wr => ∃ (i : Nat) (sc r : List Value), iv = .int .i64 i ∧ i ≤ N ∧ Hid (Frs w wr base J vs (.slice p N c) N (sc ++ r) lgv i ∧ sc.length = i * 4 ∧ r = xs.drop (i * 4))) (fun _ iv _ => N - (RowKit.intOf iv).toNat)
  case atStart => exact ⟨0, [], xs, rfl, Nat.zero_le _, hid ⟨H0.out nd, rfl, rfl⟩⟩
  case round =>
    obtain ⟨i, sc, r, rfl, hi, HX⟩ := hrel
    obtain ⟨lgp, lgc, rfl⟩ := row_shape HX.out.1.lg
    by_cases hiN : i < N
    · obtain ⟨k0, n0, a0, t0, hr4, ha0⟩ := drop_four (HXL.out trivial) hiN
      have hv := HCOL.out i hiN
      rw [ha0] at hv
      obtain ⟨ap, an, ac, rfl⟩ := HONE.out i hiN _ HX.out.1.rows _ hv
      have hX1 := HX.out.1
      rw [HX.out.2.2, hr4] at hX1
      have hX2 := HX.out.2.1
      obtain ⟨g, cap, e0, hg1, hg2, hgc⟩ := row_at hX1.got (by omega)
      cases e0
      obtain ⟨q0, q1, q2, q3⟩ := ev4_at (r := xs.drop ((i + 1) * 4)) (k := k0) (n := n0) (a := .slice ap an ac) (t := t0) hX2
      have c2 := (hgc (i * 4 + 2) (by omega)).trans q2
      have hlg := hX1.lg
      have hbs := hX1.be.size
      have HX1 := hid hX1
      have HX2 := hid (fun (_ : True) => hX2)
      have HV := hid hv
      have HQ := hid (And.intro q0 (And.intro q1 (And.intro q2 q3)))
      clear hX1 hX2 hv hgc q0 q1 q2 q3 hr4 ha0 HX
      go_wp2_with (at_builtin; refine wpList_append_own _ rfl (.tmp 19) (.tmp 25) 49 rfl base 50 li0 (.slice none 0 0) 1 24 Tryz.underlying49 lhi lhz0 lhz1 lhz2 rfl (by decide) _ _ _ rfl (hlg.alloc _) ⟨_, 0, none⟩ 1 1 [.slice ap an ac] rfl rfl (cells_newV _ _ _) (by simp [Value.oneCell']) (by unfold maxLen; omega) (by omega) (by simp; omega) ?_)
      intro v' w2 hown2 hgrow2 _
      have F2 := HX1.out.list hb HV.out hown2 hgrow2
      obtain ⟨g', cap', e1, hg1', hg2', hgc⟩ := row_at F2.got (by omega)
      cases e1
      obtain ⟨q0, q1, q2, q3⟩ := HQ.out
      have k0 := (hgc (i * 4) (by omega)).trans q0
      have k1 := (hgc (i * 4 + 1) (by omega)).trans q1
      have k2 := (hgc (i * 4 + 2) (by omega)).trans q2
      have k3 := (hgc (i * 4 + 3) (by omega)).trans q3
      have f0 := F2.got.frozenAt (i * 4)
      have f1 := F2.got.frozenAt (i * 4 + 1)
      have f2 := F2.got.frozenAt (i * 4 + 2)
      have f3 := F2.got.frozenAt (i * 4 + 3)
      have hov := F2.over (k' := .int .i64 0) (m' := .string ⟨#[115, 99, 114, 97, 119, 108]⟩) (a' := .slice none 0 0) (t' := .string ⟨#[]⟩) (HX2.out trivial) hg1'
      have hsl : (sc ++ [Value.int .i64 0, .string ⟨#[115, 99, 114, 97, 119, 108]⟩, .slice none 0 0, .string ⟨#[]⟩]).length = (i + 1) * 4 := by
        rw [List.length_append, HX2.out trivial]
        simp
        omega
      have HZ := hid (And.intro hov (And.intro hsl (rfl : xs.drop ((i + 1) * 4) = xs.drop ((i + 1) * 4))))
      clear hov hsl hown2 hgrow2 F2 hgc q0 q1 q2 q3 HX1 HX2 HQ HV hlg
      go_wp2
      go_roundw
      case rel => first | exact ⟨i + 1, _, _, rfl, by omega, HZ⟩ | ((repeat apply Exists.intro); exact ⟨⟨i + 1, _, _, rfl, by omega, HZ⟩, rfl⟩)
      case measure => simp [RowKit.intOf]; omega
    · obtain rfl : i = N := by omega
      have hX1 := HX.out.1
      have hgt := hX1.got
      have hbs := hX1.be.size
      obtain ⟨cs0, hcs0⟩ : ∃ cs0, sc ++ r = cs0 := ⟨_, rfl⟩
      rw [hcs0] at hX1 hgt
      have HX1 := hid hX1
      clear hX1 hcs0 HX
      go_wp2_with (at_builtin; refine wpList_append_own _ rfl (.tmp 32) (.tmp 34) 25 rfl base 52 ei0 (.agg #[.int .i64 0, .string ⟨#[]⟩, .slice none 0 0, .string ⟨#[]⟩]) 4 64 Tryz.underlying25 ehi ehz0 ehz1 ehz2 rfl (by decide) _ _ _ rfl (hgt.alloc _) ⟨_, 0, none⟩ 1 1 [.int .i64 0, .string ⟨#[115, 99, 114, 97, 119, 108]⟩, .slice none 0 0, .string ⟨#[]⟩] rfl rfl (cells_newV _ _ _) (by simp [Value.oneCell']) (by unfold maxLen; omega) (by omega) (by simp; omega) ?_)
      intro v' w2 hown2 hgrow2 _
      have F2 := hid (HX1.out.more hb hown2 hgrow2)
      clear hown2 hgrow2 HX1 hgt
      go_wp2_with fail
      go_loopw [0, 38] (fun gv2 iv wr => ∃ (k : Nat) (cs2 : List Value), iv = .int .i64 k ∧ k ≤ ss.length ∧ Hid (Frs w wr base J vs gv2 (i + 1 + k) cs2 (.slice lgp i lgc) i)) (fun _ iv _ => ss.length - (RowKit.intOf iv).toNat)
      case atStart => exact ⟨0, _, rfl, Nat.zero_le _, F2⟩
      case round =>
        obtain ⟨k, cs2, rfl, hk, HF⟩ := hrel
        clear F2
        obtain ⟨gp, gc, rfl⟩ := row_shape HF.out.got
        by_cases hkl : k < ss.length
        · obtain ⟨b, o, rfl, hb2, hc⟩ := HW.out.at_ k hkl
          have hc2 := cell_low hc HF.out.be hb2
          obtain ⟨x, hx⟩ : ∃ x, ss.getD k ByteArray.empty = x := ⟨_, rfl⟩
          rw [hx] at hc2
          have hgt := HF.out.got
          have hbs := HF.out.be.size
          clear hc hx
          go_wp2_with (at_builtin; refine wpList_append_own _ rfl (.tmp 41) (.tmp 47) 25 rfl base 52 ei0 (.agg #[.int .i64 0, .string ⟨#[]⟩, .slice none 0 0, .string ⟨#[]⟩]) 4 64 Tryz.underlying25 ehi ehz0 ehz1 ehz2 rfl (by decide) _ _ _ rfl (hgt.alloc _) ⟨_, 0, none⟩ 1 1 [.int .i64 0, .string x, .slice none 0 0, .string ⟨#[]⟩] rfl rfl (cells_newV _ _ _) (by simp [Value.oneCell']) (by unfold maxLen; omega) (by omega) (by simp; omega) ?_)
          intro v3 w3 hown3 hgrow3 _
          have F3 := hid (HF.out.more hb hown3 hgrow3)
          clear hown3 hgrow3 HF hgt
          go_wp2
          go_roundw
          case rel => first | exact ⟨k + 1, _, rfl, by omega, F3⟩ | ((repeat apply Exists.intro); exact ⟨⟨k + 1, _, rfl, by omega, F3⟩, rfl⟩)
          case measure => simp [RowKit.intOf]; omega
        · go_wp2_with (go_at_call 20; refine (HEND.out _ _ _ _ _ _ HF.out).mono ?_; rintro e w4 ⟨rfl, b4, k4⟩)
          go_ret
          exact ⟨rfl, b4, k4⟩
end Go.Proofs.YtndglhflbenloaaGreatDoor

/-
  The statement on Feed, Finish and Lex: its walk.
-/
namespace Go.Proofs.YtndglhflbenloaaGreatDoor
open Go.RowKit Go.Lib Own

theorem fresh_two {w W2 : World} {B1 B2 : Nat} {ev ev2 : Value} {xs ys : List Value} {J : List Ev} {a : Option Addr} {mc : Nat} {ss : List ByteArray} (hB1 : w.heap.size ≤ B1) (r1 : W2.ownsRow B1 52 4 ev J.length xs) (e1 : EvsAt W2 B1 xs J) (hap : Apart xs)
    (r2 : W2.ownsRow B2 52 4 ev2 J.length ys) (e2 : EvsAt W2 B2 ys J) (hF : FewE J) (hbe : Below w.heap.size w W2) (hs : ss.length ≤ 5000000) (hw : WordsAt w w.heap.size a ss) (hP : PowB w.heap.size w) :
    Calls Tryz.prog 6 #[ev, ev2, .slice a ss.length mc] W2 fun e w' => e = .returned (.bool true) ∧ Below w.heap.size W2 w' ∧ KeepT W2 w' :=
  fresh_any w.heap.size B2 ev ev2 xs ys J a mc ss W2 (row_low r1 hB1) (evs_low hB1 _ _ e1) hap r2 e2 hF.1 hF.2 hbe.size hs (hw.below hbe) (hP.below hbe)
/-- the three boxes of states -/
structure Held3 (w W : World) (C5 CN : Array Value) (b9 b11 : Nat) : Prop where
  be : Below w.heap.size w W
  h5 : W.heap[w.heap.size]? = some (.cells C5 23 (0, 0))
  h9 : W.heap[b9]? = some (.cells CN 23 (0, 0))
  h11 : W.heap[b11]? = some (.cells CN 23 (0, 0))
theorem Held3.on {w W W' : World} {C5 CN : Array Value} {b9 b11 : Nat} (h : Held3 w W C5 CN b9 b11) (hb : Below W.heap.size W W') : Held3 w W' C5 CN b9 b11 :=
  ⟨h.be.trans (hb.mono h.be.size), (hb.block _ (block_lt h.h5)).trans h.h5, (hb.block _ (block_lt h.h9)).trans h.h9, (hb.block _ (block_lt h.h11)).trans h.h11⟩
theorem Held3.fresh {w W W' : World} {C5 CN : Array Value} {b9 b11 : Nat} (h : Held3 w W C5 CN b9 b11) (hb : Below w.heap.size W W') (hk : KeepT W W') : Held3 w W' C5 CN b9 b11 :=
  ⟨h.be.trans hb, hk _ _ _ h.h5 (by decide) (by decide) (by decide), hk _ _ _ h.h9 (by decide) (by decide) (by decide), hk _ _ _ h.h11 (by decide) (by decide) (by decide)⟩

set_option maxHeartbeats 4000000 in
set_option maxRecDepth 100000 in
theorem feed_walk (win mode scan : Int) (eat : Bool) (held text : ByteArray) (a : Option Addr) (mc : Nat) (ss : List ByteArray) (m : Int) (w : World) (hsz : held.size + text.size ≤ 2000000) (hs : ss.length ≤ 5000000)
    (hT : LexTabs w.heap.size w m) (hR : RefTabsB w.heap.size w) (hw : WordsAt w w.heap.size a ss) (hP : PowB w.heap.size w) :
    Calls Tryz.prog 3 #[.int .i64 win, .agg #[.int .i64 mode, .int .i64 scan, .bool eat, .string held], .string text, .slice a ss.length mc] w fun e w' => e = .returned (.bool true) ∧ Below w.heap.size w w' := by
  obtain ⟨mo, sc, ea, he, J, hJ, hhe, fc, fr⟩ := feed_both win mode scan eat held text hsz
  obtain ⟨J2, hJ2, fc2, fr2⟩ := finish_both win mo sc ea he false hhe
  obtain ⟨J3, hJ3, fc3, fr3⟩ := finish_both win mode scan eat held false (by omega)
  obtain ⟨J4, hJ4, fc4, fr4⟩ := finish_both win mode scan eat held true (by omega)
  obtain ⟨J5, hJ5, fc5, fr5⟩ := lex_both win text (by omega)
  have HA := hid (And.intro fc fr)
  have HA2 := hid (And.intro fc2 fr2)
  have HA3 := hid (And.intro fc3 fr3)
  have HA4 := hid (And.intro fc4 fr4)
  have HA5 := hid (And.intro fc5 fr5)
  have HFW := hid (And.intro hJ (And.intro hJ2 (And.intro hJ3 (And.intro hJ4 hJ5))))
  have HT := hid (And.intro hT hR)
  have HWP := hid (And.intro hw hP)
  clear fc fr fc2 fr2 fc3 fr3 fc4 fr4 fc5 fr5 hJ hJ2 hJ3 hJ4 hJ5 hT hR hw hP hsz hhe
  go_enter Tryz.func3, Tryz.ntmps3
  have b0 : Below w.heap.size w (w.alloc (.cells #[.int .i64 mode, .int .i64 scan, .bool eat, .string held] 23)) := (Below.refl w.heap.size w).alloc (Nat.le_refl _) _
  have hb5 := heap_alloc_new w (.cells #[.int .i64 mode, .int .i64 scan, .bool eat, .string held] 23)
  have x0 := cell_at hb5 (j := 0) rfl
  have x1 := cell_at hb5 (j := 1) rfl
  have x2 := cell_at hb5 (j := 2) rfl
  have x3 := cell_at hb5 (j := 3) rfl
  go_wp2_with fail
  refine (HA.out.1 _ m ((HT.out.1.below b0).up b0.size)).mono ?_
  rintro e W1 ⟨ev, xs, rfl, r1, e1, b1, hap⟩
  obtain ⟨CN, hCN⟩ : ∃ CN : Array Value, #[Value.int .i64 mo, .int .i64 sc, .bool ea, .string he] = CN := ⟨_, rfl⟩
  have hb51 := (Go.Lib.alloc_old W1 (.cells CN 23) _ (block_lt ((b1.block _ (block_lt hb5)).trans hb5))).trans ((b1.block _ (block_lt hb5)).trans hb5)
  have hn1 := heap_alloc_new W1 (.cells CN 23)
  have bel1 : Below w.heap.size w (W1.alloc (.cells CN 23)) := (b0.trans (b1.mono b0.size)).alloc (b0.trans (b1.mono b0.size)).size _
  have r1a := (row_low r1 b0.size).alloc (.cells CN 23)
  have e1a := evs_mono (W' := W1.alloc (.cells CN 23)) (fun _ _ _ hr => hr.alloc _) _ _ (evs_low b0.size _ _ e1)
  subst hCN
  have y0 := cell_at hb51 (j := 0) rfl
  have y1 := cell_at hb51 (j := 1) rfl
  have y2 := cell_at hb51 (j := 2) rfl
  have y3 := cell_at hb51 (j := 3) rfl
  have H1 := hid (And.intro hb51 (And.intro hn1 (And.intro bel1 (And.intro r1a e1a))))
  have hle1 := bel1.size
  clear hb51 hn1 bel1 r1a e1a r1 e1 b1 hb5 x0 x1 x2 x3 b0
  go_wp2_with fail
  refine (HA.out.2 _ ((HT.out.2.below H1.out.2.2.1).up H1.out.2.2.1.size)).mono ?_
  rintro e W2 ⟨ev2, ys, rfl, r2, e2, b2⟩
  obtain ⟨CN, hCN⟩ : ∃ CN : Array Value, #[Value.int .i64 mo, .int .i64 sc, .bool ea, .string he] = CN := ⟨_, rfl⟩
  obtain ⟨hb51, hn1, bel1, r1a, e1a⟩ := H1.out
  rw [hCN] at hb51 hn1 bel1 r1a e1a b2
  have h52 := (b2.block _ (block_lt hb51)).trans hb51
  have h92 := (b2.block _ (block_lt hn1)).trans hn1
  have h52a := (Go.Lib.alloc_old W2 (.cells CN 23) _ (block_lt h52)).trans h52
  have h92a := (Go.Lib.alloc_old W2 (.cells CN 23) _ (block_lt h92)).trans h92
  have hn2 := heap_alloc_new W2 (.cells CN 23)
  have bel2 := bel1.trans (b2.mono bel1.size)
  have bel2a := bel2.alloc bel2.size (.cells CN 23)
  have hh2 : Held3 w _ _ _ _ _ := ⟨bel2a, h52a, h92a, hn2⟩
  have r12 := (row_below r1a b2).alloc (.cells CN 23)
  have e12 := evs_mono (W' := W2.alloc (.cells CN 23)) (fun _ _ _ hr => (row_below hr b2).alloc _) _ _ e1a
  have r22 := r2.alloc (.cells CN 23)
  have e22 := evs_mono (W' := W2.alloc (.cells CN 23)) (fun _ _ _ hr => hr.alloc _) _ _ e2
  have hfr := fresh_two (a := a) (mc := mc) (ss := ss) (Nat.le_refl _) r12 e12 hap r22 e22 HFW.out.1 bel2a hs HWP.out.1 HWP.out.2
  subst hCN
  have z0 := cell_at h92a (j := 0) rfl
  have z1 := cell_at h92a (j := 1) rfl
  have z2 := cell_at h92a (j := 2) rfl
  have z3 := cell_at h92a (j := 3) rfl
  have n0 := cell_at hn2 (j := 0) rfl
  have n1 := cell_at hn2 (j := 1) rfl
  have n2 := cell_at hn2 (j := 2) rfl
  have n3 := cell_at hn2 (j := 3) rfl
  have HFR := hid hfr
  have HH2 := hid hh2
  clear hb51 hn1 bel1 r1a e1a h52 h92 h52a h92a hn2 bel2 bel2a hh2 r12 e12 r22 e22 hfr r2 e2 b2 y0 y1 y2 y3 H1 hap
  go_wp2_with fail
  refine HFR.out.mono ?_
  rintro e W3 ⟨rfl, bf, kf⟩
  have hh := HH2.out.fresh bf kf
  have ap0 := cell_at hh.h5 (j := 0) rfl
  have ap1 := cell_at hh.h5 (j := 1) rfl
  have ap2 := cell_at hh.h5 (j := 2) rfl
  have ap3 := cell_at hh.h5 (j := 3) rfl
  have bp0 := cell_at hh.h9 (j := 0) rfl
  have bp1 := cell_at hh.h9 (j := 1) rfl
  have bp2 := cell_at hh.h9 (j := 2) rfl
  have bp3 := cell_at hh.h9 (j := 3) rfl
  have cp0 := cell_at hh.h11 (j := 0) rfl
  have cp1 := cell_at hh.h11 (j := 1) rfl
  have cp2 := cell_at hh.h11 (j := 2) rfl
  have cp3 := cell_at hh.h11 (j := 3) rfl
  have HHa0 := hid hh
  clear bf kf hh
  go_wp2_with fail
  refine (HA2.out.1 _ m ((HT.out.1.below HHa0.out.be).up HHa0.out.be.size)).mono ?_
  rintro e Wa0 ⟨eva, xsa, rfl, r1, e1, b1, hap⟩
  have hh := HHa0.out.on b1
  have aq0 := cell_at hh.h5 (j := 0) rfl
  have aq1 := cell_at hh.h5 (j := 1) rfl
  have aq2 := cell_at hh.h5 (j := 2) rfl
  have aq3 := cell_at hh.h5 (j := 3) rfl
  have bq0 := cell_at hh.h9 (j := 0) rfl
  have bq1 := cell_at hh.h9 (j := 1) rfl
  have bq2 := cell_at hh.h9 (j := 2) rfl
  have bq3 := cell_at hh.h9 (j := 3) rfl
  have cq0 := cell_at hh.h11 (j := 0) rfl
  have cq1 := cell_at hh.h11 (j := 1) rfl
  have cq2 := cell_at hh.h11 (j := 2) rfl
  have cq3 := cell_at hh.h11 (j := 3) rfl
  have HHb0 := hid hh
  have HR1 := hid (And.intro r1 (And.intro e1 (And.intro hap HHa0.out.be.size)))
  clear b1 hh r1 e1 hap ap0 ap1 ap2 ap3 bp0 bp1 bp2 bp3 cp0 cp1 cp2 cp3 HHa0
  go_wp2_with fail
  refine (HA2.out.2 _ ((HT.out.2.below HHb0.out.be).up HHb0.out.be.size)).mono ?_
  rintro e Wb0 ⟨evb, ysb, rfl, r2, e2, b2⟩
  have HHc0 := hid (HHb0.out.on b2)
  have HFR := hid (fresh_two (a := a) (mc := mc) (ss := ss) HR1.out.2.2.2 (row_below HR1.out.1 b2) (evs_mono (fun _ _ _ hr => row_below hr b2) _ _ HR1.out.2.1) HR1.out.2.2.1 r2 e2 HFW.out.2.1 HHc0.out.be hs HWP.out.1 HWP.out.2)
  clear r2 e2 b2 aq0 aq1 aq2 aq3 bq0 bq1 bq2 bq3 cq0 cq1 cq2 cq3 HR1 HHb0
  go_wp2_with fail
  refine HFR.out.mono ?_
  rintro e Wc0 ⟨rfl, bf, kf⟩
  clear HFR
  have hh := HHc0.out.fresh bf kf
  have ap0 := cell_at hh.h5 (j := 0) rfl
  have ap1 := cell_at hh.h5 (j := 1) rfl
  have ap2 := cell_at hh.h5 (j := 2) rfl
  have ap3 := cell_at hh.h5 (j := 3) rfl
  have bp0 := cell_at hh.h9 (j := 0) rfl
  have bp1 := cell_at hh.h9 (j := 1) rfl
  have bp2 := cell_at hh.h9 (j := 2) rfl
  have bp3 := cell_at hh.h9 (j := 3) rfl
  have cp0 := cell_at hh.h11 (j := 0) rfl
  have cp1 := cell_at hh.h11 (j := 1) rfl
  have cp2 := cell_at hh.h11 (j := 2) rfl
  have cp3 := cell_at hh.h11 (j := 3) rfl
  have HHa1 := hid hh
  clear bf kf hh
  go_wp2_with fail
  refine (HA3.out.1 _ m ((HT.out.1.below HHa1.out.be).up HHa1.out.be.size)).mono ?_
  rintro e Wa1 ⟨eva, xsa, rfl, r1, e1, b1, hap⟩
  have hh := HHa1.out.on b1
  have aq0 := cell_at hh.h5 (j := 0) rfl
  have aq1 := cell_at hh.h5 (j := 1) rfl
  have aq2 := cell_at hh.h5 (j := 2) rfl
  have aq3 := cell_at hh.h5 (j := 3) rfl
  have bq0 := cell_at hh.h9 (j := 0) rfl
  have bq1 := cell_at hh.h9 (j := 1) rfl
  have bq2 := cell_at hh.h9 (j := 2) rfl
  have bq3 := cell_at hh.h9 (j := 3) rfl
  have cq0 := cell_at hh.h11 (j := 0) rfl
  have cq1 := cell_at hh.h11 (j := 1) rfl
  have cq2 := cell_at hh.h11 (j := 2) rfl
  have cq3 := cell_at hh.h11 (j := 3) rfl
  have HHb1 := hid hh
  have HR1 := hid (And.intro r1 (And.intro e1 (And.intro hap HHa1.out.be.size)))
  clear b1 hh r1 e1 hap ap0 ap1 ap2 ap3 bp0 bp1 bp2 bp3 cp0 cp1 cp2 cp3 HHa1
  go_wp2_with fail
  refine (HA3.out.2 _ ((HT.out.2.below HHb1.out.be).up HHb1.out.be.size)).mono ?_
  rintro e Wb1 ⟨evb, ysb, rfl, r2, e2, b2⟩
  have HHc1 := hid (HHb1.out.on b2)
  have HFR := hid (fresh_two (a := a) (mc := mc) (ss := ss) HR1.out.2.2.2 (row_below HR1.out.1 b2) (evs_mono (fun _ _ _ hr => row_below hr b2) _ _ HR1.out.2.1) HR1.out.2.2.1 r2 e2 HFW.out.2.2.1 HHc1.out.be hs HWP.out.1 HWP.out.2)
  clear r2 e2 b2 aq0 aq1 aq2 aq3 bq0 bq1 bq2 bq3 cq0 cq1 cq2 cq3 HR1 HHb1
  go_wp2_with fail
  refine HFR.out.mono ?_
  rintro e Wc1 ⟨rfl, bf, kf⟩
  clear HFR
  have hh := HHc1.out.fresh bf kf
  have ap0 := cell_at hh.h5 (j := 0) rfl
  have ap1 := cell_at hh.h5 (j := 1) rfl
  have ap2 := cell_at hh.h5 (j := 2) rfl
  have ap3 := cell_at hh.h5 (j := 3) rfl
  have bp0 := cell_at hh.h9 (j := 0) rfl
  have bp1 := cell_at hh.h9 (j := 1) rfl
  have bp2 := cell_at hh.h9 (j := 2) rfl
  have bp3 := cell_at hh.h9 (j := 3) rfl
  have cp0 := cell_at hh.h11 (j := 0) rfl
  have cp1 := cell_at hh.h11 (j := 1) rfl
  have cp2 := cell_at hh.h11 (j := 2) rfl
  have cp3 := cell_at hh.h11 (j := 3) rfl
  have HHa2 := hid hh
  clear bf kf hh
  go_wp2_with fail
  refine (HA4.out.1 _ m ((HT.out.1.below HHa2.out.be).up HHa2.out.be.size)).mono ?_
  rintro e Wa2 ⟨eva, xsa, rfl, r1, e1, b1, hap⟩
  have hh := HHa2.out.on b1
  have aq0 := cell_at hh.h5 (j := 0) rfl
  have aq1 := cell_at hh.h5 (j := 1) rfl
  have aq2 := cell_at hh.h5 (j := 2) rfl
  have aq3 := cell_at hh.h5 (j := 3) rfl
  have bq0 := cell_at hh.h9 (j := 0) rfl
  have bq1 := cell_at hh.h9 (j := 1) rfl
  have bq2 := cell_at hh.h9 (j := 2) rfl
  have bq3 := cell_at hh.h9 (j := 3) rfl
  have cq0 := cell_at hh.h11 (j := 0) rfl
  have cq1 := cell_at hh.h11 (j := 1) rfl
  have cq2 := cell_at hh.h11 (j := 2) rfl
  have cq3 := cell_at hh.h11 (j := 3) rfl
  have HHb2 := hid hh
  have HR1 := hid (And.intro r1 (And.intro e1 (And.intro hap HHa2.out.be.size)))
  clear b1 hh r1 e1 hap ap0 ap1 ap2 ap3 bp0 bp1 bp2 bp3 cp0 cp1 cp2 cp3 HHa2
  go_wp2_with fail
  refine (HA4.out.2 _ ((HT.out.2.below HHb2.out.be).up HHb2.out.be.size)).mono ?_
  rintro e Wb2 ⟨evb, ysb, rfl, r2, e2, b2⟩
  have HHc2 := hid (HHb2.out.on b2)
  have HFR := hid (fresh_two (a := a) (mc := mc) (ss := ss) HR1.out.2.2.2 (row_below HR1.out.1 b2) (evs_mono (fun _ _ _ hr => row_below hr b2) _ _ HR1.out.2.1) HR1.out.2.2.1 r2 e2 HFW.out.2.2.2.1 HHc2.out.be hs HWP.out.1 HWP.out.2)
  clear r2 e2 b2 aq0 aq1 aq2 aq3 bq0 bq1 bq2 bq3 cq0 cq1 cq2 cq3 HR1 HHb2
  go_wp2_with fail
  refine HFR.out.mono ?_
  rintro e Wc2 ⟨rfl, bf, kf⟩
  clear HFR
  have hh := HHc2.out.fresh bf kf
  have ap0 := cell_at hh.h5 (j := 0) rfl
  have ap1 := cell_at hh.h5 (j := 1) rfl
  have ap2 := cell_at hh.h5 (j := 2) rfl
  have ap3 := cell_at hh.h5 (j := 3) rfl
  have bp0 := cell_at hh.h9 (j := 0) rfl
  have bp1 := cell_at hh.h9 (j := 1) rfl
  have bp2 := cell_at hh.h9 (j := 2) rfl
  have bp3 := cell_at hh.h9 (j := 3) rfl
  have cp0 := cell_at hh.h11 (j := 0) rfl
  have cp1 := cell_at hh.h11 (j := 1) rfl
  have cp2 := cell_at hh.h11 (j := 2) rfl
  have cp3 := cell_at hh.h11 (j := 3) rfl
  have HHa3 := hid hh
  clear bf kf hh
  go_wp2_with fail
  refine (HA5.out.1 _ m ((HT.out.1.below HHa3.out.be).up HHa3.out.be.size)).mono ?_
  rintro e Wa3 ⟨eva, xsa, rfl, r1, e1, b1, hap⟩
  have hh := HHa3.out.on b1
  have aq0 := cell_at hh.h5 (j := 0) rfl
  have aq1 := cell_at hh.h5 (j := 1) rfl
  have aq2 := cell_at hh.h5 (j := 2) rfl
  have aq3 := cell_at hh.h5 (j := 3) rfl
  have bq0 := cell_at hh.h9 (j := 0) rfl
  have bq1 := cell_at hh.h9 (j := 1) rfl
  have bq2 := cell_at hh.h9 (j := 2) rfl
  have bq3 := cell_at hh.h9 (j := 3) rfl
  have cq0 := cell_at hh.h11 (j := 0) rfl
  have cq1 := cell_at hh.h11 (j := 1) rfl
  have cq2 := cell_at hh.h11 (j := 2) rfl
  have cq3 := cell_at hh.h11 (j := 3) rfl
  have HHb3 := hid hh
  have HR1 := hid (And.intro r1 (And.intro e1 (And.intro hap HHa3.out.be.size)))
  clear b1 hh r1 e1 hap ap0 ap1 ap2 ap3 bp0 bp1 bp2 bp3 cp0 cp1 cp2 cp3 HHa3
  go_wp2_with fail
  refine (HA5.out.2 _ ((HT.out.2.below HHb3.out.be).up HHb3.out.be.size)).mono ?_
  rintro e Wb3 ⟨evb, ysb, rfl, r2, e2, b2⟩
  have HHc3 := hid (HHb3.out.on b2)
  have HFR := hid (fresh_two (a := a) (mc := mc) (ss := ss) HR1.out.2.2.2 (row_below HR1.out.1 b2) (evs_mono (fun _ _ _ hr => row_below hr b2) _ _ HR1.out.2.1) HR1.out.2.2.1 r2 e2 HFW.out.2.2.2.2 HHc3.out.be hs HWP.out.1 HWP.out.2)
  clear r2 e2 b2 aq0 aq1 aq2 aq3 bq0 bq1 bq2 bq3 cq0 cq1 cq2 cq3 HR1 HHb3
  go_wp2_with fail
  refine HFR.out.mono ?_
  rintro e Wc3 ⟨rfl, bf, kf⟩
  clear HFR
  have HB := hid ((HHc3.out.fresh bf kf).be)
  clear bf kf
  go_wp2
  go_ret
  exact ⟨rfl, HB.out⟩
end Go.Proofs.YtndglhflbenloaaGreatDoor

/-
  From what a row says of the six tables to what lies in memory.
-/
namespace Go.Proofs.YtndglhflbenloaaGreatDoor
open Go.RowKit Go.Lib Go.ChangeShapes

theorem range_of {P : Program} {w : World} {n : String} {g : Nat} {cs : Array Value} {L : List Value} (hg : P.globalNamed n = some g) (hvar : w.var? P n = some cs) (h : ∀ (j : Nat) (v : Value), L[j]? = some v → cs.toList[j]? = some v) : w.rangeAt g 0 L := by
  intro j v hv
  rw [Nat.zero_add, World.var?_cell hg hvar j, ← Array.getElem?_toList]
  exact h j v hv
theorem ints_of {P : Program} {w : World} {n : String} {g t e m : Nat} {k : IntKind} {zs : List Int} (hg : P.globalNamed n = some g) (ht : (P.globals[g]?).map (·.type) = some t)
    (hu : P.underlying t = some (.array m e)) (he : P.underlying e = some (.int k)) (hce : P.cellsOf e = 1) (hct : P.cellsOf t = m) (h : VarReads P w n (tabData k zs)) : w.rangeAt g 0 (zs.map fun z => .int k z) := by
  obtain ⟨g', t', cs, fuel, p, hg', hty, hvar, hd⟩ := h
  obtain rfl := Option.some.inj (hg.symm.trans hg')
  obtain rfl := Option.some.inj (ht.symm.trans hty)
  have hcs := cells_of_tab hu he hce hct hd
  exact range_of hg hvar (fun j v hv => by rw [hcs]; exact hv)
theorem one_at {α : Type} {l : List α} {j : Nat} {x : α} (h : (l.drop j).take 1 = [x]) : l[j]? = some x := by
  have := congrArg (·[0]?) h
  simpa using this
theorem strs_of {P : Program} {w : World} {n : String} {g t e m : Nat} {T : List (List UInt8)} (hg : P.globalNamed n = some g) (ht : (P.globals[g]?).map (·.type) = some t)
    (hu : P.underlying t = some (.array m e)) (he : P.underlying e = some .string) (hce : P.cellsOf e = 1) (hm : T.length = m) (h : VarReads P w n (.agg (T.map fun x => .lit (.string x)))) : w.rangeAt g 0 (T.map strV) := by
  obtain ⟨g', t', cs, fuel, p, hg', hty, hvar, hd⟩ := h
  obtain rfl := Option.some.inj (hg.symm.trans hg')
  obtain rfl := Option.some.inj (ht.symm.trans hty)
  refine range_of hg hvar (fun j v hv => ?_)
  rw [List.getElem?_map] at hv
  obtain ⟨x, hx, rfl⟩ := Option.map_eq_some_iff.1 hv
  obtain ⟨fuel', d, q, hdi, hel⟩ := array_elem hu hd j (by rw [← hm]; exact (List.getElem?_eq_some_iff.1 hx).1)
  rw [List.getElem?_map, hx] at hdi
  simp only [Option.map_some, Option.some.injEq] at hdi
  subst hdi
  rw [hce, Nat.mul_one] at hel
  obtain ⟨s, hs, hx2, _⟩ := DataW.trod_string he hel
  simp only [Prod.mk.injEq, DataW.lit.injEq, Lit.string.injEq] at hx2
  rw [one_at hs]
  unfold strV
  rw [hx2.1]
theorem flat_even {f g : List UInt8 × Int → Value} : ∀ (T : List (List UInt8 × Int)) (k : Nat), (T.flatMap fun t => [f t, g t])[k * 2]? = T[k]?.map f ∧ (T.flatMap fun t => [f t, g t])[k * 2 + 1]? = T[k]?.map g
  | [], k => by simp
  | t :: T, 0 => by simp
  | t :: T, k + 1 => by
    have := flat_even (f := f) (g := g) T k
    rw [show (k + 1) * 2 = k * 2 + 2 from by omega, show k * 2 + 2 + 1 = k * 2 + 1 + 2 from by omega, List.flatMap_cons]
    simpa using this
theorem pairs_of {P : Program} {w : World} {n : String} {g t e m ts ti : Nat} {f0 f1 : Field} {T : List (List UInt8 × Int)} (hg : P.globalNamed n = some g) (ht : (P.globals[g]?).map (·.type) = some t)
    (hu : P.underlying t = some (.array m e)) (he : P.underlying e = some (.struct #[f0, f1])) (hce : P.cellsOf e = 2) (hm : T.length = m)
    (h0 : f0.type = ts ∧ f0.offset = 0) (h1 : f1.type = ti ∧ f1.offset = 1) (hs : P.underlying ts = some .string) (hcs : P.cellsOf ts = 1) (hi : P.underlying ti = some (.int .i32)) (hci : P.cellsOf ti = 1)
    (h : VarReads P w n (.agg (T.map fun x => .agg [.lit (.string x.1), .lit (.int .i32 x.2)]))) : w.rangeAt g 0 (T.flatMap fun t => [strV t.1, .int .i32 t.2]) := by
  obtain ⟨g', t', cs, fuel, p, hg', hty, hvar, hd⟩ := h
  obtain rfl := Option.some.inj (hg.symm.trans hg')
  obtain rfl := Option.some.inj (ht.symm.trans hty)
  have key : ∀ k x, T[k]? = some x → cs.toList[k * 2]? = some (strV x.1) ∧ cs.toList[k * 2 + 1]? = some (.int .i32 x.2) := by
    intro k x hx
    obtain ⟨fuel', d, q, hdi, hel⟩ := array_elem hu hd k (by rw [← hm]; exact (List.getElem?_eq_some_iff.1 hx).1)
    rw [List.getElem?_map, hx] at hdi
    simp only [Option.map_some, Option.some.injEq] at hdi
    subst hdi
    obtain ⟨y0, y1, n', hy, _, e0, e1⟩ := trod_struct2 he hel
    rw [h0.1, h0.2, hcs, hce] at e0
    rw [h1.1, h1.2, hci, hce] at e1
    obtain ⟨s, hs1, hs2, _⟩ := DataW.trod_string hs e0
    obtain ⟨z, hz1, hz2, _⟩ := DataW.trod_int hi e1
    rw [hs2, hz2] at hy
    simp only [Prod.mk.injEq, DataW.agg.injEq, List.cons.injEq, DataW.lit.injEq, Lit.string.injEq, Lit.int.injEq, true_and, and_true] at hy
    have a0 := one_at hs1
    have a1 := one_at hz1
    rw [List.getElem?_take_of_lt (by omega), List.getElem?_drop] at a0 a1
    refine ⟨?_, ?_⟩
    · rw [show k * 2 = k * 2 + 0 from rfl, a0]
      unfold strV
      rw [hy.1.1]
    · rw [a1, hy.1.2]
  refine range_of hg hvar (fun j v hv => ?_)
  obtain ⟨f1', f2'⟩ := flat_even (f := fun t => strV t.1) (g := fun t => .int .i32 t.2) T (j / 2)
  rcases Nat.mod_two_eq_zero_or_one j with h2 | h2
  · have e : j = j / 2 * 2 := by omega
    rw [e] at hv ⊢
    rw [f1'] at hv
    obtain ⟨x, hx, rfl⟩ := Option.map_eq_some_iff.1 hv
    exact (key _ x hx).1
  · have e : j = j / 2 * 2 + 1 := by omega
    rw [e] at hv ⊢
    rw [f2'] at hv
    obtain ⟨x, hx, rfl⟩ := Option.map_eq_some_iff.1 hv
    exact (key _ x hx).2
end Go.Proofs.YtndglhflbenloaaGreatDoor
