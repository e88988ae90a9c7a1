/-
  Parts of the walk, joined: RefTold, OwnEnd, Reader, ReadByte, SkipTag, StepB, StepTag, StepRef, StepMk.
-/
import Derived.Test.YtndglhflbenloaaGreatDoorUpperB
import Derived.Test.YtndglhflbenloaaGreatDoorUpperA
import Derived.BigQuiet
import Derived.Test.YtndglhflbenloaaGreatDoorGen
import Derived.Test.YtndglhflbenloaaGreatDoorLexFind
/-
  The reference's told: its walk.
-/
namespace Go.Proofs.YtndglhflbenloaaGreatDoor
open Go.RowKit Go.Lib Own

theorem Lxg.row {W : World} {base b : Nat} {win mode scan : Int} {eat : Bool} {held : ByteArray} {E : List Ev} {P : List UInt8} (h : Lxg W base b win mode scan eat held E P) {B n : Nat} {v : Value} {ys : List Value} (hr : W.ownsRow B 65 2 v n ys) (j : Nat) (u : Value) :
    (W.setCell ⟨b, j, none⟩ u).ownsRow B 65 2 v n ys := by
  obtain ⟨ev, wd, xs, h1, _⟩ := h.it
  exact row_just hr h1 (by decide) (just_set h1 u).other
theorem row_lower {W : World} {B base : Nat} {e : TypeId} {size n : Nat} {v : Value} {xs : List Value} (h : W.ownsRow B e size v n xs) (hb : base ≤ B) : W.ownsRow base e size v n xs := by
  refine ⟨h.1, ?_⟩
  rcases h.2 with h2 | ⟨g, cap, cur, rfl, hg0, rest⟩
  · exact .inl h2
  · exact .inr ⟨g, cap, cur, rfl, by omega, rest⟩
/-- what told leaves -/
def ToldSaid (base b : Nat) (win : Int) (held : ByteArray) (E : List Ev) (P : List UInt8) (x : LS × List Item) (w : World) (e : Ending) (w' : World) : Prop :=
  e = .returned (.tuple #[]) ∧ Lxg w' base b win x.1.mode x.1.scan x.1.eat held (putAll (E, P) x.2).1 (putAll (E, P) x.2).2 ∧ Below base w w'

set_option maxHeartbeats 4000000 in
set_option maxRecDepth 100000 in
theorem told_unit (base b : Nat) (win : Int) (mode : Nat) (eat : Bool) (held : ByteArray) (E : List Ev) (P : List UInt8) (s : ByteArray) (w : World) (h : Lxg w base b win mode 0 eat held E P) (hs : s.size ≤ 4000000) (hP : P.length ≤ 50000000) (hT : RefTabs w) :
    Calls Tryz.prog 28 #[.pointer (some ⟨b, 0, none⟩), .int .i64 1, .string s] w (ToldSaid base b win held E P (toldL 1 s.data.toList ⟨mode, 0, eat⟩) w) := by
  have hun := refUnref_any s false w (by omega) hT
  have hul := unr_len false _ s.data.toList (Nat.le_refl _)
  obtain ⟨ub, hub⟩ : ∃ ub : ByteArray, (⟨(unr false s.data.toList).toArray⟩ : ByteArray) = ub := ⟨_, rfl⟩
  have hubl : ub.data.toList = unr false s.data.toList := by rw [← hub]
  have hubz : ub.size ≤ 16000000 := by rw [size_eq, hubl]; rw [← size_eq] at hul; omega
  rw [hub] at hun
  have hu := fun W hW => refUnit_any base b win mode 0 eat held E P ub W hW (by omega)
  have hF : ∀ w' , Lxg w' base b win mode 0 false held E (if eat = true ∧ ub.data.toList = [10] then P else P ++ ub.data.toList) → Below base w w' → ToldSaid base b win held E P (toldL 1 s.data.toList ⟨mode, 0, eat⟩) w (.returned (.tuple #[])) w' := fun w' h1 h2 => by
    rw [hubl] at h1
    refine ⟨rfl, ?_, h2⟩
    unfold toldL
    rw [if_pos rfl]
    unfold unitL2
    by_cases hc : eat = true ∧ unr false s.data.toList = [10]
    · rw [if_pos hc] at h1 ⊢
      exact h1
    · rw [if_neg hc] at h1 ⊢
      exact h1
  have HUN := hid hun
  have HU := hid hu
  have HF := hid hF
  have HL := hid h
  generalize toldL 1 s.data.toList ⟨mode, 0, eat⟩ = YY at HF ⊢
  clear hun hu hF h hul hub hubl hubz hT
  go_enter Tryz.func28, Tryz.ntmps28
  go_wp2_with (first
    | (go_at_call 38; refine HUN.out.mono ?_; rintro e w1 ⟨rfl, b1⟩; have hL1 := HL.out.below b1)
    | (go_at_call 37; refine (HU.out _ (by exact hL1)).mono ?_; rintro e w2 ⟨rfl, hL2, b2⟩))
  refine bodyPost_ret (v := .tuple #[]) ?_ rfl (HF.out _ hL2 ((b1.mono HL.out.size).trans b2))
  simp [results, Tryz.results28]
set_option maxHeartbeats 4000000 in
set_option maxRecDepth 100000 in
theorem told_set (base b : Nat) (win : Int) (mode : Nat) (eat : Bool) (held : ByteArray) (E : List Ev) (P : List UInt8) (kind : Nat) (hk : kind = 6 ∨ kind = 7 ∨ kind = 8) (s : ByteArray) (w : World) (h : Lxg w base b win mode 0 eat held E P) :
    Calls Tryz.prog 28 #[.pointer (some ⟨b, 0, none⟩), .int .i64 kind, .string s] w (ToldSaid base b win held E P (toldL kind s.data.toList ⟨mode, 0, eat⟩) w) := by
  obtain ⟨⟨c0, c1, c2, c3, c4⟩, hf⟩ := h.cells
  have f2 := hf 2
  have f3 := hf 3
  rcases hk with rfl | rfl | rfl
  · have HF : Hid (ToldSaid base b win held E P (toldL 6 s.data.toList ⟨mode, 0, eat⟩) w (.returned (.tuple #[])) ((w.setCell ⟨b, 2, none⟩ (.int .i64 1)).setCell ⟨b, 3, none⟩ (.bool false))) := by
      obtain ⟨r1, b1⟩ := h.setScan 1
      obtain ⟨r2, b2⟩ := r1.setEat false
      exact ⟨rfl, r2, b1.trans b2⟩
    generalize toldL 6 s.data.toList ⟨mode, 0, eat⟩ = YY at HF ⊢
    clear h hf c0 c1 c4
    go_enter Tryz.func28, Tryz.ntmps28
    go_wp2
    go_end0
    exact HF.out
  · have HF : Hid (ToldSaid base b win held E P (toldL 7 s.data.toList ⟨mode, 0, eat⟩) w (.returned (.tuple #[])) ((w.setCell ⟨b, 2, none⟩ (.int .i64 2)).setCell ⟨b, 3, none⟩ (.bool false))) := by
      obtain ⟨r1, b1⟩ := h.setScan 2
      obtain ⟨r2, b2⟩ := r1.setEat false
      exact ⟨rfl, r2, b1.trans b2⟩
    generalize toldL 7 s.data.toList ⟨mode, 0, eat⟩ = YY at HF ⊢
    clear h hf c0 c1 c4
    go_enter Tryz.func28, Tryz.ntmps28
    go_wp2
    go_end0
    exact HF.out
  · have HF : Hid (ToldSaid base b win held E P (toldL 8 s.data.toList ⟨mode, 0, eat⟩) w (.returned (.tuple #[])) w) := ⟨rfl, h, Below.refl _ _⟩
    generalize toldL 8 s.data.toList ⟨mode, 0, eat⟩ = YY at HF ⊢
    clear h hf c0 c1 c4
    go_enter Tryz.func28, Tryz.ntmps28
    go_wp2
    go_end0
    exact HF.out

set_option maxHeartbeats 4000000 in
set_option maxRecDepth 100000 in
theorem told_end (base b : Nat) (win : Int) (mode : Nat) (eat : Bool) (held : ByteArray) (E : List Ev) (P : List UInt8) (kind : Nat) (hk : kind = 3 ∨ kind = 5) (s : ByteArray) (w : World) (h : Lxg w base b win mode 0 eat held E P) (hs : s.size ≤ 4000000) (h2 : 2 ≤ s.size) (hE : E.length ≤ 8000000) (hT : RefTabs w) :
    Calls Tryz.prog 28 #[.pointer (some ⟨b, 0, none⟩), .int .i64 kind, .string s] w (ToldSaid base b win held E P (toldL kind s.data.toList ⟨mode, 0, eat⟩) w) := by
  have hta := refTag_any s 2 w h2 hs hT
  unfold TagSaid at hta
  obtain ⟨x, hx⟩ : ∃ x, tagAtL (s.data.toList.drop 2) = x := ⟨_, rfl⟩
  rw [hx] at hta
  obtain ⟨N, A, R, st⟩ := x
  simp only at hta
  obtain ⟨nb, hnb⟩ : ∃ nb : ByteArray, strV N = .string nb := ⟨⟨N.toArray⟩, rfl⟩
  rw [hnb] at hta
  have HTA := hid hta
  have HL := hid h
  have HN := hid hnb
  rcases hk with rfl | rfl
  · have hF : ∀ w', Lxg w' base b win 0 st false held (flushE (E, P) ++ [.stop N]) [] → Below base w w' → ToldSaid base b win held E P (toldL 3 s.data.toList ⟨mode, 0, eat⟩) w (.returned (.tuple #[])) w' := fun w' h1 h2 => by
      refine ⟨rfl, ?_, h2⟩
      unfold toldL
      rw [if_neg (by decide), if_neg (by decide), if_neg (by decide), if_pos (by decide), if_pos rfl, hx]
      exact h1
    have HF := hid hF
    generalize toldL 3 s.data.toList ⟨mode, 0, eat⟩ = YY at HF ⊢
    clear hta hF h hx hnb hT
    go_enter Tryz.func28, Tryz.ntmps28
    go_wp2_with (first
      | (go_at_call 52; refine HTA.out.mono ?_; rintro e w2 ⟨av, rfl, hrow, b2⟩; have hL2 := HL.out.below b2; have k2 := hL2.cells; obtain ⟨⟨d0, d1, d2, d3, d4⟩, df⟩ := k2; have e1 := df 1; have e2 := df 2; have e3 := df 3; clear d0 d4 df; have hM := hL2.setMode 0; have hS := hM.1.setScan st; have hE3 := hS.1.setEat false; have hB3 := ((b2.mono HL.out.size).trans hM.2).trans (hS.2.trans hE3.2); have HL5 := hid hE3.1; clear hL2 hM hS hE3)
      | (go_at_call 57; refine (refEvent_any base b win 0 st false held E P (.int .i64 2) (.string nb) (.slice none 0 0) (.string ⟨#[]⟩) (.stop N) _ (by exact HL5.out) hE (by exact ⟨⟨rfl, HN.out.symm, rfl, rfl⟩, trivial⟩) (by simp [Value.oneCell'])).mono ?_; rintro e w5 ⟨rfl, hL6, b6⟩))
    refine bodyPost_ret (v := .tuple #[]) ?_ rfl (HF.out _ hL6 (hB3.trans b6))
    simp [results, Tryz.results28]
  · have hF : ∀ w', Lxg w' base b win 0 st false held E P → Below base w w' → ToldSaid base b win held E P (toldL 5 s.data.toList ⟨mode, 0, eat⟩) w (.returned (.tuple #[])) w' := fun w' h1 h2 => by
      refine ⟨rfl, ?_, h2⟩
      unfold toldL
      rw [if_neg (by decide), if_neg (by decide), if_neg (by decide), if_pos (by decide), if_neg (by decide), hx]
      exact h1
    have HF := hid hF
    generalize toldL 5 s.data.toList ⟨mode, 0, eat⟩ = YY at HF ⊢
    clear hta hF h hx hnb hT
    go_enter Tryz.func28, Tryz.ntmps28
    go_wp2_with (first
      | (go_at_call 52; refine HTA.out.mono ?_; rintro e w2 ⟨av, rfl, hrow, b2⟩; have hL2 := HL.out.below b2; have k2 := hL2.cells; obtain ⟨⟨d0, d1, d2, d3, d4⟩, df⟩ := k2; have e1 := df 1; have e2 := df 2; have e3 := df 3; clear d0 d4 df; have hM := hL2.setMode 0; have hS := hM.1.setScan st; have hE3 := hS.1.setEat false; have hB3 := ((b2.mono HL.out.size).trans hM.2).trans (hS.2.trans hE3.2); have HL5 := hid hE3.1; clear hL2 hM hS hE3))
    go_end0
    exact HF.out _ HL5.out hB3

set_option maxHeartbeats 4000000 in
set_option maxRecDepth 100000 in
theorem told_start (base b : Nat) (win : Int) (mode : Nat) (eat : Bool) (held : ByteArray) (E : List Ev) (P : List UInt8) (kind : Nat) (hk : kind = 2 ∨ kind = 4) (s : ByteArray) (w : World) (h : Lxg w base b win mode 0 eat held E P) (hs : s.size ≤ 4000000) (h2 : 1 ≤ s.size) (hE : E.length ≤ 8000000) (hT : RefTabs w) :
    Calls Tryz.prog 28 #[.pointer (some ⟨b, 0, none⟩), .int .i64 kind, .string s] w (ToldSaid base b win held E P (toldL kind s.data.toList ⟨mode, 0, eat⟩) w) := by
  have hta := refTag_any s 1 w h2 hs hT
  unfold TagSaid at hta
  obtain ⟨x, hx⟩ : ∃ x, tagAtL (s.data.toList.drop 1) = x := ⟨_, rfl⟩
  rw [hx] at hta
  obtain ⟨N, A, R, st⟩ := x
  simp only at hta
  obtain ⟨nb, hnb⟩ : ∃ nb : ByteArray, nb = ⟨N.toArray⟩ := ⟨_, rfl⟩
  have hnv : strV N = .string nb := by rw [hnb]; rfl
  have hnl : nb.data.toList = N := by rw [hnb]
  rw [hnv] at hta
  have hmb := fun W => modeBehind_any nb W
  have hea : ∀ W, Calls Tryz.prog 59 #[.string nb] W fun e w' => e = .returned (.bool (eatsL nb.data.toList)) ∧ W = w' := fun W => (refEats_any nb W).mono fun _ _ h => ⟨h.1, h.2.symm⟩
  rw [hnl] at hmb hea
  have HTA := hid hta
  have HL := hid h
  have HN := hid hnv
  have HMB := hid hmb
  have HEA := hid hea
  rcases hk with rfl | rfl
  · have hF : ∀ w', Lxg w' base b win (insideL N) st (eatsL N) held (flushE (E, P) ++ [.start N A]) [] → Below base w w' → ToldSaid base b win held E P (toldL 2 s.data.toList ⟨mode, 0, eat⟩) w (.returned (.tuple #[])) w' := fun w' h1 h2 => by
      refine ⟨rfl, ?_, h2⟩
      unfold toldL
      rw [if_neg (by decide), if_neg (by decide), if_neg (by decide), if_neg (by decide), if_pos (by decide), if_pos rfl, hx]
      exact h1
    have HF := hid hF
    generalize toldL 2 s.data.toList ⟨mode, 0, eat⟩ = YY at HF ⊢
    generalize insideL N = IN at HMB HF
    generalize eatsL N = EA at HEA HF
    clear hta hF h hx hnb hT hnv hnl hmb hea
    go_enter Tryz.func28, Tryz.ntmps28
    go_wp2_with (first
      | (go_at_call 52; refine HTA.out.mono ?_; rintro e w2 ⟨av, rfl, hrow, b2⟩; obtain ⟨vp, vc, rfl⟩ := row_shape hrow; have HR2 := hid hrow; have HB2 := hid b2; clear hrow b2)
      | (go_at_call 58; refine (HMB.out _).mono ?_; rintro e w3 ⟨rfl, b3⟩; have hL3 := (HL.out.below HB2.out).below b3; have hr3 := HR2.out.kept (row := none) ⟨b3.os, b3.tape, b3.output, b3.size, fun k hk _ => b3.block k hk⟩ (Classical.em _); have k2 := hL3.cells; obtain ⟨⟨d0, d1, d2, d3, d4⟩, df⟩ := k2; have e1 := df 1; have e2 := df 2; have e3 := df 3; clear d0 d4 df; have hM := hL3.setMode IN; have hS := hM.1.setScan st; have hE3 := hS.1.setEat EA; have hB3 := (((HB2.out.mono HL.out.size).trans (b3.mono (HL.out.below HB2.out).size)).trans hM.2).trans (hS.2.trans hE3.2); have HL5 := hid hE3.1; have HR5 := hid (row_lower (hS.1.row (hM.1.row (hL3.row hr3 1 (.int .i64 IN)) 2 (.int .i64 st)) 3 (.bool EA)) HL.out.size); have HB3 := hid hB3; clear hL3 hM hS hE3 hr3 hB3 b3)
      | (go_at_call 59; refine (HEA.out _).mono ?_; rintro e w4 ⟨rfl, rfl⟩)
      | (go_at_call 57; refine (refEvent_any base b win IN st EA held E P (.int .i64 1) (.string nb) (.slice vp A.length vc) (.string ⟨#[]⟩) (.start N A) _ (by exact HL5.out) hE (by exact ⟨⟨rfl, HN.out.symm, HR5.out, rfl⟩, trivial⟩) (by simp [Value.oneCell'])).mono ?_; rintro e w5 ⟨rfl, hL6, b6⟩))
    refine bodyPost_ret (v := .tuple #[]) ?_ rfl (HF.out _ hL6 (HB3.out.trans b6))
    simp [results, Tryz.results28]
  · have hF : ∀ w', Lxg w' base b win (insideL N) st (eatsL N) held E P → Below base w w' → ToldSaid base b win held E P (toldL 4 s.data.toList ⟨mode, 0, eat⟩) w (.returned (.tuple #[])) w' := fun w' h1 h2 => by
      refine ⟨rfl, ?_, h2⟩
      unfold toldL
      rw [if_neg (by decide), if_neg (by decide), if_neg (by decide), if_neg (by decide), if_pos (by decide), if_neg (by decide), hx]
      exact h1
    have HF := hid hF
    generalize toldL 4 s.data.toList ⟨mode, 0, eat⟩ = YY at HF ⊢
    generalize insideL N = IN at HMB HF
    generalize eatsL N = EA at HEA HF
    clear hta hF h hx hnb hT hnv hnl hmb hea
    go_enter Tryz.func28, Tryz.ntmps28
    go_wp2_with (first
      | (go_at_call 52; refine HTA.out.mono ?_; rintro e w2 ⟨av, rfl, hrow, b2⟩; have HB2 := hid b2; clear hrow b2)
      | (go_at_call 58; refine (HMB.out _).mono ?_; rintro e w3 ⟨rfl, b3⟩; have hL3 := (HL.out.below HB2.out).below b3; have k2 := hL3.cells; obtain ⟨⟨d0, d1, d2, d3, d4⟩, df⟩ := k2; have e1 := df 1; have e2 := df 2; have e3 := df 3; clear d0 d4 df; have hM := hL3.setMode IN; have hS := hM.1.setScan st; have hE3 := hS.1.setEat EA; have hB3 := (((HB2.out.mono HL.out.size).trans (b3.mono (HL.out.below HB2.out).size)).trans hM.2).trans (hS.2.trans hE3.2); have HL5 := hid hE3.1; have HB3 := hid hB3; clear hL3 hM hS hE3 hB3 b3)
      | (go_at_call 59; refine (HEA.out _).mono ?_; rintro e w4 ⟨rfl, rfl⟩))
    go_end0
    exact HF.out _ HL5.out HB3.out
end Go.Proofs.YtndglhflbenloaaGreatDoor

/-
  The reader's ownEnd: its walk.
-/
namespace Go.Proofs.YtndglhflbenloaaGreatDoor
open Go.RowKit Go.Lib Own

/-- the reader's own six cells, ahead of its stream's three -/
structure RdAt (W : World) (b : Nat) (win : Int) (data : ByteArray) (pos mode scan : Int) (eat : Bool) : Prop where
  c0 : W.cell? ⟨b, 0, none⟩ = some (.int .i64 win)
  c1 : W.cell? ⟨b, 1, none⟩ = some (.string data)
  c2 : W.cell? ⟨b, 2, none⟩ = some (.int .i64 pos)
  c3 : W.cell? ⟨b, 3, none⟩ = some (.int .i64 mode)
  c4 : W.cell? ⟨b, 4, none⟩ = some (.int .i64 scan)
  c5 : W.cell? ⟨b, 5, none⟩ = some (.bool eat)

theorem own_go {o r : List UInt8} {k R : Nat} {x y : UInt8} (hx : r[k]? = some x) (hy : o[k]? = some y) (he : lowC x = y) (h : ownL (o.drop k) (r.drop k) = R) : ownL (o.drop (k + 1)) (r.drop (k + 1)) = R := by
  obtain ⟨h1, h2⟩ := List.getElem?_eq_some_iff.1 hx
  obtain ⟨h3, h4⟩ := List.getElem?_eq_some_iff.1 hy
  rw [List.drop_eq_getElem_cons h1, h2, List.drop_eq_getElem_cons h3, h4, ownL, if_pos he] at h
  exact h
theorem own_no {o r : List UInt8} {k R : Nat} {x y : UInt8} (hx : r[k]? = some x) (hy : o[k]? = some y) (he : lowC x ≠ y) (h : ownL (o.drop k) (r.drop k) = R) : R = 0 := by
  obtain ⟨h1, h2⟩ := List.getElem?_eq_some_iff.1 hx
  obtain ⟨h3, h4⟩ := List.getElem?_eq_some_iff.1 hy
  rw [List.drop_eq_getElem_cons h1, h2, List.drop_eq_getElem_cons h3, h4, ownL, if_neg he] at h
  exact h.symm
theorem own_short {o r : List UInt8} {k R : Nat} (hk : r.length ≤ k) (h : ownL (o.drop k) (r.drop k) = R) : R = 1 := by
  rw [List.drop_of_length_le hk] at h
  rw [← h]
  unfold ownL
  rfl
theorem own_told {o r : List UInt8} {k R : Nat} {x : UInt8} (hx : r[k]? = some x) (hk : o.length ≤ k) (h : ownL (o.drop k) (r.drop k) = R) : R = if endsC x then 2 else 0 := by
  obtain ⟨h1, h2⟩ := List.getElem?_eq_some_iff.1 hx
  rw [List.drop_of_length_le hk, List.drop_eq_getElem_cons h1, h2] at h
  exact h.symm

set_option maxHeartbeats 4000000 in
set_option maxRecDepth 10000 in
theorem ownEnd_any (b : Nat) (win : Int) (data : ByteArray) (pos mode : Nat) (scan : Int) (eat : Bool) (w : World) (hrd : RdAt w b win data pos mode scan eat) (hm1 : 1 ≤ mode) (hm2 : mode ≤ 10) (hd : data.size ≤ 10000000) (hp : pos ≤ data.size) :
    Calls Tryz.prog 35 #[.pointer (some ⟨b, 0, none⟩)] w fun e w' => e = .returned (.int .i64 (ownL (60 :: 47 :: rawL mode) (data.data.toList.drop pos) : Int)) ∧ ∃ n, w' = w.drewN n := by
  obtain ⟨c0, c1, c2, c3, c4, c5⟩ := hrd
  have hraw := fun W => raw_any mode hm1 hm2 W
  have hrl := raw_len mode
  obtain ⟨ob, hob⟩ : ∃ ob : ByteArray, (⟨#[60, 47]⟩ : ByteArray) ++ ⟨(rawL mode).toArray⟩ = ob := ⟨_, rfl⟩
  have hol : ob.data.toList = 60 :: 47 :: rawL mode := by rw [← hob, ByteArray.data_append, Array.toList_append]; rfl
  have hoz : ob.size ≤ 12 := by rw [size_eq, hol]; simp only [List.length_cons]; omega
  obtain ⟨t, ht⟩ : ∃ t : ByteArray, data.extract pos data.size = t := ⟨_, rfl⟩
  have htl : t.data.toList = data.data.toList.drop pos := by rw [← ht]; exact extract_to_end data pos
  have htz : t.size ≤ 10000000 := by rw [← ht, ByteArray.size_extract]; omega
  rw [← htl, ← hol]
  obtain ⟨R, hR⟩ : ∃ R, ownL ob.data.toList t.data.toList = R := ⟨_, rfl⟩
  rw [hR]
  obtain ⟨rb, hrb⟩ : ∃ rb : ByteArray, (⟨(rawL mode).toArray⟩ : ByteArray) = rb := ⟨_, rfl⟩
  rw [hrb] at hraw hob
  have hrz : rb.size ≤ 10 := by rw [← hrb, size_eq]; exact hrl
  obtain ⟨mn, hmn⟩ : ∃ mn, min t.size ob.size = mn := ⟨_, rfl⟩
  have hmin : min (t.size : Int) (ob.size : Int) = (mn : Int) := by omega
  have hmt : mn ≤ t.size := by omega
  have hmo : mn ≤ ob.size := by omega
  have hmc : mn = t.size ∨ mn = ob.size := by omega
  have HR := hid (fun (_ : True) => hR)
  have HW := hid hraw
  clear hR hraw hol htl hrb hrl hmn
  go_enter Tryz.func35, Tryz.ntmps35
  go_wp2_with (go_at_call 67; refine (HW.out _).mono ?_; rintro e w' ⟨rfl, rfl⟩)
  go_quiet (fail)
  go_wp2
  go_loopw [5] (fun iv wr => ∃ k : Nat, iv = .int .i64 k ∧ k ≤ mn ∧ Hid (True → ∃ n, wr = w'.drewN n) ∧ Hid (True → ownL (ob.data.toList.drop k) (t.data.toList.drop k) = R)) (fun iv _ => mn - (RowKit.intOf iv).toNat)
  case atStart => exact ⟨0, rfl, Nat.zero_le _, hid (fun _ => ⟨_, rfl⟩), HR.out⟩
  case round =>
    obtain ⟨k, rfl, hk, HQ, HA⟩ := hrel
    by_cases hkm : k < mn
    · have hkt : k < t.size := by omega
      have hko : k < ob.size := by omega
      obtain ⟨x, hx⟩ : ∃ x, t[k]'hkt = x := ⟨_, rfl⟩
      obtain ⟨y, hy⟩ : ∃ y, ob[k]'hko = y := ⟨_, rfl⟩
      have hlx := getElem_list hkt hx
      have hly := getElem_list hko hy
      have hlt := x.toNat_lt
      have hlow := fun W => low_any (x.toNat : Int) (by omega) (by omega) W
      rw [lowZ_C] at hlow
      have hib := int_beq (lowC x) y
      by_cases he : lowC x = y
      · have HB := hid (fun (_ : True) => own_go hlx hly he (HA.out trivial))
        rw [beq_iff_eq.2 he] at hib
        clear he hlx hly HA
        generalize ((lowC x).toNat : Int) = z at hlow hib
        go_wp2_with fail
        go_quiet (first | (go_at_call 68; refine Calls.quiet_of_same (hlow _)))
        go_wp2
        go_roundw
        case rel =>
          obtain ⟨n, hn⟩ := HQ.out trivial
          exact ⟨k + 1, rfl, by omega, hid (fun _ => ⟨n + nq, by rw [hn]; simp⟩), HB.out⟩
        case measure => simp [RowKit.intOf]; omega
      · have h0 := own_no hlx hly he (HA.out trivial)
        subst h0
        rw [beq_eq_false_iff_ne.2 he] at hib
        have q1 : ((k : Int) == (t.size : Int)) = false := beq_eq_false_iff_ne.2 (by omega)
        have q2 : ((k : Int) == (ob.size : Int)) = false := beq_eq_false_iff_ne.2 (by omega)
        clear he hlx hly HA HR
        generalize ((lowC x).toNat : Int) = z at hlow hib
        go_wp2_with fail
        go_quiet (first | (go_at_call 68; refine Calls.quiet_of_same (hlow _)))
        go_wp2
        go_ret
        obtain ⟨n, hn⟩ := HQ.out trivial
        exact ⟨rfl, n + nq, by rw [hn]; simp⟩
    · have hk' : k = mn := by omega
      subst hk'
      by_cases hkt : k = t.size
      · have h1 := own_short (by rw [← size_eq]; omega) (HA.out trivial)
        subst h1
        have q1 : ((k : Int) == (t.size : Int)) = true := beq_iff_eq.2 (by omega)
        have q0 : ¬ (k : Int) < (k : Int) := by omega
        clear HA HR hkt
        go_wp2_with fail
        go_quiet (fail)
        go_wp2
        go_ret
        obtain ⟨n, hn⟩ := HQ.out trivial
        exact ⟨rfl, n + nq, by rw [hn]; simp⟩
      · have hko : k = ob.size := hmc.resolve_left hkt
        have hkl : k < t.size := by omega
        obtain ⟨x, hx⟩ : ∃ x, t[k]'hkl = x := ⟨_, rfl⟩
        have h1 := own_told (getElem_list hkl hx) (by rw [← size_eq]; omega) (HA.out trivial)
        have hen := fun W => ends_any x W
        generalize endsC x = c at h1 hen
        have q1 : ((k : Int) == (t.size : Int)) = false := beq_eq_false_iff_ne.2 (by omega)
        have q2 : ((k : Int) == (ob.size : Int)) = true := beq_iff_eq.2 (by omega)
        clear HA HR hkt hko
        subst h1
        cases c
        all_goals
          go_wp2_with fail
          go_quiet (fail)
          go_wp2_with (go_at_call 69; refine (hen _).mono ?_; rintro e W9 ⟨rfl, rfl⟩)
          go_ret
          obtain ⟨n, hn⟩ := HQ.out trivial
          exact ⟨rfl, n + nq, by rw [hn]; simp⟩
end Go.Proofs.YtndglhflbenloaaGreatDoor

/-
  The reader's state; unit, beginSkip: their walks.
-/
namespace Go.Proofs.YtndglhflbenloaaGreatDoor
open Go.RowKit Go.Lib Own

/-- the reader's nine cells -/
def rdC (win : Int) (data : ByteArray) (pos mode scan : Int) (eat : Bool) (ev p v : Value) : Array Value :=
  #[.int .i64 win, .string data, .int .i64 pos, .int .i64 mode, .int .i64 scan, .bool eat, ev, p, v]
structure Rdr (W : World) (base b : Nat) (win : Int) (data : ByteArray) (pos mode scan : Int) (eat : Bool) (evs : List Ev) (pend : List UInt8) : Prop where
  it : ∃ ev p v, StreamAt W base b 6 (rdC win data pos mode scan eat ev p v) 43 evs pend
theorem rd_T (win : Int) (data : ByteArray) (pos mode scan : Int) (eat : Bool) (ev p v : Value) : StreamT 43 (rdC win data pos mode scan eat ev p v) 6 :=
  ⟨by show liesAt Tryz.prog Tryz.prog.depth 43 (9 / Tryz.prog.cellsOf 43) 7 39 1 = true; kernel_rfl, by decide, by decide, by decide⟩
theorem StreamAt.heap {W : World} {base b o : Nat} {cs : Array Value} {T : TypeId} {evs : List Ev} {pend : List UInt8} (h : StreamAt W base b o cs T evs pend) : W.heap[b]? = some (.cells cs T (0, 0)) ∧ base ≤ b := by
  obtain ⟨ev, p, v, xs, hev, hin, hrow, hevs, hap⟩ := h.it
  exact ⟨hin.at_, hin.lo⟩
/-- a cell that is none of the stream's three is stored -/
theorem StreamAt.stored {W : World} {base b o : Nat} {cs : Array Value} {T : TypeId} {evs : List Ev} {pend : List UInt8} (h : StreamAt W base b o cs T evs pend) (hT : StreamT T cs o) (j : Nat) (hj : j < o) (u : Value) : StreamAt (W.setCell ⟨b, j, none⟩ u) base b o (cs.setIfInBounds j u) T evs pend := by
  obtain ⟨ev, p, v, xs, hev, hin, hrow, hevs, hap⟩ := h.it
  have j1 := just_set (j := j) hin.at_ u
  refine ⟨ev, p, v, xs, ?_, ⟨j1.at_, hin.lo, ?_, ?_, hin.hp, ?_, hin.ne⟩, row_just hrow hin.at_ hT.n2 j1.other, evs_mono (fun a n ys hr => row_just hr hin.at_ hT.n1 j1.other) xs evs hevs, hap⟩
  · rw [Array.getElem?_setIfInBounds, if_neg (by omega)]; exact hev
  · rw [Array.getElem?_setIfInBounds, if_neg (by omega)]; exact hin.cp
  · rw [Array.getElem?_setIfInBounds, if_neg (by omega)]; exact hin.cv
  · exact hin.own.kept (row := some b) ⟨j1.os, j1.tape, j1.output, by rw [j1.size]; exact Nat.le_refl _, fun k _ hk => j1.other k (fun e => hk (by rw [e]))⟩ (.inr hin.ne)

set_option maxHeartbeats 1000000 in
theorem unit_any (base b : Nat) (win : Int) (data : ByteArray) (pos mode scan : Int) (eat : Bool) (evs : List Ev) (pend : List UInt8) (s : ByteArray) (w : World) (h : Rdr w base b win data pos mode scan eat evs pend) (hlen : pend.length + s.size ≤ 140737488355328) :
    Calls Tryz.prog 33 #[.pointer (some ⟨b, 0, none⟩), .string s] w fun e w' => e = .returned (.tuple #[]) ∧
      Rdr w' base b win data pos mode scan false evs (if eat = true ∧ s.data.toList = [10] then pend else pend ++ s.data.toList) ∧ Below base w w' := by
  obtain ⟨ev, p, v, hS⟩ := h.it
  obtain ⟨hat, hlo⟩ := hS.heap
  have c5 : w.cell? ⟨b, 5, none⟩ = some (.bool eat) := cell_at hat rfl
  have f5 := free_at hat 5
  have hput := putText_any base b 6 _ _ evs pend s w hS (rd_T _ _ _ _ _ _ _ _ _) hlen
  have hskip := hS.stored (rd_T _ _ _ _ _ _ _ _ _) 5 (by omega) (.bool false)
  have jb := (just_set (j := 5) hat (.bool false)).below hlo
  have HP := hid hput
  have HK := hid hskip
  have HB := hid jb
  clear hput hskip jb hS hat h
  by_cases hs : eat = true ∧ s.toList = [10]
  · obtain ⟨rfl, h10⟩ := hs
    have q : (s.toList != [10]) = false := by rw [h10]; rfl
    have h10' : s.data.toList = [10] := by rw [← Lib.toList_data]; exact h10
    rw [if_pos ⟨rfl, h10'⟩]
    clear h10'
    go_enter Tryz.func33, Tryz.ntmps33
    go_wp2
    go_end0
    exact ⟨rfl, ⟨ev, p, v, HK.out⟩, HB.out⟩
  · have hs' : ¬ (eat = true ∧ s.data.toList = [10]) := by rw [← Lib.toList_data]; exact hs
    rw [if_neg hs']
    have go : eat = false ∨ (eat = true ∧ (s.toList == [10]) = false) := by
      cases eat
      · exact .inl rfl
      · exact .inr ⟨rfl, beq_eq_false_iff_ne.2 (fun h => hs ⟨rfl, h⟩)⟩
    clear hs hs' HK HB
    rcases go with rfl | ⟨rfl, q⟩
    all_goals
      try have q2 : (s.toList != [10]) = true := by rw [bne, q]; rfl
      go_enter Tryz.func33, Tryz.ntmps33
      go_wp2_with fail
      refine HP.out.mono ?_
      rintro e w1 ⟨rfl, p', v', hS1, b1⟩
      obtain ⟨hat1, hlo1⟩ := hS1.heap
      have hskip := hS1.stored (rd_T _ _ _ _ _ _ ev p' v') 5 (by omega) (.bool false)
      have jb := (just_set (j := 5) hat1 (.bool false)).below hlo1
      have f51 := free_at hat1 5
      have HK := hid hskip
      have HB := hid (b1.trans jb)
      clear hskip jb hS1 b1
      first
        | (have c51 : w1.cell? ⟨b, 5, none⟩ = some (.bool false) := cell_at hat1 rfl; clear hat1; go_wp2; go_end0; exact ⟨rfl, ⟨ev, p', v', HK.out⟩, HB.out⟩)
        | (have c51 : w1.cell? ⟨b, 5, none⟩ = some (.bool true) := cell_at hat1 rfl; clear hat1; go_wp2; go_end0; exact ⟨rfl, ⟨ev, p', v', HK.out⟩, HB.out⟩)
end Go.Proofs.YtndglhflbenloaaGreatDoor

/-
  The reader's readByte: its walk.
-/
namespace Go.Proofs.YtndglhflbenloaaGreatDoor
open Go.RowKit Go.Lib Own

theorem StreamAt.drew {W : World} {base b o : Nat} {cs : Array Value} {T : TypeId} {evs : List Ev} {pend : List UInt8} (h : StreamAt W base b o cs T evs pend) : StreamAt W.drew base b o cs T evs pend := by
  obtain ⟨ev, p, v, xs, hev, hin, hrow, hevs, hap⟩ := h.it
  exact ⟨ev, p, v, xs, hev, ⟨hin.at_, hin.lo, hin.cp, hin.cv, hin.hp, hin.own, hin.ne⟩, hrow, evs_mono (W := W) (W' := W.drew) (fun _ _ _ h => h) xs evs hevs, hap⟩
theorem Rdr.drew {W : World} {base b : Nat} {win : Int} {data : ByteArray} {pos mode scan : Int} {eat : Bool} {evs : List Ev} {pend : List UInt8} (h : Rdr W base b win data pos mode scan eat evs pend) : Rdr W.drew base b win data pos mode scan eat evs pend := by
  obtain ⟨ev, p, v, hS⟩ := h.it
  exact ⟨ev, p, v, hS.drew⟩
theorem Rdr.cells {W : World} {base b : Nat} {win : Int} {data : ByteArray} {pos mode scan : Int} {eat : Bool} {evs : List Ev} {pend : List UInt8} (h : Rdr W base b win data pos mode scan eat evs pend) : RdAt W b win data pos mode scan eat ∧ (∀ j, W.frozen? ⟨b, j, none⟩ = false) ∧ base ≤ b := by
  obtain ⟨ev, p, v, hS⟩ := h.it
  obtain ⟨hat, hlo⟩ := hS.heap
  exact ⟨⟨cell_at hat rfl, cell_at hat rfl, cell_at hat rfl, cell_at hat rfl, cell_at hat rfl, cell_at hat rfl⟩, fun j => free_at hat j, hlo⟩
theorem Rdr.setPos {W : World} {base b : Nat} {win : Int} {data : ByteArray} {pos mode scan : Int} {eat : Bool} {evs : List Ev} {pend : List UInt8} (h : Rdr W base b win data pos mode scan eat evs pend) (q : Int) :
    Rdr (W.setCell ⟨b, 2, none⟩ (.int .i64 q)) base b win data q mode scan eat evs pend ∧ Below base W (W.setCell ⟨b, 2, none⟩ (.int .i64 q)) := by
  obtain ⟨ev, p, v, hS⟩ := h.it
  obtain ⟨hat, hlo⟩ := hS.heap
  exact ⟨⟨ev, p, v, hS.stored (rd_T _ _ _ _ _ _ _ _ _) 2 (by omega) (.int .i64 q)⟩, (just_set (j := 2) hat (.int .i64 q)).below hlo⟩

set_option maxHeartbeats 1000000 in
set_option maxRecDepth 10000 in
theorem readByte_any (base b : Nat) (win : Int) (data : ByteArray) (pos : Nat) (mode scan : Int) (eat : Bool) (evs : List Ev) (pend : List UInt8) (w : World) (h : Rdr w base b win data pos mode scan eat evs pend) (hlen : pend.length + 1 ≤ 140737488355328) (hd : data.size ≤ 10000000)
    (hp : pos < data.size) (x : UInt8) (hx : data.data.toList[pos]? = some x) :
    Calls Tryz.prog 36 #[.pointer (some ⟨b, 0, none⟩)] w fun e w' => e = .returned (.tuple #[]) ∧
      Rdr w' base b win data ((pos : Int) + 1) mode scan false evs (if eat = true ∧ [x] = [10] then pend else pend ++ [x]) ∧ Below base w w' := by
  obtain ⟨⟨c0, c1, c2, c3, c4, c5⟩, _, _⟩ := h.cells
  obtain ⟨s, hs⟩ : ∃ s, data.extract pos (pos + 1) = s := ⟨_, rfl⟩
  have hsl : s.data.toList = [x] := by
    rw [← hs, part_slice, part_more _ pos pos x (Nat.le_refl _) hx, List.drop_of_length_le (by rw [List.length_take]; omega)]
    rfl
  have hsz : s.size = 1 := by rw [size_eq, hsl]; rfl
  have hu := fun W hW => unit_any base b win data pos mode scan eat evs pend s W hW (by omega)
  rw [hsl] at hu
  generalize (if eat = true ∧ [x] = [10] then pend else pend ++ [x]) = P at hu ⊢
  have hwr : IntKind.i64.wrap ((pos : Int) + 1) = (pos : Int) + 1 := by rw [IntKind.wrap_i64]; omega
  have hq0 : 0 ≤ (pos : Int) + 1 := by omega
  have hq1 : (pos : Int) + 1 ≤ (data.size : Int) := by omega
  have hq2 : (pos : Int) ≤ (pos : Int) + 1 := by omega
  have HU := hid hu
  have HR := hid h
  clear hu h hsl hsz hx
  go_enter Tryz.func36, Tryz.ntmps36
  go_wp2_with fail
  go_region_law (go_simp; go_at_call 33; refine (HU.out _ (by exact HR.out.drew)).mono ?_; rintro e w1 ⟨rfl, hr1, b1⟩; obtain ⟨⟨k0, k1, k2, k3, k4, k5⟩, kf, _⟩ := hr1.cells; have kf2 := kf 2; clear kf)
  all_goals
    obtain ⟨r2, b2⟩ := hr1.setPos ((pos : Int) + 1)
    have bb : Below base w w1 := ⟨b1.os, b1.tape, b1.output, b1.size, b1.block⟩
    have H2 := hid r2
    have HB := hid (bb.trans b2)
    clear hr1 r2 b1 b2 bb
    go_wp2
    go_end0
    exact ⟨rfl, H2.out, HB.out⟩
end Go.Proofs.YtndglhflbenloaaGreatDoor

/-
  The reader's skipTag, beginSkip: their walks.
-/
namespace Go.Proofs.YtndglhflbenloaaGreatDoor
open Go.RowKit Go.Lib Own

theorem Rdr.drewN {W : World} {base b : Nat} {win : Int} {data : ByteArray} {pos mode scan : Int} {eat : Bool} {evs : List Ev} {pend : List UInt8} (h : Rdr W base b win data pos mode scan eat evs pend) (n : Nat) : Rdr (W.drewN n) base b win data pos mode scan eat evs pend := by
  obtain ⟨ev, p, v, hS⟩ := h.it
  obtain ⟨ev', p', v', xs, hev, hin, hrow, hevs, hap⟩ := hS.it
  exact ⟨ev, p, v, ⟨ev', p', v', xs, hev, ⟨hin.at_, hin.lo, hin.cp, hin.cv, hin.hp, hin.own, hin.ne⟩, hrow, evs_mono (W := W) (W' := W.drewN n) (fun _ _ _ h => h) xs evs hevs, hap⟩⟩
theorem Rdr.setScan {W : World} {base b : Nat} {win : Int} {data : ByteArray} {pos mode scan : Int} {eat : Bool} {evs : List Ev} {pend : List UInt8} (h : Rdr W base b win data pos mode scan eat evs pend) (q : Int) :
    Rdr (W.setCell ⟨b, 4, none⟩ (.int .i64 q)) base b win data pos mode q eat evs pend ∧ Below base W (W.setCell ⟨b, 4, none⟩ (.int .i64 q)) := by
  obtain ⟨ev, p, v, hS⟩ := h.it
  obtain ⟨hat, hlo⟩ := hS.heap
  exact ⟨⟨ev, p, v, hS.stored (rd_T _ _ _ _ _ _ _ _ _) 4 (by omega) (.int .i64 q)⟩, (just_set (j := 4) hat (.int .i64 q)).below hlo⟩
theorem Rdr.setEat {W : World} {base b : Nat} {win : Int} {data : ByteArray} {pos mode scan : Int} {eat : Bool} {evs : List Ev} {pend : List UInt8} (h : Rdr W base b win data pos mode scan eat evs pend) (q : Bool) :
    Rdr (W.setCell ⟨b, 5, none⟩ (.bool q)) base b win data pos mode scan q evs pend ∧ Below base W (W.setCell ⟨b, 5, none⟩ (.bool q)) := by
  obtain ⟨ev, p, v, hS⟩ := h.it
  obtain ⟨hat, hlo⟩ := hS.heap
  exact ⟨⟨ev, p, v, hS.stored (rd_T _ _ _ _ _ _ _ _ _) 5 (by omega) (.bool q)⟩, (just_set (j := 5) hat (.bool q)).below hlo⟩

set_option maxHeartbeats 1000000 in
set_option maxRecDepth 10000 in
theorem beginSkip_any (base b : Nat) (win : Int) (data : ByteArray) (pos : Nat) (mode scan : Int) (eat : Bool) (evs : List Ev) (pend : List UInt8) (w : World) (h : Rdr w base b win data pos mode scan eat evs pend) (hd : data.size ≤ 10000000) (hp : pos ≤ data.size) (q : Int) :
    Calls Tryz.prog 102 #[.pointer (some ⟨b, 0, none⟩), .int .i64 q] w fun e w' => e = .returned (.tuple #[]) ∧
      Rdr w' base b win data ((pos : Int) + 2) mode q false evs pend ∧ Below base w w' := by
  obtain ⟨⟨c0, c1, c2, c3, c4, c5⟩, hf, _⟩ := h.cells
  have f2 := hf 2
  have f4 := hf 4
  have f5 := hf 5
  have hwr : IntKind.i64.wrap ((pos : Int) + 2) = (pos : Int) + 2 := by rw [IntKind.wrap_i64]; omega
  obtain ⟨r1, b1⟩ := h.setPos ((pos : Int) + 2)
  obtain ⟨r2, b2⟩ := r1.setScan q
  obtain ⟨r3, b3⟩ := r2.setEat false
  obtain ⟨_, hf1, _⟩ := r1.cells
  obtain ⟨_, hf2, _⟩ := r2.cells
  have g4 := hf1 4
  have g5 := hf2 5
  have HR := hid r3
  have HB := hid ((b1.trans b2).trans b3)
  clear r1 r2 r3 b1 b2 b3 hf hf1 hf2 h
  go_enter Tryz.func102, Tryz.ntmps102
  go_wp2
  go_end0
  exact ⟨rfl, HR.out, HB.out⟩

set_option maxHeartbeats 2000000 in
set_option maxRecDepth 10000 in
theorem skipTag_any (base b : Nat) (win : Int) (data : ByteArray) (pos s : Nat) (mode : Int) (eat : Bool) (evs : List Ev) (pend : List UInt8) (w : World) (h : Rdr w base b win data pos mode s eat evs pend) (hT : TagTabs w) (hd : data.size ≤ 10000000) (hp : pos ≤ data.size) (hs : 3 ≤ s ∧ s ≤ 10) :
    Calls Tryz.prog 42 #[.pointer (some ⟨b, 0, none⟩)] w fun e w' => e = .returned (.bool true) ∧
      Rdr w' base b win data ((pos + (passL s (data.data.toList.drop pos)).1 : Nat) : Int) mode ((passL s (data.data.toList.drop pos)).2 : Int) eat evs pend ∧ Below base w w' := by
  obtain ⟨⟨c0, c1, c2, c3, c4, c5⟩, hf, _⟩ := h.cells
  have f2 := hf 2
  have f4 := hf 4
  have hpass := fun W hTW => pass_any data pos s W (by omega) hp (.inr hs) hTW
  generalize pos + (passL s (data.data.toList.drop pos)).1 = E at hpass ⊢
  generalize (passL s (data.data.toList.drop pos)).2 = S at hpass ⊢
  have HP := hid hpass
  have HT := hid hT
  have HR := hid h
  clear hpass hT h hf
  go_enter Tryz.func42, Tryz.ntmps42
  go_wp2_with fail
  go_region_law (go_simp; go_at_call 78; refine (HP.out _ (by exact HT.out)).mono ?_; rintro e w1 ⟨rfl, nd, rfl⟩)
  all_goals
    go_wp2
    go_ret
    exact ⟨rfl, (((HR.out.drewN _).setPos _).1.setScan _).1, ((below_drewN (Below.refl base w) _).trans ((HR.out.drewN _).setPos _).2).trans (((HR.out.drewN _).setPos _).1.setScan _).2⟩
end Go.Proofs.YtndglhflbenloaaGreatDoor

/-
  A step of the reader, in the plain lexer's words; skipBogus, skipComment: their walks.
-/
namespace Go.Proofs.YtndglhflbenloaaGreatDoor
open Go.RowKit Go.Lib Own

theorem StreamAt.below {W W' : World} {base b o : Nat} {cs : Array Value} {T : TypeId} {evs : List Ev} {pend : List UInt8} (h : StreamAt W base b o cs T evs pend) (hb : Below W.heap.size W W') : StreamAt W' base b o cs T evs pend := by
  obtain ⟨ev, p, v, xs, hev, hin, hrow, hevs, hap⟩ := h.it
  have hg : W.grownBy W' none := ⟨hb.os, hb.tape, hb.output, hb.size, fun k hk _ => hb.block k hk⟩
  exact ⟨ev, p, v, xs, hev, ⟨(hb.block b (Array.getElem?_eq_some_iff.1 hin.at_).1).trans hin.at_, hin.lo, hin.cp, hin.cv, hin.hp, hin.own.kept hg (by cases hv : v.ownBlock <;> simp), hin.ne⟩, hrow.kept hg (Classical.em _), evs_mono (fun a n ys hr => hr.kept hg (Classical.em _)) xs evs hevs, hap⟩
theorem Rdr.below {W W' : World} {base b : Nat} {win : Int} {data : ByteArray} {pos mode scan : Int} {eat : Bool} {evs : List Ev} {pend : List UInt8} (h : Rdr W base b win data pos mode scan eat evs pend) (hb : Below W.heap.size W W') : Rdr W' base b win data pos mode scan eat evs pend := by
  obtain ⟨ev, p, v, hS⟩ := h.it
  exact ⟨ev, p, v, hS.below hb⟩
theorem Rdr.size {W : World} {base b : Nat} {win : Int} {data : ByteArray} {pos mode scan : Int} {eat : Bool} {evs : List Ev} {pend : List UInt8} (h : Rdr W base b win data pos mode scan eat evs pend) : base ≤ W.heap.size := by
  obtain ⟨ev, p, v, hS⟩ := h.it
  obtain ⟨hat, hlo⟩ := hS.heap
  have := (Array.getElem?_eq_some_iff.1 hat).1
  omega
theorem below_low {A B : Nat} {w w' : World} (h : Below B w w') (hAB : A ≤ B) : Below A w w' := Below.mono h hAB

/-- the tables that the lexer reads, all ahead of block 'base' -/
structure LexTabs (base : Nat) (w : World) (m : Int) : Prop where
  tag : TagTabs w
  ch : ChTabs w
  max : w.cell? ⟨5, 0, none⟩ = some (.int .i64 m)
  l1 : 6 < base
  l2 : 0 < base
  l3 : 8 < base
  l4 : 5 < base
theorem LexTabs.below {base : Nat} {w w' : World} {m : Int} (h : LexTabs base w m) (hb : Below base w w') : LexTabs base w' m :=
  ⟨rangeAt_base h.tag hb h.l1, ⟨rangeAt_base h.ch.names hb h.l2, rangeAt_base h.ch.repl hb h.l3⟩, cell_low h.max hb h.l4, h.l1, h.l2, h.l3, h.l4⟩

/-- what a step leaves -/
def StepAt (w w' : World) (base b : Nat) (win : Int) (data : ByteArray) (pos : Nat) (evs : List Ev) (pend : List UInt8) (e : Ending) : Res → Prop
  | .more n st => e = .returned (.bool false) ∧ Rdr w' base b win data ((pos + n : Nat) : Int) (st.mode : Int) (st.scan : Int) st.eat evs pend ∧ Below base w w'
  | .done n st it => e = .returned (.bool true) ∧ Rdr w' base b win data ((pos + n : Nat) : Int) (st.mode : Int) (st.scan : Int) st.eat (putAll (evs, pend) it).1 (putAll (evs, pend) it).2 ∧ Below base w w'

set_option maxHeartbeats 2000000 in
set_option maxRecDepth 10000 in
theorem skipBogus_any (base b : Nat) (win : Int) (data : ByteArray) (pos mode : Nat) (eat : Bool) (evs : List Ev) (pend : List UInt8) (w : World) (h : Rdr w base b win data pos mode 2 eat evs pend) (hd : data.size ≤ 10000000) (hp : pos ≤ data.size) :
    Calls Tryz.prog 41 #[.pointer (some ⟨b, 0, none⟩)] w fun e w' => StepAt w w' base b win data pos evs pend e (bogusRes ⟨mode, 2, eat⟩ (data.data.toList.drop pos)) := by
  have hll : (data.data.toList.drop pos).length = data.size - pos := by rw [List.length_drop, ← size_eq]
  have hsum : (pos + (data.data.toList.drop pos).length : Nat) = data.size := by omega
  obtain ⟨⟨c0, c1, c2, c3, c4, c5⟩, hf, _⟩ := h.cells
  have f2 := hf 2
  have f4 := hf 4
  obtain ⟨t, ht⟩ : ∃ t : ByteArray, data.extract pos data.size = t := ⟨_, rfl⟩
  have htl : t.data.toList = data.data.toList.drop pos := by rw [← ht]; exact extract_to_end data pos
  have hcall := fun W => Tryz.strings_IndexByte t 62 W
  rw [htl, show (62 : Int).toNat.toUInt8 = 62 from rfl, indexByte_idx] at hcall
  have hlt := byte_append 62 (data.data.toList.drop pos) []
  have HR := hid h
  unfold bogusRes
  cases hi : byteIdx 62 (data.data.toList.drop pos) with
  | none =>
    rw [hi] at hcall
    have HC := hid hcall
    unfold StepAt
    simp only
    rw [hsum]
    clear hcall hlt hi h hf htl hsum hll
    go_enter Tryz.func41, Tryz.ntmps41
    go_wp2_with fail
    go_quiet (first | (go_at_call 77; refine Calls.quiet_of_same (HC.out _)))
    go_wp2
    go_ret
    exact ⟨rfl, ((HR.out.drewN _).setPos _).1, (below_drewN (Below.refl base w) _).trans ((HR.out.drewN _).setPos _).2⟩
  | some i =>
    rw [hi] at hcall hlt
    have hil : i < data.size - pos := by
      rcases hlt with ⟨j, h1, h2, -⟩ | ⟨h1, -⟩
      · cases h1; omega
      · cases h1
    have w1 : IntKind.i64.wrap ((i : Int) + 1) = (i : Int) + 1 := by rw [IntKind.wrap_i64]; omega
    have w2 : IntKind.i64.wrap ((pos : Int) + ((i : Int) + 1)) = ((pos + (i + 1) : Nat) : Int) := by rw [IntKind.wrap_i64]; omega
    have hng : ¬ (i : Int) < 0 := by omega
    have HC := hid hcall
    unfold StepAt
    simp only
    generalize ((pos + (i + 1) : Nat) : Int) = q at *
    clear hcall hlt hi h hf htl hll hsum
    go_enter Tryz.func41, Tryz.ntmps41
    go_wp2_with fail
    go_quiet (first | (go_at_call 77; refine Calls.quiet_of_same (HC.out _)))
    go_wp2
    go_ret
    exact ⟨rfl, (((HR.out.drewN _).setPos _).1.setScan _).1, ((below_drewN (Below.refl base w) _).trans ((HR.out.drewN _).setPos _).2).trans (((HR.out.drewN _).setPos _).1.setScan _).2⟩
end Go.Proofs.YtndglhflbenloaaGreatDoor

/-
  The reader's readTag: its walk.
-/
namespace Go.Proofs.YtndglhflbenloaaGreatDoor
open Go.RowKit Go.Lib Own

theorem pass_le (L : List UInt8) (s : Nat) : (passL s L).1 ≤ L.length := by
  rcases pass_append L [] s with ⟨_, h, _⟩ | ⟨_, h, _⟩
  · exact h
  · omega
theorem pass_take (L : List UInt8) (s : Nat) : (passL s (L.take (passL s L).1)).1 = (L.take (passL s L).1).length := by
  have hle := pass_le L s
  have hlen : (L.take (passL s L).1).length = (passL s L).1 := by rw [List.length_take]; omega
  rcases pass_append (L.take (passL s L).1) (L.drop (passL s L).1) s with ⟨_, h1, h2⟩ | ⟨_, h1, _⟩
  · rw [List.take_append_drop] at h2
    rw [← h2, hlen]
  · exact h1
theorem Rdr.setMode {W : World} {base b : Nat} {win : Int} {data : ByteArray} {pos mode scan : Int} {eat : Bool} {evs : List Ev} {pend : List UInt8} (h : Rdr W base b win data pos mode scan eat evs pend) (q : Int) :
    Rdr (W.setCell ⟨b, 3, none⟩ (.int .i64 q)) base b win data pos q scan eat evs pend ∧ Below base W (W.setCell ⟨b, 3, none⟩ (.int .i64 q)) := by
  obtain ⟨ev, p, v, hS⟩ := h.it
  obtain ⟨hat, hlo⟩ := hS.heap
  exact ⟨⟨ev, p, v, hS.stored (rd_T _ _ _ _ _ _ _ _ _) 3 (by omega) (.int .i64 q)⟩, (just_set (j := 3) hat (.int .i64 q)).below hlo⟩
/-- an event is put into the reader's stream -/
theorem rdPut_any (base b : Nat) (win : Int) (data : ByteArray) (pos mode scan : Int) (eat : Bool) (evs : List Ev) (pend : List UInt8) (g0 : Nat) (kk : Int) (nb tb : ByteArray) (ap : Option Addr) (an ac : Nat) (e0 : Ev) (w0 w : World) (hsl : w.heap[g0]? = some (.cells #[.int .i64 kk, .string nb, .slice ap an ac, .string tb] 52 (0, 0))) (hkk : (kk == 3) = false) (h : Rdr w0 base b win data pos mode scan eat evs pend) (hw0 : Below w0.heap.size w0 w) (hfr : ∀ g, (Value.slice ap an ac).ownBlock = some g → w0.heap.size ≤ g) (hlen : evs.length ≤ 9000000) (h1 : EvsAt w base [.int .i64 kk, .string nb, .slice ap an ac, .string tb] [e0])
    (hone : ∀ u ∈ [Value.int .i64 kk, .string nb, .slice ap an ac, .string tb], u.oneCell' = true) :
    Calls Tryz.prog 105 #[.pointer (some ⟨b, 6, none⟩), .slice (some ⟨g0, 0, none⟩) 1 1] w fun e w' => e = .returned (.tuple #[]) ∧
      Rdr w' base b win data pos mode scan eat (flushE (evs, pend) ++ [e0]) [] ∧ Below base w w' := by
  obtain ⟨ev, p, v, hS⟩ := h.it
  refine (put_any base b 6 _ _ evs pend g0 kk nb tb ap an ac e0 w0 w hsl hkk hS hw0 hfr (rd_T _ _ _ _ _ _ _ _ _) hlen h1 hone).mono ?_
  rintro e w' ⟨rfl, e1, p1, v1, h2, h3⟩
  exact ⟨rfl, ⟨e1, p1, v1, h2⟩, h3⟩
theorem Rdr.ended {W : World} {base b : Nat} {win : Int} {data : ByteArray} {pos mode scan : Int} {eat : Bool} {evs : List Ev} {pend : List UInt8} (h : Rdr W base b win data pos mode scan eat evs pend) (E S : Int) :
    Rdr ((((W.setCell ⟨b, 3, none⟩ (.int .i64 0)).setCell ⟨b, 5, none⟩ (.bool false)).setCell ⟨b, 2, none⟩ (.int .i64 E)).setCell ⟨b, 4, none⟩ (.int .i64 S)) base b win data E 0 S false evs pend ∧
      Below base W ((((W.setCell ⟨b, 3, none⟩ (.int .i64 0)).setCell ⟨b, 5, none⟩ (.bool false)).setCell ⟨b, 2, none⟩ (.int .i64 E)).setCell ⟨b, 4, none⟩ (.int .i64 S)) := by
  obtain ⟨r1, b1⟩ := h.setMode 0
  obtain ⟨r2, b2⟩ := r1.setEat false
  obtain ⟨r3, b3⟩ := r2.setPos E
  obtain ⟨r4, b4⟩ := r3.setScan S
  exact ⟨r4, ((b1.trans b2).trans b3).trans b4⟩
theorem Rdr.ended2 {W : World} {base b : Nat} {win : Int} {data : ByteArray} {pos mode scan : Int} {eat : Bool} {evs : List Ev} {pend : List UInt8} (h : Rdr W base b win data pos mode scan eat evs pend) (E S M : Int) (B : Bool) :
    Rdr ((((((W.setCell ⟨b, 3, none⟩ (.int .i64 0)).setCell ⟨b, 5, none⟩ (.bool false)).setCell ⟨b, 3, none⟩ (.int .i64 M)).setCell ⟨b, 5, none⟩ (.bool B)).setCell ⟨b, 2, none⟩ (.int .i64 E)).setCell ⟨b, 4, none⟩ (.int .i64 S)) base b win data E M S B evs pend ∧
      Below base W ((((((W.setCell ⟨b, 3, none⟩ (.int .i64 0)).setCell ⟨b, 5, none⟩ (.bool false)).setCell ⟨b, 3, none⟩ (.int .i64 M)).setCell ⟨b, 5, none⟩ (.bool B)).setCell ⟨b, 2, none⟩ (.int .i64 E)).setCell ⟨b, 4, none⟩ (.int .i64 S)) := by
  obtain ⟨r1, b1⟩ := h.setMode 0
  obtain ⟨r2, b2⟩ := r1.setEat false
  obtain ⟨r3, b3⟩ := r2.setMode M
  obtain ⟨r4, b4⟩ := r3.setEat B
  obtain ⟨r5, b5⟩ := r4.setPos E
  obtain ⟨r6, b6⟩ := r5.setScan S
  exact ⟨r6, ((((b1.trans b2).trans b3).trans b4).trans b5).trans b6⟩

set_option maxHeartbeats 8000000 in
set_option maxRecDepth 100000 in
theorem readTag_any (base b win : Nat) (data : ByteArray) (pos k mode : Nat) (eat : Bool) (evs : List Ev) (pend : List UInt8) (m : Int) (w : World) (h : Rdr w base b win data pos mode 0 eat evs pend) (hd : data.size ≤ 10000000) (hk : k = 1 ∨ k = 2) (hp : pos + k ≤ data.size)
    (hwin : win ≤ 4096) (hel : evs.length ≤ 8000000) (hT : LexTabs base w m) :
    Calls Tryz.prog 81 #[.pointer (some ⟨b, 0, none⟩), .int .i64 ((pos + k : Nat) : Int)] w fun e w' => StepAt w w' base b win data pos evs pend e (tagL win k (data.data.toList.drop pos) ⟨mode, 0, eat⟩) := by
  obtain ⟨⟨c0, c1, c2, c3, c4, c5⟩, hf, _⟩ := h.cells
  obtain ⟨a, ha⟩ : ∃ a, pos + k = a := ⟨_, rfl⟩
  have hak : a = pos + 1 ∨ a = pos + 2 := by omega
  have hpass := pass_any data a 3 w (by omega) (by omega) (.inr (by omega)) hT.tag
  have hD : (data.data.toList.drop pos).drop k = data.data.toList.drop a := by rw [List.drop_drop, ha]
  unfold tagL
  rw [hD]
  have hple := pass_le (data.data.toList.drop a) 3
  have hpt := pass_take (data.data.toList.drop a) 3
  obtain ⟨p, hP⟩ : ∃ p, passL 3 (data.data.toList.drop a) = p := ⟨_, rfl⟩
  rw [hP] at hpass hple hpt ⊢
  obtain ⟨p1, p2⟩ := p
  simp only at hpass hple hpt ⊢
  rw [List.length_drop, ← size_eq] at hple
  obtain ⟨tag, htag⟩ : ∃ tag, (data.data.toList.drop a).take p1 = tag := ⟨_, rfl⟩
  rw [htag] at hpt ⊢
  obtain ⟨E, hE⟩ : ∃ E, a + p1 = E := ⟨_, rfl⟩
  have htl : (data.extract a E).data.toList = tag := by rw [part_slice, ← htag, List.drop_take, ← hE, Nat.add_sub_cancel_left]
  have htz : (data.extract a E).size = p1 := by rw [ByteArray.size_extract]; omega
  have hname := fun W hTW => tagName_any (data.extract a E) W (by omega) hTW
  rw [htl] at hname
  obtain ⟨T, hTT⟩ : ∃ T, data.extract a E = T := ⟨_, rfl⟩
  rw [hTT] at hname htl htz
  rw [hE] at hpass
  obtain ⟨N, hN⟩ : ∃ N, tagNameL tag = N := ⟨_, rfl⟩
  rw [hN] at hname ⊢
  obtain ⟨nb, hnb⟩ : ∃ nb : ByteArray, (⟨N.toArray⟩ : ByteArray) = nb := ⟨_, rfl⟩
  have hnbl : nb.data.toList = N := by rw [← hnb]
  rw [hnb] at hname
  have hin := fun W => inside_any nb W
  have heat := fun W => eats_any nb W
  rw [hnbl] at hin heat
  have hsub : IntKind.i64.wrap ((E : Int) - (pos : Int)) = ((k + p1 : Nat) : Int) := by rw [IntKind.wrap_i64]; omega
  have hadd : IntKind.i64.wrap ((pos : Int) + 1) = ((pos + 1 : Nat) : Int) := by rw [IntKind.wrap_i64]; omega
  have hEd : E ≤ data.size := by omega
  have haE : a ≤ E := by omega
  have hpE : pos + (k + p1) = E := by omega
  have HP := hid hpass
  have HN := hid hname
  have HT := hid hT
  have HR := hid h
  have HI := hid hin
  have HE := hid heat
  have HPT := hid (fun (_ : True) => hpt)
  have HTL := hid (fun (_ : True) => htl)
  have f2 := hf 2
  have f3 := hf 3
  have f4 := hf 4
  have f5 := hf 5
  rw [ha]
  clear hpass hname hin heat hT h hf hpt htl hD hP htag hE hN hnbl hp
  obtain ⟨fi, hfi⟩ : ∃ fi, k + p1 = fi := ⟨_, rfl⟩
  have hp1f : p1 ≤ fi := by omega
  rw [hfi] at hsub hpE ⊢
  clear hfi
  have hq1 : (k = 1 ∧ ((a : Int) == ((pos + 1 : Nat) : Int)) = true) ∨ (k = 2 ∧ ((a : Int) == ((pos + 1 : Nat) : Int)) = false) := by
    rcases hk with rfl | rfl
    · exact .inl ⟨rfl, beq_iff_eq.2 (by omega)⟩
    · exact .inr ⟨rfl, beq_eq_false_iff_ne.2 (by omega)⟩
  by_cases hfit : fi ≤ win
  · have qf : (fi : Int) ≤ (win : Int) := by omega
    by_cases hs : p2 = 0
    · subst hs
      rw [if_neg (fun h => h.2 rfl), if_pos hfit]
      have hTz : T.size ≤ 1000000 := by clear hsub; omega
      have hrow := fun W hTT hC hmx => attrs_any T m W hTz (by rw [HTL.out trivial]; exact HPT.out trivial) hTT hC hmx
      rw [HTL.out trivial] at hrow
      have HROW := hid hrow
      clear hrow htz HPT HTL
      rcases hq1 with ⟨rfl, qk⟩ | ⟨rfl, qk⟩
      · simp only [if_true]
        generalize attrsL 3 [] [] tag = AT at HROW ⊢
        generalize insideL N = IN at HI ⊢
        generalize eatsL N = EA at HE ⊢
        clear hk ha hak hfit
        go_enter Tryz.func81, Tryz.ntmps81
        go_wp2_with (go_at_call 78; refine HP.out.mono ?_; rintro e w1 ⟨rfl, nd, rfl⟩)
        go_quiet (fail)
        go_wp2_with (go_at_call 104; refine (HN.out _ (by exact HT.out.tag)).mono ?_; rintro e w2 ⟨rfl, b2⟩; have hr2 := (HR.out.drewN (nd + nq)).below b2; obtain ⟨⟨d0, d1, d2, d3, d4, d5⟩, df, _⟩ := hr2.cells; have e2 := df 2; have e3 := df 3; have e4 := df 4; have e5 := df 5; clear df)
        have hb2 : Below base w w2 := (below_drewN (Below.refl base w) (nd + nq)).trans (b2.mono HR.out.size)
        have ht2 := HT.out.below hb2
        have HR2 := hid hr2
        have HB2 := hid hb2
        have HT2 := hid ht2
        clear hr2 hb2 ht2 b2
        clear c0 c1 c2 c3 c4 c5 f2 f3 f4 f5
        go_region_law (first
          | (go_simp; go_at_call 106; refine (HROW.out _ (by exact HT2.out.tag) (by exact ⟨HT2.out.ch.names, HT2.out.ch.repl⟩) (by exact HT2.out.max)).mono ?_; rintro e w3 ⟨v, rfl, hrow3, b3⟩; obtain ⟨vp, vc, rfl⟩ := row_shape hrow3; have hr3 := HR2.out.drew.below b3; have hb3 : Below base w2 w3 := Below.mono (B := w2.heap.size) ⟨b3.os, b3.tape, b3.output, b3.size, b3.block⟩ HR2.out.size; have hrow4 := row_low hrow3 (by exact HR2.out.size))
          | (go_simp; go_at_call 105; refine (rdPut_any base b win data pos mode 0 eat evs pend _ 1 nb ⟨#[]⟩ vp AT.length vc (.start N AT) _ _ (heap_alloc_new _ _) (by decide) (by exact HR2.out.drew) (by exact b3.alloc b3.size _) (fun g e => (hrow3.lt g e).1) (by omega) (by exact ⟨⟨rfl, by rw [← hnb]; rfl, hrow4.alloc _, rfl⟩, trivial⟩) (by simp [Value.oneCell'])).mono ?_; rintro e w4 ⟨rfl, hr4, b4⟩; obtain ⟨⟨g0, g1, g2, g3, g4, g5⟩, gf, _⟩ := hr4.cells; have j2 := gf 2; have j3 := gf 3; have j4 := gf 4; have j5 := gf 5; clear gf))
        all_goals
          have hb4 := ((HB2.out.trans hb3).alloc (Nat.le_trans HR2.out.size (by exact b3.size)) _).trans b4
          have HR4 := hid hr4
          have HB4 := hid hb4
          clear hr4 hb4 hr3 hb3 b3 b4 hrow3 hrow4 d0 d1 d2 d3 d4 d5 e2 e3 e4 e5
          go_wp2_with (first | (go_at_call 107; refine (HI.out _).mono ?_; rintro e w' ⟨rfl, rfl⟩) | (go_at_call 108; refine (HE.out _).mono ?_; rintro e w' ⟨rfl, rfl⟩))
          go_ret
          exact ⟨rfl, by rw [hpE]; exact (HR4.out.ended2 _ _ _ _).1, HB4.out.trans (HR4.out.ended2 _ _ _ _).2⟩
      · have h21 : ¬ (2 = 1) := by decide
        simp only [if_neg h21]
        clear hk ha hak hfit HROW
        go_enter Tryz.func81, Tryz.ntmps81
        go_wp2_with (go_at_call 78; refine HP.out.mono ?_; rintro e w1 ⟨rfl, nd, rfl⟩)
        go_quiet (fail)
        go_wp2_with (first | (go_at_call 104; refine (HN.out _ (by exact HT.out.tag)).mono ?_; rintro e w2 ⟨rfl, b2⟩; have hr2 := (HR.out.drewN (nd + nq)).below b2; obtain ⟨⟨d0, d1, d2, d3, d4, d5⟩, df, _⟩ := hr2.cells; have e2 := df 2; have e3 := df 3; have e4 := df 4; have e5 := df 5; clear df) | (go_at_call 105; refine (rdPut_any base b win data pos mode 0 eat evs pend _ 2 nb ⟨#[]⟩ none 0 0 (.stop N) _ _ (heap_alloc_new _ _) (by decide) (by exact hr2) ((Below.refl _ _).alloc (Nat.le_refl _) _) (fun g e => by cases e) (by omega) (by exact ⟨⟨rfl, by rw [← hnb]; rfl, rfl, rfl⟩, trivial⟩) (by simp [Value.oneCell'])).mono ?_; rintro e w4 ⟨rfl, hr4, b4⟩; obtain ⟨⟨g0, g1, g2, g3, g4, g5⟩, gf, _⟩ := hr4.cells; have j2 := gf 2; have j3 := gf 3; have j4 := gf 4; have j5 := gf 5; clear gf))
        have hb2 : Below base w w2 := (below_drewN (Below.refl base w) (nd + nq)).trans (b2.mono HR.out.size)
        go_ret
        exact ⟨rfl, by rw [hpE]; exact (hr4.ended _ _).1, ((hb2.alloc (by exact hr2.size) _).trans b4).trans (hr4.ended _ _).2⟩
    · rw [if_pos ⟨hfit, hs⟩]
      have qs : ((p2 : Int) != 0) = true := by rw [bne, beq_eq_false_iff_ne.2 (by omega)]; rfl
      clear HN HI HE HPT HTL hTT htz hq1
      go_enter Tryz.func81, Tryz.ntmps81
      go_wp2_with (go_at_call 78; refine HP.out.mono ?_; rintro e w1 ⟨rfl, nd, rfl⟩)
      go_quiet (fail)
      go_wp2
      go_ret
      exact ⟨rfl, HR.out.drewN _, below_drewN (Below.refl base w) _⟩
  · rw [if_neg (fun h => hfit h.1), if_neg hfit]
    have qf : ¬ (fi : Int) ≤ (win : Int) := by omega
    clear HPT HTL htz
    rcases hq1 with ⟨rfl, qk⟩ | ⟨rfl, qk⟩
    · simp only [if_true]
      generalize insideL N = IN at HI ⊢
      generalize eatsL N = EA at HE ⊢
      clear hk ha hak hfit
      go_enter Tryz.func81, Tryz.ntmps81
      go_wp2_with (go_at_call 78; refine HP.out.mono ?_; rintro e w1 ⟨rfl, nd, rfl⟩)
      go_quiet (fail)
      go_wp2_with (go_at_call 104; refine (HN.out _ (by exact HT.out.tag)).mono ?_; rintro e w2 ⟨rfl, b2⟩; have hr2 := (HR.out.drewN (nd + nq)).below b2; obtain ⟨⟨d0, d1, d2, d3, d4, d5⟩, df, _⟩ := hr2.cells; have e2 := df 2; have e3 := df 3; have e4 := df 4; have e5 := df 5; clear df)
      have hb2 : Below base w w2 := (below_drewN (Below.refl base w) (nd + nq)).trans (b2.mono HR.out.size)
      clear c0 c1 c2 c3 c4 c5 f2 f3 f4 f5
      go_wp2_with (first | (go_at_call 107; refine (HI.out _).mono ?_; rintro e w' ⟨rfl, rfl⟩) | (go_at_call 108; refine (HE.out _).mono ?_; rintro e w' ⟨rfl, rfl⟩))
      go_ret
      exact ⟨rfl, by rw [hpE]; exact (hr2.ended2 _ _ _ _).1, hb2.trans (hr2.ended2 _ _ _ _).2⟩
    · have h21 : ¬ (2 = 1) := by decide
      simp only [if_neg h21]
      clear hk ha hak hfit
      go_enter Tryz.func81, Tryz.ntmps81
      go_wp2_with (go_at_call 78; refine HP.out.mono ?_; rintro e w1 ⟨rfl, nd, rfl⟩)
      go_quiet (fail)
      go_wp2_with (go_at_call 104; refine (HN.out _ (by exact HT.out.tag)).mono ?_; rintro e w2 ⟨rfl, b2⟩; have hr2 := (HR.out.drewN (nd + nq)).below b2; obtain ⟨⟨d0, d1, d2, d3, d4, d5⟩, df, _⟩ := hr2.cells; have e2 := df 2; have e3 := df 3; have e4 := df 4; have e5 := df 5; clear df)
      have hb2 : Below base w w2 := (below_drewN (Below.refl base w) (nd + nq)).trans (b2.mono HR.out.size)
      go_ret
      exact ⟨rfl, by rw [hpE]; exact (hr2.ended _ _).1, hb2.trans (hr2.ended _ _).2⟩
end Go.Proofs.YtndglhflbenloaaGreatDoor

/-
  The reader's readReference: its walk.
-/
namespace Go.Proofs.YtndglhflbenloaaGreatDoor
open Go.RowKit Go.Lib Own

theorem let_C (c : UInt8) : isLetZ (c.toNat : Int) = letterC c := by
  have := u8_all (p := fun c => isLetZ (c.toNat : Int) == letterC c) (by decide +kernel) c
  exact beq_iff_eq.1 this
theorem dig_C (c : UInt8) : isDigZ (c.toNat : Int) = digD c := by
  have := u8_all (p := fun c => isDigZ (c.toNat : Int) == digD c) (by decide +kernel) c
  exact beq_iff_eq.1 this
/-- the run of a reference, from its byte k on -/
def RunAt (L : List UInt8) (k R : Nat) : Prop := k + (((L.drop k).take (32 - k)).takeWhile alnumC).length = R
theorem run_more' {L : List UInt8} {k R : Nat} {x : UInt8} (h : RunAt L k R) (hk : k < 32) (hx : L[k]? = some x) (ha : alnumC x = true) : RunAt L (k + 1) R := by
  unfold RunAt at h ⊢
  obtain ⟨h1, h2⟩ := List.getElem?_eq_some_iff.1 hx
  rw [List.drop_eq_getElem_cons h1, h2, show 32 - k = (32 - (k + 1)) + 1 by omega, List.take_succ_cons, List.takeWhile_cons, if_pos ha, List.length_cons] at h
  omega
theorem run_stop {L : List UInt8} {k R : Nat} (h : RunAt L k R) (hx : 32 ≤ k ∨ L.length ≤ k ∨ ∃ x, L[k]? = some x ∧ alnumC x = false) : k = R := by
  unfold RunAt at h
  rcases hx with hk | hk | ⟨x, hx, ha⟩
  · rw [show 32 - k = 0 by omega] at h
    simpa using h
  · rw [List.drop_of_length_le hk] at h
    simpa using h
  · obtain ⟨h1, h2⟩ := List.getElem?_eq_some_iff.1 hx
    by_cases hk : k < 32
    · rw [List.drop_eq_getElem_cons h1, h2, show 32 - k = (32 - (k + 1)) + 1 by omega, List.take_succ_cons, List.takeWhile_cons, if_neg (by rw [ha]; simp)] at h
      simpa using h
    · rw [show 32 - k = 0 by omega] at h
      simpa using h
theorem put_unit (E : List Ev) (P : List UInt8) (st : LS) (u : List UInt8) : putAll (E, P) (unitL2 st u) = (E, if st.eat = true ∧ u = [10] then P else P ++ u) := by
  unfold unitL2
  split <;> rfl
set_option maxHeartbeats 8000000 in
set_option maxRecDepth 10000 in
theorem readRef_any (base b : Nat) (win : Int) (data : ByteArray) (pos mode : Nat) (eat : Bool) (evs : List Ev) (pend : List UInt8) (m : Int) (w : World) (h : Rdr w base b win data pos mode 0 eat evs pend) (hd : data.size ≤ 10000000) (hp : pos < data.size) (hpend : pend.length ≤ 40000000)
    (hT : ChTabs w) (hm : w.cell? ⟨5, 0, none⟩ = some (.int .i64 m)) :
    Calls Tryz.prog 80 #[.pointer (some ⟨b, 0, none⟩)] w fun e w' => StepAt w w' base b win data pos evs pend e (refRes ⟨mode, 0, eat⟩ (data.data.toList.drop pos)) := by
  obtain ⟨⟨c0, c1, c2, c3, c4, c5⟩, hf, _⟩ := h.cells
  have f2 := hf 2
  obtain ⟨L, hL⟩ : ∃ L, data.data.toList.drop pos = L := ⟨_, rfl⟩
  have hLl : L.length = data.size - pos := by rw [← hL, List.length_drop, ← size_eq]
  have hLx : ∀ (k : Nat) (hk : pos + k < data.size), L[k]? = some (data[pos + k]'hk) := fun k hk => by rw [← hL, List.getElem?_drop]; exact getElem_list hk rfl
  rw [hL]
  obtain ⟨R, hR⟩ : ∃ R, refRun L = R := ⟨_, rfl⟩
  have hend0 := refEnd_eq L
  rw [hR] at hend0
  have hw1 : IntKind.i64.wrap ((pos : Int) + 32) = (pos : Int) + 32 := by rw [IntKind.wrap_i64]; omega
  have hw2 : IntKind.i64.wrap ((pos : Int) + 1) = ((pos + 1 : Nat) : Int) := by rw [IntKind.wrap_i64]; omega
  have hw3 : IntKind.i64.wrap (((pos + 1 : Nat) : Int) + 1) = ((pos + 2 : Nat) : Int) := by rw [IntKind.wrap_i64]; omega
  obtain ⟨mn, hmn⟩ : ∃ mn, min data.size (pos + 32) = mn := ⟨_, rfl⟩
  have hmin : min (data.size : Int) ((pos : Int) + 32) = (mn : Int) := by omega
  have hm1 : mn ≤ data.size := by omega
  have hm2 : mn ≤ pos + 32 := by omega
  have hm3 : mn = data.size ∨ mn = pos + 32 := by omega
  have H0 : Hid (True → RunAt L (if L[1]? = some 35 then 2 else 1) R) := hid (fun _ => hR)
  have HX := hid (fun (_ : True) => hend0)
  have HLX := hid (fun (_ : True) => hLx)
  have HL := hid (fun (_ : True) => And.intro hL hLl)
  have HR := hid h
  have HT := hid hT
  have HM := hid hm
  obtain ⟨s0, hs0⟩ : ∃ s0, (if L[1]? = some 35 then 2 else 1) = s0 := ⟨_, rfl⟩
  rw [hs0] at H0
  have start : (s0 = 2 ∧ ∃ hk : pos + 1 < data.size, (((data[pos + 1]'hk).toNat : Int) == 35) = true) ∨ (s0 = 1 ∧ (¬ pos + 1 < data.size ∨ ∃ hk : pos + 1 < data.size, (((data[pos + 1]'hk).toNat : Int) == 35) = false)) := by
    by_cases hk : pos + 1 < data.size
    · have hx := hLx 1 hk
      by_cases h35 : data[pos + 1]'hk = 35
      · rw [h35] at hx
        rw [if_pos hx] at hs0
        exact .inl ⟨hs0.symm, hk, by rw [h35]; rfl⟩
      · rw [if_neg (by rw [hx]; simpa using h35)] at hs0
        refine .inr ⟨hs0.symm, .inr ⟨hk, ?_⟩⟩
        rw [beq_eq_false_iff_ne]
        intro e
        exact h35 (UInt8.toNat_inj.1 (by simp; omega))
    · have hn : ¬ L[1]? = some 35 := fun e => by
        have := (List.getElem?_eq_some_iff.1 e).1
        omega
      rw [if_neg hn] at hs0
      exact .inr ⟨hs0.symm, .inl hk⟩
  clear hR hend0 hLx hL hLl h hT hm hf hs0 hmn
  go_enter Tryz.func80, Tryz.ntmps80
  rcases start with ⟨rfl, hk1, q1⟩ | ⟨rfl, hq | ⟨hk1, q1⟩⟩
  · go_wp2
    go_loopw [4] (fun iv wr => ∃ n : Nat, iv = .int .i64 (n : Int) ∧ wr = w ∧ pos + 1 ≤ n ∧ n ≤ pos + 32 ∧ n ≤ data.size ∧ Hid (True → RunAt L (n - pos) R)) (fun iv _ => data.size - (RowKit.intOf iv).toNat)
    case atStart =>
      exact ⟨pos + 2, rfl, (by trivial), by omega, by omega, by omega, by rw [show pos + 2 - pos = 2 by omega]; exact H0⟩
    case round =>
      obtain ⟨n, rfl, rfl, hn1, hn2, hn3, HA⟩ := hrel
      clear H0 hw2 hw3
      clear q1
      by_cases hkm : n < mn
      · have hns : n < data.size := by omega
        obtain ⟨x, hx⟩ : ∃ x, data[n]'hns = x := ⟨_, rfl⟩
        have hlx : L[n - pos]? = some x := by
          have := HLX.out trivial (n - pos) (by omega)
          rw [this]
          have e : pos + (n - pos) = n := by omega
          simp only [e, hx]
        have hlt := x.toNat_lt
        have hlet := fun W => let_any (x.toNat : Int) (by omega) (by omega) W
        have hdig := fun W => dig_any (x.toNat : Int) (by omega) (by omega) W
        rw [let_C] at hlet
        rw [dig_C] at hdig
        have hwn : IntKind.i64.wrap ((n : Int) + 1) = ((n + 1 : Nat) : Int) := by rw [IntKind.wrap_i64]; omega
        by_cases hal : alnumC x = true
        · have HB : Hid (True → RunAt L (n + 1 - pos) R) := hid (fun _ => by
            have := run_more' (HA.out trivial) (by omega) hlx hal
            rwa [show n - pos + 1 = n + 1 - pos by omega] at this)
          have hor : letterC x = true ∨ letterC x = false ∧ digD x = true := by
            unfold alnumC at hal
            cases h1 : letterC x
            · rw [h1] at hal; exact .inr ⟨rfl, by simpa using hal⟩
            · exact .inl rfl
          clear hal hlx HA
          rcases hor with h1 | ⟨h1, h2⟩
          · rw [h1] at hlet
            go_wp2_with (first | (go_at_call 101; refine (hlet _).mono ?_; rintro e w' ⟨rfl, rfl⟩) | (go_at_call 103; refine (hdig _).mono ?_; rintro e w' ⟨rfl, rfl⟩))
            go_roundw
            case rel => exact ⟨n + 1, rfl, (by trivial), by omega, by omega, by omega, HB⟩
            case measure => simp [RowKit.intOf]; omega
          · rw [h1] at hlet
            rw [h2] at hdig
            go_wp2_with (first | (go_at_call 101; refine (hlet _).mono ?_; rintro e w' ⟨rfl, rfl⟩) | (go_at_call 103; refine (hdig _).mono ?_; rintro e w' ⟨rfl, rfl⟩))
            go_roundw
            case rel => exact ⟨n + 1, rfl, (by trivial), by omega, by omega, by omega, HB⟩
            case measure => simp [RowKit.intOf]; omega
        · have halF : alnumC x = false := by simpa using hal
          have hkR := run_stop (HA.out trivial) (.inr (.inr ⟨x, hlx, halF⟩))
          have h1 : letterC x = false := by unfold alnumC at halF; simp at halF; exact halF.1
          have h2 : digD x = false := by unfold alnumC at halF; simp at halF; exact halF.2
          rw [h1] at hlet
          rw [h2] at hdig
          have hend := HX.out trivial
          rw [← hkR, if_pos (by omega), if_neg (by have := (HL.out trivial).2; omega), hlx] at hend
          have hlim : (n : Int) < (pos : Int) + 32 := by omega
          have q2 : ((n : Int) == (data.size : Int)) = false := beq_eq_false_iff_ne.2 (by omega)
          clear hal halF h1 h2 hlx
          by_cases h59 : x = 59
          · rw [if_pos (by rw [h59]), show n - pos + 1 = n + 1 - pos by omega] at hend
            have q3 : ((x.toNat : Int) == 59) = true := by rw [h59]; rfl
            clear h59 hkR HA HX HLX
            subst hx
            have hres : refRes ⟨mode, 0, eat⟩ L = .done (n + 1 - pos) ⟨mode, 0, false⟩ (unitL2 ⟨mode, 0, eat⟩ (unr false (L.take (n + 1 - pos)))) := by unfold refRes; rw [hend]; rfl
            have hpl : (data.extract pos (n + 1)).data.toList = L.take (n + 1 - pos) := by rw [part_slice, ← (HL.out trivial).1, List.drop_take]
            have hps : (data.extract pos (n + 1)).size ≤ 10000000 := by rw [ByteArray.size_extract]; omega
            obtain ⟨U, hU⟩ : ∃ U, unr false (L.take (n + 1 - pos)) = U := ⟨_, rfl⟩
            have hul : U.length ≤ 4 * (L.take (n + 1 - pos)).length := by rw [← hU]; exact unr_len false _ _ (Nat.le_refl _)
            have hul2 : (L.take (n + 1 - pos)).length ≤ 10000000 := by rw [List.length_take]; omega
            rw [hU] at hres
            have hun := fun W hTW hmW => unref_any (data.extract pos (n + 1)) false m W hps hTW hmW
            rw [hpl, hU] at hun
            obtain ⟨ub, hub⟩ : ∃ ub : ByteArray, (⟨U.toArray⟩ : ByteArray) = ub := ⟨_, rfl⟩
            have hubl : ub.data.toList = U := by rw [← hub]
            have hubz : ub.size ≤ 40000000 := by rw [size_eq, hubl]; omega
            rw [hub] at hun
            have hunit := fun W hW => unit_any base b win data pos mode 0 eat evs pend ub W hW (by omega)
            rw [hubl] at hunit
            have hput := put_unit evs pend ⟨mode, 0, eat⟩ U
            simp only at hput
            have hfin : ∀ W', Rdr W' base b win data ((n + 1 : Nat) : Int) mode 0 false evs (if eat = true ∧ U = [10] then pend else pend ++ U) → Below base wr W' → StepAt wr W' base b win data pos evs pend (.returned (.bool true)) (refRes ⟨mode, 0, eat⟩ L) := fun W' h1 h2 => by
              rw [hres]
              exact ⟨rfl, by rw [hput, show pos + (n + 1 - pos) = n + 1 by omega]; exact h1, h2⟩
            generalize (if eat = true ∧ U = [10] then pend else pend ++ U) = P at hunit hfin
            have HF := hid hfin
            clear hfin
            have HU := hid hun
            have HN := hid hunit
            clear hun hunit hput hres hpl hps hU hul hul2 hub hubl hubz hend hpend
            have hq3 : pos ≤ n + 1 := by omega
            have hq0 : 0 ≤ (n : Int) + 1 := by omega
            have hq1 : (n : Int) + 1 ≤ (data.size : Int) := by omega
            have hq2 : (pos : Int) ≤ (n : Int) + 1 := by omega
            go_wp2_with (first | (go_at_call 101; refine (hlet _).mono ?_; rintro e w' ⟨rfl, hw9⟩; rw [hw9]; clear hw9 w') | (go_at_call 103; refine (hdig _).mono ?_; rintro e w' ⟨rfl, hw9⟩; rw [hw9]; clear hw9 w') | fail)
            go_region_law (first | (go_simp; go_at_call 34; refine (HU.out _ (by exact ⟨HT.out.names, HT.out.repl⟩) (by exact HM.out)).mono ?_; rintro e w1 ⟨rfl, b1⟩; have hr1 := HR.out.drew.below b1; have hb1 : Below base wr w1 := Below.mono (B := wr.heap.size) ⟨b1.os, b1.tape, b1.output, b1.size, b1.block⟩ HR.out.size) | (go_simp; go_at_call 33; refine (HN.out _ (by exact hr1)).mono ?_; rintro e w2 ⟨rfl, hr2, b2⟩; obtain ⟨⟨k0, k1, k2, k3, k4, k5⟩, kf, _⟩ := hr2.cells; have kf2 := kf 2; clear kf))
            all_goals
              obtain ⟨r3, b3⟩ := hr2.setPos ((n + 1 : Nat) : Int)
              have H3 := hid r3
              have HB := hid ((hb1.trans b2).trans b3)
              clear hr1 hr2 r3 b1 b2 b3 hb1
              go_wp2
              go_ret
              exact HF.out _ H3.out HB.out
          · rw [if_neg (by simpa using h59)] at hend
            have q3 : ((x.toNat : Int) == 59) = false := beq_eq_false_iff_ne.2 (fun e => h59 (UInt8.toNat_inj.1 (by simp; omega)))
            clear h59 hkR HA HX HLX hwn
            subst hx
            have hres : refRes ⟨mode, 0, eat⟩ L = .done (n - pos) ⟨mode, 0, false⟩ (unitL2 ⟨mode, 0, eat⟩ (unr false (L.take (n - pos)))) := by unfold refRes; rw [hend]; rfl
            have hpl : (data.extract pos (n)).data.toList = L.take (n - pos) := by rw [part_slice, ← (HL.out trivial).1, List.drop_take]
            have hps : (data.extract pos (n)).size ≤ 10000000 := by rw [ByteArray.size_extract]; omega
            obtain ⟨U, hU⟩ : ∃ U, unr false (L.take (n - pos)) = U := ⟨_, rfl⟩
            have hul : U.length ≤ 4 * (L.take (n - pos)).length := by rw [← hU]; exact unr_len false _ _ (Nat.le_refl _)
            have hul2 : (L.take (n - pos)).length ≤ 10000000 := by rw [List.length_take]; omega
            rw [hU] at hres
            have hun := fun W hTW hmW => unref_any (data.extract pos (n)) false m W hps hTW hmW
            rw [hpl, hU] at hun
            obtain ⟨ub, hub⟩ : ∃ ub : ByteArray, (⟨U.toArray⟩ : ByteArray) = ub := ⟨_, rfl⟩
            have hubl : ub.data.toList = U := by rw [← hub]
            have hubz : ub.size ≤ 40000000 := by rw [size_eq, hubl]; omega
            rw [hub] at hun
            have hunit := fun W hW => unit_any base b win data pos mode 0 eat evs pend ub W hW (by omega)
            rw [hubl] at hunit
            have hput := put_unit evs pend ⟨mode, 0, eat⟩ U
            simp only at hput
            have hfin : ∀ W', Rdr W' base b win data ((n : Nat) : Int) mode 0 false evs (if eat = true ∧ U = [10] then pend else pend ++ U) → Below base wr W' → StepAt wr W' base b win data pos evs pend (.returned (.bool true)) (refRes ⟨mode, 0, eat⟩ L) := fun W' h1 h2 => by
              rw [hres]
              exact ⟨rfl, by rw [hput, show pos + (n - pos) = n by omega]; exact h1, h2⟩
            generalize (if eat = true ∧ U = [10] then pend else pend ++ U) = P at hunit hfin
            have HF := hid hfin
            clear hfin
            have HU := hid hun
            have HN := hid hunit
            clear hun hunit hput hres hpl hps hU hul hul2 hub hubl hubz hend hpend
            have hq3 : pos ≤ n := by omega
            have hq0 : 0 ≤ (n : Int) := by omega
            have hq1 : (n : Int) ≤ (data.size : Int) := by omega
            have hq2 : (pos : Int) ≤ (n : Int) := by omega
            go_wp2_with (first | (go_at_call 101; refine (hlet _).mono ?_; rintro e w' ⟨rfl, hw9⟩; rw [hw9]; clear hw9 w') | (go_at_call 103; refine (hdig _).mono ?_; rintro e w' ⟨rfl, hw9⟩; rw [hw9]; clear hw9 w') | fail)
            go_region_law (first | (go_simp; go_at_call 34; refine (HU.out _ (by exact ⟨HT.out.names, HT.out.repl⟩) (by exact HM.out)).mono ?_; rintro e w1 ⟨rfl, b1⟩; have hr1 := HR.out.drew.below b1; have hb1 : Below base wr w1 := Below.mono (B := wr.heap.size) ⟨b1.os, b1.tape, b1.output, b1.size, b1.block⟩ HR.out.size) | (go_simp; go_at_call 33; refine (HN.out _ (by exact hr1)).mono ?_; rintro e w2 ⟨rfl, hr2, b2⟩; obtain ⟨⟨k0, k1, k2, k3, k4, k5⟩, kf, _⟩ := hr2.cells; have kf2 := kf 2; clear kf))
            all_goals
              obtain ⟨r3, b3⟩ := hr2.setPos ((n : Nat) : Int)
              have H3 := hid r3
              have HB := hid ((hb1.trans b2).trans b3)
              clear hr1 hr2 r3 b1 b2 b3 hb1
              go_wp2
              go_ret
              exact HF.out _ H3.out HB.out
      · have hnm : n = mn := by omega
        have hnl : ¬ (n : Int) < (mn : Int) := by omega
        by_cases h32 : n = pos + 32
        · subst hnm
          have hkR := run_stop (HA.out trivial) (.inl (by omega))
          have hend := HX.out trivial
          rw [← hkR, if_neg (by omega)] at hend
          have hlim : ¬ (n : Int) < (pos : Int) + 32 := by omega
          clear hkR HA HX HLX h32
          have hres : refRes ⟨mode, 0, eat⟩ L = .done (n - pos) ⟨mode, 0, false⟩ (unitL2 ⟨mode, 0, eat⟩ (unr false (L.take (n - pos)))) := by unfold refRes; rw [hend]; rfl
          have hpl : (data.extract pos (n)).data.toList = L.take (n - pos) := by rw [part_slice, ← (HL.out trivial).1, List.drop_take]
          have hps : (data.extract pos (n)).size ≤ 10000000 := by rw [ByteArray.size_extract]; omega
          obtain ⟨U, hU⟩ : ∃ U, unr false (L.take (n - pos)) = U := ⟨_, rfl⟩
          have hul : U.length ≤ 4 * (L.take (n - pos)).length := by rw [← hU]; exact unr_len false _ _ (Nat.le_refl _)
          have hul2 : (L.take (n - pos)).length ≤ 10000000 := by rw [List.length_take]; omega
          rw [hU] at hres
          have hun := fun W hTW hmW => unref_any (data.extract pos (n)) false m W hps hTW hmW
          rw [hpl, hU] at hun
          obtain ⟨ub, hub⟩ : ∃ ub : ByteArray, (⟨U.toArray⟩ : ByteArray) = ub := ⟨_, rfl⟩
          have hubl : ub.data.toList = U := by rw [← hub]
          have hubz : ub.size ≤ 40000000 := by rw [size_eq, hubl]; omega
          rw [hub] at hun
          have hunit := fun W hW => unit_any base b win data pos mode 0 eat evs pend ub W hW (by omega)
          rw [hubl] at hunit
          have hput := put_unit evs pend ⟨mode, 0, eat⟩ U
          simp only at hput
          have hfin : ∀ W', Rdr W' base b win data ((n : Nat) : Int) mode 0 false evs (if eat = true ∧ U = [10] then pend else pend ++ U) → Below base wr W' → StepAt wr W' base b win data pos evs pend (.returned (.bool true)) (refRes ⟨mode, 0, eat⟩ L) := fun W' h1 h2 => by
            rw [hres]
            exact ⟨rfl, by rw [hput, show pos + (n - pos) = n by omega]; exact h1, h2⟩
          generalize (if eat = true ∧ U = [10] then pend else pend ++ U) = P at hunit hfin
          have HF := hid hfin
          clear hfin
          have HU := hid hun
          have HN := hid hunit
          clear hun hunit hput hres hpl hps hU hul hul2 hub hubl hubz hend hpend 
          have hq3 : pos ≤ n := by omega
          have hq0 : 0 ≤ (n : Int) := by omega
          have hq1 : (n : Int) ≤ (data.size : Int) := by omega
          have hq2 : (pos : Int) ≤ (n : Int) := by omega
          go_wp2_with fail
          go_region_law (first | (go_simp; go_at_call 34; refine (HU.out _ (by exact ⟨HT.out.names, HT.out.repl⟩) (by exact HM.out)).mono ?_; rintro e w1 ⟨rfl, b1⟩; have hr1 := HR.out.drew.below b1; have hb1 : Below base wr w1 := Below.mono (B := wr.heap.size) ⟨b1.os, b1.tape, b1.output, b1.size, b1.block⟩ HR.out.size) | (go_simp; go_at_call 33; refine (HN.out _ (by exact hr1)).mono ?_; rintro e w2 ⟨rfl, hr2, b2⟩; obtain ⟨⟨k0, k1, k2, k3, k4, k5⟩, kf, _⟩ := hr2.cells; have kf2 := kf 2; clear kf))
          all_goals
            obtain ⟨r3, b3⟩ := hr2.setPos ((n : Nat) : Int)
            have H3 := hid r3
            have HB := hid ((hb1.trans b2).trans b3)
            clear hr1 hr2 r3 b1 b2 b3 hb1
            go_wp2
            go_ret
            exact HF.out _ H3.out HB.out
        · have hns : n = data.size := by omega
          have hkR := run_stop (HA.out trivial) (.inr (.inl (by have := (HL.out trivial).2; omega)))
          have hend := HX.out trivial
          rw [← hkR, if_pos (by omega), if_pos (by have := (HL.out trivial).2; omega)] at hend
          have hres : refRes ⟨mode, 0, eat⟩ L = .more 0 ⟨mode, 0, eat⟩ := by unfold refRes; rw [hend]
          have HF : Hid (StepAt wr wr base b win data pos evs pend (.returned (.bool false)) (refRes ⟨mode, 0, eat⟩ L)) := hid (by rw [hres]; exact ⟨rfl, HR.out, Below.refl _ _⟩)
          have hlim : (n : Int) < (pos : Int) + 32 := by omega
          have q2 : ((n : Int) == (data.size : Int)) = true := beq_iff_eq.2 (by omega)
          clear hkR HA HX HLX hres hend h32
          go_wp2
          go_ret
          exact HF.out
  · go_wp2
    go_loopw [4] (fun iv wr => ∃ n : Nat, iv = .int .i64 (n : Int) ∧ wr = w ∧ pos + 1 ≤ n ∧ n ≤ pos + 32 ∧ n ≤ data.size ∧ Hid (True → RunAt L (n - pos) R)) (fun iv _ => data.size - (RowKit.intOf iv).toNat)
    case atStart =>
      exact ⟨pos + 1, rfl, (by trivial), by omega, by omega, by omega, by rw [show pos + 1 - pos = 1 by omega]; exact H0⟩
    case round =>
      obtain ⟨n, rfl, rfl, hn1, hn2, hn3, HA⟩ := hrel
      clear H0 hw2 hw3
      by_cases hkm : n < mn
      · exfalso
        omega
      · have hnm : n = mn := by omega
        have hnl : ¬ (n : Int) < (mn : Int) := by omega
        by_cases h32 : n = pos + 32
        · exfalso
          omega
        · have hns : n = data.size := by omega
          have hkR := run_stop (HA.out trivial) (.inr (.inl (by have := (HL.out trivial).2; omega)))
          have hend := HX.out trivial
          rw [← hkR, if_pos (by omega), if_pos (by have := (HL.out trivial).2; omega)] at hend
          have hres : refRes ⟨mode, 0, eat⟩ L = .more 0 ⟨mode, 0, eat⟩ := by unfold refRes; rw [hend]
          have HF : Hid (StepAt wr wr base b win data pos evs pend (.returned (.bool false)) (refRes ⟨mode, 0, eat⟩ L)) := hid (by rw [hres]; exact ⟨rfl, HR.out, Below.refl _ _⟩)
          have hlim : (n : Int) < (pos : Int) + 32 := by omega
          have q2 : ((n : Int) == (data.size : Int)) = true := beq_iff_eq.2 (by omega)
          clear hkR HA HX HLX hres hend h32
          go_wp2
          go_ret
          exact HF.out
  · go_wp2
    go_loopw [4] (fun iv wr => ∃ n : Nat, iv = .int .i64 (n : Int) ∧ wr = w ∧ pos + 1 ≤ n ∧ n ≤ pos + 32 ∧ n ≤ data.size ∧ Hid (True → RunAt L (n - pos) R)) (fun iv _ => data.size - (RowKit.intOf iv).toNat)
    case atStart =>
      exact ⟨pos + 1, rfl, (by trivial), by omega, by omega, by omega, by rw [show pos + 1 - pos = 1 by omega]; exact H0⟩
    case round =>
      obtain ⟨n, rfl, rfl, hn1, hn2, hn3, HA⟩ := hrel
      clear H0 hw2 hw3
      clear q1
      by_cases hkm : n < mn
      · have hns : n < data.size := by omega
        obtain ⟨x, hx⟩ : ∃ x, data[n]'hns = x := ⟨_, rfl⟩
        have hlx : L[n - pos]? = some x := by
          have := HLX.out trivial (n - pos) (by omega)
          rw [this]
          have e : pos + (n - pos) = n := by omega
          simp only [e, hx]
        have hlt := x.toNat_lt
        have hlet := fun W => let_any (x.toNat : Int) (by omega) (by omega) W
        have hdig := fun W => dig_any (x.toNat : Int) (by omega) (by omega) W
        rw [let_C] at hlet
        rw [dig_C] at hdig
        have hwn : IntKind.i64.wrap ((n : Int) + 1) = ((n + 1 : Nat) : Int) := by rw [IntKind.wrap_i64]; omega
        by_cases hal : alnumC x = true
        · have HB : Hid (True → RunAt L (n + 1 - pos) R) := hid (fun _ => by
            have := run_more' (HA.out trivial) (by omega) hlx hal
            rwa [show n - pos + 1 = n + 1 - pos by omega] at this)
          have hor : letterC x = true ∨ letterC x = false ∧ digD x = true := by
            unfold alnumC at hal
            cases h1 : letterC x
            · rw [h1] at hal; exact .inr ⟨rfl, by simpa using hal⟩
            · exact .inl rfl
          clear hal hlx HA
          rcases hor with h1 | ⟨h1, h2⟩
          · rw [h1] at hlet
            go_wp2_with (first | (go_at_call 101; refine (hlet _).mono ?_; rintro e w' ⟨rfl, rfl⟩) | (go_at_call 103; refine (hdig _).mono ?_; rintro e w' ⟨rfl, rfl⟩))
            go_roundw
            case rel => exact ⟨n + 1, rfl, (by trivial), by omega, by omega, by omega, HB⟩
            case measure => simp [RowKit.intOf]; omega
          · rw [h1] at hlet
            rw [h2] at hdig
            go_wp2_with (first | (go_at_call 101; refine (hlet _).mono ?_; rintro e w' ⟨rfl, rfl⟩) | (go_at_call 103; refine (hdig _).mono ?_; rintro e w' ⟨rfl, rfl⟩))
            go_roundw
            case rel => exact ⟨n + 1, rfl, (by trivial), by omega, by omega, by omega, HB⟩
            case measure => simp [RowKit.intOf]; omega
        · have halF : alnumC x = false := by simpa using hal
          have hkR := run_stop (HA.out trivial) (.inr (.inr ⟨x, hlx, halF⟩))
          have h1 : letterC x = false := by unfold alnumC at halF; simp at halF; exact halF.1
          have h2 : digD x = false := by unfold alnumC at halF; simp at halF; exact halF.2
          rw [h1] at hlet
          rw [h2] at hdig
          have hend := HX.out trivial
          rw [← hkR, if_pos (by omega), if_neg (by have := (HL.out trivial).2; omega), hlx] at hend
          have hlim : (n : Int) < (pos : Int) + 32 := by omega
          have q2 : ((n : Int) == (data.size : Int)) = false := beq_eq_false_iff_ne.2 (by omega)
          clear hal halF h1 h2 hlx
          by_cases h59 : x = 59
          · rw [if_pos (by rw [h59]), show n - pos + 1 = n + 1 - pos by omega] at hend
            have q3 : ((x.toNat : Int) == 59) = true := by rw [h59]; rfl
            clear h59 hkR HA HX HLX
            subst hx
            have hres : refRes ⟨mode, 0, eat⟩ L = .done (n + 1 - pos) ⟨mode, 0, false⟩ (unitL2 ⟨mode, 0, eat⟩ (unr false (L.take (n + 1 - pos)))) := by unfold refRes; rw [hend]; rfl
            have hpl : (data.extract pos (n + 1)).data.toList = L.take (n + 1 - pos) := by rw [part_slice, ← (HL.out trivial).1, List.drop_take]
            have hps : (data.extract pos (n + 1)).size ≤ 10000000 := by rw [ByteArray.size_extract]; omega
            obtain ⟨U, hU⟩ : ∃ U, unr false (L.take (n + 1 - pos)) = U := ⟨_, rfl⟩
            have hul : U.length ≤ 4 * (L.take (n + 1 - pos)).length := by rw [← hU]; exact unr_len false _ _ (Nat.le_refl _)
            have hul2 : (L.take (n + 1 - pos)).length ≤ 10000000 := by rw [List.length_take]; omega
            rw [hU] at hres
            have hun := fun W hTW hmW => unref_any (data.extract pos (n + 1)) false m W hps hTW hmW
            rw [hpl, hU] at hun
            obtain ⟨ub, hub⟩ : ∃ ub : ByteArray, (⟨U.toArray⟩ : ByteArray) = ub := ⟨_, rfl⟩
            have hubl : ub.data.toList = U := by rw [← hub]
            have hubz : ub.size ≤ 40000000 := by rw [size_eq, hubl]; omega
            rw [hub] at hun
            have hunit := fun W hW => unit_any base b win data pos mode 0 eat evs pend ub W hW (by omega)
            rw [hubl] at hunit
            have hput := put_unit evs pend ⟨mode, 0, eat⟩ U
            simp only at hput
            have hfin : ∀ W', Rdr W' base b win data ((n + 1 : Nat) : Int) mode 0 false evs (if eat = true ∧ U = [10] then pend else pend ++ U) → Below base wr W' → StepAt wr W' base b win data pos evs pend (.returned (.bool true)) (refRes ⟨mode, 0, eat⟩ L) := fun W' h1 h2 => by
              rw [hres]
              exact ⟨rfl, by rw [hput, show pos + (n + 1 - pos) = n + 1 by omega]; exact h1, h2⟩
            generalize (if eat = true ∧ U = [10] then pend else pend ++ U) = P at hunit hfin
            have HF := hid hfin
            clear hfin
            have HU := hid hun
            have HN := hid hunit
            clear hun hunit hput hres hpl hps hU hul hul2 hub hubl hubz hend hpend
            have hq3 : pos ≤ n + 1 := by omega
            have hq0 : 0 ≤ (n : Int) + 1 := by omega
            have hq1 : (n : Int) + 1 ≤ (data.size : Int) := by omega
            have hq2 : (pos : Int) ≤ (n : Int) + 1 := by omega
            go_wp2_with (first | (go_at_call 101; refine (hlet _).mono ?_; rintro e w' ⟨rfl, hw9⟩; rw [hw9]; clear hw9 w') | (go_at_call 103; refine (hdig _).mono ?_; rintro e w' ⟨rfl, hw9⟩; rw [hw9]; clear hw9 w') | fail)
            go_region_law (first | (go_simp; go_at_call 34; refine (HU.out _ (by exact ⟨HT.out.names, HT.out.repl⟩) (by exact HM.out)).mono ?_; rintro e w1 ⟨rfl, b1⟩; have hr1 := HR.out.drew.below b1; have hb1 : Below base wr w1 := Below.mono (B := wr.heap.size) ⟨b1.os, b1.tape, b1.output, b1.size, b1.block⟩ HR.out.size) | (go_simp; go_at_call 33; refine (HN.out _ (by exact hr1)).mono ?_; rintro e w2 ⟨rfl, hr2, b2⟩; obtain ⟨⟨k0, k1, k2, k3, k4, k5⟩, kf, _⟩ := hr2.cells; have kf2 := kf 2; clear kf))
            all_goals
              obtain ⟨r3, b3⟩ := hr2.setPos ((n + 1 : Nat) : Int)
              have H3 := hid r3
              have HB := hid ((hb1.trans b2).trans b3)
              clear hr1 hr2 r3 b1 b2 b3 hb1
              go_wp2
              go_ret
              exact HF.out _ H3.out HB.out
          · rw [if_neg (by simpa using h59)] at hend
            have q3 : ((x.toNat : Int) == 59) = false := beq_eq_false_iff_ne.2 (fun e => h59 (UInt8.toNat_inj.1 (by simp; omega)))
            clear h59 hkR HA HX HLX hwn
            subst hx
            have hres : refRes ⟨mode, 0, eat⟩ L = .done (n - pos) ⟨mode, 0, false⟩ (unitL2 ⟨mode, 0, eat⟩ (unr false (L.take (n - pos)))) := by unfold refRes; rw [hend]; rfl
            have hpl : (data.extract pos (n)).data.toList = L.take (n - pos) := by rw [part_slice, ← (HL.out trivial).1, List.drop_take]
            have hps : (data.extract pos (n)).size ≤ 10000000 := by rw [ByteArray.size_extract]; omega
            obtain ⟨U, hU⟩ : ∃ U, unr false (L.take (n - pos)) = U := ⟨_, rfl⟩
            have hul : U.length ≤ 4 * (L.take (n - pos)).length := by rw [← hU]; exact unr_len false _ _ (Nat.le_refl _)
            have hul2 : (L.take (n - pos)).length ≤ 10000000 := by rw [List.length_take]; omega
            rw [hU] at hres
            have hun := fun W hTW hmW => unref_any (data.extract pos (n)) false m W hps hTW hmW
            rw [hpl, hU] at hun
            obtain ⟨ub, hub⟩ : ∃ ub : ByteArray, (⟨U.toArray⟩ : ByteArray) = ub := ⟨_, rfl⟩
            have hubl : ub.data.toList = U := by rw [← hub]
            have hubz : ub.size ≤ 40000000 := by rw [size_eq, hubl]; omega
            rw [hub] at hun
            have hunit := fun W hW => unit_any base b win data pos mode 0 eat evs pend ub W hW (by omega)
            rw [hubl] at hunit
            have hput := put_unit evs pend ⟨mode, 0, eat⟩ U
            simp only at hput
            have hfin : ∀ W', Rdr W' base b win data ((n : Nat) : Int) mode 0 false evs (if eat = true ∧ U = [10] then pend else pend ++ U) → Below base wr W' → StepAt wr W' base b win data pos evs pend (.returned (.bool true)) (refRes ⟨mode, 0, eat⟩ L) := fun W' h1 h2 => by
              rw [hres]
              exact ⟨rfl, by rw [hput, show pos + (n - pos) = n by omega]; exact h1, h2⟩
            generalize (if eat = true ∧ U = [10] then pend else pend ++ U) = P at hunit hfin
            have HF := hid hfin
            clear hfin
            have HU := hid hun
            have HN := hid hunit
            clear hun hunit hput hres hpl hps hU hul hul2 hub hubl hubz hend hpend
            have hq3 : pos ≤ n := by omega
            have hq0 : 0 ≤ (n : Int) := by omega
            have hq1 : (n : Int) ≤ (data.size : Int) := by omega
            have hq2 : (pos : Int) ≤ (n : Int) := by omega
            go_wp2_with (first | (go_at_call 101; refine (hlet _).mono ?_; rintro e w' ⟨rfl, hw9⟩; rw [hw9]; clear hw9 w') | (go_at_call 103; refine (hdig _).mono ?_; rintro e w' ⟨rfl, hw9⟩; rw [hw9]; clear hw9 w') | fail)
            go_region_law (first | (go_simp; go_at_call 34; refine (HU.out _ (by exact ⟨HT.out.names, HT.out.repl⟩) (by exact HM.out)).mono ?_; rintro e w1 ⟨rfl, b1⟩; have hr1 := HR.out.drew.below b1; have hb1 : Below base wr w1 := Below.mono (B := wr.heap.size) ⟨b1.os, b1.tape, b1.output, b1.size, b1.block⟩ HR.out.size) | (go_simp; go_at_call 33; refine (HN.out _ (by exact hr1)).mono ?_; rintro e w2 ⟨rfl, hr2, b2⟩; obtain ⟨⟨k0, k1, k2, k3, k4, k5⟩, kf, _⟩ := hr2.cells; have kf2 := kf 2; clear kf))
            all_goals
              obtain ⟨r3, b3⟩ := hr2.setPos ((n : Nat) : Int)
              have H3 := hid r3
              have HB := hid ((hb1.trans b2).trans b3)
              clear hr1 hr2 r3 b1 b2 b3 hb1
              go_wp2
              go_ret
              exact HF.out _ H3.out HB.out
      · have hnm : n = mn := by omega
        have hnl : ¬ (n : Int) < (mn : Int) := by omega
        by_cases h32 : n = pos + 32
        · subst hnm
          have hkR := run_stop (HA.out trivial) (.inl (by omega))
          have hend := HX.out trivial
          rw [← hkR, if_neg (by omega)] at hend
          have hlim : ¬ (n : Int) < (pos : Int) + 32 := by omega
          clear hkR HA HX HLX h32
          have hres : refRes ⟨mode, 0, eat⟩ L = .done (n - pos) ⟨mode, 0, false⟩ (unitL2 ⟨mode, 0, eat⟩ (unr false (L.take (n - pos)))) := by unfold refRes; rw [hend]; rfl
          have hpl : (data.extract pos (n)).data.toList = L.take (n - pos) := by rw [part_slice, ← (HL.out trivial).1, List.drop_take]
          have hps : (data.extract pos (n)).size ≤ 10000000 := by rw [ByteArray.size_extract]; omega
          obtain ⟨U, hU⟩ : ∃ U, unr false (L.take (n - pos)) = U := ⟨_, rfl⟩
          have hul : U.length ≤ 4 * (L.take (n - pos)).length := by rw [← hU]; exact unr_len false _ _ (Nat.le_refl _)
          have hul2 : (L.take (n - pos)).length ≤ 10000000 := by rw [List.length_take]; omega
          rw [hU] at hres
          have hun := fun W hTW hmW => unref_any (data.extract pos (n)) false m W hps hTW hmW
          rw [hpl, hU] at hun
          obtain ⟨ub, hub⟩ : ∃ ub : ByteArray, (⟨U.toArray⟩ : ByteArray) = ub := ⟨_, rfl⟩
          have hubl : ub.data.toList = U := by rw [← hub]
          have hubz : ub.size ≤ 40000000 := by rw [size_eq, hubl]; omega
          rw [hub] at hun
          have hunit := fun W hW => unit_any base b win data pos mode 0 eat evs pend ub W hW (by omega)
          rw [hubl] at hunit
          have hput := put_unit evs pend ⟨mode, 0, eat⟩ U
          simp only at hput
          have hfin : ∀ W', Rdr W' base b win data ((n : Nat) : Int) mode 0 false evs (if eat = true ∧ U = [10] then pend else pend ++ U) → Below base wr W' → StepAt wr W' base b win data pos evs pend (.returned (.bool true)) (refRes ⟨mode, 0, eat⟩ L) := fun W' h1 h2 => by
            rw [hres]
            exact ⟨rfl, by rw [hput, show pos + (n - pos) = n by omega]; exact h1, h2⟩
          generalize (if eat = true ∧ U = [10] then pend else pend ++ U) = P at hunit hfin
          have HF := hid hfin
          clear hfin
          have HU := hid hun
          have HN := hid hunit
          clear hun hunit hput hres hpl hps hU hul hul2 hub hubl hubz hend hpend 
          have hq3 : pos ≤ n := by omega
          have hq0 : 0 ≤ (n : Int) := by omega
          have hq1 : (n : Int) ≤ (data.size : Int) := by omega
          have hq2 : (pos : Int) ≤ (n : Int) := by omega
          go_wp2_with fail
          go_region_law (first | (go_simp; go_at_call 34; refine (HU.out _ (by exact ⟨HT.out.names, HT.out.repl⟩) (by exact HM.out)).mono ?_; rintro e w1 ⟨rfl, b1⟩; have hr1 := HR.out.drew.below b1; have hb1 : Below base wr w1 := Below.mono (B := wr.heap.size) ⟨b1.os, b1.tape, b1.output, b1.size, b1.block⟩ HR.out.size) | (go_simp; go_at_call 33; refine (HN.out _ (by exact hr1)).mono ?_; rintro e w2 ⟨rfl, hr2, b2⟩; obtain ⟨⟨k0, k1, k2, k3, k4, k5⟩, kf, _⟩ := hr2.cells; have kf2 := kf 2; clear kf))
          all_goals
            obtain ⟨r3, b3⟩ := hr2.setPos ((n : Nat) : Int)
            have H3 := hid r3
            have HB := hid ((hb1.trans b2).trans b3)
            clear hr1 hr2 r3 b1 b2 b3 hb1
            go_wp2
            go_ret
            exact HF.out _ H3.out HB.out
        · have hns : n = data.size := by omega
          have hkR := run_stop (HA.out trivial) (.inr (.inl (by have := (HL.out trivial).2; omega)))
          have hend := HX.out trivial
          rw [← hkR, if_pos (by omega), if_pos (by have := (HL.out trivial).2; omega)] at hend
          have hres : refRes ⟨mode, 0, eat⟩ L = .more 0 ⟨mode, 0, eat⟩ := by unfold refRes; rw [hend]
          have HF : Hid (StepAt wr wr base b win data pos evs pend (.returned (.bool false)) (refRes ⟨mode, 0, eat⟩ L)) := hid (by rw [hres]; exact ⟨rfl, HR.out, Below.refl _ _⟩)
          have hlim : (n : Int) < (pos : Int) + 32 := by omega
          have q2 : ((n : Int) == (data.size : Int)) = true := beq_iff_eq.2 (by omega)
          clear hkR HA HX HLX hres hend h32
          go_wp2
          go_ret
          exact HF.out
end Go.Proofs.YtndglhflbenloaaGreatDoor

/-
  The reader's readMarkup: its walk.
-/
namespace Go.Proofs.YtndglhflbenloaaGreatDoor
open Go.RowKit Go.Lib Own

/-- what holds ahead of a step -/
structure StepPre (base b win : Nat) (data : ByteArray) (pos : Nat) (st : LS) (evs : List Ev) (pend : List UInt8) (m : Int) (w : World) : Prop where
  h : Rdr w base b win data pos st.mode st.scan st.eat evs pend
  hd : data.size ≤ 10000000
  hp : pos < data.size
  hwin : win ≤ 4096
  hel : evs.length ≤ 8000000
  hpl : pend.length ≤ 40000000
  hT : LexTabs base w m
theorem StepAt.shift {w w1 w' : World} {base b : Nat} {win : Int} {data : ByteArray} {pos i : Nat} {evs : List Ev} {pend : List UInt8} {e : Ending} {R : Res} (h : StepAt w1 w' base b win data (pos + i) evs pend e R) (hb : Below base w w1) : StepAt w w' base b win data pos evs pend e (R.shift i) := by
  cases R with
  | more n st =>
    obtain ⟨h1, h2, h3⟩ := h
    exact ⟨h1, by rw [← Nat.add_assoc]; exact h2, hb.trans h3⟩
  | done n st it =>
    obtain ⟨h1, h2, h3⟩ := h
    exact ⟨h1, by rw [← Nat.add_assoc]; exact h2, hb.trans h3⟩
theorem StepAt.after {w w1 w' : World} {base b : Nat} {win : Int} {data : ByteArray} {pos : Nat} {evs : List Ev} {pend : List UInt8} {e : Ending} {R : Res} (h : StepAt w1 w' base b win data pos evs pend e R) (hb : Below base w w1) : StepAt w w' base b win data pos evs pend e R := by
  have := StepAt.shift (i := 0) h hb
  rwa [shift_zero] at this
theorem StepAt.bool {w w' : World} {base b : Nat} {win : Int} {data : ByteArray} {pos : Nat} {evs : List Ev} {pend : List UInt8} {e : Ending} {R : Res} (h : StepAt w w' base b win data pos evs pend e R) : ∃ c, e = .returned (.bool c) := by
  cases R with
  | more n st => exact ⟨_, h.1⟩
  | done n st it => exact ⟨_, h.1⟩
theorem LexTabs.drewN {base : Nat} {w : World} {m : Int} (h : LexTabs base w m) (n : Nat) : LexTabs base (w.drewN n) m := h.below (below_drewN (Below.refl base w) n)
/-- a byte that is a text unit -/
theorem byte_told (base b : Nat) (win : Int) (data : ByteArray) (pos mode : Nat) (eat : Bool) (evs : List Ev) (pend : List UInt8) (w : World) (h : Rdr w base b win data pos mode 0 eat evs pend) (hlen : pend.length ≤ 40000000) (hd : data.size ≤ 10000000)
    (hp : pos < data.size) (x : UInt8) (hx : data.data.toList[pos]? = some x) :
    Calls Tryz.prog 36 #[.pointer (some ⟨b, 0, none⟩)] w fun e w' => e = .returned (.tuple #[]) ∧ StepAt w w' base b win data pos evs pend (.returned (.bool true)) (byteRes ⟨mode, 0, eat⟩ x) := by
  refine (readByte_any base b win data pos mode 0 eat evs pend w h (by omega) hd hp x hx).mono ?_
  rintro e w' ⟨rfl, h2, h3⟩
  refine ⟨rfl, ?_⟩
  unfold byteRes
  refine ⟨rfl, ?_, h3⟩
  rw [put_unit]
  exact h2

theorem prefix_of (L X : List UInt8) : Lib.hasPrefix L X = decide (X <+: L) := by
  rw [Bool.eq_iff_iff, decide_eq_true_iff]
  exact List.isPrefixOf_iff_prefix

set_option maxHeartbeats 8000000 in
set_option maxRecDepth 100000 in
theorem readMarkup_any (base b win : Nat) (data : ByteArray) (pos mode : Nat) (eat : Bool) (evs : List Ev) (pend : List UInt8) (m : Int) (w : World) (H : StepPre base b win data pos ⟨mode, 0, eat⟩ evs pend m w) (h60 : data.data.toList[pos]? = some 60) :
    Calls Tryz.prog 79 #[.pointer (some ⟨b, 0, none⟩)] w fun e w' => StepAt w w' base b win data pos evs pend e (markupRes win ⟨mode, 0, eat⟩ (data.data.toList.drop pos)) := by
  obtain ⟨h, hd, hp, hwin, hel, hpl, hT⟩ := H
  simp only at h
  obtain ⟨⟨c0, c1, c2, c3, c4, c5⟩, hf, _⟩ := h.cells
  obtain ⟨t, ht⟩ : ∃ t : ByteArray, data.extract pos data.size = t := ⟨_, rfl⟩
  have htl : t.data.toList = data.data.toList.drop pos := by rw [← ht]; exact extract_to_end data pos
  have htz : t.size = data.size - pos := by rw [← ht, ByteArray.size_extract]; omega
  have hL0 : (data.data.toList.drop pos)[0]? = some 60 := by rw [List.getElem?_drop]; exact h60
  have htag := fun k hk hpk W hW hTW => readTag_any base b win data pos k mode eat evs pend m W hW hd hk hpk hwin hel hTW
  have hbyte := fun W hW => byte_told base b win data pos mode eat evs pend W hW hpl hd hp 60 h60
  have hskip := fun q W hW => beginSkip_any base b win data pos mode 0 eat evs pend W hW hd (by omega) q
  rw [← htl] at hL0 htag ⊢
  have hTL : t.toList = t.data.toList := Lib.toList_data t
  have HR := hid h
  have HT := hid hT
  have HTG := hid htag
  have HBY := hid hbyte
  have HSK := hid hskip
  have hw1 : IntKind.i64.wrap ((pos : Int) + 1) = ((pos + 1 : Nat) : Int) := by rw [IntKind.wrap_i64]; omega
  have hw2 : IntKind.i64.wrap ((pos : Int) + 2) = ((pos + 2 : Nat) : Int) := by rw [IntKind.wrap_i64]; omega
  clear htag hbyte hskip h hT hf htl
  by_cases hshort : t.data.toList = [60] ∨ t.data.toList = [60, 47] ∨ t.data.toList = [60, 33] ∨ t.data.toList = [60, 33, 45]
  · have hres : markupRes win ⟨mode, 0, eat⟩ t.data.toList = .more 0 ⟨mode, 0, eat⟩ := by unfold markupRes; rw [if_pos hshort]
    rw [hres]
    clear HTG HBY HSK hres
    have hq : ∀ X : List UInt8, (t.toList == X) = (t.data.toList == X) := fun X => by rw [hTL]
    have q1 := hq [60]
    have q2 := hq [60, 47]
    have q3 := hq [60, 33]
    have q4 := hq [60, 33, 45]
    clear hq hTL
    have hor : (t.toList == [60]) = true ∨ ((t.toList == [60]) = false ∧ (t.toList == [60, 47]) = true) ∨ ((t.toList == [60]) = false ∧ (t.toList == [60, 47]) = false ∧ (t.toList == [60, 33]) = true) ∨ ((t.toList == [60]) = false ∧ (t.toList == [60, 47]) = false ∧ (t.toList == [60, 33]) = false ∧ (t.toList == [60, 33, 45]) = true) := by
      rw [q1, q2, q3, q4]
      rcases hshort with e | e | e | e <;> rw [e] <;> decide
    clear q1 q2 q3 q4 hshort hL0 hw1 hw2
    rcases hor with q1 | ⟨q1, q2⟩ | ⟨q1, q2, q3⟩ | ⟨q1, q2, q3, q4⟩
    all_goals
      go_enter Tryz.func79, Tryz.ntmps79
      go_wp2_with fail
      go_quiet (fail)
      go_wp2
      go_ret
      exact ⟨rfl, HR.out.drewN _, below_drewN (Below.refl base w) _⟩
  · have hsz : 2 ≤ t.size := by
      rw [size_eq]
      rcases hl : t.data.toList with _ | ⟨x, _ | ⟨y, r⟩⟩
      · rw [hl] at hL0; simp at hL0
      · rw [hl] at hL0 hshort
        simp only [List.getElem?_cons_zero, Option.some.injEq] at hL0
        exact absurd (.inl (by rw [hL0])) hshort
      · simp
    have h1s : 1 < t.size := by omega
    obtain ⟨x1, hx1⟩ : ∃ x1, t[1]'h1s = x1 := ⟨_, rfl⟩
    have hl1 := getElem_list h1s hx1
    have hg1 : t.data.toList.getD 1 0 = x1 := by rw [List.getD_eq_getElem?_getD, hl1]; rfl
    have q1 : (t.toList == [60]) = false := by rw [hTL]; exact beq_eq_false_iff_ne.2 (fun e => hshort (.inl e))
    have q2 : (t.toList == [60, 47]) = false := by rw [hTL]; exact beq_eq_false_iff_ne.2 (fun e => hshort (.inr (.inl e)))
    have q3 : (t.toList == [60, 33]) = false := by rw [hTL]; exact beq_eq_false_iff_ne.2 (fun e => hshort (.inr (.inr (.inl e))))
    have q4 : (t.toList == [60, 33, 45]) = false := by rw [hTL]; exact beq_eq_false_iff_ne.2 (fun e => hshort (.inr (.inr (.inr e))))
    have hlt := x1.toNat_lt
    have hlet := fun W => let_any (x1.toNat : Int) (by omega) (by omega) W
    rw [let_C] at hlet
    have hpf := fun W => Tryz.strings_HasPrefix t ⟨#[60, 33, 45, 45]⟩ W
    rw [show (⟨#[60, 33, 45, 45]⟩ : ByteArray).data.toList = [60, 33, 45, 45] from rfl, prefix_of] at hpf
    have hlen3 : x1 = 47 → 2 < t.size := fun e => by
      rw [size_eq]
      rcases hl : t.data.toList with _ | ⟨x, _ | ⟨y, _ | ⟨z, r⟩⟩⟩
      · rw [hl] at hL0; simp at hL0
      · rw [hl] at hl1; simp at hl1
      · rw [hl] at hL0 hl1 hshort
        simp only [List.getElem?_cons_zero, List.getElem?_cons_succ, Option.some.injEq] at hL0 hl1
        exact absurd (.inr (.inl (by rw [hL0, hl1, e]))) hshort
      · simp
    have hpre1 : [60, 33, 45, 45] <+: t.data.toList → x1 = 33 := fun h => by
      obtain ⟨r, hr⟩ := h
      rw [← hr] at hl1
      simpa using hl1.symm
    have HRES : markupRes win ⟨mode, 0, eat⟩ t.data.toList = if letterC x1 = true then tagL win 1 t.data.toList ⟨mode, 0, eat⟩ else if x1 = 47 ∧ letterC (t.data.toList.getD 2 0) = true then tagL win 2 t.data.toList ⟨mode, 0, eat⟩ else if [60, 33, 45, 45] <+: t.data.toList then .done 2 ⟨mode, 1, false⟩ [] else if x1 = 33 ∨ x1 = 63 ∨ x1 = 47 then .done 2 ⟨mode, 2, false⟩ [] else byteRes ⟨mode, 0, eat⟩ 60 := by unfold markupRes; rw [if_neg hshort, hg1]
    rw [HRES]
    clear HRES hg1 hshort hTL hL0
    by_cases hc1 : letterC x1 = true
    · rw [if_pos hc1]
      rw [hc1] at hlet
      clear hc1 hpf hlen3 hpre1 hl1 HBY HSK
      go_enter Tryz.func79, Tryz.ntmps79
      go_wp2_with fail
      go_quiet (fail)
      go_wp2_with (first | (go_at_call 101; refine (hlet _).mono ?_; rintro e w' ⟨rfl, rfl⟩) | (go_at_call 81; refine (HTG.out 1 (.inl rfl) (by omega) _ (by exact HR.out.drewN nq) (by exact HT.out.drewN nq)).mono ?_; rintro e w3 h3; obtain ⟨c, rfl⟩ := h3.bool))
      go_ret
      exact StepAt.after h3 (below_drewN (Below.refl base w) nq)
    · rw [if_neg hc1]
      have hc1F : letterC x1 = false := by simpa using hc1
      have g1 : isLetZ (x1.toNat : Int) = false := (let_C x1).trans hc1F
      rw [hc1F] at hlet
      clear hc1 hc1F
      by_cases h47 : x1 = 47
      · have h2s := hlen3 h47
        obtain ⟨x2, hx2⟩ : ∃ x2, t[2]'h2s = x2 := ⟨_, rfl⟩
        have hl2 := getElem_list h2s hx2
        have hg2 : t.data.toList.getD 2 0 = x2 := by rw [List.getD_eq_getElem?_getD, hl2]; rfl
        have hlt2 := x2.toNat_lt
        have hlet2 := fun W => let_any (x2.toNat : Int) (by omega) (by omega) W
        rw [let_C] at hlet2
        rw [hg2]
        have hnp : ¬ [60, 33, 45, 45] <+: t.data.toList := fun h => by have := hpre1 h; rw [h47] at this; revert this; decide
        rw [decide_eq_false hnp] at hpf
        have r47 : ((x1.toNat : Int) == 47) = true := by rw [h47]; rfl
        have r33 : ((x1.toNat : Int) == 33) = false := by rw [h47]; rfl
        have r63 : ((x1.toNat : Int) == 63) = false := by rw [h47]; rfl
        clear hlen3 hpre1 hl1 hg2 hl2
        by_cases hc2 : letterC x2 = true
        · rw [if_pos ⟨h47, hc2⟩]
          have g2 : isLetZ (x2.toNat : Int) = true := (let_C x2).trans hc2
          clear hc2 hpf hnp HBY HSK h47 hlet hlet2
          go_enter Tryz.func79, Tryz.ntmps79
          go_wp2_with fail
          go_quiet (fail)
          go_wp2_with (first | (go_at_call 101; refine (let_any _ (by omega) (by omega) _).mono ?_; rintro e w' ⟨rfl, rfl⟩) | (go_at_call 81; refine (HTG.out 2 (.inr rfl) (by omega) _ (by exact HR.out.drewN nq) (by exact HT.out.drewN nq)).mono ?_; rintro e w3 h3; obtain ⟨c, rfl⟩ := h3.bool))
          go_ret
          exact StepAt.after h3 (below_drewN (Below.refl base w) nq)
        · rw [if_neg (fun h => hc2 h.2), if_neg hnp, if_pos (.inr (.inr h47))]
          have hc2F : letterC x2 = false := by simpa using hc2
          have g2 : isLetZ (x2.toNat : Int) = false := (let_C x2).trans hc2F
          clear hc2 hc2F hnp HBY HTG h47 hlet hlet2
          go_enter Tryz.func79, Tryz.ntmps79
          go_wp2_with fail
          go_quiet (fail)
          go_wp2_with (first | (go_at_call 101; refine (let_any _ (by omega) (by omega) _).mono ?_; rintro e w' ⟨rfl, rfl⟩) | (go_at_call 88; refine (hpf _).mono ?_; rintro e w' ⟨rfl, rfl⟩) | (go_at_call 102; refine (HSK.out 2 _ (by exact HR.out.drewN nq)).mono ?_; rintro e w3 ⟨rfl, h3, b3⟩))
          go_ret
          exact ⟨rfl, h3, (below_drewN (Below.refl base w) nq).trans b3⟩
      · rw [if_neg (fun h => h47 h.1)]
        have r47 : ((x1.toNat : Int) == 47) = false := beq_eq_false_iff_ne.2 (fun e => h47 (UInt8.toNat_inj.1 (by simp; omega)))
        clear hlen3
        by_cases hp4 : [60, 33, 45, 45] <+: t.data.toList
        · rw [if_pos hp4]
          rw [decide_eq_true hp4] at hpf
          clear hp4 hpre1 hl1 HBY HTG
          go_enter Tryz.func79, Tryz.ntmps79
          go_wp2_with fail
          go_quiet (fail)
          go_wp2_with (first | (go_at_call 101; refine (hlet _).mono ?_; rintro e w' ⟨rfl, rfl⟩) | (go_at_call 88; refine (hpf _).mono ?_; rintro e w' ⟨rfl, rfl⟩) | (go_at_call 102; refine (HSK.out 1 _ (by exact HR.out.drewN nq)).mono ?_; rintro e w3 ⟨rfl, h3, b3⟩))
          go_ret
          exact ⟨rfl, h3, (below_drewN (Below.refl base w) nq).trans b3⟩
        · rw [if_neg hp4]
          rw [decide_eq_false hp4] at hpf
          clear hp4 hpre1 hl1
          have hcase : (((x1.toNat : Int) == 33) = true ∧ (x1 = 33 ∨ x1 = 63 ∨ x1 = 47)) ∨ (((x1.toNat : Int) == 33) = false ∧ ((x1.toNat : Int) == 63) = true ∧ (x1 = 33 ∨ x1 = 63 ∨ x1 = 47)) ∨ (((x1.toNat : Int) == 33) = false ∧ ((x1.toNat : Int) == 63) = false ∧ ¬ (x1 = 33 ∨ x1 = 63 ∨ x1 = 47)) := by
            by_cases h33 : x1 = 33
            · exact .inl ⟨by rw [h33]; rfl, .inl h33⟩
            · have r33 : ((x1.toNat : Int) == 33) = false := beq_eq_false_iff_ne.2 (fun e => h33 (UInt8.toNat_inj.1 (by simp; omega)))
              by_cases h63 : x1 = 63
              · exact .inr (.inl ⟨r33, by rw [h63]; rfl, .inr (.inl h63)⟩)
              · exact .inr (.inr ⟨r33, beq_eq_false_iff_ne.2 (fun e => h63 (UInt8.toNat_inj.1 (by simp; omega))), fun h => h.elim h33 (fun h => h.elim h63 h47)⟩)
          clear h47
          rcases hcase with ⟨r1, hc⟩ | ⟨r1, r2, hc⟩ | ⟨r1, r2, hc⟩
          · rw [if_pos hc]
            clear hc HBY HTG
            go_enter Tryz.func79, Tryz.ntmps79
            go_wp2_with fail
            go_quiet (fail)
            go_wp2_with (first | (go_at_call 101; refine (hlet _).mono ?_; rintro e w' ⟨rfl, rfl⟩) | (go_at_call 88; refine (hpf _).mono ?_; rintro e w' ⟨rfl, rfl⟩) | (go_at_call 102; refine (HSK.out 2 _ (by exact HR.out.drewN nq)).mono ?_; rintro e w3 ⟨rfl, h3, b3⟩))
            go_ret
            exact ⟨rfl, h3, (below_drewN (Below.refl base w) nq).trans b3⟩
          · rw [if_pos hc]
            clear hc HBY HTG
            go_enter Tryz.func79, Tryz.ntmps79
            go_wp2_with fail
            go_quiet (fail)
            go_wp2_with (first | (go_at_call 101; refine (hlet _).mono ?_; rintro e w' ⟨rfl, rfl⟩) | (go_at_call 88; refine (hpf _).mono ?_; rintro e w' ⟨rfl, rfl⟩) | (go_at_call 102; refine (HSK.out 2 _ (by exact HR.out.drewN nq)).mono ?_; rintro e w3 ⟨rfl, h3, b3⟩))
            go_ret
            exact ⟨rfl, h3, (below_drewN (Below.refl base w) nq).trans b3⟩
          · rw [if_neg hc]
            clear hc HSK HTG
            go_enter Tryz.func79, Tryz.ntmps79
            go_wp2_with fail
            go_quiet (fail)
            go_wp2_with (first | (go_at_call 101; refine (hlet _).mono ?_; rintro e w' ⟨rfl, rfl⟩) | (go_at_call 88; refine (hpf _).mono ?_; rintro e w' ⟨rfl, rfl⟩) | (go_at_call 36; refine (HBY.out _ (by exact HR.out.drewN nq)).mono ?_; rintro e w3 ⟨rfl, h3⟩))
            go_ret
            exact StepAt.after h3 (below_drewN (Below.refl base w) nq)
end Go.Proofs.YtndglhflbenloaaGreatDoor
