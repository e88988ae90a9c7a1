/-
  Parts of the walk, joined: RefClose, Stream, InReset, EndText, PutEv, EvGet, RefLexing, RefSkip.
-/
import Derived.Test.YtndglhflbenloaaGreatDoorUpperA
import Derived.Test.YtndglhflbenloaaGreatDoorInBuilder
import Derived.Test.YtndglhflbenloaaGreatDoorGen
import Derived.Deep.RegionLaw
import Derived.Deep.AppendLies
/-
  scrubref's closing, dataPiece and piece: their walks.
-/
namespace Go.Proofs.YtndglhflbenloaaGreatDoor
open Go.RowKit Go.Lib Own

theorem bytes_eq {a b : ByteArray} (h : a.data.toList = b.data.toList) : a = b := by
  rw [show a = ⟨a.data.toList.toArray⟩ from rfl, show b = ⟨b.data.toList.toArray⟩ from rfl, h]

set_option maxHeartbeats 4000000 in
set_option maxRecDepth 100000 in
theorem closing_any (s nb : ByteArray) (w : World) (hs : s.size ≤ 4000000) (hn : nb.size ≤ 1000) :
    Calls Tryz.prog 39 #[.string s, .string nb] w fun e w' => e = .returned (.int .i64 (ownL (60 :: 47 :: nb.data.toList) s.data.toList : Int)) ∧ Below w.heap.size w w' := by
  rw [← close_own]
  obtain ⟨wb, hwb⟩ : ∃ wb : ByteArray, (⟨#[60, 47]⟩ : ByteArray) ++ nb = wb := ⟨_, rfl⟩
  have hwl : wb.data.toList = 60 :: 47 :: nb.data.toList := by rw [← hwb]; simp
  have hwz : wb.size = nb.size + 2 := by rw [size_eq, hwl, size_eq]; rfl
  rw [← hwl]
  unfold closeL
  rw [← size_eq, ← size_eq]
  clear hwz
  by_cases hsz : s.size ≤ wb.size
  · rw [if_pos hsz]
    obtain ⟨lb, hlb⟩ : ∃ lb : ByteArray, lb = ⟨(s.data.toList.map lowC).toArray⟩ := ⟨_, rfl⟩
    have hl := fun W => lowered_any s W (by omega)
    have hbg := fun W => begins_any wb lb W
    have hll : lb.data.toList = s.data.toList.map lowC := by rw [hlb]
    rw [← hlb] at hl
    rw [hll] at hbg
    obtain ⟨b, hb⟩ : ∃ b, (s.data.toList.map lowC).isPrefixOf wb.data.toList = b := ⟨_, rfl⟩
    rw [hb] at hbg ⊢
    have HL := hid hl
    have HB := hid hbg
    clear hl hbg hll hlb hb hwl
    cases b
    all_goals
      go_enter Tryz.func39, Tryz.ntmps39
      go_wp2_with (first
        | (go_at_call 72; refine (HL.out _).mono ?_; rintro e w1 ⟨rfl, b1⟩)
        | (go_at_call 73; refine (HB.out _).mono ?_; rintro e w2 ⟨rfl, hw2⟩; subst hw2))
      go_ret
      exact ⟨rfl, b1⟩
  · rw [if_neg hsz]
    have hsz2 : wb.size < s.size := by omega
    obtain ⟨x, hx⟩ : ∃ x, s[wb.size]'hsz2 = x := ⟨_, rfl⟩
    have hxl := getElem_list hsz2 hx
    have hxd : s.data.toList.getD wb.size 0 = x := by rw [List.getD_eq_getElem?_getD, hxl]; rfl
    rw [hxd]
    have hex : (s.extract 0 wb.size).data.toList = s.data.toList.take wb.size := by
      rw [← Lib.toList_data, Lib.extract_toList]; simp
    have hez : (s.extract 0 wb.size).size ≤ 4000000 := by rw [size_eq, hex, List.length_take]; omega
    obtain ⟨lb, hlb⟩ : ∃ lb : ByteArray, lb = ⟨((s.data.toList.take wb.size).map lowC).toArray⟩ := ⟨_, rfl⟩
    have hl := fun W => lowered_at s 0 wb.size _ hex hez lb hlb W
    have hll : lb.data.toList = (s.data.toList.take wb.size).map lowC := by rw [hlb]
    have hq : (lb.toList == wb.toList) = decide ((s.data.toList.take wb.size).map lowC = wb.data.toList) := by
      rw [Lib.toList_data, Lib.toList_data, hll, Bool.eq_iff_iff, beq_iff_eq, decide_eq_true_eq]
    have ham : ∀ W, Calls Tryz.prog 74 #[.int .u8 x.toNat, .string ⟨#[9, 10, 12, 13, 32, 47, 62]⟩] W fun e w' => e = .returned (.bool (tagE.contains x)) ∧ w' = W := fun W => among_any x ⟨#[9, 10, 12, 13, 32, 47, 62]⟩ W (by decide)
    have HL := hid hl
    have HA0 := hid ham
    clear hl ham hxl hxd hex hez hll hlb hwl
    by_cases hm : (s.data.toList.take wb.size).map lowC = wb.data.toList
    · rw [decide_eq_true hm] at hq
      obtain ⟨b, hb⟩ : ∃ b, tagE.contains x = b := ⟨_, rfl⟩
      have HA := HA0
      rw [hb] at HA
      have hr : ((if (s.data.toList.take wb.size).map lowC = wb.data.toList ∧ tagE.contains x = true then 2 else 0 : Nat) : Int) = if b = true then 2 else 0 := by
        rw [hb]
        cases b
        · rw [if_neg (fun h => absurd h.2 (by decide))]; rfl
        · rw [if_pos ⟨hm, rfl⟩]; rfl
      rw [hr]
      clear hr hm hb HA0
      cases b
      all_goals
        go_enter Tryz.func39, Tryz.ntmps39
        go_wp2_with (first
          | (go_at_call 72; refine (HL.out _).mono ?_; rintro e w1 ⟨rfl, b1⟩)
          | (go_at_call 74; refine (HA.out _).mono ?_; rintro e w2 ⟨rfl, hw2⟩; subst hw2))
        go_ret
        exact ⟨rfl, b1⟩
    · rw [decide_eq_false hm] at hq
      rw [if_neg (fun h => hm h.1)]
      clear hm HA0
      go_enter Tryz.func39, Tryz.ntmps39
      go_wp2_with (first
        | (go_at_call 72; refine (HL.out _).mono ?_; rintro e w1 ⟨rfl, b1⟩))
      go_ret
      exact ⟨rfl, b1⟩
theorem eq_str {s : ByteArray} {L : List UInt8} (h : s.data.toList = L) : (s.toList == L) = true := by rw [Lib.toList_data, h]; exact beq_iff_eq.2 rfl
theorem ne_str {s : ByteArray} {L : List UInt8} (h : s.data.toList ≠ L) : (s.toList == L) = false := by rw [Lib.toList_data]; exact beq_eq_false_iff_ne.2 h
set_option maxHeartbeats 8000000 in
set_option maxRecDepth 100000 in
theorem dataPiece_any (W : Nat) (s : ByteArray) (r : List UInt8) (h : s.data.toList = 60 :: r) (w : World) (hs : s.size ≤ 4000000) (hT : RefTabs w) :
    Calls Tryz.prog 54 #[.int .i64 W, .string s] w (PairSaid (dataPieceL W s.data.toList) w) := by
  have hz : s.size = r.length + 1 := by rw [size_eq, h]; rfl
  obtain ⟨YY, hYY⟩ : ∃ YY, dataPieceL W s.data.toList = YY := ⟨_, rfl⟩
  have hG : ∀ a b : Nat, (a, b) = YY → ∀ W', Below w.heap.size w W' → PairSaid YY w (.returned (.tuple #[.int .i64 (a : Int), .int .i64 (b : Int)])) W' := fun a b h W' hb => by subst h; exact ⟨rfl, hb⟩
  rw [hYY]
  have HG := hid hG
  clear hG
  have htp := fun k (hk : k = 1 ∨ k = 2) (hks : k ≤ s.size) => tagPiece_any W k s hk hks w hs hT
  unfold dataPieceL at hYY
  by_cases h1 : s.data.toList = [60] ∨ s.data.toList = [60, 47] ∨ s.data.toList = [60, 33] ∨ s.data.toList = [60, 33, 45]
  · rw [if_pos h1] at hYY
    have HF := hid (HG.out 0 0 hYY)
    clear hYY HG htp h
    rcases h1 with h1 | h1 | h1 | h1
    · have q1 := eq_str h1
      clear h1
      go_enter Tryz.func54, Tryz.ntmps54
      go_wp2
      refine bodyPost_ret (v := .tuple #[.int .i64 ((0 : Nat) : Int), .int .i64 ((0 : Nat) : Int)]) ?_ rfl (HF.out _ (Below.refl _ _))
      simp [results, Tryz.results54, go_sem]
    · have q1 := ne_str (L := [60]) (by rw [h1]; decide)
      have q2 := eq_str h1
      clear h1
      go_enter Tryz.func54, Tryz.ntmps54
      go_wp2
      refine bodyPost_ret (v := .tuple #[.int .i64 ((0 : Nat) : Int), .int .i64 ((0 : Nat) : Int)]) ?_ rfl (HF.out _ (Below.refl _ _))
      simp [results, Tryz.results54, go_sem]
    · have q1 := ne_str (L := [60]) (by rw [h1]; decide)
      have q2 := ne_str (L := [60, 47]) (by rw [h1]; decide)
      have q3 := eq_str h1
      clear h1
      go_enter Tryz.func54, Tryz.ntmps54
      go_wp2
      refine bodyPost_ret (v := .tuple #[.int .i64 ((0 : Nat) : Int), .int .i64 ((0 : Nat) : Int)]) ?_ rfl (HF.out _ (Below.refl _ _))
      simp [results, Tryz.results54, go_sem]
    · have q1 := ne_str (L := [60]) (by rw [h1]; decide)
      have q2 := ne_str (L := [60, 47]) (by rw [h1]; decide)
      have q3 := ne_str (L := [60, 33]) (by rw [h1]; decide)
      have q4 := eq_str h1
      clear h1
      go_enter Tryz.func54, Tryz.ntmps54
      go_wp2
      refine bodyPost_ret (v := .tuple #[.int .i64 ((0 : Nat) : Int), .int .i64 ((0 : Nat) : Int)]) ?_ rfl (HF.out _ (Below.refl _ _))
      simp [results, Tryz.results54, go_sem]
  · rw [if_neg h1] at hYY
    have q1 := ne_str (s := s) (L := [60]) (fun e => h1 (.inl e))
    have q2 := ne_str (s := s) (L := [60, 47]) (fun e => h1 (.inr (.inl e)))
    have q3 := ne_str (s := s) (L := [60, 33]) (fun e => h1 (.inr (.inr (.inl e))))
    have q4 := ne_str (s := s) (L := [60, 33, 45]) (fun e => h1 (.inr (.inr (.inr e))))
    obtain ⟨x, r2, rfl⟩ : ∃ x r2, r = x :: r2 := by
      cases r with
      | nil => exact absurd (.inl h) h1
      | cons x r2 => exact ⟨x, r2, rfl⟩
    have hp1 : 1 < s.size := by simp only [List.length_cons] at hz; omega
    have hx : s[1]'hp1 = x := by
      obtain ⟨_, e⟩ := byte_at (s := s) (k := 1) (c := x) (r := r2) (by rw [h]; rfl)
      exact e
    have hx1 : s.data.toList.getD 1 0 = x := by rw [h]; rfl
    rw [hx1] at hYY
    have hx0 := x.toNat_lt
    have hl := fun W => refLet_any (x.toNat : Int) (by omega) (by omega) W
    rw [letter_z] at hl
    by_cases h2 : letterC x = true
    · rw [if_pos h2] at hYY
      rw [h2] at hl
      have ht := htp 1 (.inl rfl) (by omega)
      rw [hYY] at ht
      have HT := hid ht
      have HL := hid hl
      clear hYY HG htp h h1 h2 hx1 ht hl
      go_enter Tryz.func54, Tryz.ntmps54
      go_wp2_with (first
        | (go_at_call 84; refine (HL.out _).mono ?_; rintro e w2 ⟨rfl, hw2⟩; subst hw2)
        | (go_at_call 56; refine HT.out.mono ?_; rintro e w2 ⟨rfl, hb2⟩))
      refine bodyPost_ret (v := _) ?_ rfl ⟨rfl, hb2⟩
      simp [results, Tryz.results54, go_sem]
    · rw [if_neg h2] at hYY
      have hl1 : ∀ W, Calls Tryz.prog 84 #[.int .u8 x.toNat] W fun e w' => e = .returned (.bool false) ∧ w' = W := fun W => by
        have := hl W
        rw [show letterC x = false by simpa using h2] at this
        exact this
      have HL := hid hl1
      clear hl hl1 h2
      have hbg := fun W => begins_any s ⟨#[60, 33, 45, 45]⟩ W
      rw [show (⟨#[60, 33, 45, 45]⟩ : ByteArray).data.toList = [60, 33, 45, 45] from rfl] at hbg
      have pre : [60, 33, 45, 45].isPrefixOf s.data.toList = decide ([60, 33, 45, 45] <+: s.data.toList) := by
        rw [Bool.eq_iff_iff, decide_eq_true_eq, List.isPrefixOf_iff_prefix]
      rw [pre] at hbg
      clear pre
      by_cases h47 : x = 47
      · have q47 : ((x.toNat : Int) == 47) = true := by rw [h47]; rfl
        obtain ⟨y, r3, rfl⟩ : ∃ y r3, r2 = y :: r3 := by
          cases r2 with
          | nil => exact absurd (.inr (.inl (by rw [h, h47]))) h1
          | cons y r3 => exact ⟨y, r3, rfl⟩
        have hp2 : 2 < s.size := by simp only [List.length_cons] at hz; omega
        have hy : s[2]'hp2 = y := by
          obtain ⟨_, e⟩ := byte_at (s := s) (k := 2) (c := y) (r := r3) (by rw [h]; rfl)
          exact e
        have hy1 : s.data.toList.getD 2 0 = y := by rw [h]; rfl
        rw [hy1] at hYY
        have hy0 := y.toNat_lt
        have hl2 := fun W => refLet_any (y.toNat : Int) (by omega) (by omega) W
        rw [letter_z] at hl2
        by_cases h3 : letterC y = true
        · rw [if_pos ⟨h47, h3⟩] at hYY
          rw [h3] at hl2
          have ht := htp 2 (.inr rfl) (by omega)
          rw [hYY] at ht
          have HT := hid ht
          have HL2 := hid hl2
          clear hYY HG htp h h1 h3 hx1 hy1 ht hl2 h47 hbg hz
          go_enter Tryz.func54, Tryz.ntmps54
          go_wp2_with (first
            | (go_at_call 84; first | (with_reducible refine (HL.out _).mono ?_; rintro e w2 ⟨rfl, hw2⟩; subst hw2) | (with_reducible refine (HL2.out _).mono ?_; rintro e w2 ⟨rfl, hw2⟩; subst hw2))
            | (go_at_call 56; refine HT.out.mono ?_; rintro e w2 ⟨rfl, hb2⟩))
          refine bodyPost_ret (v := _) ?_ rfl ⟨rfl, hb2⟩
          simp [results, Tryz.results54, go_sem]
        · rw [if_neg (fun e => h3 e.2)] at hYY
          rw [show letterC y = false by simpa using h3] at hl2
          have hnp : ¬ [60, 33, 45, 45] <+: s.data.toList := by
            rw [h, h47]
            rintro ⟨z, hz2⟩
            have := (List.cons.inj (List.cons.inj hz2).2).1
            exact absurd this (by decide)
          rw [if_neg hnp, if_pos (.inl h47)] at hYY
          rw [decide_eq_false hnp] at hbg
          have HF := hid (HG.out 7 2 hYY)
          have HL2 := hid hl2
          have HB := hid hbg
          clear hYY HG htp h h1 h3 hx1 hy1 hl2 h47 hbg hz hnp
          go_enter Tryz.func54, Tryz.ntmps54
          go_wp2_with (first
            | (go_at_call 84; first | (with_reducible refine (HL.out _).mono ?_; rintro e w2 ⟨rfl, hw2⟩; subst hw2) | (with_reducible refine (HL2.out _).mono ?_; rintro e w2 ⟨rfl, hw2⟩; subst hw2))
            | (go_at_call 73; with_reducible refine (HB.out _).mono ?_; rintro e w2 ⟨rfl, hw2⟩; subst hw2))
          refine bodyPost_ret (v := .tuple #[.int .i64 ((7 : Nat) : Int), .int .i64 ((2 : Nat) : Int)]) ?_ rfl (HF.out _ (Below.refl _ _))
          simp [results, Tryz.results54, go_sem]
      · have q47 : ((x.toNat : Int) == 47) = false := beq_ff h47 47 rfl
        rw [if_neg (fun e => h47 e.1)] at hYY
        by_cases h4 : [60, 33, 45, 45] <+: s.data.toList
        · rw [if_pos h4] at hYY
          rw [decide_eq_true h4] at hbg
          have HF := hid (HG.out 6 2 hYY)
          have HB := hid hbg
          clear hYY HG htp h h1 hx1 h47 hbg hz h4
          go_enter Tryz.func54, Tryz.ntmps54
          go_wp2_with (first
            | (go_at_call 84; with_reducible refine (HL.out _).mono ?_; rintro e w2 ⟨rfl, hw2⟩; subst hw2)
            | (go_at_call 73; with_reducible refine (HB.out _).mono ?_; rintro e w2 ⟨rfl, hw2⟩; subst hw2))
          refine bodyPost_ret (v := .tuple #[.int .i64 ((6 : Nat) : Int), .int .i64 ((2 : Nat) : Int)]) ?_ rfl (HF.out _ (Below.refl _ _))
          simp [results, Tryz.results54, go_sem]
        · rw [if_neg h4] at hYY
          rw [decide_eq_false h4] at hbg
          have HB := hid hbg
          by_cases h33 : x = 33
          · have q33 : ((x.toNat : Int) == 33) = true := by rw [h33]; rfl
            rw [if_pos (.inr (.inl h33))] at hYY
            have HF := hid (HG.out 7 2 hYY)
            clear hYY HG htp h h1 hx1 h47 hbg hz h4 h33
            go_enter Tryz.func54, Tryz.ntmps54
            go_wp2_with (first
              | (go_at_call 84; with_reducible refine (HL.out _).mono ?_; rintro e w2 ⟨rfl, hw2⟩; subst hw2)
              | (go_at_call 73; with_reducible refine (HB.out _).mono ?_; rintro e w2 ⟨rfl, hw2⟩; subst hw2))
            refine bodyPost_ret (v := .tuple #[.int .i64 ((7 : Nat) : Int), .int .i64 ((2 : Nat) : Int)]) ?_ rfl (HF.out _ (Below.refl _ _))
            simp [results, Tryz.results54, go_sem]
          · have q33 : ((x.toNat : Int) == 33) = false := beq_ff h33 33 rfl
            by_cases h63 : x = 63
            · have q63 : ((x.toNat : Int) == 63) = true := by rw [h63]; rfl
              rw [if_pos (.inr (.inr h63))] at hYY
              have HF := hid (HG.out 7 2 hYY)
              clear hYY HG htp h h1 hx1 h47 hbg hz h4 h33 h63
              go_enter Tryz.func54, Tryz.ntmps54
              go_wp2_with (first
                | (go_at_call 84; with_reducible refine (HL.out _).mono ?_; rintro e w2 ⟨rfl, hw2⟩; subst hw2)
                | (go_at_call 73; with_reducible refine (HB.out _).mono ?_; rintro e w2 ⟨rfl, hw2⟩; subst hw2))
              refine bodyPost_ret (v := .tuple #[.int .i64 ((7 : Nat) : Int), .int .i64 ((2 : Nat) : Int)]) ?_ rfl (HF.out _ (Below.refl _ _))
              simp [results, Tryz.results54, go_sem]
            · have q63 : ((x.toNat : Int) == 63) = false := beq_ff h63 63 rfl
              rw [if_neg (fun e => e.elim h47 (fun e => e.elim h33 h63))] at hYY
              have HF := hid (HG.out 1 1 hYY)
              clear hYY HG htp h h1 hx1 h47 hbg hz h4 h33 h63
              go_enter Tryz.func54, Tryz.ntmps54
              go_wp2_with (first
                | (go_at_call 84; with_reducible refine (HL.out _).mono ?_; rintro e w2 ⟨rfl, hw2⟩; subst hw2)
                | (go_at_call 73; with_reducible refine (HB.out _).mono ?_; rintro e w2 ⟨rfl, hw2⟩; subst hw2))
              refine bodyPost_ret (v := .tuple #[.int .i64 ((1 : Nat) : Int), .int .i64 ((1 : Nat) : Int)]) ?_ rfl (HF.out _ (Below.refl _ _))
              simp [results, Tryz.results54, go_sem]

set_option maxHeartbeats 8000000 in
set_option maxRecDepth 100000 in
theorem piece_any (W mode : Nat) (s : ByteArray) (c : UInt8) (r : List UInt8) (h : s.data.toList = c :: r) (hm : mode ≤ 10) (w : World) (hs : s.size ≤ 4000000) (hT : RefTabs w) :
    Calls Tryz.prog 27 #[.int .i64 W, .int .i64 mode, .string s] w (PairSaid (pieceL W mode s.data.toList) w) := by
  have hz : s.size = r.length + 1 := by rw [size_eq, h]; rfl
  have hp0 : 0 < s.size := by omega
  obtain ⟨YY, hYY⟩ : ∃ YY, pieceL W mode s.data.toList = YY := ⟨_, rfl⟩
  have hG : ∀ a b : Nat, (a, b) = YY → ∀ W', Below w.heap.size w W' → PairSaid YY w (.returned (.tuple #[.int .i64 (a : Int), .int .i64 (b : Int)])) W' := fun a b h W' hb => by subst h; exact ⟨rfl, hb⟩
  rw [hYY]
  have HG := hid hG
  clear hG
  have hx : s[0]'hp0 = c := by
    obtain ⟨_, e⟩ := byte_at (s := s) (k := 0) (c := c) (r := r) (by rw [h]; rfl)
    exact e
  have hc0 : s.data.toList.getD 0 0 = c := by rw [h]; rfl
  unfold pieceL at hYY
  rw [hc0] at hYY
  by_cases h10 : mode = 10
  · subst h10
    rw [if_pos rfl, ← size_eq] at hYY
    have HF := hid (HG.out 8 s.size hYY)
    clear hYY HG h hc0 hT hz
    go_enter Tryz.func27, Tryz.ntmps27
    go_wp2
    refine bodyPost_ret (v := .tuple #[.int .i64 ((8 : Nat) : Int), .int .i64 ((s.size : Nat) : Int)]) ?_ rfl (HF.out _ (Below.refl _ _))
    simp [results, Tryz.results27, go_sem]
  · rw [if_neg h10] at hYY
    have n10 : ((mode : Int) == 10) = false := beq_eq_false_iff_ne.2 (by omega)
    by_cases hm2 : mode < 2
    · by_cases h38 : c = 38
      · have q38 : ((c.toNat : Int) == 38) = true := by rw [h38]; rfl
        rw [if_pos ⟨hm2, h38⟩] at hYY
        have hc := runPiece_any s hp0 w hs
        rw [hYY] at hc
        have HC := hid hc
        clear hYY HG h hc0 hT hz hc h38 h10
        go_enter Tryz.func27, Tryz.ntmps27
        go_wp2_with (first
          | (go_at_call 53; refine HC.out.mono ?_; rintro e w2 ⟨rfl, hb2⟩))
        refine bodyPost_ret (v := _) ?_ rfl ⟨rfl, hb2⟩
        simp [results, Tryz.results27, go_sem]
      · have q38 : ((c.toNat : Int) == 38) = false := beq_ff h38 38 rfl
        rw [if_neg (fun e => h38 e.2)] at hYY
        by_cases h60 : c = 60
        · have q60 : ((c.toNat : Int) != 60) = false := by rw [h60]; rfl
          rw [if_neg (fun e => e.1 h60), if_neg (fun e => e h60)] at hYY
          by_cases hm0 : mode = 0
          · subst hm0
            rw [if_pos rfl] at hYY
            have hc := dataPiece_any W s r (by rw [h, h60]) w hs hT
            rw [hYY] at hc
            have HC := hid hc
            clear hYY HG h hc0 hT hz hc h38 h10 h60 n10
            go_enter Tryz.func27, Tryz.ntmps27
            go_wp2_with (first
              | (go_at_call 54; refine HC.out.mono ?_; rintro e w2 ⟨rfl, hb2⟩))
            refine bodyPost_ret (v := _) ?_ rfl ⟨rfl, hb2⟩
            simp [results, Tryz.results27, go_sem]
          · obtain rfl : mode = 1 := by omega
            rw [if_neg hm0] at hYY
            obtain ⟨nb, hnb⟩ : ∃ nb : ByteArray, nb = ⟨(rawL 1).toArray⟩ := ⟨_, rfl⟩
            have hmn := fun W => modeName_any 1 (by omega) hm W
            rw [← hnb] at hmn
            have hnl : nb.data.toList = rawL 1 := by rw [hnb]
            have hnz : nb.size ≤ 1000 := by rw [size_eq, hnl]; have := raw_len 1; omega
            have hcl := fun W => closing_any s nb W hs hnz
            rw [hnl] at hcl
            obtain ⟨o, ho⟩ : ∃ o, ownL (60 :: 47 :: rawL 1) s.data.toList = o := ⟨_, rfl⟩
            rw [ho] at hcl hYY
            have hown2 : o = 2 → 2 ≤ s.size := fun e => by
              have := own_two _ _ (ho.trans e)
              rw [← size_eq] at this
              simp only [List.length_cons] at this
              omega
            have HMN := hid hmn
            have HCL := hid hcl
            clear hmn hcl hnb hnl hnz ho
            by_cases ho1 : o = 1
            · subst ho1
              rw [if_pos rfl] at hYY
              have HF := hid (HG.out 0 0 hYY)
              clear hYY HG hT hown2 h hc0 hz h60 h10
              go_enter Tryz.func27, Tryz.ntmps27
              go_wp2_with (first
                | (go_at_call 55; refine (HMN.out _).mono ?_; rintro e w1 ⟨rfl, b1⟩)
                | (go_at_call 39; refine (HCL.out _).mono ?_; rintro e w2 ⟨rfl, b2⟩; have hB := b1.trans (b2.mono b1.size)))
              refine bodyPost_ret (v := .tuple #[.int .i64 ((0 : Nat) : Int), .int .i64 ((0 : Nat) : Int)]) ?_ rfl (HF.out _ hB)
              simp [results, Tryz.results27, go_sem]
            · have qo1 : ((o : Int) == 1) = false := beq_eq_false_iff_ne.2 (by omega)
              rw [if_neg ho1] at hYY
              by_cases ho2 : o = 2
              · subst ho2
                rw [if_pos rfl] at hYY
                have htp : ∀ W', RefTabs W' → Calls Tryz.prog 56 #[.int .i64 W, .string s, .int .i64 2] W' fun e w' => e = .returned (.tuple #[.int .i64 (YY.1 : Int), .int .i64 (YY.2 : Int)]) ∧ Below W'.heap.size W' w' := fun W' hTW => by
                  have := tagPiece_any W 2 s (.inr rfl) (hown2 rfl) W' hs hTW
                  rw [hYY] at this
                  exact this
                have HTP := hid htp
                have HT := hid hT
                clear hYY HG hT htp hown2 h hc0 hz h60 h10
                go_enter Tryz.func27, Tryz.ntmps27
                go_wp2_with (first
                  | (go_at_call 55; refine (HMN.out _).mono ?_; rintro e w1 ⟨rfl, b1⟩)
                  | (go_at_call 39; refine (HCL.out _).mono ?_; rintro e w2 ⟨rfl, b2⟩; have hB := b1.trans (b2.mono b1.size))
                  | (go_at_call 56; refine (HTP.out _ (HT.out.below hB)).mono ?_; rintro e w3 ⟨rfl, b3⟩; have hB3 := hB.trans (b3.mono hB.size)))
                refine bodyPost_ret (v := _) ?_ rfl ⟨rfl, hB3⟩
                simp [results, Tryz.results27, go_sem]
              · have qo2 : ((o : Int) == 2) = false := beq_eq_false_iff_ne.2 (by omega)
                rw [if_neg ho2, if_pos rfl] at hYY
                have HF := hid (HG.out 1 1 hYY)
                clear hYY HG hT hown2 ho1 ho2 h hc0 hz h60 h10
                go_enter Tryz.func27, Tryz.ntmps27
                go_wp2_with (first
                  | (go_at_call 55; refine (HMN.out _).mono ?_; rintro e w1 ⟨rfl, b1⟩)
                  | (go_at_call 39; refine (HCL.out _).mono ?_; rintro e w2 ⟨rfl, b2⟩; have hB := b1.trans (b2.mono b1.size)))
                refine bodyPost_ret (v := .tuple #[.int .i64 ((1 : Nat) : Int), .int .i64 ((1 : Nat) : Int)]) ?_ rfl (HF.out _ hB)
                simp [results, Tryz.results27, go_sem]
        · have q60 : ((c.toNat : Int) != 60) = true := bne_tt h60 60 rfl
          rw [if_pos ⟨h60, hm2⟩] at hYY
          have HF := hid (HG.out 1 1 hYY)
          clear hYY HG h hc0 hT hz h38 h10 h60
          go_enter Tryz.func27, Tryz.ntmps27
          go_wp2
          refine bodyPost_ret (v := .tuple #[.int .i64 ((1 : Nat) : Int), .int .i64 ((1 : Nat) : Int)]) ?_ rfl (HF.out _ (Below.refl _ _))
          simp [results, Tryz.results27, go_sem]
    · rw [if_neg (fun e => hm2 e.1), if_neg (fun e => hm2 e.2)] at hYY
      have n2 : ¬ (mode : Int) < 2 := by omega
      by_cases h60 : c = 60
      · have q60 : ((c.toNat : Int) != 60) = false := by rw [h60]; rfl
        rw [if_neg (fun e => e h60), if_neg (by omega)] at hYY
        have n0 : ((mode : Int) == 0) = false := beq_eq_false_iff_ne.2 (by omega)
        obtain ⟨nb, hnb⟩ : ∃ nb : ByteArray, nb = ⟨(rawL mode).toArray⟩ := ⟨_, rfl⟩
        have hmn := fun W => modeName_any mode (by omega) hm W
        rw [← hnb] at hmn
        have hnl : nb.data.toList = rawL mode := by rw [hnb]
        have hnz : nb.size ≤ 1000 := by rw [size_eq, hnl]; have := raw_len mode; omega
        have hcl := fun W => closing_any s nb W hs hnz
        rw [hnl] at hcl
        obtain ⟨o, ho⟩ : ∃ o, ownL (60 :: 47 :: rawL mode) s.data.toList = o := ⟨_, rfl⟩
        rw [ho] at hcl hYY
        have hown2 : o = 2 → 2 ≤ s.size := fun e => by
          have := own_two _ _ (ho.trans e)
          rw [← size_eq] at this
          simp only [List.length_cons] at this
          omega
        have HMN := hid hmn
        have HCL := hid hcl
        clear hmn hcl hnb hnl hnz ho
        by_cases ho1 : o = 1
        · subst ho1
          rw [if_pos rfl] at hYY
          have HF := hid (HG.out 0 0 hYY)
          clear hYY HG hT hown2 h hc0 hz h60 h10
          go_enter Tryz.func27, Tryz.ntmps27
          go_wp2_with (first
            | (go_at_call 55; refine (HMN.out _).mono ?_; rintro e w1 ⟨rfl, b1⟩)
            | (go_at_call 39; refine (HCL.out _).mono ?_; rintro e w2 ⟨rfl, b2⟩; have hB := b1.trans (b2.mono b1.size)))
          refine bodyPost_ret (v := .tuple #[.int .i64 ((0 : Nat) : Int), .int .i64 ((0 : Nat) : Int)]) ?_ rfl (HF.out _ hB)
          simp [results, Tryz.results27, go_sem]
        · have qo1 : ((o : Int) == 1) = false := beq_eq_false_iff_ne.2 (by omega)
          rw [if_neg ho1] at hYY
          by_cases ho2 : o = 2
          · subst ho2
            rw [if_pos rfl] at hYY
            have htp : ∀ W', RefTabs W' → Calls Tryz.prog 56 #[.int .i64 W, .string s, .int .i64 2] W' fun e w' => e = .returned (.tuple #[.int .i64 (YY.1 : Int), .int .i64 (YY.2 : Int)]) ∧ Below W'.heap.size W' w' := fun W' hTW => by
              have := tagPiece_any W 2 s (.inr rfl) (hown2 rfl) W' hs hTW
              rw [hYY] at this
              exact this
            have HTP := hid htp
            have HT := hid hT
            clear hYY HG hT htp hown2 h hc0 hz h60 h10
            go_enter Tryz.func27, Tryz.ntmps27
            go_wp2_with (first
              | (go_at_call 55; refine (HMN.out _).mono ?_; rintro e w1 ⟨rfl, b1⟩)
              | (go_at_call 39; refine (HCL.out _).mono ?_; rintro e w2 ⟨rfl, b2⟩; have hB := b1.trans (b2.mono b1.size))
              | (go_at_call 56; refine (HTP.out _ (HT.out.below hB)).mono ?_; rintro e w3 ⟨rfl, b3⟩; have hB3 := hB.trans (b3.mono hB.size)))
            refine bodyPost_ret (v := _) ?_ rfl ⟨rfl, hB3⟩
            simp [results, Tryz.results27, go_sem]
          · have qo2 : ((o : Int) == 2) = false := beq_eq_false_iff_ne.2 (by omega)
            rw [if_neg ho2, if_neg (by omega)] at hYY
            have q1 : ((mode : Int) == 1) = false := beq_eq_false_iff_ne.2 (by omega)
            have HF := hid (HG.out 8 1 hYY)
            clear hYY HG hT hown2 ho1 ho2 h hc0 hz h60 h10
            go_enter Tryz.func27, Tryz.ntmps27
            go_wp2_with (first
              | (go_at_call 55; refine (HMN.out _).mono ?_; rintro e w1 ⟨rfl, b1⟩)
              | (go_at_call 39; refine (HCL.out _).mono ?_; rintro e w2 ⟨rfl, b2⟩; have hB := b1.trans (b2.mono b1.size)))
            refine bodyPost_ret (v := .tuple #[.int .i64 ((8 : Nat) : Int), .int .i64 ((1 : Nat) : Int)]) ?_ rfl (HF.out _ hB)
            simp [results, Tryz.results27, go_sem]
      · have q60 : ((c.toNat : Int) != 60) = true := bne_tt h60 60 rfl
        rw [if_pos h60] at hYY
        have HF := hid (HG.out 8 1 hYY)
        clear hYY HG h hc0 hT hz h10 h60
        go_enter Tryz.func27, Tryz.ntmps27
        go_wp2
        refine bodyPost_ret (v := .tuple #[.int .i64 ((8 : Nat) : Int), .int .i64 ((1 : Nat) : Int)]) ?_ rfl (HF.out _ (Below.refl _ _))
        simp [results, Tryz.results27, go_sem]
end Go.Proofs.YtndglhflbenloaaGreatDoor

/-
  The stream of events inside another block: what it holds, and PutText: its walk.
-/
namespace Go.Proofs.YtndglhflbenloaaGreatDoor
open Go.RowKit Go.Lib Own

/-- the cells of a list of events: each an event's four -/
def EvsAt (W : World) (base : Nat) : List Value → List Ev → Prop
  | [], [] => True
  | k :: n :: a :: t :: r, e :: l => (match e with
    | .text b => k = .int .i64 3 ∧ n = .string ⟨#[]⟩ ∧ a = .slice none 0 0 ∧ t = strV b
    | .start m at_ => k = .int .i64 1 ∧ n = strV m ∧ W.ownsRow base 65 2 a at_.length (attrsV at_) ∧ t = .string ⟨#[]⟩
    | .stop m => k = .int .i64 2 ∧ n = strV m ∧ a = .slice none 0 0 ∧ t = .string ⟨#[]⟩) ∧ EvsAt W base r l
  | _, _ => False
/-- rows of another kind than the one that is written stay what they are -/
theorem row_keep {W W' : World} {base b : Nat} {e T : TypeId} {size n n0 : Nat} {v v0 : Value} {xs xs0 : List Value} {cs : Array Value} (h : W.ownsRow base e size v n xs) (hb : W.heap[b]? = some (.cells cs T (0, 0))) (hT : T ≠ e)
    (h0 : W.ownsRowF base 5 1 v0 n0 xs0) (he : e ≠ 5) (hk : ∀ k, k < W.heap.size → k ≠ b → v0.ownBlock ≠ some k → W'.heap[k]? = W.heap[k]?) : W'.ownsRow base e size v n xs := by
  refine ⟨h.1, ?_⟩
  rcases h.2 with h2 | ⟨g, cap, cur, rfl, hg0, hg, rest⟩
  · exact .inl h2
  · refine .inr ⟨g, cap, cur, rfl, hg0, ?_, rest⟩
    rw [hk g (Array.getElem?_eq_some_iff.1 hg).1 ?_ ?_]
    · exact hg
    · rintro rfl
      rw [hg] at hb
      simp only [Option.some.injEq, Obj.cells.injEq] at hb
      exact hT hb.2.1.symm
    · intro h3
      rcases h0.2 with ⟨rfl, _⟩ | ⟨g', cap', cur', fz, rfl, _, hg', _⟩
      · cases h3
      · simp only [Value.ownBlock, Option.some.injEq] at h3
        subst h3
        rw [hg] at hg'
        simp only [Option.some.injEq, Obj.cells.injEq] at hg'
        exact he hg'.2.1
theorem evs_keep {W W' : World} {base b : Nat} {T : TypeId} {n0 : Nat} {v0 : Value} {xs0 : List Value} {cs : Array Value} (hb : W.heap[b]? = some (.cells cs T (0, 0))) (hT : T ≠ 65)
    (h0 : W.ownsRowF base 5 1 v0 n0 xs0) (hk : ∀ k, k < W.heap.size → k ≠ b → v0.ownBlock ≠ some k → W'.heap[k]? = W.heap[k]?) : ∀ (xs : List Value) (l : List Ev), EvsAt W base xs l → EvsAt W' base xs l
  | [], [], _ => trivial
  | k :: n :: a :: t :: r, e :: l, ⟨h1, h2⟩ => by
    refine ⟨?_, evs_keep hb hT h0 hk r l h2⟩
    cases e with
    | text b => exact h1
    | start m at_ => exact ⟨h1.1, h1.2.1, row_keep h1.2.2.1 hb hT h0 (by decide) hk, h1.2.2.2⟩
    | stop m => exact h1
  | [], _ :: _, h => h.elim
  | [_], _, h => by cases ‹List Ev› <;> exact h.elim
  | [_, _], _, h => by cases ‹List Ev› <;> exact h.elim
  | [_, _, _], _, h => by cases ‹List Ev› <;> exact h.elim
  | _ :: _ :: _ :: _ :: _, [], h => h.elim
/-- no list of attributes of these events lies in block g -/
def NotIn (g : Nat) : List Value → Prop
  | _ :: _ :: a :: _ :: r => a.ownBlock ≠ some g ∧ NotIn g r
  | _ => True
/-- the lists of attributes lie in blocks of their own -/
def Apart : List Value → Prop
  | _ :: _ :: a :: _ :: r => (∀ g, a.ownBlock = some g → NotIn g r) ∧ Apart r
  | _ => True
theorem notIn_snoc {W : World} {base g : Nat} {k n a t : Value} (ha : a.ownBlock ≠ some g) : ∀ (xs : List Value) (l : List Ev), EvsAt W base xs l → NotIn g xs → NotIn g (xs ++ [k, n, a, t])
  | [], [], _, _ => ⟨ha, trivial⟩
  | k' :: n' :: a' :: t' :: r, e' :: l, ⟨_, h2⟩, hn => ⟨hn.1, notIn_snoc ha r l h2 hn.2⟩
  | [], _ :: _, h, _ => h.elim
  | [_], _, h, _ => by cases ‹List Ev› <;> exact h.elim
  | [_, _], _, h, _ => by cases ‹List Ev› <;> exact h.elim
  | [_, _, _], _, h, _ => by cases ‹List Ev› <;> exact h.elim
  | _ :: _ :: _ :: _ :: _, [], h, _ => h.elim
theorem apart_snoc {W : World} {base : Nat} {k n a t : Value} : ∀ (xs : List Value) (l : List Ev), EvsAt W base xs l → Apart xs → (∀ g, a.ownBlock = some g → NotIn g xs) → Apart (xs ++ [k, n, a, t])
  | [], [], _, _, _ => ⟨fun _ _ => trivial, trivial⟩
  | k' :: n' :: a' :: t' :: r, e' :: l, ⟨_, h2⟩, hp, hg => by
    refine ⟨fun g e => notIn_snoc (fun e2 => (hg g e2).1 e) r l h2 (hp.1 g e), apart_snoc r l h2 hp.2 (fun g e => (hg g e).2)⟩
  | [], _ :: _, h, _, _ => h.elim
  | [_], _, h, _, _ => by cases ‹List Ev› <;> exact h.elim
  | [_, _], _, h, _, _ => by cases ‹List Ev› <;> exact h.elim
  | [_, _, _], _, h, _, _ => by cases ‹List Ev› <;> exact h.elim
  | _ :: _ :: _ :: _ :: _, [], h, _, _ => h.elim
theorem notIn_new {W : World} {base g : Nat} (hg : W.heap.size ≤ g) : ∀ (xs : List Value) (l : List Ev), EvsAt W base xs l → NotIn g xs
  | [], [], _ => trivial
  | k' :: n' :: a' :: t' :: r, e' :: l, ⟨h1, h2⟩ => by
    refine ⟨fun e => ?_, notIn_new hg r l h2⟩
    cases e' with
    | text b => rw [h1.2.2.1] at e; cases e
    | start m at_ => have := (h1.2.2.1.lt g e).2; omega
    | stop m => rw [h1.2.2.1] at e; cases e
  | [], _ :: _, h => h.elim
  | [_], _, h => by cases ‹List Ev› <;> exact h.elim
  | [_, _], _, h => by cases ‹List Ev› <;> exact h.elim
  | [_, _, _], _, h => by cases ‹List Ev› <;> exact h.elim
  | _ :: _ :: _ :: _ :: _, [], h => h.elim
/-- a stream at cell o of block b, its events' cells told -/
structure StreamX (W : World) (base b o : Nat) (cs : Array Value) (T : TypeId) (evs : List Ev) (pend : List UInt8) (xs : List Value) : Prop where
  itx : ∃ ev p v, cs[o]? = some ev ∧ InB W base b (o + 1) cs T p v pend ∧ W.ownsRow base 52 4 ev evs.length xs ∧ EvsAt W base xs evs ∧ Apart xs
/-- a stream at cell o of block b -/
structure StreamAt (W : World) (base b o : Nat) (cs : Array Value) (T : TypeId) (evs : List Ev) (pend : List UInt8) : Prop where
  it : ∃ ev p v xs, cs[o]? = some ev ∧ InB W base b (o + 1) cs T p v pend ∧ W.ownsRow base 52 4 ev evs.length xs ∧ EvsAt W base xs evs ∧ Apart xs
theorem StreamAt.x {W : World} {base b o : Nat} {cs : Array Value} {T : TypeId} {evs : List Ev} {pend : List UInt8} (h : StreamAt W base b o cs T evs pend) : ∃ xs, StreamX W base b o cs T evs pend xs := by
  obtain ⟨ev, p, v, xs, h1⟩ := h.it
  exact ⟨xs, ⟨ev, p, v, h1⟩⟩
theorem StreamX.at {W : World} {base b o : Nat} {cs : Array Value} {T : TypeId} {evs : List Ev} {pend : List UInt8} {xs : List Value} (h : StreamX W base b o cs T evs pend xs) : StreamAt W base b o cs T evs pend := by
  obtain ⟨ev, p, v, h1⟩ := h.itx
  exact ⟨ev, p, v, xs, h1⟩
structure StreamT (T : TypeId) (cs : Array Value) (o : Nat) : Prop where
  lies : liesAt Tryz.prog Tryz.prog.depth T (cs.size / Tryz.prog.cellsOf T) (o + 1) 39 1 = true
  n0 : T ≠ 5
  n1 : T ≠ 65
  n2 : T ≠ 52

set_option maxHeartbeats 1000000 in
theorem putText_any (base b o : Nat) (cs : Array Value) (T : TypeId) (evs : List Ev) (pend : List UInt8) (s : ByteArray) (w : World) (h : StreamAt w base b o cs T evs pend) (hT : StreamT T cs o) (hlen : pend.length + s.size ≤ 140737488355328) :
    Calls Tryz.prog 61 #[.pointer (some ⟨b, o, none⟩), .string s] w fun e w' => e = .returned (.tuple #[]) ∧
      ∃ p v, StreamAt w' base b o ((cs.setIfInBounds (o + 1) p).setIfInBounds (o + 2) v) T evs (pend ++ s.data.toList) ∧ Below base w w' := by
  obtain ⟨ev, p, v, xs, hev, hin, hrow, hevs, hap⟩ := h.it
  have hw := write_in base b (o + 1) cs T p v pend s w hin hT.lies hT.n0 hlen
  have HW := hid hw
  clear hw
  go_enter Tryz.func61, Tryz.ntmps61
  go_wp2_with (go_at_call 63; refine HW.out.mono ?_; rintro e w1 ⟨rfl, v', hin', hbel, hk⟩)
  go_end0
  refine ⟨rfl, .pointer (some ⟨b, o + 1, none⟩), v', ⟨ev, _, v', xs, ?_, hin', row_keep hrow hin.at_ hT.n2 hin.own (by decide) hk, evs_keep hin.at_ hT.n1 hin.own hk xs evs hevs, hap⟩, hbel⟩
  rw [Array.getElem?_setIfInBounds, if_neg (by omega), Array.getElem?_setIfInBounds, if_neg (by omega)]
  exact hev
end Go.Proofs.YtndglhflbenloaaGreatDoor

/-
  Reset of a strings.Builder that lies inside another block: its walk.
-/
namespace Go.Proofs.YtndglhflbenloaaGreatDoor
open Go.RowKit Go.Lib Own

theorem reset_in (base b o : Nat) (cs : Array Value) (T : TypeId) (p v : Value) (w : World) (hat : w.heap[b]? = some (.cells cs T (0, 0))) (hlo : base ≤ b) (hcp : cs[o]? = some p) (hcv : cs[o + 1]? = some v) :
    Calls Tryz.prog 49 #[.pointer (some ⟨b, o, none⟩)] w fun e w' => e = .returned (.tuple #[]) ∧
      InB w' base b o ((cs.setIfInBounds o (.pointer none)).setIfInBounds (o + 1) (.slice none 0 0)) T (.pointer none) (.slice none 0 0) [] ∧ Below base w w' ∧ ∀ k, k ≠ b → w'.heap[k]? = w.heap[k]? := by
  have c0 := cell_at hat hcp
  have f0 := free_at hat o
  have j1 := just_set (j := o) hat (.pointer none)
  have hv1 : (cs.setIfInBounds o (.pointer none))[o + 1]? = some v := by
    rw [Array.getElem?_setIfInBounds, if_neg (by omega)]; exact hcv
  have hp1 : (cs.setIfInBounds o (.pointer none))[o]? = some (.pointer none) := by
    rw [Array.getElem?_setIfInBounds, if_pos rfl, if_pos (Array.getElem?_eq_some_iff.1 hcp).1]
  have c1 := cell_at j1.at_ hv1
  have f1 := free_at j1.at_ (o + 1)
  have j2 := just_set (j := o + 1) j1.at_ (.slice none 0 0)
  have hb1 := j1.below hlo
  have hb2 := j2.below hlo
  have hfin : InB ((w.setCell ⟨b, o, none⟩ (.pointer none)).setCell ⟨b, o + 1, none⟩ (.slice none 0 0)) base b o ((cs.setIfInBounds o (.pointer none)).setIfInBounds (o + 1) (.slice none 0 0)) T (.pointer none) (.slice none 0 0) [] := by
    refine ⟨j2.at_, hlo, ?_, ?_, .inl rfl, ⟨rfl, .inl ⟨rfl, rfl⟩⟩, by simp [Value.ownBlock]⟩
    · rw [Array.getElem?_setIfInBounds, if_neg (by omega)]; exact hp1
    · rw [Array.getElem?_setIfInBounds, if_pos rfl, if_pos (Array.getElem?_eq_some_iff.1 hv1).1]
  have hkp : ∀ k, k ≠ b → ((w.setCell ⟨b, o, none⟩ (.pointer none)).setCell ⟨b, o + 1, none⟩ (.slice none 0 0)).heap[k]? = w.heap[k]? := fun k hk => (j2.other k hk).trans (j1.other k hk)
  have HF := hid hfin
  have HK := hid hkp
  clear hfin hkp j1 j2
  go_enter Tryz.func49, Tryz.ntmps49
  go_wp2
  go_end0
  exact ⟨rfl, HF.out, hb1.trans hb2, HK.out⟩
end Go.Proofs.YtndglhflbenloaaGreatDoor

/-
  The stream's endText where there is text: its walk.
-/
namespace Go.Proofs.YtndglhflbenloaaGreatDoor
open Go.RowKit Go.Lib Own

theorem info_event : (Tryz.prog.info? 52).map (fun i => (i.zero, i.size, i.bytes)) = some (some (.agg #[.int .i64 0, .string ⟨#[]⟩, .slice none 0 0, .string ⟨#[]⟩]), 4, 64) := by kernel_rfl
theorem evs_mono {W W' : World} {base : Nat} (hr : ∀ a n xs, W.ownsRow base 65 2 a n xs → W'.ownsRow base 65 2 a n xs) : ∀ (xs : List Value) (l : List Ev), EvsAt W base xs l → EvsAt W' base xs l
  | [], [], _ => trivial
  | k :: n :: a :: t :: r, e :: l, ⟨h1, h2⟩ => by
    refine ⟨?_, evs_mono hr r l h2⟩
    cases e with
    | text b => exact h1
    | start m at_ => exact ⟨h1.1, h1.2.1, hr _ _ _ h1.2.2.1, h1.2.2.2⟩
    | stop m => exact h1
  | [], _ :: _, h => h.elim
  | [_], _, h => by cases ‹List Ev› <;> exact h.elim
  | [_, _], _, h => by cases ‹List Ev› <;> exact h.elim
  | [_, _, _], _, h => by cases ‹List Ev› <;> exact h.elim
  | _ :: _ :: _ :: _ :: _, [], h => h.elim
theorem evs_snoc {W : World} {base : Nat} {b : List UInt8} : ∀ (xs : List Value) (l : List Ev), EvsAt W base xs l → EvsAt W base (xs ++ [.int .i64 3, .string ⟨#[]⟩, .slice none 0 0, strV b]) (l ++ [.text b])
  | [], [], _ => ⟨⟨rfl, rfl, rfl, rfl⟩, trivial⟩
  | k :: n :: a :: t :: r, e :: l, ⟨h1, h2⟩ => ⟨h1, evs_snoc r l h2⟩
  | [], _ :: _, h => h.elim
  | [_], _, h => by cases ‹List Ev› <;> exact h.elim
  | [_, _], _, h => by cases ‹List Ev› <;> exact h.elim
  | [_, _, _], _, h => by cases ‹List Ev› <;> exact h.elim
  | _ :: _ :: _ :: _ :: _, [], h => h.elim
/-- blocks that are not the stream's stay what they are -/
def KeepF (w w' : World) (b o : Nat) (cs : Array Value) : Prop := ∀ ev v, cs[o]? = some ev → cs[o + 2]? = some v → ∀ k, k < w.heap.size → k ≠ b → ev.ownBlock ≠ some k → v.ownBlock ≠ some k → w'.heap[k]? = w.heap[k]?
set_option maxHeartbeats 4000000 in
set_option maxRecDepth 100000 in
theorem endText_full (base b o : Nat) (cs : Array Value) (T : TypeId) (evs : List Ev) (pend : List UInt8) (xs : List Value) (w : World) (h : StreamX w base b o cs T evs pend xs) (hT : StreamT T cs o) (h0 : pend ≠ []) (hlen : evs.length ≤ 10000000) :
    Calls Tryz.prog 25 #[.pointer (some ⟨b, o, none⟩)] w fun e w' => e = .returned (.tuple #[]) ∧
      ∃ ev, StreamX w' base b o (((cs.setIfInBounds o ev).setIfInBounds (o + 1) (.pointer none)).setIfInBounds (o + 2) (.slice none 0 0)) T (evs ++ [.text pend]) [] (xs ++ [.int .i64 3, .string ⟨#[]⟩, .slice none 0 0, strV pend]) ∧ Below base w w' ∧ (∀ a n ys, w.ownsRow base 65 2 a n ys → w'.ownsRow base 65 2 a n ys) ∧ KeepF w w' b o cs := by
  obtain ⟨i0, hi, hz0, hz1, hz2⟩ := info_parts info_event
  obtain ⟨ev, p, v, hev, hin, hrow, hevs, hap⟩ := h.itx
  have hlen0 := fun W hW => len_in base b (o + 1) cs T p v pend W hW
  have hn0 : ((pend.length : Int) == 0) = false := beq_eq_false_iff_ne.2 (by have := List.length_pos_iff.2 h0; omega)
  have hstr := fun W hW => string_in base b (o + 1) cs T p v pend W hW h0
  have ce := cell_at hin.at_ hev
  have fe := free_at hin.at_ o
  have HL := hid hlen0
  have HS := hid hstr
  have HI := hid hin
  clear hlen0 hstr hin
  go_enter Tryz.func25, Tryz.ntmps25
  go_wp2_with (go_at_call 47; refine (HL.out _ HI.out).mono ?_; rintro e w1 ⟨rfl, rfl⟩)
  have hbs : base ≤ w1.heap.size := by have := (Array.getElem?_eq_some_iff.1 HI.out.at_).1; have := HI.out.lo; omega
  have hneb : ev.ownBlock ≠ some b := row_ne hrow HI.out.at_ hT.n2
  go_region_law (first
    | (go_simp; go_at_call 48; refine (HS.out _ (by exact ⟨HI.out.at_, HI.out.lo, HI.out.cp, HI.out.cv, HI.out.hp, HI.out.own, HI.out.ne⟩)).mono ?_; rintro e w9 ⟨rfl, hb9, bel9, k9⟩; have hbs9 := (Array.getElem?_eq_some_iff.1 hb9).1; have hsz9 := bel9.size; have hsz9' : w1.heap.size ≤ w9.heap.size := (by exact hsz9); have ce9 := cell_at hb9 hev; have fe9 := free_at hb9 o; have hrow9 := row_keep hrow HI.out.at_ hT.n2 HI.out.own (by decide) (fun k _ h1 h2 => k9 k h1 h2))
    | (refine step_append_lies _ rfl (.tmp 11) (.tmp 17) 25 rfl base 52 i0 (.agg #[.int .i64 0, .string ⟨#[]⟩, .slice none 0 0, .string ⟨#[]⟩]) 4 64 Tryz.underlying25 hi hz0 hz1 hz2 rfl (by decide) ev evs.length xs (by simp [Act.eval]) (by exact hrow9.alloc _) ⟨_, 0, none⟩ 1 1 [.int .i64 3, .string ⟨#[]⟩, .slice none 0 0, strV pend] (by simp [Act.eval]) rfl (cells_newV _ _ _) (by simp [Value.oneCell', strV]) (by omega) (by unfold maxLen; omega) (by omega) (by simp; omega) _ rfl ?_; rintro g cap w10 hrow10 hgrow10 - -; have hb10 : w10.heap[b]? = some (.cells cs T (0, 0)) := ((hgrow10.block b (by simp; omega) (fun e => hneb e.symm)).trans (alloc_old _ _ b (by exact hbs9))).trans (by exact hb9); have ce10 := cell_at hb10 hev; have fe10 := free_at hb10 o))
  all_goals
    have j1 := just_set (j := o) hb10 (.slice (some ⟨g, 0, none⟩) (evs.length + 1) cap)
    have hlo := HI.out.lo
    have hcp1 : (cs.setIfInBounds o (.slice (some ⟨g, 0, none⟩) (evs.length + 1) cap))[o + 1]? = some p := by
      rw [Array.getElem?_setIfInBounds, if_neg (by omega)]; exact HI.out.cp
    have hcv1 : (cs.setIfInBounds o (.slice (some ⟨g, 0, none⟩) (evs.length + 1) cap))[o + 1 + 1]? = some v := by
      rw [Array.getElem?_setIfInBounds, if_neg (by omega)]; exact HI.out.cv
    have hres := reset_in base b (o + 1) _ T p v _ j1.at_ hlo hcp1 hcv1
    have HR := hid hres
    clear hres
    have hkx := j1.other
    have hbx := j1.below hlo
    clear j1
    go_wp2_with (go_at_call 49; refine HR.out.mono ?_; rintro e w11 ⟨rfl, hin11, bel11, k11⟩)
    go_end0
    have hk : ∀ k, k ≠ b → w11.heap[k]? = w10.heap[k]? := fun k h => (k11 k h).trans (hkx k h)
    have b9 : Below base w1 w9 := ⟨bel9.os, bel9.tape, bel9.output, bel9.size, bel9.block⟩
    have b10 : Below base w1 w10 := (b9.alloc (by omega) _).grown hgrow10 (by simp; omega) (fun k hk => (hrow9.lt k hk).1)
    have e9 : EvsAt w9 base xs evs := evs_keep HI.out.at_ hT.n1 HI.out.own (fun k _ h1 h2 => k9 k h1 h2) xs evs hevs
    have e10 : EvsAt w10 base xs evs := evs_mono (fun a n ys hr => (hr.alloc _).kept hgrow10 (rows_ne hr hrow9 (by decide))) xs evs e9
    have e11 : EvsAt w11 base xs evs := evs_mono (fun a n ys hr => row_just hr hb10 hT.n1 hk) xs evs e10
    refine ⟨rfl, .slice (some ⟨g, 0, none⟩) (evs.length + 1) cap, ⟨.slice (some ⟨g, 0, none⟩) (evs.length + 1) cap, .pointer none, .slice none 0 0, ?_, hin11, ?_, evs_snoc xs evs e11, apart_snoc xs evs e11 hap (fun g e => by cases e)⟩, b10.trans (hbx.trans bel11), fun a n ys hr => row_just (((row_keep hr HI.out.at_ hT.n1 HI.out.own (by decide) (fun k _ h1 h2 => k9 k h1 h2)).alloc _).kept hgrow10 (rows_ne (row_keep hr HI.out.at_ hT.n1 HI.out.own (by decide) (fun k _ h1 h2 => k9 k h1 h2)) hrow9 (by decide))) hb10 hT.n1 hk, ?_⟩
    · rw [Array.getElem?_setIfInBounds, if_neg (by omega), Array.getElem?_setIfInBounds, if_neg (by omega), Array.getElem?_setIfInBounds, if_pos rfl, if_pos (Array.getElem?_eq_some_iff.1 hev).1]
    · have := row_just hrow10 hb10 hT.n2 hk
      rw [List.length_append]
      exact this
    · intro ev' v' hev' hv' k hks hkb hke hkv
      rw [hev] at hev'
      obtain rfl := Option.some.inj hev'
      rw [HI.out.cv] at hv'
      obtain rfl := Option.some.inj hv'
      have hk9 : k < w9.heap.size := by omega
      exact (((hk k hkb).trans (hgrow10.block k (by simp; omega) (fun e => hke e.symm))).trans (alloc_old _ _ k (by exact hk9))).trans (k9 k hkb hkv)

set_option maxHeartbeats 1000000 in
theorem endText_none (base b o : Nat) (cs : Array Value) (T : TypeId) (evs : List Ev) (w : World) (h : StreamAt w base b o cs T evs []) :
    Calls Tryz.prog 25 #[.pointer (some ⟨b, o, none⟩)] w fun e w' => e = .returned (.tuple #[]) ∧ w' = w := by
  obtain ⟨ev, p, v, xs, hev, hin, hrow, hevs, _⟩ := h.it
  have hlen0 : Calls Tryz.prog 47 #[.pointer (some ⟨b, o + 1, none⟩)] w fun e w' => e = .returned (.int .i64 0) ∧ w' = w := len_in base b (o + 1) cs T p v [] w hin
  have HL := hid hlen0
  clear hlen0 hin hrow hevs h
  go_enter Tryz.func25, Tryz.ntmps25
  go_wp2_with (go_at_call 47; refine HL.out.mono ?_; rintro e w1 ⟨rfl, rfl⟩)
  refine bodyPost_ret (v := .tuple #[]) ?_ rfl ⟨rfl, rfl⟩
  simp [results, Tryz.results25]
theorem endText_x (base b o : Nat) (cs : Array Value) (T : TypeId) (evs : List Ev) (pend : List UInt8) (xs : List Value) (w : World) (h : StreamX w base b o cs T evs pend xs) (hT : StreamT T cs o) (hlen : evs.length ≤ 10000000) :
    Calls Tryz.prog 25 #[.pointer (some ⟨b, o, none⟩)] w fun e w' => e = .returned (.tuple #[]) ∧
      ∃ e1 p1 v1 xs1, StreamX w' base b o (((cs.setIfInBounds o e1).setIfInBounds (o + 1) p1).setIfInBounds (o + 2) v1) T (flushE (evs, pend)) [] xs1 ∧ (xs1 = xs ∨ xs1 = xs ++ [.int .i64 3, .string ⟨#[]⟩, .slice none 0 0, strV pend]) ∧ Below base w w' ∧ (∀ a n ys, w.ownsRow base 65 2 a n ys → w'.ownsRow base 65 2 a n ys) ∧ KeepF w w' b o cs := by
  by_cases h0 : pend = []
  · subst h0
    refine (endText_none base b o cs T evs w h.at).mono ?_
    rintro e w' ⟨rfl, rfl⟩
    obtain ⟨ev, p, v, hev, hin, hrow, hevs, hap⟩ := h.itx
    refine ⟨rfl, ev, p, v, xs, ?_, .inl rfl, Below.refl _ _, fun _ _ _ h => h, fun _ _ _ _ _ _ _ _ _ => rfl⟩
    rw [set_same hev, set_same hin.cp, set_same hin.cv]
    exact h
  · refine (endText_full base b o cs T evs pend xs w h hT h0 hlen).mono ?_
    rintro e w' ⟨rfl, ev, h1, h2, h3, h4⟩
    refine ⟨rfl, ev, .pointer none, .slice none 0 0, _, ?_, .inr rfl, h2, h3, h4⟩
    unfold flushE
    rw [if_neg h0]
    exact h1
theorem endText_any (base b o : Nat) (cs : Array Value) (T : TypeId) (evs : List Ev) (pend : List UInt8) (w : World) (h : StreamAt w base b o cs T evs pend) (hT : StreamT T cs o) (hlen : evs.length ≤ 10000000) :
    Calls Tryz.prog 25 #[.pointer (some ⟨b, o, none⟩)] w fun e w' => e = .returned (.tuple #[]) ∧
      ∃ e1 p1 v1, StreamAt w' base b o (((cs.setIfInBounds o e1).setIfInBounds (o + 1) p1).setIfInBounds (o + 2) v1) T (flushE (evs, pend)) [] ∧ Below base w w' ∧ (∀ a n ys, w.ownsRow base 65 2 a n ys → w'.ownsRow base 65 2 a n ys) ∧ KeepF w w' b o cs := by
  obtain ⟨xs, hx⟩ := h.x
  refine (endText_x base b o cs T evs pend xs w hx hT hlen).mono ?_
  rintro e w' ⟨rfl, e1, p1, v1, xs1, h1, _, h2, h3, h4⟩
  exact ⟨rfl, e1, p1, v1, h1.at, h2, h3, h4⟩

set_option maxHeartbeats 1000000 in
theorem events_ap (base b o : Nat) (cs : Array Value) (T : TypeId) (evs : List Ev) (pend : List UInt8) (w : World) (h : StreamAt w base b o cs T evs pend) (hT : StreamT T cs o) (hlen : evs.length ≤ 10000000) :
    Calls Tryz.prog 15 #[.pointer (some ⟨b, o, none⟩)] w fun e w' => ∃ ev xs, e = .returned ev ∧ w'.ownsRow base 52 4 ev (flushE (evs, pend)).length xs ∧ EvsAt w' base xs (flushE (evs, pend)) ∧ Below base w w' ∧ Apart xs := by
  have hend := endText_any base b o cs T evs pend w h hT hlen
  have HE := hid hend
  clear hend
  go_enter Tryz.func15, Tryz.ntmps15
  go_wp2_with fail
  refine HE.out.mono ?_
  rintro e w1 ⟨rfl, e1, p1, v1, hs, hbel, -, -⟩
  obtain ⟨ev, p, v, xs, hev, hin, hrow, hevs, hap⟩ := hs.it
  have c := cell_at hin.at_ hev
  clear HE hin hev
  go_wp2
  go_ret
  exact ⟨_, _, rfl, hrow, hevs, hbel, hap⟩
theorem events_any (base b o : Nat) (cs : Array Value) (T : TypeId) (evs : List Ev) (pend : List UInt8) (w : World) (h : StreamAt w base b o cs T evs pend) (hT : StreamT T cs o) (hlen : evs.length ≤ 10000000) :
    Calls Tryz.prog 15 #[.pointer (some ⟨b, o, none⟩)] w fun e w' => ∃ ev xs, e = .returned ev ∧ w'.ownsRow base 52 4 ev (flushE (evs, pend)).length xs ∧ EvsAt w' base xs (flushE (evs, pend)) ∧ Below base w w' :=
  (events_ap base b o cs T evs pend w h hT hlen).mono fun _ _ ⟨ev, xs, h1, h2, h3, h4, _⟩ => ⟨ev, xs, h1, h2, h3, h4⟩
end Go.Proofs.YtndglhflbenloaaGreatDoor

/-
  The stream's Put: its walk.
-/
namespace Go.Proofs.YtndglhflbenloaaGreatDoor
open Go.RowKit Go.Lib Own

theorem evs_snoc2 {W : World} {base : Nat} {k n a t : Value} {e : Ev} : ∀ (xs : List Value) (l : List Ev), EvsAt W base xs l → EvsAt W base [k, n, a, t] [e] → EvsAt W base (xs ++ [k, n, a, t]) (l ++ [e])
  | [], [], _, h => h
  | k' :: n' :: a' :: t' :: r, e' :: l, ⟨h1, h2⟩, h => ⟨h1, evs_snoc2 r l h2 h⟩
  | [], _ :: _, h, _ => h.elim
  | [_], _, h, _ => by cases ‹List Ev› <;> exact h.elim
  | [_, _], _, h, _ => by cases ‹List Ev› <;> exact h.elim
  | [_, _, _], _, h, _ => by cases ‹List Ev› <;> exact h.elim
  | _ :: _ :: _ :: _ :: _, [], h, _ => h.elim
theorem StreamX.below {W W' : World} {base b o : Nat} {cs : Array Value} {T : TypeId} {evs : List Ev} {pend : List UInt8} {xs : List Value} (h : StreamX W base b o cs T evs pend xs) (hb : Below W.heap.size W W') : StreamX W' base b o cs T evs pend xs := by
  obtain ⟨ev, p, v, hev, hin, hrow, hevs, hap⟩ := h.itx
  have hg : W.grownBy W' none := ⟨hb.os, hb.tape, hb.output, hb.size, fun k hk _ => hb.block k hk⟩
  exact ⟨ev, p, v, hev, ⟨(hb.block b (Array.getElem?_eq_some_iff.1 hin.at_).1).trans hin.at_, hin.lo, hin.cp, hin.cv, hin.hp, hin.own.kept hg (by cases hv : v.ownBlock <;> simp), hin.ne⟩, hrow.kept hg (Classical.em _), evs_mono (fun a n ys hr => hr.kept hg (Classical.em _)) xs evs hevs, hap⟩
theorem StreamX.new {W : World} {base b o g : Nat} {cs : Array Value} {T : TypeId} {evs : List Ev} {pend : List UInt8} {xs : List Value} (h : StreamX W base b o cs T evs pend xs) (hg : W.heap.size ≤ g) : NotIn g xs := by
  obtain ⟨ev, p, v, hev, hin, hrow, hevs, hap⟩ := h.itx
  exact notIn_new hg xs evs hevs
theorem StreamAt.alloc {W : World} {base b o : Nat} {cs : Array Value} {T : TypeId} {evs : List Ev} {pend : List UInt8} (h : StreamAt W base b o cs T evs pend) (X : Obj) : StreamAt (W.alloc X) base b o cs T evs pend := by
  obtain ⟨ev, p, v, xs, hev, hin, hrow, hevs, hap⟩ := h.it
  refine ⟨ev, p, v, xs, hev, ⟨(alloc_old _ _ b (Array.getElem?_eq_some_iff.1 hin.at_).1).trans hin.at_, hin.lo, hin.cp, hin.cv, hin.hp, ?_, hin.ne⟩, hrow.alloc _, evs_mono (fun a n ys hr => hr.alloc _) xs evs hevs, hap⟩
  exact hin.own.kept (World.grownBy_alloc W X none) (by cases hv : v.ownBlock <;> simp)

theorem set_three (cs : Array Value) (o : Nat) (e1 e2 p v : Value) : (((cs.setIfInBounds o e1).setIfInBounds (o + 1) p).setIfInBounds (o + 2) v).setIfInBounds o e2 = ((cs.setIfInBounds o e2).setIfInBounds (o + 1) p).setIfInBounds (o + 2) v := by
  apply Array.ext_getElem?
  intro i
  simp only [Array.getElem?_setIfInBounds, Array.size_setIfInBounds]
  repeat' split
  all_goals first | rfl | omega
theorem rowF_ne {W : World} {base : Nat} {e2 : TypeId} {z2 n1 n2 : Nat} {v1 v2 : Value} {xs1 xs2 : List Value} (h1 : W.ownsRowF base 5 1 v1 n1 xs1) (h2 : W.ownsRow base e2 z2 v2 n2 xs2) (hne : e2 ≠ 5) : v1.ownBlock = none ∨ v1.ownBlock ≠ v2.ownBlock := by
  rcases h1.2 with ⟨rfl, _⟩ | ⟨g, cap, cur, fz, rfl, _, hg, _⟩
  · exact .inl rfl
  · refine .inr (fun h3 => ?_)
    rcases h2.2 with ⟨rfl, _⟩ | ⟨g2, cap2, cur2, rfl, _, hg2, _⟩
    · cases h3
    · simp only [Value.ownBlock, Option.some.injEq] at h3
      subst h3
      rw [hg] at hg2
      simp only [Option.some.injEq, Obj.cells.injEq] at hg2
      exact hne hg2.2.1.symm
set_option maxHeartbeats 4000000 in
set_option maxRecDepth 100000 in
theorem put_any (base b o : Nat) (cs : Array Value) (T : TypeId) (evs : List Ev) (pend : List UInt8) (g0 : Nat) (kk : Int) (nb tb : ByteArray) (ap : Option Addr) (an ac : Nat) (e0 : Ev) (w0 w : World) (hsl : w.heap[g0]? = some (.cells #[.int .i64 kk, .string nb, .slice ap an ac, .string tb] 52 (0, 0))) (hkk : (kk == 3) = false) (h0 : StreamAt w0 base b o cs T evs pend) (hw0 : Below w0.heap.size w0 w) (hfr : ∀ g, (Value.slice ap an ac).ownBlock = some g → w0.heap.size ≤ g) (hT : StreamT T cs o) (hlen : evs.length ≤ 9000000) (h1 : EvsAt w base [.int .i64 kk, .string nb, .slice ap an ac, .string tb] [e0])
    (hone : ∀ u ∈ [Value.int .i64 kk, .string nb, .slice ap an ac, .string tb], u.oneCell' = true) :
    Calls Tryz.prog 105 #[.pointer (some ⟨b, o, none⟩), .slice (some ⟨g0, 0, none⟩) 1 1] w fun e w' => e = .returned (.tuple #[]) ∧
      ∃ e1 p1 v1, StreamAt w' base b o (((cs.setIfInBounds o e1).setIfInBounds (o + 1) p1).setIfInBounds (o + 2) v1) T (flushE (evs, pend) ++ [e0]) [] ∧ Below base w w' := by
  obtain ⟨i0, hi, hz0, hz1, hz2⟩ := info_parts info_event
  obtain ⟨xs0, hx0⟩ := h0.x
  have hnew : ∀ g, (Value.slice ap an ac).ownBlock = some g → NotIn g xs0 := fun g e => hx0.new (hfr g e)
  have hxa : StreamX (w.alloc (.cells #[.int .i64 kk, .string nb, .slice ap an ac, .string tb] 52)) base b o cs T evs pend xs0 := (hx0.below hw0).below ((Below.refl w.heap.size w).alloc (Nat.le_refl _) _)
  have hend := endText_x base b o cs T evs pend xs0 _ hxa hT (by omega)
  obtain ⟨ev0, p0, v0, hev0, hin0, hrow0, hevs0, _⟩ := (hx0.below hw0).itx
  have hbs : b < w.heap.size := (Array.getElem?_eq_some_iff.1 hin0.at_).1
  have hlo := hin0.lo
  have hevlt : ev0.ownBlock ≠ some w.heap.size := fun hh => by have := (hrow0.lt _ hh).2; omega
  have hvlt : v0.ownBlock ≠ some w.heap.size := fun hh => by have := (hin0.own.lt _ hh).2; omega
  have hcv0 := hin0.cv
  have HE := hid hend
  clear hend hin0 hrow0 hx0 h0 hw0 hfr hxa
  go_enter Tryz.func105, Tryz.ntmps105
  have hs0 := cell_at hsl (j := 0) rfl
  have hs1 := cell_at hsl (j := 1) rfl
  have hs2 := cell_at hsl (j := 2) rfl
  have hs3 := cell_at hsl (j := 3) rfl
  clear hsl
  go_wp2_with fail
  go_loopw [8] (fun iv wr => (iv = .int .i64 0 ∧ w = wr) ∨ (iv = .int .i64 1 ∧ Hid (∃ e1 p1 v1, StreamAt wr base b o (((cs.setIfInBounds o e1).setIfInBounds (o + 1) p1).setIfInBounds (o + 2) v1) T (flushE (evs, pend) ++ [e0]) [] ∧ Below base w wr))) (fun iv _ => 1 - (RowKit.intOf iv).toNat)
  case atStart => exact .inl ⟨rfl, rfl⟩
  case round =>
  rcases hrel with ⟨rfl, rfl⟩ | ⟨rfl, HZ⟩
  case inr =>
    go_wp2
    go_end0
    exact ⟨rfl, HZ.out⟩
  go_wp2_with fail
  refine HE.out.mono ?_
  rintro e w1 ⟨rfl, e1, p1, v1, xs, hs, hxs, hbel, hrows, hkeep⟩
  have hpb : w1.heap[w.heap.size]? = some (.cells #[.int .i64 kk, .string nb, .slice ap an ac, .string tb] 52 (0, 0)) := (hkeep ev0 v0 hev0 hcv0 w.heap.size (by simp) (by omega) hevlt hvlt).trans (heap_alloc_new w _)
  have p0 := cell_at hpb (j := 0) rfl
  have p1' := cell_at hpb (j := 1) rfl
  have p2 := cell_at hpb (j := 2) rfl
  have p3 := cell_at hpb (j := 3) rfl
  obtain ⟨cs2, hcs2⟩ : ∃ cs2, ((cs.setIfInBounds o e1).setIfInBounds (o + 1) p1).setIfInBounds (o + 2) v1 = cs2 := ⟨_, rfl⟩
  rw [hcs2] at hs
  obtain ⟨ev, p, v, hev, hin, hrow, hevs, hap⟩ := hs.itx
  have hap2 : Apart (xs ++ [.int .i64 kk, .string nb, .slice ap an ac, .string tb]) := by
    refine apart_snoc xs _ hevs hap (fun g e => ?_)
    rcases hxs with rfl | rfl
    · exact hnew g e
    · exact notIn_snoc (by simp [Value.ownBlock]) _ _ hevs0 (hnew g e)
  clear hap hxs hnew hevs0
  have hb1 := hin.at_
  have ce := cell_at hb1 hev
  have fe := free_at hb1 o
  have hneb : ev.ownBlock ≠ some b := row_ne hrow hb1 hT.n2
  have hbl : base ≤ w1.heap.size := by have := (Array.getElem?_eq_some_iff.1 hb1).1; omega
  have hbs1 := (Array.getElem?_eq_some_iff.1 hb1).1
  have hfl : (flushE (evs, pend)).length ≤ 9000001 := by
    unfold flushE
    split
    · simp only; omega
    · simp only [List.length_append, List.length_singleton]; omega
  have h11 : EvsAt w1 base [.int .i64 kk, .string nb, .slice ap an ac, .string tb] [e0] := evs_mono (fun a n ys hr => hrows a n ys (hr.alloc _)) _ _ h1
  have HV := hid (And.intro hevs (And.intro h11 hin))
  have HK := hid hrows
  clear hevs h11 hin hs HE hkeep hrows
  go_wp2_with fail
  go_region_law (refine step_append_lies _ rfl (.tmp 25) (.tmp 27) 25 rfl base 52 i0 (.agg #[.int .i64 0, .string ⟨#[]⟩, .slice none 0 0, .string ⟨#[]⟩]) 4 64 Tryz.underlying25 hi hz0 hz1 hz2 rfl (by decide) ev (flushE (evs, pend)).length xs (by simp [Act.eval]) (by exact hrow.alloc _) ⟨_, 0, none⟩ 1 1 [.int .i64 kk, .string nb, .slice ap an ac, .string tb] (by simp [Act.eval]) rfl (cells_newV _ _ _) hone (by omega) (by unfold maxLen; omega) (by omega) (by simp; omega) _ rfl ?_; rintro g cap w10 hrow10 hgrow10 - -; have hb10 : w10.heap[b]? = some (.cells cs2 T (0, 0)) := ((hgrow10.block b (by simp; omega) (fun e => hneb e.symm)).trans (alloc_old _ _ b (by exact hbs1))).trans (by exact hb1); have ce10 := cell_at hb10 hev; have fe10 := free_at hb10 o)
  all_goals
    have j1 := just_set (j := o) hb10 (.slice (some ⟨g, 0, none⟩) ((flushE (evs, pend)).length + 1) cap)
    obtain ⟨hevs, h11, hin⟩ := HV.out
    have hg10 : (w1.alloc (.cells #[.int .i64 kk, .string nb, .slice ap an ac, .string tb] 52)).grownBy w10 ev.ownBlock := ⟨hgrow10.os, hgrow10.tape, hgrow10.output, hgrow10.size, hgrow10.block⟩
    have e10 : EvsAt w10 base (xs ++ [.int .i64 kk, .string nb, .slice ap an ac, .string tb]) (flushE (evs, pend) ++ [e0]) := evs_mono (fun a' n' ys hr => (hr.alloc _).kept hg10 (rows_ne hr hrow (by decide))) _ _ (evs_snoc2 xs _ hevs h11)
    have e11 := evs_mono (W' := w10.setCell ⟨b, o, none⟩ (.slice (some ⟨g, 0, none⟩) ((flushE (evs, pend)).length + 1) cap)) (fun a' n' ys hr => row_just hr hb10 hT.n1 j1.other) _ _ e10
    have r11 := row_just hrow10 hb10 hT.n2 j1.other
    have o10 : w10.ownsRowF base 5 1 v 0 (byteCells []) := (hin.own.kept (World.grownBy_alloc w1 _ none) (by cases hv : v.ownBlock <;> simp)).kept hg10 (rowF_ne hin.own hrow (by decide))
    have o11 := o10.kept (w' := w10.setCell ⟨b, o, none⟩ (.slice (some ⟨g, 0, none⟩) ((flushE (evs, pend)).length + 1) cap)) (row := some b) ⟨j1.os, j1.tape, j1.output, by rw [j1.size]; exact Nat.le_refl _, fun k _ hk => j1.other k (fun e => hk (by rw [e]))⟩ (.inr hin.ne)
    have b10 : Below base w1 w10 := ((Below.refl base w1).alloc (by omega) _).grown hg10 (by simp; omega) (fun k hk => (hrow.lt k hk).1)
    have bw : Below base w (w.alloc (.cells #[.int .i64 kk, .string nb, .slice ap an ac, .string tb] 52)) := (Below.refl base w).alloc (by omega) _
    have bfin := (bw.trans hbel).trans (b10.trans (j1.below hlo))
    have hat := j1.at_
    rw [← hcs2, set_three] at hat
    have hcp2 : (((cs.setIfInBounds o (.slice (some ⟨g, 0, none⟩) ((flushE (evs, pend)).length + 1) cap)).setIfInBounds (o + 1) p1).setIfInBounds (o + 2) v1)[o + 1]? = some p := by
      rw [← set_three cs o e1, hcs2, Array.getElem?_setIfInBounds, if_neg (by omega)]; exact hin.cp
    have hcv2 : (((cs.setIfInBounds o (.slice (some ⟨g, 0, none⟩) ((flushE (evs, pend)).length + 1) cap)).setIfInBounds (o + 1) p1).setIfInBounds (o + 2) v1)[o + 1 + 1]? = some v := by
      rw [← set_three cs o e1, hcs2, Array.getElem?_setIfInBounds, if_neg (by omega)]; exact hin.cv
    have hev2 : (((cs.setIfInBounds o (.slice (some ⟨g, 0, none⟩) ((flushE (evs, pend)).length + 1) cap)).setIfInBounds (o + 1) p1).setIfInBounds (o + 2) v1)[o]? = some (.slice (some ⟨g, 0, none⟩) ((flushE (evs, pend)).length + 1) cap) := by
      rw [← set_three cs o e1, hcs2, Array.getElem?_setIfInBounds, if_pos rfl, if_pos (Array.getElem?_eq_some_iff.1 hev).1]
    have hS : StreamAt (w10.setCell ⟨b, o, none⟩ (.slice (some ⟨g, 0, none⟩) ((flushE (evs, pend)).length + 1) cap)) base b o (((cs.setIfInBounds o (.slice (some ⟨g, 0, none⟩) ((flushE (evs, pend)).length + 1) cap)).setIfInBounds (o + 1) p1).setIfInBounds (o + 2) v1) T (flushE (evs, pend) ++ [e0]) [] :=
      ⟨_, p, v, _, hev2, ⟨hat, hlo, hcp2, hcv2, hin.hp, o11, hin.ne⟩, by rw [List.length_append]; exact r11, e11, hap2⟩
    have HS := hid hS
    have HB := hid bfin
    clear hS bfin e10 e11 r11 o10 o11 hat hcp2 hcv2 hev2 j1
    go_wp2
    go_roundw
    case rel => exact .inr ⟨rfl, hid ⟨_, _, _, HS.out, HB.out⟩⟩
    case measure => simp [RowKit.intOf]
end Go.Proofs.YtndglhflbenloaaGreatDoor

/-
  The cells of one event among a list's.
-/
namespace Go.Proofs.YtndglhflbenloaaGreatDoor
open Go.RowKit Go.Lib Own

def evK : Ev → Nat
  | .text _ => 3
  | .start _ _ => 1
  | .stop _ => 2
def evN : Ev → List UInt8
  | .text _ => []
  | .start n _ => n
  | .stop n => n
def evA : Ev → List (List UInt8 × List UInt8)
  | .start _ a => a
  | _ => []
def evT : Ev → List UInt8
  | .text b => b
  | _ => []
theorem strV_nil : strV [] = .string ⟨#[]⟩ := rfl
theorem evs_get {W : World} {base : Nat} : ∀ (xs : List Value) (l : List Ev) (k : Nat) (e : Ev), EvsAt W base xs l → l[k]? = some e →
    ∃ a, xs[k * 4]? = some (.int .i64 (evK e : Nat)) ∧ xs[k * 4 + 1]? = some (strV (evN e)) ∧ xs[k * 4 + 2]? = some a ∧ xs[k * 4 + 3]? = some (strV (evT e)) ∧ W.ownsRow base 65 2 a (evA e).length (attrsV (evA e)) ∧ EvsAt W base [.int .i64 (evK e : Nat), strV (evN e), a, strV (evT e)] [e]
  | [], [], k, e, _, h => by simp at h
  | k' :: n :: a :: t :: r, e' :: l, 0, e, ⟨h1, h2⟩, h => by
    simp only [List.getElem?_cons_zero, Option.some.injEq] at h
    subst h
    cases e' with
    | text b =>
      obtain ⟨rfl, rfl, rfl, rfl⟩ := h1
      exact ⟨_, rfl, rfl, rfl, rfl, World.ownsRow_nil _ _ _ _, ⟨⟨rfl, rfl, rfl, rfl⟩, trivial⟩⟩
    | start m at_ =>
      obtain ⟨rfl, rfl, h3, rfl⟩ := h1
      exact ⟨_, rfl, rfl, rfl, rfl, h3, ⟨⟨rfl, rfl, h3, rfl⟩, trivial⟩⟩
    | stop m =>
      obtain ⟨rfl, rfl, rfl, rfl⟩ := h1
      exact ⟨_, rfl, rfl, rfl, rfl, World.ownsRow_nil _ _ _ _, ⟨⟨rfl, rfl, rfl, rfl⟩, trivial⟩⟩
  | k' :: n :: a :: t :: r, e' :: l, k + 1, e, ⟨h1, h2⟩, h => by
    rw [List.getElem?_cons_succ] at h
    obtain ⟨a', g1, g2, g3, g4, g5⟩ := evs_get r l k e h2 h
    refine ⟨a', ?_, ?_, ?_, ?_, g5⟩
    · rw [show (k + 1) * 4 = k * 4 + 4 by omega]; exact g1
    · rw [show (k + 1) * 4 + 1 = k * 4 + 1 + 4 by omega]; exact g2
    · rw [show (k + 1) * 4 + 2 = k * 4 + 2 + 4 by omega]; exact g3
    · rw [show (k + 1) * 4 + 3 = k * 4 + 3 + 4 by omega]; exact g4
  | [], _ :: _, _, _, h, _ => h.elim
  | [_], _, _, _, h, _ => by cases ‹List Ev› <;> exact h.elim
  | [_, _], _, _, _, h, _ => by cases ‹List Ev› <;> exact h.elim
  | [_, _, _], _, _, _, h, _ => by cases ‹List Ev› <;> exact h.elim
  | _ :: _ :: _ :: _ :: _, [], _, _, h, _ => h.elim
theorem evs_len {W : World} {base : Nat} : ∀ (xs : List Value) (l : List Ev), EvsAt W base xs l → xs.length = l.length * 4
  | [], [], _ => rfl
  | k' :: n :: a :: t :: r, e' :: l, ⟨h1, h2⟩ => by
    have := evs_len r l h2
    simp only [List.length_cons]
    omega
  | [], _ :: _, h => h.elim
  | [_], _, h => by cases ‹List Ev› <;> exact h.elim
  | [_, _], _, h => by cases ‹List Ev› <;> exact h.elim
  | [_, _, _], _, h => by cases ‹List Ev› <;> exact h.elim
  | _ :: _ :: _ :: _ :: _, [], h => h.elim
theorem evs_app {W : World} {base : Nat} : ∀ (xs : List Value) (l : List Ev) (ys : List Value) (m : List Ev), EvsAt W base xs l → EvsAt W base ys m → EvsAt W base (xs ++ ys) (l ++ m)
  | [], [], _, _, _, h => h
  | k' :: n :: a :: t :: r, e' :: l, ys, m, ⟨h1, h2⟩, h => ⟨h1, evs_app r l ys m h2 h⟩
  | [], _ :: _, _, _, h, _ => h.elim
  | [_], _, _, _, h, _ => by cases ‹List Ev› <;> exact h.elim
  | [_, _], _, _, _, h, _ => by cases ‹List Ev› <;> exact h.elim
  | [_, _, _], _, _, _, h, _ => by cases ‹List Ev› <;> exact h.elim
  | _ :: _ :: _ :: _ :: _, [], _, _, h, _ => h.elim
end Go.Proofs.YtndglhflbenloaaGreatDoor

/-
  scrubref's lexing: what it holds in memory; gathered, event, unit: their walks.
-/
namespace Go.Proofs.YtndglhflbenloaaGreatDoor
open Go.RowKit Go.Lib Own

/-- the lexing's seven cells -/
def lxC (win mode scan : Int) (eat : Bool) (held : ByteArray) (ev wd : Value) : Array Value := #[.int .i64 win, .int .i64 mode, .int .i64 scan, .bool eat, .string held, ev, wd]
structure Lxg (W : World) (base b : Nat) (win mode scan : Int) (eat : Bool) (held : ByteArray) (E : List Ev) (P : List UInt8) : Prop where
  lo : base ≤ b
  it : ∃ ev wd xs, W.heap[b]? = some (.cells (lxC win mode scan eat held ev wd) 46 (0, 0)) ∧ W.ownsRow base 52 4 ev E.length xs ∧ EvsAt W base xs E ∧ W.ownsRow base 5 1 wd P.length (byteCells P)
variable {W : World} {base b : Nat} {win mode scan : Int} {eat : Bool} {held : ByteArray} {E : List Ev} {P : List UInt8}
theorem Lxg.below {W' : World} (h : Lxg W base b win mode scan eat held E P) (hb : Below W.heap.size W W') : Lxg W' base b win mode scan eat held E P := by
  obtain ⟨ev, wd, xs, h1, h2, h3, h4⟩ := h.it
  have hg : W.grownBy W' none := ⟨hb.os, hb.tape, hb.output, hb.size, fun k hk _ => hb.block k hk⟩
  exact ⟨h.lo, ev, wd, xs, (hb.block b (block_lt h1)).trans h1, h2.kept hg (Classical.em _), evs_mono (fun a n ys hr => hr.kept hg (Classical.em _)) xs E h3, h4.kept hg (Classical.em _)⟩
theorem Lxg.drew (h : Lxg W base b win mode scan eat held E P) : Lxg W.drew base b win mode scan eat held E P := by
  obtain ⟨ev, wd, xs, h1, h2, h3, h4⟩ := h.it
  exact ⟨h.lo, ev, wd, xs, h1, h2, evs_mono (W := W) (W' := W.drew) (fun _ _ _ h => h) xs E h3, h4⟩
theorem Lxg.size (h : Lxg W base b win mode scan eat held E P) : base ≤ W.heap.size := by
  obtain ⟨ev, wd, xs, h1, _⟩ := h.it
  have := block_lt h1
  have := h.lo
  omega
theorem Lxg.cells (h : Lxg W base b win mode scan eat held E P) : (W.cell? ⟨b, 0, none⟩ = some (.int .i64 win) ∧ W.cell? ⟨b, 1, none⟩ = some (.int .i64 mode) ∧ W.cell? ⟨b, 2, none⟩ = some (.int .i64 scan) ∧ W.cell? ⟨b, 3, none⟩ = some (.bool eat) ∧ W.cell? ⟨b, 4, none⟩ = some (.string held)) ∧ ∀ j, W.frozen? ⟨b, j, none⟩ = false := by
  obtain ⟨ev, wd, xs, h1, _⟩ := h.it
  exact ⟨⟨cell_at h1 rfl, cell_at h1 rfl, cell_at h1 rfl, cell_at h1 rfl, cell_at h1 rfl⟩, fun j => free_at h1 j⟩
/-- one of the first five cells is stored -/
theorem Lxg.stored (h : Lxg W base b win mode scan eat held E P) (j : Nat) (u : Value) {win' mode' scan' : Int} {eat' : Bool} {held' : ByteArray} (hu : ∀ ev wd, (lxC win mode scan eat held ev wd).setIfInBounds j u = lxC win' mode' scan' eat' held' ev wd) :
    Lxg (W.setCell ⟨b, j, none⟩ u) base b win' mode' scan' eat' held' E P ∧ Below base W (W.setCell ⟨b, j, none⟩ u) := by
  obtain ⟨ev, wd, xs, h1, h2, h3, h4⟩ := h.it
  have j1 := just_set (j := j) h1 u
  refine ⟨⟨h.lo, ev, wd, xs, ?_, row_just h2 h1 (by decide) j1.other, evs_mono (fun a n ys hr => row_just hr h1 (by decide) j1.other) xs E h3, row_just h4 h1 (by decide) j1.other⟩, j1.below h.lo⟩
  rw [← hu ev wd]
  exact j1.at_
theorem Lxg.setMode (h : Lxg W base b win mode scan eat held E P) (q : Int) : Lxg (W.setCell ⟨b, 1, none⟩ (.int .i64 q)) base b win q scan eat held E P ∧ Below base W (W.setCell ⟨b, 1, none⟩ (.int .i64 q)) := h.stored 1 _ (fun _ _ => rfl)
theorem Lxg.setScan (h : Lxg W base b win mode scan eat held E P) (q : Int) : Lxg (W.setCell ⟨b, 2, none⟩ (.int .i64 q)) base b win mode q eat held E P ∧ Below base W (W.setCell ⟨b, 2, none⟩ (.int .i64 q)) := h.stored 2 _ (fun _ _ => rfl)
theorem Lxg.setEat (h : Lxg W base b win mode scan eat held E P) (q : Bool) : Lxg (W.setCell ⟨b, 3, none⟩ (.bool q)) base b win mode scan q held E P ∧ Below base W (W.setCell ⟨b, 3, none⟩ (.bool q)) := h.stored 3 _ (fun _ _ => rfl)
theorem Lxg.setHeld (h : Lxg W base b win mode scan eat held E P) (q : ByteArray) : Lxg (W.setCell ⟨b, 4, none⟩ (.string q)) base b win mode scan eat q E P ∧ Below base W (W.setCell ⟨b, 4, none⟩ (.string q)) := h.stored 4 _ (fun _ _ => rfl)

/-- what gathered leaves as it was -/
def KeepG (w w' : World) (base b : Nat) : Prop := (∀ ev, w.cell? ⟨b, 5, none⟩ = some ev → ∀ k, k < w.heap.size → k ≠ b → ev.ownBlock ≠ some k → w'.heap[k]? = w.heap[k]?) ∧ ∀ a n ys, w.ownsRow base 65 2 a n ys → w'.ownsRow base 65 2 a n ys
set_option maxHeartbeats 4000000 in
set_option maxRecDepth 100000 in
theorem gathered_full (base b : Nat) (win mode scan : Int) (eat : Bool) (held : ByteArray) (E : List Ev) (P : List UInt8) (w : World) (h : Lxg w base b win mode scan eat held E P) (h0 : P ≠ []) (hlen : E.length ≤ 9000000) :
    Calls Tryz.prog 18 #[.pointer (some ⟨b, 0, none⟩)] w fun e w' => e = .returned (.tuple #[]) ∧ Lxg w' base b win mode scan eat held (E ++ [.text P]) [] ∧ Below base w w' ∧ KeepG w w' base b := by
  obtain ⟨i0, hi, hz0, hz1, hz2⟩ := info_parts info_event
  obtain ⟨ev, wd, xs, hat, hrow, hevs, hwd⟩ := h.it
  have hlo := h.lo
  have hpos : 0 < P.length := List.length_pos_iff.2 h0
  obtain ⟨wp, wc, rfl⟩ := row_shape hwd
  have hcv : ∀ W' : World, W'.heap = w.heap → (convert 37 9 (.slice wp P.length wc)).run Tryz.prog W' = .ok (.string ⟨P.toArray⟩) W' := fun W' hh => own_text W' base _ P ⟨hwd.1, by rw [hh]; exact hwd.2⟩
  have hcv1 := hcv w rfl
  have hcv2 := hcv w.drew rfl
  have c5 : w.cell? ⟨b, 5, none⟩ = some ev := cell_at hat rfl
  have c6 : w.cell? ⟨b, 6, none⟩ = some (.slice wp P.length wc) := cell_at hat rfl
  have f5 := free_at hat 5
  have f6 := free_at hat 6
  have hbs : base ≤ w.heap.size := h.size
  have hbb := block_lt hat
  have hneb : ev.ownBlock ≠ some b := row_ne hrow hat (by decide)
  have HX := hid (And.intro hat (And.intro hrow (And.intro hevs hwd)))
  clear hcv h hwd hevs
  go_enter Tryz.func18, Tryz.ntmps18
  go_wp2_with fail
  go_region_law (refine step_append_lies _ rfl (.tmp 12) (.tmp 19) 25 rfl base 52 i0 (.agg #[.int .i64 0, .string ⟨#[]⟩, .slice none 0 0, .string ⟨#[]⟩]) 4 64 Tryz.underlying25 hi hz0 hz1 hz2 rfl (by decide) ev E.length xs (by simp [Act.eval]) (by exact hrow.alloc _) ⟨_, 0, none⟩ 1 1 [.int .i64 3, .string ⟨#[]⟩, .slice none 0 0, .string ⟨P.toArray⟩] (by simp [Act.eval]) rfl (cells_newV _ _ _) (by simp [Value.oneCell']) (by omega) (by unfold maxLen; omega) (by omega) (by simp; omega) _ rfl ?_; rintro g cap w10 hrow10 hgrow10 - -; have hb10 : w10.heap[b]? = some (.cells (lxC win mode scan eat held ev (.slice wp P.length wc)) 46 (0, 0)) := ((hgrow10.block b (by simp; omega) (fun e => hneb e.symm)).trans (alloc_old _ _ b (by exact hbb))).trans (by exact HX.out.1); have ce10 : w10.cell? ⟨b, 5, none⟩ = some ev := cell_at hb10 rfl; have fe10 := free_at hb10 5; have fg10 := free_at hb10 6; have cg10 : w10.cell? ⟨b, 6, none⟩ = some (.slice wp P.length wc) := cell_at hb10 rfl)
  all_goals
    obtain ⟨hat, hrow, hevs, hwd⟩ := HX.out
    have j1 := just_set (j := 5) hb10 (.slice (some ⟨g, 0, none⟩) (E.length + 1) cap)
    have hat11 : (w10.setCell ⟨b, 5, none⟩ (.slice (some ⟨g, 0, none⟩) (E.length + 1) cap)).heap[b]? = some (.cells (lxC win mode scan eat held (.slice (some ⟨g, 0, none⟩) (E.length + 1) cap) (.slice wp P.length wc)) 46 (0, 0)) := j1.at_
    have j2 := just_set (j := 6) hat11 (.slice none 0 0)
    have hg10 : (w.alloc (.cells #[.int .i64 3, .string ⟨#[]⟩, .slice none 0 0, .string ⟨P.toArray⟩] 52)).grownBy w10 ev.ownBlock := ⟨hgrow10.os, hgrow10.tape, hgrow10.output, hgrow10.size, hgrow10.block⟩
    have hk : ∀ k, k ≠ b → ((w10.setCell ⟨b, 5, none⟩ (.slice (some ⟨g, 0, none⟩) (E.length + 1) cap)).setCell ⟨b, 6, none⟩ (.slice none 0 0)).heap[k]? = w10.heap[k]? := fun k h => (j2.other k h).trans (j1.other k h)
    have e10 : EvsAt w10 base (xs ++ [.int .i64 3, .string ⟨#[]⟩, .slice none 0 0, strV P]) (E ++ [.text P]) := evs_mono (fun a n ys hr => (hr.alloc _).kept hg10 (rows_ne hr hrow (by decide))) _ _ (evs_snoc xs E hevs)
    have b10 : Below base w w10 := ((Below.refl base w).alloc hbs _).grown hg10 (by simp; omega) (fun k hk => (hrow.lt k hk).1)
    have hL : Lxg ((w10.setCell ⟨b, 5, none⟩ (.slice (some ⟨g, 0, none⟩) (E.length + 1) cap)).setCell ⟨b, 6, none⟩ (.slice none 0 0)) base b win mode scan eat held (E ++ [.text P]) [] := by
      refine ⟨hlo, .slice (some ⟨g, 0, none⟩) (E.length + 1) cap, .slice none 0 0, _, j2.at_, ?_, evs_mono (fun a n ys hr => row_just hr hb10 (by decide) hk) _ _ e10, World.ownsRow_nil _ _ _ _⟩
      rw [List.length_append]
      exact row_just hrow10 hb10 (by decide) hk
    have hB : Below base w ((w10.setCell ⟨b, 5, none⟩ (.slice (some ⟨g, 0, none⟩) (E.length + 1) cap)).setCell ⟨b, 6, none⟩ (.slice none 0 0)) := b10.trans ((j1.below hlo).trans (j2.below hlo))
    have hK : KeepG w ((w10.setCell ⟨b, 5, none⟩ (.slice (some ⟨g, 0, none⟩) (E.length + 1) cap)).setCell ⟨b, 6, none⟩ (.slice none 0 0)) base b := by
      refine ⟨fun ev' e' k hk1 hkb hke => ?_, fun a n ys hr => row_just ((hr.alloc _).kept hg10 (rows_ne hr hrow (by decide))) hb10 (by decide) hk⟩
      rw [c5] at e'
      obtain rfl := Option.some.inj e'
      exact ((hk k hkb).trans (hg10.block k (by simp; omega) (fun e => hke e.symm))).trans (alloc_old w _ k hk1)
    have HL := hid (And.intro hL (And.intro hB hK))
    have f6' := free_at hat11 6
    have c6' : (w10.setCell ⟨b, 5, none⟩ (.slice (some ⟨g, 0, none⟩) (E.length + 1) cap)).cell? ⟨b, 6, none⟩ = some (.slice wp P.length wc) := cell_at hat11 rfl
    clear hL hB hK e10 b10 hk hg10 j1 j2 hat11 hb10 hrow10 hgrow10 hat hrow hevs hwd HX ce10 fe10 fg10 cg10
    go_wp2
    go_end0
    exact ⟨rfl, HL.out.1, HL.out.2.1, HL.out.2.2⟩

set_option maxHeartbeats 4000000 in
set_option maxRecDepth 100000 in
theorem gathered_none (base b : Nat) (win mode scan : Int) (eat : Bool) (held : ByteArray) (E : List Ev) (w : World) (h : Lxg w base b win mode scan eat held E []) :
    Calls Tryz.prog 18 #[.pointer (some ⟨b, 0, none⟩)] w fun e w' => e = .returned (.tuple #[]) ∧ Lxg w' base b win mode scan eat held E [] ∧ Below base w w' ∧ KeepG w w' base b := by
  obtain ⟨ev, wd, xs, hat, hrow, hevs, hwd⟩ := h.it
  have hlo := h.lo
  obtain ⟨wp, wc, rfl⟩ := row_shape hwd
  have c6 : w.cell? ⟨b, 6, none⟩ = some (.slice wp 0 wc) := cell_at hat rfl
  have f6 := free_at hat 6
  have j1 := just_set (j := 6) hat (.slice none 0 0)
  have hL : Lxg (w.setCell ⟨b, 6, none⟩ (.slice none 0 0)) base b win mode scan eat held E [] :=
    ⟨hlo, ev, .slice none 0 0, xs, j1.at_, row_just hrow hat (by decide) j1.other, evs_mono (fun a n ys hr => row_just hr hat (by decide) j1.other) xs E hevs, World.ownsRow_nil _ _ _ _⟩
  have hK : KeepG w (w.setCell ⟨b, 6, none⟩ (.slice none 0 0)) base b := ⟨fun _ _ k _ hkb _ => j1.other k hkb, fun a n ys hr => row_just hr hat (by decide) j1.other⟩
  have HL := hid (And.intro hL (And.intro (j1.below hlo) hK))
  clear hL hK j1 hat hrow hevs hwd h
  go_enter Tryz.func18, Tryz.ntmps18
  go_wp2
  go_end0
  exact ⟨rfl, HL.out.1, HL.out.2.1, HL.out.2.2⟩
theorem gathered_any (base b : Nat) (win mode scan : Int) (eat : Bool) (held : ByteArray) (E : List Ev) (P : List UInt8) (w : World) (h : Lxg w base b win mode scan eat held E P) (hlen : E.length ≤ 9000000) :
    Calls Tryz.prog 18 #[.pointer (some ⟨b, 0, none⟩)] w fun e w' => e = .returned (.tuple #[]) ∧ Lxg w' base b win mode scan eat held (flushE (E, P)) [] ∧ Below base w w' ∧ KeepG w w' base b := by
  unfold flushE
  by_cases h0 : P = []
  · subst h0
    exact gathered_none base b win mode scan eat held E w h
  · rw [if_neg h0]
    exact gathered_full base b win mode scan eat held E P w h h0 hlen

theorem app_cells (P : List UInt8) (s : ByteArray) {W : World} {base : Nat} {v : Value} (h : W.ownsRow base 5 1 v (P.length + s.size) (byteCells P ++ strCells s)) : W.ownsRow base 5 1 v (P ++ s.data.toList).length (byteCells (P ++ s.data.toList)) := by
  rw [List.length_append, ← size_eq, byteCells_append]
  exact h
set_option maxHeartbeats 4000000 in
set_option maxRecDepth 100000 in
theorem refUnit_full (base b : Nat) (win mode scan : Int) (eat : Bool) (held : ByteArray) (E : List Ev) (P : List UInt8) (s : ByteArray) (w : World) (h : Lxg w base b win mode scan eat held E P) (hlen : P.length + s.size ≤ 100000000) (hno : eat = false ∨ (s.toList == [10]) = false) :
    Calls Tryz.prog 37 #[.pointer (some ⟨b, 0, none⟩), .string s] w fun e w' => e = .returned (.tuple #[]) ∧ Lxg w' base b win mode scan false held E (P ++ s.data.toList) ∧ Below base w w' := by
  obtain ⟨i0, hi, hz0, hz1, hz2⟩ := info_parts info_u8
  obtain ⟨ev, wd, xs, hat, hrow, hevs, hwd⟩ := h.it
  have hlo := h.lo
  have hbs : base ≤ w.heap.size := h.size
  have hbb := block_lt hat
  have hneb : wd.ownBlock ≠ some b := row_ne hwd hat (by decide)
  have c3 : w.cell? ⟨b, 3, none⟩ = some (.bool eat) := cell_at hat rfl
  have c6 : w.cell? ⟨b, 6, none⟩ = some wd := cell_at hat rfl
  have f3 := free_at hat 3
  have f6 := free_at hat 6
  have HX := hid (And.intro hat (And.intro hrow hevs))
  have HW := hid hwd
  clear h hevs hrow hwd
  have hm : P.length + s.size ≤ maxLen := by unfold maxLen; omega
  have fin : ∀ v' w2, w2.ownsRow base 5 1 v' (P.length + s.size) (byteCells P ++ strCells s) → w.grownBy w2 wd.ownBlock →
      (w2.heap[b]? = some (.cells (lxC win mode scan eat held ev wd) 46 (0, 0))) ∧ Lxg ((w2.setCell ⟨b, 6, none⟩ v').setCell ⟨b, 3, none⟩ (.bool false)) base b win mode scan false held E (P ++ s.data.toList) ∧ Below base w ((w2.setCell ⟨b, 6, none⟩ v').setCell ⟨b, 3, none⟩ (.bool false)) := fun v' w2 h1 h2 => by
    obtain ⟨hat, hrow, hevs⟩ := HX.out
    have hat2 : w2.heap[b]? = some (.cells (lxC win mode scan eat held ev wd) 46 (0, 0)) := (h2.block b hbb (fun e => hneb e.symm)).trans hat
    have j1 := just_set (j := 6) hat2 v'
    have hat3 : (w2.setCell ⟨b, 6, none⟩ v').heap[b]? = some (.cells (lxC win mode scan eat held ev v') 46 (0, 0)) := j1.at_
    have j2 := just_set (j := 3) hat3 (.bool false)
    have hk : ∀ k, k ≠ b → ((w2.setCell ⟨b, 6, none⟩ v').setCell ⟨b, 3, none⟩ (.bool false)).heap[k]? = w2.heap[k]? := fun k h => (j2.other k h).trans (j1.other k h)
    have hr2 := hrow.kept h2 (rows_ne hrow HW.out (by decide))
    have he2 := evs_mono (W' := w2) (fun a n ys hr => hr.kept h2 (rows_ne hr HW.out (by decide))) xs E hevs
    refine ⟨hat2, ⟨hlo, ev, v', xs, j2.at_, row_just hr2 hat2 (by decide) hk, evs_mono (fun a n ys hr => row_just hr hat2 (by decide) hk) xs E he2, row_just (app_cells P s h1) hat2 (by decide) hk⟩, ?_⟩
    exact ((Below.refl base w).grown h2 hbs (fun k hk => (HW.out.lt k hk).1)).trans ((j1.below hlo).trans (j2.below hlo))
  have HF := hid fin
  clear fin HX
  rcases hno with rfl | hq
  · go_enter Tryz.func37, Tryz.ntmps37
    go_wp2_with (at_builtin; refine Lib.wpList_append_own_string _ rfl _ _ 37 9 rfl base 5 i0 Tryz.underlying37 Tryz.underlying9 hi hz0 hz1 hz2 _ _ _ rfl HW.out s rfl hm (by omega) hbs ?_)
    intro v' w2 hown' hgrow _
    obtain ⟨vp, vc, rfl⟩ := row_shape hown'
    obtain ⟨k1, k2⟩ := HF.out _ w2 hown' hgrow
    have g6 := free_at k1 6
    have d6 : w2.cell? ⟨b, 6, none⟩ = some wd := cell_at k1 rfl
    have g3 := free_at k1 3
    have d3 : w2.cell? ⟨b, 3, none⟩ = some (.bool false) := cell_at k1 rfl
    have HK := hid k2
    clear k1 k2 hown' hgrow
    go_wp2
    go_end0
    exact ⟨rfl, HK.out.1, HK.out.2⟩
  · cases eat
    all_goals
      go_enter Tryz.func37, Tryz.ntmps37
      go_wp2_with (at_builtin; refine Lib.wpList_append_own_string _ rfl _ _ 37 9 rfl base 5 i0 Tryz.underlying37 Tryz.underlying9 hi hz0 hz1 hz2 _ _ _ rfl HW.out s rfl hm (by omega) hbs ?_)
      intro v' w2 hown' hgrow _
      obtain ⟨vp, vc, rfl⟩ := row_shape hown'
      obtain ⟨k1, k2⟩ := HF.out _ w2 hown' hgrow
      have g6 := free_at k1 6
      have d6 : w2.cell? ⟨b, 6, none⟩ = some wd := cell_at k1 rfl
      have g3 := free_at k1 3
      have d3 : w2.cell? ⟨b, 3, none⟩ = some (.bool _) := cell_at k1 rfl
      have HK := hid k2
      clear k1 k2 hown' hgrow
      go_wp2
      go_end0
      exact ⟨rfl, HK.out.1, HK.out.2⟩
theorem refUnit_any (base b : Nat) (win mode scan : Int) (eat : Bool) (held : ByteArray) (E : List Ev) (P : List UInt8) (s : ByteArray) (w : World) (h : Lxg w base b win mode scan eat held E P) (hlen : P.length + s.size ≤ 100000000) :
    Calls Tryz.prog 37 #[.pointer (some ⟨b, 0, none⟩), .string s] w fun e w' => e = .returned (.tuple #[]) ∧ Lxg w' base b win mode scan false held E (if eat = true ∧ s.data.toList = [10] then P else P ++ s.data.toList) ∧ Below base w w' := by
  by_cases hs : eat = true ∧ s.data.toList = [10]
  · rw [if_pos hs]
    obtain ⟨rfl, h10⟩ := hs
    have q := eq_str h10
    obtain ⟨⟨c0, c1, c2, c3, c4⟩, hf⟩ := h.cells
    have f3 := hf 3
    have HL := hid (h.setEat false)
    clear h c0 c1 c2 c4 hf h10
    go_enter Tryz.func37, Tryz.ntmps37
    go_wp2
    go_end0
    exact ⟨rfl, HL.out.1, HL.out.2⟩
  · rw [if_neg hs]
    refine refUnit_full base b win mode scan eat held E P s w h hlen ?_
    by_cases h1 : s.data.toList = [10]
    · left
      cases eat with
      | false => rfl
      | true => exact absurd ⟨rfl, h1⟩ hs
    · exact .inr (ne_str h1)

set_option maxHeartbeats 4000000 in
set_option maxRecDepth 100000 in
theorem refEvent_any (base b : Nat) (win mode scan : Int) (eat : Bool) (held : ByteArray) (E : List Ev) (P : List UInt8) (k n a t : Value) (e0 : Ev) (w : World) (h : Lxg w base b win mode scan eat held E P) (hlen : E.length ≤ 8000000) (h1 : EvsAt w base [k, n, a, t] [e0])
    (hone : ∀ u ∈ [k, n, a, t], u.oneCell' = true) :
    Calls Tryz.prog 57 #[.pointer (some ⟨b, 0, none⟩), .agg #[k, n, a, t]] w fun e w' => e = .returned (.tuple #[]) ∧ Lxg w' base b win mode scan eat held (flushE (E, P) ++ [e0]) [] ∧ Below base w w' := by
  obtain ⟨i0, hi, hz0, hz1, hz2⟩ := info_parts info_event
  have hg := fun W hW => gathered_any base b win mode scan eat held E P W hW (by omega)
  obtain ⟨ev0, wd0, xs0, hat0, hrow0, _, _⟩ := h.it
  have hbs := block_lt hat0
  have hlo := h.lo
  have hevlt : ev0.ownBlock ≠ some w.heap.size := fun hh => by have := (hrow0.lt _ hh).2; omega
  have ha1 : (w.alloc (.cells #[k, n, a, t] 52)).heap[b]? = some (.cells (lxC win mode scan eat held ev0 wd0) 46 (0, 0)) := (alloc_old w _ b hbs).trans hat0
  have hc5 : (w.alloc (.cells #[k, n, a, t] 52)).cell? ⟨b, 5, none⟩ = some ev0 := cell_at ha1 rfl
  have hLa : Lxg (w.alloc (.cells #[k, n, a, t] 52)) base b win mode scan eat held E P := h.below ((Below.refl w.heap.size w).alloc (Nat.le_refl _) _)
  have hfl : (flushE (E, P)).length ≤ 9000000 := by
    unfold flushE
    split
    · simp only; omega
    · simp only [List.length_append, List.length_singleton]; omega
  have HG := hid hg
  have HLA := hid hLa
  have HC5 := hid hc5
  have H1 := hid h1
  have HSZ := hid h.size
  clear hg hrow0 hat0 ha1 hLa hc5 h1 h
  go_enter Tryz.func57, Tryz.ntmps57
  go_wp2_with fail
  refine (HG.out _ HLA.out).mono ?_
  rintro e w1 ⟨rfl, hL1, hbel, hK⟩
  have hpb : w1.heap[w.heap.size]? = some (.cells #[k, n, a, t] 52 (0, 0)) := (hK.1 ev0 HC5.out w.heap.size (by simp) (by omega) hevlt).trans (heap_alloc_new w _)
  have p0 : w1.cell? ⟨w.heap.size, 0, none⟩ = some k := cell_at hpb rfl
  have p1 : w1.cell? ⟨w.heap.size, 1, none⟩ = some n := cell_at hpb rfl
  have p2 : w1.cell? ⟨w.heap.size, 2, none⟩ = some a := cell_at hpb rfl
  have p3 : w1.cell? ⟨w.heap.size, 3, none⟩ = some t := cell_at hpb rfl
  have h11 : EvsAt w1 base [k, n, a, t] [e0] := evs_mono (fun a n ys hr => hK.2 a n ys (hr.alloc _)) _ _ H1.out
  obtain ⟨ev, wd, xs, hat, hrow, hevs, hwd⟩ := hL1.it
  have c5 : w1.cell? ⟨b, 5, none⟩ = some ev := cell_at hat rfl
  have f5 := free_at hat 5
  have hbb := block_lt hat
  have hbl : base ≤ w1.heap.size := hL1.size
  have hneb : ev.ownBlock ≠ some b := row_ne hrow hat (by decide)
  have HV := hid (And.intro hevs (And.intro h11 (And.intro hwd hbel)))
  have HAT := hid hat
  clear hevs h11 hwd hL1 HG hK hpb HLA HC5 H1 hat
  go_wp2_with fail
  go_region_law (refine step_append_lies _ rfl (.tmp 10) (.tmp 12) 25 rfl base 52 i0 (.agg #[.int .i64 0, .string ⟨#[]⟩, .slice none 0 0, .string ⟨#[]⟩]) 4 64 Tryz.underlying25 hi hz0 hz1 hz2 rfl (by decide) ev (flushE (E, P)).length xs (by simp [Act.eval]) (by exact hrow.alloc _) ⟨_, 0, none⟩ 1 1 [k, n, a, t] (by simp [Act.eval]) rfl (cells_newV _ _ _) hone (by omega) (by unfold maxLen; omega) (by omega) (by simp; omega) _ rfl ?_; rintro g cap w10 hrow10 hgrow10 - -; have hb10 : w10.heap[b]? = some (.cells (lxC win mode scan eat held ev wd) 46 (0, 0)) := ((hgrow10.block b (by simp; omega) (fun e => hneb e.symm)).trans (alloc_old _ _ b (by exact hbb))).trans (by exact HAT.out); have ce10 : w10.cell? ⟨b, 5, none⟩ = some ev := cell_at hb10 rfl; have fe10 := free_at hb10 5)
  all_goals
    obtain ⟨hevs, h11, hwd, hbel⟩ := HV.out
    have j1 := just_set (j := 5) hb10 (.slice (some ⟨g, 0, none⟩) ((flushE (E, P)).length + 1) cap)
    have hg10 : (w1.alloc (.cells #[k, n, a, t] 52)).grownBy w10 ev.ownBlock := ⟨hgrow10.os, hgrow10.tape, hgrow10.output, hgrow10.size, hgrow10.block⟩
    have e10 : EvsAt w10 base (xs ++ [k, n, a, t]) (flushE (E, P) ++ [e0]) := evs_mono (fun a' n' ys hr => (hr.alloc _).kept hg10 (rows_ne hr hrow (by decide))) _ _ (evs_snoc2 xs _ hevs h11)
    have o10 := (hwd.alloc (.cells #[k, n, a, t] 52)).kept hg10 (rows_ne hwd hrow (by decide))
    have b10 : Below base w1 w10 := ((Below.refl base w1).alloc (by omega) _).grown hg10 (by simp; omega) (fun k hk => (hrow.lt k hk).1)
    have bw : Below base w (w.alloc (.cells #[k, n, a, t] 52)) := (Below.refl base w).alloc HSZ.out _
    have hL : Lxg (w10.setCell ⟨b, 5, none⟩ (.slice (some ⟨g, 0, none⟩) ((flushE (E, P)).length + 1) cap)) base b win mode scan eat held (flushE (E, P) ++ [e0]) [] :=
      ⟨hlo, .slice (some ⟨g, 0, none⟩) ((flushE (E, P)).length + 1) cap, wd, _, j1.at_, by rw [List.length_append]; exact row_just hrow10 hb10 (by decide) j1.other, evs_mono (fun a n ys hr => row_just hr hb10 (by decide) j1.other) _ _ e10, row_just o10 hb10 (by decide) j1.other⟩
    have HL := hid (And.intro hL ((bw.trans hbel).trans (b10.trans (j1.below hlo))))
    clear hL e10 o10 b10 bw hg10 j1 hevs h11 hwd hbel hb10 hrow10 hgrow10
    go_wp2
    go_end0
    exact ⟨rfl, HL.out.1, HL.out.2⟩
end Go.Proofs.YtndglhflbenloaaGreatDoor

/-
  The reference's skip: what it comes to, and its walk.
-/
namespace Go.Proofs.YtndglhflbenloaaGreatDoor
open Go.RowKit Go.Lib Own

def skipL (sc : Nat) (L : List UInt8) : Nat × Nat :=
  if sc = 1 then (match (comL 0 L).1 with
    | some n => (n, 0)
    | none => (L.length - (comL 0 L).2, 1))
  else if sc = 2 then (match byteIdx 62 L with
    | some i => (i + 1, 0)
    | none => (L.length, 2))
  else passL sc L
theorem skip_run {W : Nat} (hW : 32 ≤ W) (st : LS) (h0 : st.scan ≠ 0) (h10 : st.scan ≤ 10) (L : List UInt8) (hL : L ≠ []) :
    (skipL st.scan L).1 ≤ L.length ∧ (skipL st.scan L).2 ≤ 10 ∧ ((skipL st.scan L).2 = 0 → 0 < (skipL st.scan L).1 ∧ runL W st L = runL W { st with scan := 0 } (L.drop (skipL st.scan L).1)) ∧
      ((skipL st.scan L).2 ≠ 0 → runL W st L = ({ st with scan := (skipL st.scan L).2 }, L.drop (skipL st.scan L).1, [])) := by
  have hle : ∀ {n st' it}, stepL W st L = .done n st' it → 0 < n ∧ n ≤ L.length := fun h => by
    obtain ⟨a, b, _⟩ := step_pos hW h10 hL h
    exact ⟨a, b⟩
  have hrun : ∀ {n st'}, stepL W st L = .done n st' [] → runL W st L = runL W st' (L.drop n) := fun h => by
    rw [run_done hW h10 hL h]; rfl
  unfold skipL
  by_cases h1 : st.scan = 1
  · have hs : stepL W st L = commentRes st L := by unfold stepL; rw [if_pos h1]
    rw [if_pos h1]
    cases hc : (comL 0 L).1 with
    | some n =>
      have hs2 : stepL W st L = .done n { st with scan := 0 } [] := by rw [hs]; unfold commentRes; rw [hc]
      exact ⟨(hle hs2).2, by simp, fun _ => ⟨(hle hs2).1, hrun hs2⟩, fun h => absurd rfl h⟩
    | none =>
      have hs2 : stepL W st L = .more (L.length - (comL 0 L).2) st := by rw [hs]; unfold commentRes; rw [hc]
      refine ⟨by simp, by simp, fun h => by simp at h, fun _ => ?_⟩
      rw [run_more hL hs2]
      simp only
      rw [← h1]
  · rw [if_neg h1]
    by_cases h2 : st.scan = 2
    · have hs : stepL W st L = bogusRes st L := by unfold stepL; rw [if_neg h1, if_pos h2]
      rw [if_pos h2]
      cases hc : byteIdx 62 L with
      | some n =>
        have hs2 : stepL W st L = .done (n + 1) { st with scan := 0 } [] := by rw [hs]; unfold bogusRes; rw [hc]
        exact ⟨(hle hs2).2, by simp, fun _ => ⟨(hle hs2).1, hrun hs2⟩, fun h => absurd rfl h⟩
      | none =>
        have hs2 : stepL W st L = .more L.length st := by rw [hs]; unfold bogusRes; rw [hc]
        refine ⟨by simp, by simp, fun h => by simp at h, fun _ => ?_⟩
        rw [run_more hL hs2]
        simp only
        rw [← h2]
    · rw [if_neg h2]
      have hs2 : stepL W st L = .done (passL st.scan L).1 { st with scan := (passL st.scan L).2 } [] := skip_step (by omega) L
      have hr := pass_range L st.scan (.inr ⟨by omega, h10⟩)
      refine ⟨(hle hs2).2, by omega, fun h => ⟨(hle hs2).1, ?_⟩, fun h => ?_⟩
      · rw [hrun hs2, h]
      · rw [hrun hs2, pass_all L st.scan h0 h, List.drop_length, run_nil]
theorem index_short : ∀ L : List UInt8, L.length < 3 → Go.Lib.index L [45, 45, 62] = -1
  | [], _ => rfl
  | [a], _ => by simp [Go.Lib.index, List.isPrefixOf]
  | [a, b], _ => by simp [Go.Lib.index, List.isPrefixOf]
  | a :: b :: c :: r, h => by simp only [List.length_cons] at h; omega
theorem tail_two (L : List UInt8) : L = [] ∨ (∃ x, L = [x]) ∨ ∃ i x y, L = i ++ [x, y] := by
  rcases List.eq_nil_or_concat L with rfl | ⟨i, y, rfl⟩
  · exact .inl rfl
  · rcases List.eq_nil_or_concat i with rfl | ⟨j, x, rfl⟩
    · exact .inr (.inl ⟨y, rfl⟩)
    · exact .inr (.inr ⟨j, x, y, by simp⟩)
theorem dash_facts (L : List UInt8) : dashes L ≤ 2 ∧ dashes L ≤ L.length ∧ (∀ j, j < dashes L → L[L.length - 1 - j]? = some 45) ∧ (dashes L < 2 → dashes L < L.length → L[L.length - 1 - dashes L]? ≠ some 45) := by
  rcases tail_two L with rfl | ⟨x, rfl⟩ | ⟨i, x, y, rfl⟩
  · have : dashes [] = 0 := by decide
    rw [this]; simp
  · have hd : dashes [x] = if x = 45 then 1 else 0 := by
      unfold dashes
      rw [if_neg (fun h => by have := h.length_le; simp at this)]
      by_cases hx : x = 45
      · subst hx; rw [if_pos rfl, if_pos (List.suffix_refl _)]
      · rw [if_neg hx, if_neg]
        rintro ⟨t, ht⟩
        have := congrArg List.getLast? ht
        simp at this
        exact hx this.symm
    rw [hd]
    by_cases hx : x = 45
    · subst hx
      rw [if_pos rfl]
      exact ⟨by simp, by simp, fun j hj => by obtain rfl : j = 0 := by omega
                                              rfl, fun _ h => by simp at h⟩
    · rw [if_neg hx]
      exact ⟨by simp, by simp, fun j hj => by omega, fun _ _ => by simpa using hx⟩
  · have hsuf1 : ([45] <:+ i ++ [x, y]) ↔ y = 45 := by
      constructor
      · rintro ⟨t, ht⟩
        have := congrArg List.getLast? ht
        simp at this
        exact this.symm
      · rintro rfl; exact ⟨i ++ [x], by simp⟩
    have hsuf2 : ([45, 45] <:+ i ++ [x, y]) ↔ x = 45 ∧ y = 45 := by
      constructor
      · rintro ⟨t, ht⟩
        have := List.append_inj_right' ht rfl
        simp at this
        exact ⟨this.1.symm, this.2.symm⟩
      · rintro ⟨rfl, rfl⟩; exact ⟨i, rfl⟩
    have hl : (i ++ [x, y]).length = i.length + 2 := by simp
    have g0 : (i ++ [x, y])[(i ++ [x, y]).length - 1 - 0]? = some y := by rw [hl, show i.length + 2 - 1 - 0 = i.length + 1 by omega, List.getElem?_append_right (by omega)]; simp
    have g1 : (i ++ [x, y])[(i ++ [x, y]).length - 1 - 1]? = some x := by rw [hl, show i.length + 2 - 1 - 1 = i.length by omega, List.getElem?_append_right (by omega)]; simp
    unfold dashes
    by_cases hy : y = 45
    · by_cases hx : x = 45
      · rw [if_pos (hsuf2.2 ⟨hx, hy⟩)]
        refine ⟨Nat.le_refl _, by rw [hl]; omega, fun j hj => ?_, fun h => absurd h (by decide)⟩
        rcases (show j = 0 ∨ j = 1 by omega) with rfl | rfl
        · rw [g0, hy]
        · rw [g1, hx]
      · rw [if_neg (fun h => hx (hsuf2.1 h).1), if_pos (hsuf1.2 hy)]
        refine ⟨by omega, by rw [hl]; omega, fun j hj => ?_, fun _ _ => ?_⟩
        · obtain rfl : j = 0 := by omega
          rw [g0, hy]
        · rw [g1]; exact fun h => hx (Option.some.inj h)
    · rw [if_neg (fun h => hy (hsuf2.1 h).2), if_neg (fun h => hy (hsuf1.1 h))]
      refine ⟨by omega, by omega, fun j hj => by omega, fun _ _ => ?_⟩
      rw [g0]; exact fun h => hy (Option.some.inj h)
/-- what skip answers -/
def SkipSaid (base b : Nat) (win mode : Int) (eat : Bool) (held : ByteArray) (E : List Ev) (P : List UInt8) (x : Nat × Nat) (w : World) (e : Ending) (w' : World) : Prop :=
  e = .returned (.int .i64 (x.1 : Int)) ∧ Lxg w' base b win mode (x.2 : Int) eat held E P ∧ Below base w w'
theorem com_found {L : List UInt8} {k : Nat} (h : Go.Lib.index L [45, 45, 62] = (k : Int)) : skipL 1 L = (k + 3, 0) := by
  have hi := index_com L 0 (by decide)
  rw [List.replicate_zero, List.nil_append, h] at hi
  unfold skipL
  rw [if_pos rfl]
  cases ho : (comL 0 L).1 with
  | none => rw [ho] at hi; unfold comI at hi; simp only at hi; omega
  | some n =>
    rw [ho] at hi
    unfold comI at hi
    simp only at hi
    rw [show n = k + 3 by omega]
theorem com_none {L : List UInt8} (h : Go.Lib.index L [45, 45, 62] = -1) : skipL 1 L = (L.length - dashes L, 1) := by
  have hi := index_com L 0 (by decide)
  rw [List.replicate_zero, List.nil_append, h] at hi
  unfold skipL
  rw [if_pos rfl]
  cases ho : (comL 0 L).1 with
  | none =>
    have := com_dash L 0 (by decide) ho
    rw [List.replicate_zero, List.nil_append] at this
    rw [this]
  | some n =>
    have h3 := com_ge L 0 n (by decide) ho
    rw [ho] at hi
    unfold comI at hi
    simp only at hi
    omega
theorem idx_next {c : UInt8} {r sub : List UInt8} {k : Nat} {X : Int} (h : sub.isPrefixOf (c :: r) = false) (hi : X = if Go.Lib.index (c :: r) sub = -1 then -1 else Go.Lib.index (c :: r) sub + (k : Int)) : X = if Go.Lib.index r sub = -1 then -1 else Go.Lib.index r sub + ((k + 1 : Nat) : Int) := by
  rw [index_cons c r sub h] at hi
  rw [hi]
  by_cases h1 : Go.Lib.index r sub = -1
  · rw [if_pos h1, if_pos rfl, if_pos h1]
  · have h0 : 0 ≤ Go.Lib.index r sub := by
      have := Go.Lib.index_ge r sub
      omega
    rw [if_neg h1, if_neg h1, if_neg (by omega)]
    omega

set_option maxHeartbeats 4000000 in
set_option maxRecDepth 100000 in
theorem skipCom_any (base b : Nat) (win mode : Int) (eat : Bool) (held : ByteArray) (E : List Ev) (P : List UInt8) (s : ByteArray) (w : World) (h : Lxg w base b win mode 1 eat held E P) (hs : s.size ≤ 4000000) :
    Calls Tryz.prog 26 #[.pointer (some ⟨b, 0, none⟩), .string s] w (SkipSaid base b win mode eat held E P (skipL 1 s.data.toList) w) := by
  obtain ⟨⟨c0, c1, c2, c3, c4⟩, hf⟩ := h.cells
  have f2 := hf 2
  obtain ⟨X, hX⟩ : ∃ X, Go.Lib.index s.data.toList [45, 45, 62] = X := ⟨_, rfl⟩
  obtain ⟨Y, hY⟩ : ∃ Y, skipL 1 s.data.toList = Y := ⟨_, rfl⟩
  have h1 : ∀ k : Nat, X = (k : Int) → SkipSaid base b win mode eat held E P Y w (.returned (.int .i64 ((k : Int) + 3))) (w.setCell ⟨b, 2, none⟩ (.int .i64 0)) := fun k hk => by
    rw [← hY, com_found (hX.trans hk)]
    exact ⟨by simp, (h.setScan 0).1, (h.setScan 0).2⟩
  have h2 : X = -1 → ∀ n : Nat, n = s.size - dashes s.data.toList → SkipSaid base b win mode eat held E P Y w (.returned (.int .i64 (n : Int))) w := fun hk n hn => by
    rw [← hY, com_none (hX.trans hk), hn, size_eq]
    exact ⟨rfl, h, Below.refl _ _⟩
  obtain ⟨d1, d2, d3, d4⟩ := dash_facts s.data.toList
  rw [hY]
  have H1 := hid h1
  have H2 := hid h2
  have H0 := hid (fun (_ : True) => hX)
  clear h1 h2 hX hY h hf c0 c1 c3 c4
  obtain ⟨D, hD⟩ : ∃ D, dashes s.data.toList = D := ⟨_, rfl⟩
  rw [hD] at d1 d2 d3 d4 H2
  clear hD
  rw [← size_eq] at d2 d3 d4
  have HD := hid (And.intro d3 d4)
  clear d3 d4
  go_enter Tryz.func26, Tryz.ntmps26
  go_wp2
  go_loopw [5] (fun iv wr => ∃ k : Nat, iv = .int .i64 k ∧ k ≤ s.size ∧ wr = w ∧ Hid (True → X = if Go.Lib.index (s.data.toList.drop k) [45, 45, 62] = -1 then -1 else Go.Lib.index (s.data.toList.drop k) [45, 45, 62] + (k : Int))) (fun iv _ => s.size - (RowKit.intOf iv).toNat)
  case atStart =>
    refine ⟨0, rfl, Nat.zero_le _, rfl, fun _ => ?_⟩
    rw [List.drop_zero, H0.out trivial]
    split <;> simp_all
  case round =>
    obtain ⟨k, rfl, hk, rfl, HA⟩ := hrel
    by_cases h3 : k + 3 ≤ s.size
    · have hp : k < s.size := by omega
      obtain ⟨x, hx⟩ : ∃ x, s[k]'hp = x := ⟨_, rfl⟩
      have hl := getElem_list hp hx
      obtain ⟨g1, g2⟩ := List.getElem?_eq_some_iff.1 hl
      have hd := List.drop_eq_getElem_cons g1
      rw [g2] at hd
      have hex : (s.extract k (k + 3)).toList = (s.data.toList.drop k).take 3 := by rw [Lib.extract_toList]; congr 1; omega
      have hlen3 : 3 ≤ (s.data.toList.drop k).length := by rw [List.length_drop, ← size_eq]; omega
      have hq : ((s.extract k (k + 3)).toList == [45, 45, 62]) = [45, 45, 62].isPrefixOf (s.data.toList.drop k) := by
        rw [hex, Bool.eq_iff_iff, beq_iff_eq, List.isPrefixOf_iff_prefix]
        constructor
        · intro e
          rw [← e]
          exact List.take_prefix _ _
        · rintro ⟨t, ht⟩
          rw [← ht]
          rfl
      have hst := HA.out trivial
      clear HA hex hlen3 hl g1 g2
      by_cases hm : [45, 45, 62].isPrefixOf (s.data.toList.drop k) = true
      · have hx45 : x = 45 := by
          rw [hd] at hm
          simp only [List.isPrefixOf, Bool.and_eq_true, beq_iff_eq] at hm
          exact hm.1.symm
        have hXk : X = (k : Int) := by
          have h0 : Go.Lib.index (s.data.toList.drop k) [45, 45, 62] = 0 := by
            rw [hd] at hm ⊢
            unfold Go.Lib.index
            rw [hm]
            rfl
          rw [hst, h0]
          simp
        rw [hm] at hq
        have q45 : ((x.toNat : Int) == 45) = true := by rw [hx45]; rfl
        have HF := hid (H1.out k hXk)
        clear hst hd hm hx45 hXk H0 H1 H2 HD
        go_wp2
        go_ret
        exact HF.out
      · rw [Bool.not_eq_true] at hm
        rw [hm] at hq
        rw [hd] at hm hst
        have HN := hid (fun (_ : True) => idx_next hm hst)
        clear hm hst hd
        by_cases hx45 : x = 45
        · have q45 : ((x.toNat : Int) == 45) = true := by rw [hx45]; rfl
          clear hx45
          go_wp2
          go_roundw
          case rel => exact ⟨k + 1, rfl, by omega, by first | rfl | trivial, HN.out⟩
          case measure => simp [RowKit.intOf]; omega
        · have q45 : ((x.toNat : Int) == 45) = false := beq_ff hx45 45 rfl
          clear hx45 hq
          go_wp2
          go_roundw
          case rel => exact ⟨k + 1, rfl, by omega, by first | rfl | trivial, HN.out⟩
          case measure => simp [RowKit.intOf]; omega
    · have hst := HA.out trivial
      rw [index_short _ (by rw [List.length_drop, ← size_eq]; omega), if_pos rfl] at hst
      have HF := hid (H2.out hst)
      have n3 : ¬ (k : Int) + 3 ≤ (s.size : Int) := by omega
      clear hst HA H0 H1 H2 h3
      go_wp2_with fail
      go_loopw [6] (fun nv wr2 => ∃ n j : Nat, nv = .int .i64 n ∧ n + j = s.size ∧ j ≤ D ∧ wr2 = wr) (fun nv _ => (RowKit.intOf nv).toNat)
      case atStart => exact ⟨s.size, 0, rfl, by omega, Nat.zero_le _, rfl⟩
      case round =>
        obtain ⟨n, j, rfl, hnj, hjD, rfl⟩ := hrel
        cases n with
        | zero =>
          have hjs : j = D := by omega
          have HG := hid (HF.out 0 (by omega))
          clear HF HD
          go_wp2
          go_ret
          exact HG.out
        | succ p =>
          have hps : p < s.size := by omega
          obtain ⟨x, hx⟩ : ∃ x, s[p]'hps = x := ⟨_, rfl⟩
          have hl := getElem_list hps hx
          have hpj : s.size - 1 - j = p := by omega
          by_cases hjD2 : j < D
          · have h45 := HD.out.1 j hjD2
            rw [hpj, hl] at h45
            have q45 : ((x.toNat : Int) == 45) = true := by rw [Option.some.inj h45]; rfl
            clear h45 hl HD HF hpj
            go_wp2
            go_roundw
            case rel => exact ⟨p, j + 1, by first | rfl | (go_num), by omega, by omega, by first | rfl | trivial⟩
            case measure => simp [RowKit.intOf]
          · obtain rfl : j = D := by omega
            have HG := hid (HF.out (p + 1) (by omega))
            by_cases hD2 : j < 2
            · have h45 := HD.out.2 hD2 (by omega)
              rw [hpj, hl] at h45
              have q45 : ((x.toNat : Int) == 45) = false := beq_ff (fun e => h45 (by rw [e])) 45 rfl
              clear h45 hl HD HF hpj
              go_wp2
              go_ret
              exact HG.out
            · have n2 : ¬ (s.size : Int) < (p : Int) + 1 + 2 := by omega
              clear hl HD HF hpj
              go_wp2
              go_ret
              exact HG.out

set_option maxHeartbeats 4000000 in
set_option maxRecDepth 100000 in
theorem skipBogus_ref (base b : Nat) (win mode : Int) (eat : Bool) (held : ByteArray) (E : List Ev) (P : List UInt8) (s : ByteArray) (w : World) (h : Lxg w base b win mode 2 eat held E P) (hs : s.size ≤ 4000000) :
    Calls Tryz.prog 26 #[.pointer (some ⟨b, 0, none⟩), .string s] w (SkipSaid base b win mode eat held E P (skipL 2 s.data.toList) w) := by
  obtain ⟨⟨c0, c1, c2, c3, c4⟩, hf⟩ := h.cells
  have f2 := hf 2
  obtain ⟨j, hj⟩ : ∃ j, 0 + (s.data.toList.takeWhile fun c => ![62].contains c).length = j := ⟨_, rfl⟩
  have hu : ∀ W, Calls Tryz.prog 50 #[.string s, .int .i64 0, .string ⟨#[62]⟩] W fun e w' => e = .returned (.int .i64 (j : Int)) ∧ W = w' := fun W => (until_at s 0 [62] (Nat.zero_le _) hs (by decide) 0 rfl _ rfl j (by rw [List.drop_zero]; exact hj) W).mono fun _ _ h => ⟨h.1, h.2.symm⟩
  have hlem : ∀ L : List UInt8, (byteIdx 62 L = none ∧ (L.takeWhile fun c => ![62].contains c).length = L.length) ∨ (byteIdx 62 L = some (L.takeWhile fun c => ![62].contains c).length ∧ (L.takeWhile fun c => ![62].contains c).length < L.length) := by
    intro L
    induction L with
    | nil => exact .inl ⟨rfl, rfl⟩
    | cons c r ih =>
      by_cases hc : c = 62
      · subst hc; exact .inr ⟨rfl, by simp⟩
      · rw [List.takeWhile_cons_of_pos (by simp [hc])]
        unfold byteIdx
        rw [if_neg hc]
        simp only [List.length_cons]
        rcases ih with ⟨i1, i2⟩ | ⟨i1, i2⟩
        · exact .inl ⟨by rw [i1]; rfl, by omega⟩
        · exact .inr ⟨by rw [i1]; rfl, by omega⟩
  have HU := hid hu
  clear hu
  rw [Nat.zero_add] at hj
  unfold skipL
  rw [if_neg (by decide), if_pos rfl]
  rcases hlem s.data.toList with ⟨l1, l2⟩ | ⟨l1, l2⟩
  · rw [l1]
    rw [hj, ← size_eq] at l2
    subst l2
    have HF : Hid (SkipSaid base b win mode eat held E P (s.data.toList.length, 2) w (.returned (.int .i64 (s.size : Int))) w) := ⟨by rw [← size_eq], h, Below.refl _ _⟩
    simp only
    clear l1 hj h hlem c0 c1 c3 c4 hf
    generalize (s.data.toList.length, 2) = YY at HF ⊢
    go_enter Tryz.func26, Tryz.ntmps26
    go_wp2_with (go_at_call 50; with_reducible refine (HU.out _).mono ?_; rintro e w' ⟨rfl, rfl⟩)
    go_ret
    exact HF.out
  · rw [l1, hj]
    rw [hj, ← size_eq] at l2
    have HF : Hid (SkipSaid base b win mode eat held E P (j + 1, 0) w (.returned (.int .i64 ((j : Int) + 1))) (w.setCell ⟨b, 2, none⟩ (.int .i64 0))) := ⟨rfl, (h.setScan 0).1, (h.setScan 0).2⟩
    simp only
    clear l1 hj h hlem c0 c1 c3 c4 hf
    generalize (j + 1, 0) = YY at HF ⊢
    go_enter Tryz.func26, Tryz.ntmps26
    go_wp2_with (go_at_call 50; with_reducible refine (HU.out _).mono ?_; rintro e w' ⟨rfl, rfl⟩)
    go_ret
    exact HF.out

set_option maxHeartbeats 4000000 in
set_option maxRecDepth 100000 in
theorem skipTag_ref (base b : Nat) (win mode : Int) (sc : Nat) (h3 : 3 ≤ sc) (h10 : sc ≤ 10) (eat : Bool) (held : ByteArray) (E : List Ev) (P : List UInt8) (s : ByteArray) (w : World) (h : Lxg w base b win mode (sc : Int) eat held E P) (hs : s.size ≤ 3000000) (hT : RefTabs w) :
    Calls Tryz.prog 26 #[.pointer (some ⟨b, 0, none⟩), .string s] w (SkipSaid base b win mode eat held E P (skipL sc s.data.toList) w) := by
  obtain ⟨⟨c0, c1, c2, c3, c4⟩, hf⟩ := h.cells
  have f2 := hf 2
  have hY : skipL sc s.data.toList = passL sc s.data.toList := by
    unfold skipL
    rw [if_neg (by omega), if_neg (by omega)]
  rw [hY]
  clear hY
  obtain ⟨l6, l1, hpa⟩ := pass_ahead sc h3 h10 s.data.toList
  have hah : ∀ W, Calls Tryz.prog 51 #[.int .i64 sc] W fun e w' => e = .returned (.string ⟨(aheadL sc).toArray⟩) ∧ W = w' := fun W => (ahead_any sc h3 h10 W).mono fun _ _ h => ⟨h.1, h.2.symm⟩
  obtain ⟨fb, hfb⟩ : ∃ fb : ByteArray, (⟨(aheadL sc).toArray⟩ : ByteArray) = fb := ⟨_, rfl⟩
  have hfl : fb.data.toList = aheadL sc := by rw [← hfb]
  have hfz : fb.size = (aheadL sc).length := by rw [size_eq, hfl]
  rw [hfb] at hah
  obtain ⟨fs, hfs⟩ : ∃ fs : ByteArray, fb ++ s = fs := ⟨_, rfl⟩
  have hfsl : fs.data.toList = aheadL sc ++ s.data.toList := by rw [← hfs, ← hfl]; simp
  have hfsz : fs.size = fb.size + s.size := by rw [size_eq, hfsl, List.length_append, ← hfz, ← size_eq]
  have hta := fun W hTW => refTag_any fs 1 W (by omega) (by omega) hTW
  obtain ⟨_, t2, _, t4, _⟩ := tagAt_ok (fs.data.toList.drop 1)
  unfold TagSaid at hta
  obtain ⟨x, hx⟩ : ∃ x, tagAtL (fs.data.toList.drop 1) = x := ⟨_, rfl⟩
  rw [hx] at hta t2 t4
  rw [hfsl] at t2 t4
  rw [hpa] at t2 t4
  rw [List.length_drop, List.length_append, ← hfz, ← size_eq] at t2
  obtain ⟨p, hp⟩ : ∃ p, passL sc s.data.toList = p := ⟨_, rfl⟩
  rw [hp] at t2 t4 ⊢
  simp only at t2 t4
  rw [t4, show fs.size - x.2.2.1.length = fb.size + p.1 by omega] at hta
  unfold strV at hta
  obtain ⟨nb, hnb⟩ : ∃ nb : ByteArray, (⟨x.1.toArray⟩ : ByteArray) = nb := ⟨_, rfl⟩
  rw [hnb] at hta
  have n1 : ((sc : Int) == 1) = false := beq_eq_false_iff_ne.2 (by omega)
  have n2 : ((sc : Int) == 2) = false := beq_eq_false_iff_ne.2 (by omega)
  have HAH := hid hah
  have HTA := hid hta
  have HT := hid hT
  have HL := hid h
  have hpz : p.1 ≤ 3000000 := by omega
  have hfz2 : fb.size ≤ 10 := by omega
  clear hah hta hT h hf hpa hfl hfz hfsl t2 t4 hx hnb hfb hp c0 c1 c3 c4 l6 l1 hfsz
  go_enter Tryz.func26, Tryz.ntmps26
  go_wp2_with (first
    | (go_at_call 51; refine (HAH.out _).mono ?_; rintro e w' ⟨rfl, rfl⟩)
    | (go_at_call 52; refine (HTA.out _ HT.out).mono ?_; rintro e w2 ⟨av, rfl, hrow, b2⟩; have hL2 := HL.out.below b2; have k2 := hL2.cells; obtain ⟨⟨d0, d1, d2, d3, d4⟩, df⟩ := k2; have e2 := df 2; clear d0 d1 d3 d4 df hrow))
  have HS := hid (And.intro (hL2.setScan p.2).1 ((b2.mono HL.out.size).trans (hL2.setScan p.2).2))
  clear hL2
  go_wp2
  go_ret
  refine ⟨?_, HS.out.1, HS.out.2⟩
  first | rfl | exact ret_i64 (by omega)
theorem skip_any (base b : Nat) (win mode : Int) (sc : Nat) (h0 : sc ≠ 0) (h10 : sc ≤ 10) (eat : Bool) (held : ByteArray) (E : List Ev) (P : List UInt8) (s : ByteArray) (w : World) (h : Lxg w base b win mode (sc : Int) eat held E P) (hs : s.size ≤ 3000000) (hT : RefTabs w) :
    Calls Tryz.prog 26 #[.pointer (some ⟨b, 0, none⟩), .string s] w (SkipSaid base b win mode eat held E P (skipL sc s.data.toList) w) := by
  rcases (show sc = 1 ∨ sc = 2 ∨ 3 ≤ sc by omega) with rfl | rfl | h3
  · exact skipCom_any base b win mode eat held E P s w h (by omega)
  · exact skipBogus_ref base b win mode eat held E P s w h (by omega)
  · exact skipTag_ref base b win mode sc h3 h10 eat held E P s w h hs hT
end Go.Proofs.YtndglhflbenloaaGreatDoor
