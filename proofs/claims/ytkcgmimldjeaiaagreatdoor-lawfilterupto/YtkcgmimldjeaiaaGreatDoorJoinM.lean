/-
  Parts of the walk, joined: RefWrB, RefWrC, LendEv.
-/
import Derived.Test.YtkcgmimldjeaiaaGreatDoorJoinG
import Derived.Test.YtkcgmimldjeaiaaGreatDoorJoinJ
/-
  The reference's opener, eats, feedAhead, Write, tagFits: their walks.
-/
namespace Go.Proofs.YtkcgmimldjeaiaaGreatDoor
open Go.RowKit Go.Lib Own

theorem refEatsW_any (x : ByteArray) (w : World) : Calls Tryz.prog 55 #[.string x] w fun e w' => e = .returned (.bool (eatsL x.toList)) ∧ w' = w := by
  unfold eatsL
  by_cases h1 : (x.toList == [112, 114, 101]) = true
  · rw [h1, Bool.true_or]
    go_enter Tryz.func55, Tryz.ntmps55
    go_wp2
    go_ret
    exact ⟨rfl, rfl⟩
  · rw [Bool.not_eq_true] at h1
    rw [h1, Bool.false_or]
    obtain ⟨R, hR⟩ : ∃ R, (x.toList == [116, 101, 120, 116, 97, 114, 101, 97]) = R := ⟨_, rfl⟩
    rw [hR]
    go_enter Tryz.func55, Tryz.ntmps55
    go_wp2
    go_ret
    exact ⟨rfl, rfl⟩
theorem attr_eq (a : AttrP) : (⟨#[32]⟩ : ByteArray) ++ bs a.1 ++ ⟨#[61, 34]⟩ ++ bs (escL true a.2) ++ ⟨#[34]⟩ = bs (attrL a) := by
  rw [show (⟨#[32]⟩ : ByteArray) = bs [32] from rfl, show (⟨#[61, 34]⟩ : ByteArray) = bs [61, 34] from rfl, show (⟨#[34]⟩ : ByteArray) = bs [34] from rfl, bs_cat, bs_cat, bs_cat, bs_cat]
  rfl
/-- the text of bytes in a row that may be marked -/
theorem own_textN (W : World) (g cap : Nat) (l : List UInt8) (h : ownsN W 5 g l.length cap (byteCells l)) :
    (convert 85 9 (.slice (some ⟨g, 0, none⟩) l.length cap)).run Tryz.prog W = .ok (.string (bs l)) W := by
  refine run_convert_bytes_back W 85 9 5 ⟨g, 0, none⟩ cap l Tryz.underlying85 Tryz.underlying5 Tryz.underlying9 (fun j hj => ?_)
  have hadd : (⟨g, 0, none⟩ : Addr).add j = ⟨g, j, none⟩ := by unfold Addr.add; split <;> simp_all
  rw [hadd, h.cell j hj]
  simp [byteCells, hj]
theorem ownsN_cat {W : World} {g cap : Nat} {a L : List UInt8} {S : ByteArray} (hS : bs L = S) (h : ownsN W 5 g (a.length + S.size) cap (byteCells a ++ strCells S)) : ownsN W 5 g (a ++ L).length cap (byteCells (a ++ L)) := by
  subst hS
  rw [List.length_append, Lib.byteCells_append]
  rw [bs_size, show strCells (bs L) = byteCells L from strCells_byte _] at h
  exact h

set_option maxHeartbeats 4000000 in
set_option maxRecDepth 100000 in
theorem refOpener_any (e : EvP) (u : Value) (w : World) (hu : AttrsR w u e.a) (hs : e.n.length + bulkA e.a ≤ 3000000) :
    Calls Tryz.prog 54 #[.agg (evC e u)] w fun r w' => r = .returned (.string (bs (openL e.n e.a))) ∧ Below w.heap.size w w' := by
  obtain ⟨p, c, rfl, hl, hcm, hcell, _⟩ := hu
  have hlen := attrs_len e.a
  have hal := bulkA_len e.a
  obtain ⟨R, hR⟩ : ∃ R, [60] ++ e.n ++ e.a.flatMap attrL = R := ⟨_, rfl⟩
  have hRl : R.length ≤ 20000000 := by rw [← hR]; simp only [List.length_append, List.length_cons, List.length_nil]; omega
  have ho : openL e.n e.a = R ++ [62] := by unfold openL; rw [hR]
  rw [ho]
  have HR := hid (fun (_ : True) => hR)
  have HC := hid hcell
  have HB := hid hs
  have HRL := hid hRl
  have hb1 := (Below.refl w.heap.size w).alloc (Nat.le_refl _) (.cells (evC e (.slice p e.a.length c)) 44)
  have hn1 := heap_alloc_new w (.cells (evC e (.slice p e.a.length c)) 44)
  obtain ⟨W1, hW1⟩ : ∃ W1, w.alloc (.cells (evC e (.slice p e.a.length c)) 44) = W1 := ⟨_, rfl⟩
  have hsz1 : W1.heap.size = w.heap.size + 1 := by rw [← hW1]; simp
  rw [hW1] at hb1 hn1
  obtain ⟨c0, c1, c2, c3⟩ := evC_at hn1
  have hbc : ∀ S, Below w.heap.size W1 (bytesWorld W1 5 S) := fun S => ⟨rfl, rfl, rfl, by rw [bytesWorld_size]; omega, fun k hk => bytesWorld_at_old W1 5 S k (by omega)⟩
  have hold := fun S => bytesWorld_at_old W1 5 S w.heap.size (by omega)
  have hN := fun S hS => ownsN_bytes W1 5 S hS
  have hst : (⟨#[60]⟩ : ByteArray) ++ bs e.n = bs ([60] ++ e.n) := by rw [show (⟨#[60]⟩ : ByteArray) = bs [60] from rfl, bs_cat]
  obtain ⟨S0, hS0⟩ : ∃ S0, bs ([60] ++ e.n) = S0 := ⟨_, rfl⟩
  have hS0l : S0.size = ([60] ++ e.n).length := by rw [← hS0, bs_size]
  rw [hS0] at hst
  have hS0m : S0.size ≤ maxLen := by rw [hS0l]; simp only [List.length_append, List.length_cons, List.length_nil]; unfold maxLen; omega
  have hconv := Go.Lib.run_convert_string_bytes (P := Tryz.prog) W1 9 85 5 S0 Tryz.underlying9 Tryz.underlying85 Tryz.underlying5
  have hN0 := hN S0 hS0m
  have hbw0 := hb1.trans (hbc S0)
  have hev0 := (hold S0).trans hn1
  have hzz := bytesWorld_size W1 5 S0
  generalize bytesWorld W1 5 S0 = W2 at hconv hN0 hbw0 hev0 hzz
  generalize grownCap W1 S0.size 0 5 = cap at hconv hN0
  have hN1 : ownsN W2 5 W1.heap.size ([60] ++ e.n).length cap (byteCells ([60] ++ e.n)) := by
    rw [← hS0l, show byteCells ([60] ++ e.n) = strCells S0 by rw [← hS0]; exact (strCells_byte (bs ([60] ++ e.n))).symm]
    exact hN0
  have hX0 := hid (And.intro hN1 (And.intro (show w.heap.size < W1.heap.size by omega) (And.intro hbw0 hev0)))
  have HST := hid hst
  rw [hS0l] at hconv
  obtain ⟨n0, hn0⟩ : ∃ n0, ([60] ++ e.n).length = n0 := ⟨_, rfl⟩
  rw [hn0] at hconv
  have HN0 := hid (fun (_ : True) => hn0)
  obtain ⟨i0, hi, hz0, hz1, hz2⟩ := info_parts info_u8
  unfold evC at hW1 ⊢
  clear hcell hs hlen hR ho hRl hb1 hn1 hbc hold hN hst hS0 hS0l hS0m hN0 hbw0 hev0 hN1 hn0
  go_enter Tryz.func54, Tryz.ntmps54
  have hst := HST.out
  obtain ⟨Sn, hSn⟩ : ∃ Sn, bs e.n = Sn := ⟨_, rfl⟩
  have hSz : Sn.size ≤ 3000000 := by have := HB.out; rw [← hSn, bs_size]; omega
  unfold evC at hX0
  simp only [hSn] at hX0 hst c1 hW1 ⊢
  clear hSn
  go_wp2_with fail
  clear hst hconv hzz c0 c1 c3
  go_loopw [3, 4] (fun bv iv wr => ∃ (k g cap : Nat) (acc : List UInt8), iv = .int .i64 k ∧ k ≤ e.a.length ∧ bv = .slice (some ⟨g, 0, none⟩) acc.length cap ∧ Hid (ownsN wr 5 g acc.length cap (byteCells acc) ∧ w.heap.size < g ∧ Below w.heap.size w wr ∧ wr.heap[w.heap.size]? = some (.cells #[.int .i64 e.k, .string Sn, .slice p e.a.length c, .string (bs e.t)] 44 (0, 0))) ∧ Hid (True → acc ++ (e.a.drop k).flatMap attrL = R)) (fun _ iv _ => e.a.length - (RowKit.intOf iv).toNat)
  case atStart => exact ⟨0, w.heap.size + 1, cap, [60] ++ e.n, rfl, Nat.zero_le _, by rw [HN0.out trivial], by rw [← hsz1]; exact hX0, HR⟩
  case round =>
    obtain ⟨k, g, cap2, acc, rfl, hk, rfl, HX, HK⟩ := hrel
    clear hX0 HN0 HST hW1 hsz1 c2
    have c2 := cell_at HX.out.2.2.2 (j := 2) rfl
    by_cases hkl : k < e.a.length
    · obtain ⟨a, ha⟩ : ∃ a, e.a[k]? = some a := ⟨_, List.getElem?_eq_getElem hkl⟩
      obtain ⟨b, o, rfl, hc1, hc2⟩ := HC.out k a ha
      replace hc1 := cell_low hc1 HX.out.2.2.1 (cell_block hc1)
      replace hc2 := cell_low hc2 HX.out.2.2.1 (cell_block hc2)
      have hab := bulkA_get ha
      have hd := HK.out trivial
      rw [drop_at ha, List.flatMap_cons] at hd
      have hdl := congrArg List.length hd
      have hRl := HRL.out
      have hBl := HB.out
      simp only [List.length_append] at hdl
      have hal2 : acc.length + (attrL a).length ≤ 20000000 := by omega
      have hes := fun W => refEscaped_any (bs a.2) true W (by rw [bs_size]; omega)
      rw [bs_data] at hes
      have hst := attr_eq a
      obtain ⟨E, hE⟩ : ∃ E, bs (escL true a.2) = E := ⟨_, rfl⟩
      obtain ⟨S1, hS1⟩ : ∃ S, bs a.1 = S := ⟨_, rfl⟩
      obtain ⟨S2, hS2⟩ : ∃ S, bs a.2 = S := ⟨_, rfl⟩
      obtain ⟨S3, hS3⟩ : ∃ S, bs (attrL a) = S := ⟨_, rfl⟩
      have hS3l : S3.size = (attrL a).length := by rw [← hS3, bs_size]
      have hEz : E.size ≤ 20000000 := by rw [← hE, bs_size]; have := esc_len true _ a.2 (Nat.le_refl _); omega
      have hS1z : S1.size ≤ 3000000 := by rw [← hS1, bs_size]; omega
      rw [hE, hS1, hS3] at hst
      rw [hS2, hE] at hes
      rw [hS1] at hc1
      rw [hS2] at hc2
      have HS3 := hid hS3
      have HES := hid hes
      have HST := hid hst
      have HD := hid (fun (_ : True) => (by rw [List.append_assoc]; exact hd : (acc ++ attrL a) ++ (e.a.drop (k + 1)).flatMap attrL = R))
      have HAL := hid (show acc.length + S3.size ≤ 140737488355328 by omega)
      clear hes hst hE hS1 hS2 hS3 hS3l hd hdl hRl hBl hal2 hab ha HK HR
      go_wp2_with fail
      refine (HES.out _).mono ?_
      rintro r W3 ⟨rfl, b3⟩
      have hn3 := (b3.block _ (block_lt HX.out.2.2.2)).trans HX.out.2.2.2
      have hN3 := HX.out.1.kept (b3.block g HX.out.1.lt)
      have hb3 := HX.out.2.2.1.trans (b3.mono HX.out.2.2.1.size)
      have hlt3 := HX.out.2.1
      replace c2 := cell_at hn3 (j := 2) rfl
      replace hc1 := cell_low hc1 b3 (cell_block hc1)
      have HX3 := hid (And.intro hN3 (And.intro hlt3 (And.intro hb3 hn3)))
      have hst := HST.out
      clear hn3 hb3 hlt3 HX b3 hc2
      go_wp2_with (at_builtin; refine wpList_append_marked _ rfl (.tmp 24) (.tmp 35) 85 9 rfl 5 i0 Tryz.underlying85 Tryz.underlying9 hi hz0 hz1 hz2 g acc.length cap2 (byteCells acc) rfl (by exact hN3) S3 rfl HAL.out ?_)
      intro g' cap' w' ho4 hg4 hor
      have ho5 := ownsN_cat HS3.out ho4
      have hl4 : acc.length + S3.size = (acc ++ attrL a).length := by rw [List.length_append, ← HS3.out, bs_size]
      obtain ⟨m1, m2, m3, m4⟩ := HX3.out
      have hb5 : Below w.heap.size w w' := m3.trans ⟨hg4.os, hg4.tape, hg4.output, hg4.size, fun k hk => hg4.block k (Nat.lt_of_lt_of_le hk m3.size) (fun h => by cases h; omega)⟩
      have hn5 := (hg4.block w.heap.size (block_lt m4) (fun h => by cases h; omega)).trans m4
      have hlt5 : w.heap.size < g' := by have := block_lt m4; rcases hor with h | h <;> omega
      have HZ := hid (And.intro ho5 (And.intro hlt5 (And.intro hb5 hn5)))
      have HL4 := hid (fun (_ : True) => hl4)
      clear ho4 ho5 hg4 hor m1 m2 m3 m4 hb5 hn5 hlt5 hl4 hN3 hst HX3 c2 hc1
      go_wp2
      go_roundw
      case rel => exact ⟨k + 1, g', cap', acc ++ attrL a, rfl, by omega, by rw [← HL4.out trivial], HZ, HD⟩
      case measure => simp [RowKit.intOf]; omega
    · obtain rfl : acc = R := by
        have := HK.out trivial
        rw [List.drop_of_length_le (by omega)] at this
        rwa [List.flatMap_nil, List.append_nil] at this
      have ht := own_textN wr g cap2 acc HX.out.1
      have hz : bs acc ++ (⟨#[62]⟩ : ByteArray) = bs (acc ++ [62]) := by rw [show (⟨#[62]⟩ : ByteArray) = bs [62] from rfl, bs_cat]
      obtain ⟨Z, hZ⟩ : ∃ Z, bs (acc ++ [62]) = Z := ⟨_, rfl⟩
      have hYz : (bs acc).size ≤ 20000000 := by rw [bs_size]; exact HRL.out
      obtain ⟨Y, hY⟩ : ∃ Y, bs acc = Y := ⟨_, rfl⟩
      rw [hZ, hY] at hz
      rw [hY] at ht hYz
      have HZZ := hid hZ
      clear hY hZ
      clear HK HR HC HB HRL
      go_wp2
      go_ret
      exact ⟨ret_txt HZZ.out.symm, HX.out.2.2.1⟩

/-! ## what comes next -/

/-- is the next thing a text that begins with a newline? -/
def nlAhead : List EvP → Bool
  | [] => false
  | e :: r => if e.k = 1 ∨ e.k = 2 then false else if e.k = 3 ∧ e.t ≠ [] then e.t.head? == some 10 else nlAhead r
/-- one event, written with an eye on what comes next -/
def pieceR (e : EvP) (r : List EvP) : List UInt8 :=
  if e.k = 1 then openL e.n e.a ++ (if eatsL e.n = true ∧ nlAhead r = true then [10] else []) else if e.k = 2 then etagL e.n else if e.k = 3 then escL false e.t else []
def writeR : List EvP → List UInt8
  | [] => []
  | e :: r => pieceR e r ++ writeR r
theorem esc_nil (q : Bool) : escL q [] = [] := by rw [escL]
theorem nl_cons (e : EvP) (r : List EvP) : nlAhead (e :: r) = if e.k = 1 ∨ e.k = 2 then false else if e.k = 3 ∧ e.t ≠ [] then e.t.head? == some 10 else nlAhead r := rfl
theorem nl_tag (e : EvP) (r : List EvP) (h : e.k = 1 ∨ e.k = 2) : nlAhead (e :: r) = false := by rw [nl_cons, if_pos h]
theorem nl_text (e : EvP) (r : List EvP) (h : e.k = 3) (h4 : e.t ≠ []) : nlAhead (e :: r) = (e.t.head? == some 10) := by rw [nl_cons, if_neg (by omega), if_pos ⟨h, h4⟩]
theorem nl_pass (e : EvP) (r : List EvP) (h1 : e.k ≠ 1) (h2 : e.k ≠ 2) (h3 : ¬ (e.k = 3 ∧ e.t ≠ [])) : nlAhead (e :: r) = nlAhead r := by rw [nl_cons, if_neg (fun h => h.elim h1 h2), if_neg h3]
theorem writeW_R : ∀ (es : List EvP) (eat : Bool), writeW eat es = (if eat = true ∧ nlAhead es = true then [10] else []) ++ writeR es
  | [], eat => by
    rw [if_neg (fun h => by cases h.2)]
    rfl
  | e :: r, eat => by
    have ih := writeW_R r
    show (takeW eat e).2 ++ writeW (takeW eat e).1 r = (if eat = true ∧ nlAhead (e :: r) = true then [10] else []) ++ (pieceR e r ++ writeR r)
    unfold takeW pieceR
    by_cases h1 : e.k = 1
    · rw [if_pos h1, if_pos h1, nl_tag e r (.inl h1), if_neg (show ¬ (eat = true ∧ false = true) from fun h => by cases h.2), List.nil_append, List.append_assoc]
      simp only
      rw [ih]
    rw [if_neg h1, if_neg h1]
    by_cases h2 : e.k = 2
    · rw [if_pos h2, if_pos h2, nl_tag e r (.inr h2), if_neg (show ¬ (eat = true ∧ false = true) from fun h => by cases h.2), List.nil_append]
      simp only
      rw [ih, if_neg (show ¬ (false = true ∧ nlAhead r = true) from fun h => by cases h.1), List.nil_append]
    rw [if_neg h2, if_neg h2]
    by_cases h3 : e.k = 3
    · rw [if_pos h3, if_pos h3]
      unfold textW
      by_cases h4 : e.t = []
      · rw [if_pos h4, nl_pass e r h1 h2 (fun h => h.2 h4), h4, esc_nil]
        simp only [List.nil_append]
        exact ih eat
      · rw [if_neg h4, nl_text e r h3 h4]
        simp only
        rw [ih, if_neg (show ¬ (false = true ∧ nlAhead r = true) from fun h => by cases h.1), List.nil_append, List.append_assoc]
        congr 1
        simp only [beq_iff_eq]
    · rw [if_neg h3, if_neg h3, nl_pass e r h1 h2 (fun h => h3 h.1)]
      simp only [List.nil_append]
      exact ih eat
theorem writeW_false (es : List EvP) : writeW false es = writeR es := by rw [writeW_R, if_neg (fun h => by cases h.1), List.nil_append]
theorem int_ne {a b : Int} (h : a ≠ b) : (a == b) = false := beq_eq_false_iff_ne.2 h

set_option maxHeartbeats 4000000 in
set_option maxRecDepth 100000 in
theorem feedAhead_any (ev : Value) (es : List EvP) (i : Nat) (w : World) (h : EvsR w ev es) (hi : i < es.length) (ht : ∀ e ∈ es, e.t.length ≤ 100000000) :
    Calls Tryz.prog 56 #[ev, .int .i64 i] w fun r w' => r = .returned (.bool (nlAhead (es.drop (i + 1)))) ∧ w' = w := by
  obtain ⟨p, c, rfl, _, _, hcell⟩ := h
  have HC := hid hcell
  have HT := hid ht
  obtain ⟨R, hR⟩ : ∃ R, nlAhead (es.drop (i + 1)) = R := ⟨_, rfl⟩
  have HR := hid (fun (_ : True) => hR)
  rw [hR]
  clear hcell hR ht
  go_enter Tryz.func56, Tryz.ntmps56
  go_wp2
  go_loopw [5] (fun iv wr => ∃ k : Nat, iv = .int .i64 k ∧ k ≤ es.length ∧ wr = w ∧ Hid (True → nlAhead (es.drop k) = R)) (fun iv _ => es.length - (RowKit.intOf iv).toNat)
  case atStart => exact ⟨i + 1, rfl, by omega, rfl, HR⟩
  case round =>
    obtain ⟨k, rfl, hk, rfl, HK⟩ := hrel
    by_cases hkl : k < es.length
    · obtain ⟨e, he⟩ : ∃ e, es[k]? = some e := ⟨_, List.getElem?_eq_getElem hkl⟩
      obtain ⟨b, o, u, rfl, q0, q1, q2, q3, q4⟩ := HC.out k e he
      have hd := HK.out trivial
      have htl := HT.out e (List.mem_of_getElem? he)
      rw [drop_at he, nl_cons] at hd
      clear q1 q2 q4 he HR HK HC HT
      by_cases h1 : e.k = 1
      · rw [if_pos (.inl h1)] at hd
        rw [h1] at q0
        subst hd
        go_wp2
        go_ret
        exact ⟨rfl, rfl⟩
      by_cases h2 : e.k = 2
      · rw [if_pos (.inr h2)] at hd
        rw [h2] at q0
        subst hd
        go_wp2
        go_ret
        exact ⟨rfl, rfl⟩
      rw [if_neg (fun h => h.elim h1 h2)] at hd
      have n1 := int_ne h1
      have n2 := int_ne h2
      obtain ⟨T, hT⟩ : ∃ T, bs e.t = T := ⟨_, rfl⟩
      have hTz : T.size = e.t.length := by rw [← hT, bs_size]
      have hTL : T.toList = e.t := by rw [← hT, bs_toList]
      rw [hT] at q3
      by_cases h3 : e.k = 3
      · rw [h3] at q0
        by_cases h4 : e.t = []
        · rw [if_neg (fun h => h.2 h4)] at hd
          have q : (T.toList != []) = false := by rw [hTL, h4]; rfl
          have qe : T.toList.isEmpty = true := by rw [hTL, h4]; rfl
          have HD := hid (fun (_ : True) => hd)
          clear hd hT hTz hTL h1 h2 h3 h4 n1 n2 htl
          go_wp2
          go_roundw
          case rel => exact ⟨k + 1, rfl, by omega, by first | rfl | trivial, HD⟩
          case measure => simp [RowKit.intOf]; omega
        · rw [if_pos ⟨h3, h4⟩] at hd
          have q : (T.toList != []) = true := by rw [hTL]; exact bne_iff_ne.2 h4
          have qe : T.toList.isEmpty = false := by rw [hTL]; cases hh : e.t with | nil => exact absurd hh h4 | cons x y => rfl
          have hp : 0 < T.size := by rw [hTz]; exact List.length_pos_iff.2 h4
          obtain ⟨x, hx⟩ : ∃ x, T[0]'hp = x := ⟨_, rfl⟩
          have hxl := getElem_list hp hx
          rw [← Lib.toList_data, hTL] at hxl
          rw [List.head?_eq_getElem?, hxl] at hd
          have hTb : T.size ≤ 100000000 := by omega
          by_cases h5 : x = 10
          · subst h5
            have : R = true := by rw [← hd]; rfl
            subst this
            clear hd hT hTz hTL h1 h2 h3 h4 n1 n2 htl hxl
            go_wp2
            go_ret
            exact ⟨rfl, rfl⟩
          · have : R = false := by rw [← hd]; simpa using h5
            subst this
            have q5 : ((x.toNat : Int) == 10) = false := byte_ne 10 h5
            clear hd hT hTz hTL h1 h2 h3 h4 n1 n2 htl hxl h5
            go_wp2
            go_ret
            exact ⟨rfl, rfl⟩
      · rw [if_neg (fun h => h3 h.1)] at hd
        have n3 := int_ne h3
        have HD := hid (fun (_ : True) => hd)
        clear hd hT hTz hTL h1 h2 h3 htl q3
        go_wp2
        go_roundw
        case rel => exact ⟨k + 1, rfl, by omega, by first | rfl | trivial, HD⟩
        case measure => simp [RowKit.intOf]; omega
    · have hd := HK.out trivial
      rw [List.drop_of_length_le (by omega)] at hd
      obtain rfl : false = R := hd
      clear HK HC HR HT
      go_wp2
      go_ret
      exact ⟨rfl, rfl⟩
end Go.Proofs.YtkcgmimldjeaiaaGreatDoor

/-
  The reference's Write, tagFits: their walks.
-/
namespace Go.Proofs.YtkcgmimldjeaiaaGreatDoor
open Go.RowKit Go.Lib Own

theorem evs_single' {W : World} {g : Nat} {e : EvP} {u : Value} {T : TypeId} (h : W.heap[g]? = some (.cells (evC e u) T (0, 0))) (hu : AttrsR W u e.a) : EvsR W (.slice (some ⟨g, 0, none⟩) 1 1) [e] := by
  refine ⟨_, 1, rfl, Nat.le_refl _, by omega, fun j x hj => ?_⟩
  obtain ⟨c0, c1, c2, c3⟩ := evC_at h
  cases j with
  | zero =>
    simp only [List.getElem?_cons_zero, Option.some.injEq] at hj
    subst hj
    exact ⟨g, 0, u, rfl, c0, c1, c2, c3, hu⟩
  | succ j => simp at hj
theorem pieceR_len (e : EvP) (r : List EvP) : (pieceR e r).length ≤ 6 * (e.n.length + e.t.length + bulkA e.a + 1) := by
  have h1 := attrs_len e.a
  have h2 := esc_len false _ e.t (Nat.le_refl _)
  have h3 : (openL e.n e.a).length = 2 + e.n.length + (e.a.flatMap attrL).length := by unfold openL; simp only [List.length_append, List.length_cons, List.length_nil]; omega
  have h4 : (etagL e.n).length = 3 + e.n.length := by unfold etagL; simp only [List.length_append, List.length_cons, List.length_nil]; omega
  have h5 : ∀ c : Prop, [Decidable c] → (if c then [(10 : UInt8)] else []).length ≤ 1 := by intro c _; split <;> simp
  have h6 := h5 (eatsL e.n = true ∧ nlAhead r = true)
  unfold pieceR
  split
  · rw [List.length_append]; omega
  · split
    · omega
    · split
      · omega
      · simp
theorem writeR_len : ∀ es : List EvP, (writeR es).length ≤ 6 * bulkE es
  | [] => by simp [writeR]
  | e :: r => by
    have h1 := pieceR_len e r
    have h2 := writeR_len r
    rw [show writeR (e :: r) = pieceR e r ++ writeR r from rfl, List.length_append, bulkE_cons]
    omega

set_option maxHeartbeats 8000000 in
set_option maxRecDepth 100000 in
theorem refWrite_any (ev : Value) (es : List EvP) (w : World) (h : EvsR w ev es) (hs : bulkE es ≤ 3000000) :
    Calls Tryz.prog 31 #[ev] w fun r w' => r = .returned (.string (bs (writeR es))) ∧ Below w.heap.size w w' := by
  have hE := h
  obtain ⟨p, c, rfl, hl, hcm, hcell⟩ := h
  have hlen := bulkE_len es
  have hwl := writeR_len es
  obtain ⟨R, hR⟩ : ∃ R, writeR es = R := ⟨_, rfl⟩
  rw [hR] at hwl ⊢
  have HR : Hid (True → [] ++ writeR (es.drop 0) = R) := fun _ => hR
  have HE := hid hE
  have HC := hid hcell
  have HS := hid hs
  have HWL := hid (show R.length ≤ 18000000 by omega)
  have hln : es.length ≤ 3000000 := by omega
  have hts : ∀ e ∈ es, e.t.length ≤ 100000000 := fun e he => by
    obtain ⟨k, hk⟩ := List.getElem?_of_mem he
    have := bulkE_get hk
    omega
  have HTS := hid hts
  obtain ⟨i0, hi, hz0, hz1, hz2⟩ := info_parts info_u8
  clear hE hcell hs hwl hR hlen hts
  go_enter Tryz.func31, Tryz.ntmps31
  go_wp2_with fail
  go_loopw [3, 4] (fun bv iv wr => ∃ (k : Nat) (acc : List UInt8), iv = .int .i64 k ∧ k ≤ es.length ∧ Hid (wr.ownsRowF w.heap.size 5 1 bv acc.length (byteCells acc) ∧ Below w.heap.size w wr) ∧ Hid (True → acc ++ writeR (es.drop k) = R)) (fun _ iv _ => es.length - (RowKit.intOf iv).toNat)
  case atStart => exact ⟨0, [], rfl, Nat.zero_le _, hid ⟨World.ownsRowF_of (World.ownsRow_nil _ _ _ _), Below.refl _ _⟩, HR⟩
  case round =>
    obtain ⟨k, acc, rfl, hk, HX, HK⟩ := hrel
    obtain ⟨bp, bc, rfl⟩ := row_shapeF HX.out.1
    clear HR
    by_cases hkl : k < es.length
    · obtain ⟨e, he⟩ : ∃ e, es[k]? = some e := ⟨_, List.getElem?_eq_getElem hkl⟩
      obtain ⟨b, o, u, rfl, q0, q1, q2, q3, q4⟩ := HC.out k e he
      obtain ⟨hown, hbw⟩ := HX.out
      have hab := bulkE_get he
      have hSS := HS.out
      have hq4 := q4.below hbw
      replace q0 := cell_low q0 hbw (cell_block q0)
      replace q1 := cell_low q1 hbw (cell_block q1)
      replace q2 := cell_low q2 hbw (cell_block q2)
      replace q3 := cell_low q3 hbw (cell_block q3)
      obtain ⟨up, uc, rfl⟩ := q4.len
      have hd := HK.out trivial
      rw [drop_at he, show writeR (e :: es.drop (k + 1)) = pieceR e (es.drop (k + 1)) ++ writeR (es.drop (k + 1)) from rfl] at hd
      obtain ⟨W4, hW4⟩ : ∃ W4, wr.alloc (.cells (evC e (.slice up e.a.length uc)) 44) = W4 := ⟨_, rfl⟩
      have hb4 : Below wr.heap.size wr W4 := by rw [← hW4]; exact (Below.refl _ _).alloc (Nat.le_refl _) _
      have hn4 : W4.heap[wr.heap.size]? = some (.cells (evC e (.slice up e.a.length uc)) 44 (0, 0)) := by rw [← hW4]; exact heap_alloc_new _ _
      have hbw4 := hbw.trans (hb4.mono hbw.size)
      have hop := refOpener_any e (.slice up e.a.length uc) W4 (hq4.below hb4) (by omega)
      have hea := fun W => refEatsW_any (bs e.n) W
      rw [bs_toList] at hea
      have hfa := fun W (hb : Below w.heap.size w W) => feedAhead_any (.slice (some ⟨b, o, none⟩) es.length c) es k W (HE.out.below hb) hkl HTS.out
      have hes := fun W => refEscaped_any (bs e.t) false W (by rw [bs_size]; omega)
      rw [bs_data] at hes
      have hdl := congrArg List.length hd
      have hRl := HWL.out
      simp only [List.length_append] at hdl
      have hown4 : W4.ownsRowF w.heap.size 5 1 (.slice bp acc.length bc) acc.length (byteCells acc) := hown.kept (row := none) ⟨hb4.os, hb4.tape, hb4.output, hb4.size, fun k hk _ => hb4.block k hk⟩ (Classical.em _)
      have H4 := hid (And.intro hown4 hbw4)
      -- the end of a round: a text behind the row
      have fin : ∀ (S : ByteArray) (L : List UInt8) (W : World), bs L = S → L = pieceR e (es.drop (k + 1)) → Below W4.heap.size W4 W → ∀ (v' : Value) (W' : World), W'.ownsRowF w.heap.size 5 1 v' (acc.length + S.size) (byteCells acc ++ strCells S) → W.grownBy W' (Value.slice bp acc.length bc).ownBlock →
          Hid (W'.ownsRowF w.heap.size 5 1 v' (acc ++ L).length (byteCells (acc ++ L)) ∧ Below w.heap.size w W') ∧ Hid (True → (acc ++ L) ++ writeR (es.drop (k + 1)) = R) := by
        intro S L W hS hL hb v' W' ho hg
        have hoW : W.ownsRowF w.heap.size 5 1 (.slice bp acc.length bc) acc.length (byteCells acc) := hown4.kept (row := none) ⟨hb.os, hb.tape, hb.output, hb.size, fun k hk _ => hb.block k hk⟩ (Classical.em _)
        refine ⟨⟨?_, (hbw4.trans (hb.mono hbw4.size)).grown hg (Nat.le_trans hbw4.size hb.size) (fun k hk => (hoW.lt k hk).1)⟩, fun _ => by rw [List.append_assoc, hL]; exact hd⟩
        rw [List.length_append, Lib.byteCells_append]
        subst hS
        rw [bs_size, show strCells (bs L) = byteCells L from strCells_byte _] at ho
        exact ho
      have FIN := hid fin
      have hownW : ∀ W, Below W4.heap.size W4 W → W.ownsRowF w.heap.size 5 1 (.slice bp acc.length bc) acc.length (byteCells acc) := fun W hb => hown4.kept (row := none) ⟨hb.os, hb.tape, hb.output, hb.size, fun k hk _ => hb.block k hk⟩ (Classical.em _)
      have HOW := hid hownW
      have hwsz : w.heap.size ≤ W4.heap.size := hbw4.size
      obtain ⟨d0, d1, d2, d3⟩ := evC_at hn4
      have HEA := hid hea
      have HFA := hid hfa
      have HOP := hid hop
      have HES := hid hes
      have HAB := hid (fun (_ : True) => hab)
      have hal : acc.length ≤ 18000000 := by omega
      have hpl : (pieceR e (es.drop (k + 1))).length ≤ 18000000 := by omega
      have HPL := hid hpl
      clear hd hdl hRl hab hSS hq4 q4 hea hfa hop hes fin hownW hown4 hbw4 hn4 hb4 hpl hown hbw HX HK HC he HTS HE HS
      by_cases k1 : e.k = 1
      · have ep : pieceR e (es.drop (k + 1)) = openL e.n e.a ++ (if eatsL e.n = true ∧ nlAhead (es.drop (k + 1)) = true then [10] else []) := by unfold pieceR; rw [if_pos k1]
        have hPL := HPL.out
        rw [ep, List.length_append] at hPL
        have hOL : (openL e.n e.a).length ≤ 18000000 := by omega
        obtain ⟨ea, hea⟩ : ∃ ea, eatsL e.n = ea := ⟨_, rfl⟩
        obtain ⟨fa, hfa⟩ : ∃ fa, nlAhead (es.drop (k + 1)) = fa := ⟨_, rfl⟩
        rw [hea] at HEA ep
        rw [hfa] at HFA ep
        obtain ⟨O, hO⟩ : ∃ O, bs (openL e.n e.a) = O := ⟨_, rfl⟩
        have hOz : O.size ≤ 18000000 := by rw [← hO, bs_size]; exact hOL
        rw [hO] at HOP
        have HO := hid hO
        have HEP := hid ep
        unfold evC at hW4 HOP
        rw [k1] at d0 hW4 q0
        simp only [k1] at HOP
        clear hPL hOL hea hfa ep hO k1
        go_upto_region 8 with fail
        clear hW4 q0 q1 q2 q3
        go_upto_region 9 with fail
        go_wp2_with fail
        refine HOP.out.mono ?_
        rintro r W5 ⟨rfl, b5⟩
        have HB5 := hid b5
        obtain ⟨d0, d1, d2, d3⟩ := (⟨cell_low d0 b5 (cell_block d0), cell_low d1 b5 (cell_block d1), cell_low d2 b5 (cell_block d2), cell_low d3 b5 (cell_block d3)⟩ : W5.cell? ⟨wr.heap.size, 0, none⟩ = some (.int .i64 1) ∧ W5.cell? ⟨wr.heap.size, 1, none⟩ = some (.string (bs e.n)) ∧ W5.cell? ⟨wr.heap.size, 2, none⟩ = some (.slice up e.a.length uc) ∧ W5.cell? ⟨wr.heap.size, 3, none⟩ = some (.string (bs e.t)))
        have hown5 := HOW.out W5 b5
        have hwsz5 : w.heap.size ≤ W5.heap.size := Nat.le_trans hwsz b5.size
        have hbw5 := hid (H4.out.2.trans (b5.mono H4.out.2.size))
        clear b5
        go_wp2_with fail
        refine (HEA.out _).mono ?_
        rintro r W6 ⟨rfl, rfl⟩
        cases ea with
        | false =>
          go_wp2_with (at_builtin; refine Lib.wpList_append_own_stringF _ rfl _ _ 85 9 rfl w.heap.size 5 i0 Tryz.underlying85 Tryz.underlying9 hi hz0 hz1 hz2 _ _ _ rfl hown5 O rfl (by unfold maxLen; omega) (by omega) (by omega) ?_)
          intro v' W' ho hg _
          obtain ⟨HZ, HZ2⟩ := FIN.out O _ W6 HO.out (by rw [HEP.out]; simp) HB5.out v' W' ho hg
          clear ho hg FIN HOW HEA HFA HOP HES hown5
          go_wp2
          go_roundw
          case rel => exact ⟨k + 1, _, rfl, by omega, HZ, HZ2⟩
          case measure => simp [RowKit.intOf]; omega
        | true =>
          go_wp2_with fail
          refine (HFA.out _ hbw5.out).mono ?_
          rintro r W7 ⟨rfl, rfl⟩
          cases fa with
          | false =>
            go_wp2_with (at_builtin; refine Lib.wpList_append_own_stringF _ rfl _ _ 85 9 rfl w.heap.size 5 i0 Tryz.underlying85 Tryz.underlying9 hi hz0 hz1 hz2 _ _ _ rfl hown5 O rfl (by unfold maxLen; omega) (by omega) (by omega) ?_)
            intro v' W' ho hg _
            obtain ⟨HZ, HZ2⟩ := FIN.out O _ W7 HO.out (by rw [HEP.out]; simp) HB5.out v' W' ho hg
            clear ho hg FIN HOW HEA HFA HOP HES hown5
            go_wp2
            go_roundw
            case rel => exact ⟨k + 1, _, rfl, by omega, HZ, HZ2⟩
            case measure => simp [RowKit.intOf]; omega
          | true =>
            obtain ⟨O2, hO2⟩ : ∃ O2, O ++ (⟨#[10]⟩ : ByteArray) = O2 := ⟨_, rfl⟩
            have hO3 : bs (openL e.n e.a ++ [10]) = O2 := by rw [← hO2, ← HO.out, show (⟨#[10]⟩ : ByteArray) = bs [10] from rfl, bs_cat]
            have hO2z : O2.size ≤ 18000001 := by rw [← hO3, bs_size, List.length_append]; have := congrArg ByteArray.size HO.out; rw [bs_size] at this; simp; omega
            have HO3 := hid hO3
            clear hO3
            go_wp2_with (at_builtin; refine Lib.wpList_append_own_stringF _ rfl _ _ 85 9 rfl w.heap.size 5 i0 Tryz.underlying85 Tryz.underlying9 hi hz0 hz1 hz2 _ _ _ rfl hown5 O2 rfl (by unfold maxLen; omega) (by omega) (by omega) ?_)
            intro v' W' ho hg _
            obtain ⟨HZ, HZ2⟩ := FIN.out O2 _ W7 HO3.out (by rw [HEP.out]; simp) HB5.out v' W' ho hg
            clear ho hg FIN HOW HEA HFA HOP HES hown5
            go_wp2
            go_roundw
            case rel => exact ⟨k + 1, _, rfl, by omega, HZ, HZ2⟩
            case measure => simp [RowKit.intOf]; omega
      have n1 := int_ne k1
      by_cases k2 : e.k = 2
      · have ep : pieceR e (es.drop (k + 1)) = etagL e.n := by unfold pieceR; rw [if_neg k1, if_pos k2]
        have hPL := HPL.out
        rw [ep] at hPL
        obtain ⟨N, hN⟩ : ∃ N, bs e.n = N := ⟨_, rfl⟩
        have hNz : N.size ≤ 18000000 := by rw [← hN, bs_size]; unfold etagL at hPL; simp only [List.length_append, List.length_cons, List.length_nil] at hPL; omega
        obtain ⟨O, hO⟩ : ∃ O, (⟨#[60, 47]⟩ : ByteArray) ++ N ++ (⟨#[62]⟩ : ByteArray) = O := ⟨_, rfl⟩
        have hO3 : bs (etagL e.n) = O := by rw [← hO, ← hN, show (⟨#[60, 47]⟩ : ByteArray) = bs [60, 47] from rfl, show (⟨#[62]⟩ : ByteArray) = bs [62] from rfl, bs_cat, bs_cat]; rfl
        have hOz : O.size ≤ 18000000 := by rw [← hO3, bs_size]; exact hPL
        have HO3 := hid hO3
        have HEP := hid ep
        unfold evC at hW4
        rw [k2] at d0 hW4 n1 q0
        rw [hN] at d1 q1
        simp only [hN] at hW4
        have hown5 := HOW.out W4 (Below.refl _ _)
        clear hPL ep hO3 k1 k2
        go_upto_region 8 with fail
        clear hW4 q0 q1 q2 q3 hN
        go_wp2_with (at_builtin; refine Lib.wpList_append_own_stringF _ rfl _ _ 85 9 rfl w.heap.size 5 i0 Tryz.underlying85 Tryz.underlying9 hi hz0 hz1 hz2 _ _ _ rfl hown5 O rfl (by unfold maxLen; omega) (by omega) (by omega) ?_)
        intro v' W' ho hg _
        obtain ⟨HZ, HZ2⟩ := FIN.out O _ W4 HO3.out HEP.out.symm (Below.refl _ _) v' W' ho hg
        clear ho hg FIN HOW HEA HFA HOP HES hown5
        go_wp2
        go_roundw
        case rel => exact ⟨k + 1, _, rfl, by omega, HZ, HZ2⟩
        case measure => simp [RowKit.intOf]; omega
      have n2 := int_ne k2
      by_cases k3 : e.k = 3
      · have ep : pieceR e (es.drop (k + 1)) = escL false e.t := by unfold pieceR; rw [if_neg k1, if_neg k2, if_pos k3]
        have hPL := HPL.out
        rw [ep] at hPL
        obtain ⟨O, hO⟩ : ∃ O, bs (escL false e.t) = O := ⟨_, rfl⟩
        have hOz : O.size ≤ 18000000 := by rw [← hO, bs_size]; exact hPL
        rw [hO] at HES
        have HO3 := hid hO
        have HEP := hid ep
        unfold evC at hW4
        rw [k3] at d0 hW4 n1 n2 q0
        clear hPL ep hO k1 k2 k3
        go_upto_region 8 with fail
        clear hW4 q0 q1 q2 q3
        go_wp2_with fail
        refine (HES.out _).mono ?_
        rintro r W5 ⟨rfl, b5⟩
        have HB5 := hid b5
        have hown5 := HOW.out W5 b5
        have hwsz5 : w.heap.size ≤ W5.heap.size := Nat.le_trans hwsz b5.size
        clear b5
        go_wp2_with (at_builtin; refine Lib.wpList_append_own_stringF _ rfl _ _ 85 9 rfl w.heap.size 5 i0 Tryz.underlying85 Tryz.underlying9 hi hz0 hz1 hz2 _ _ _ rfl hown5 O rfl (by unfold maxLen; omega) (by omega) (by omega) ?_)
        intro v' W' ho hg _
        obtain ⟨HZ, HZ2⟩ := FIN.out O _ W5 HO3.out HEP.out.symm HB5.out v' W' ho hg
        clear ho hg FIN HOW HEA HFA HOP HES hown5
        go_wp2
        go_roundw
        case rel => exact ⟨k + 1, _, rfl, by omega, HZ, HZ2⟩
        case measure => simp [RowKit.intOf]; omega
      · have n3 := int_ne k3
        have ep : pieceR e (es.drop (k + 1)) = [] := by unfold pieceR; rw [if_neg k1, if_neg k2, if_neg k3]
        have HEP := hid ep
        unfold evC at hW4
        have hown5 := HOW.out W4 (Below.refl _ _)
        have hOz : (⟨#[]⟩ : ByteArray).size = 0 := rfl
        clear ep k1 k2 k3
        go_upto_region 8 with fail
        clear hW4 q0 q1 q2 q3
        go_wp2_with (at_builtin; refine Lib.wpList_append_own_stringF _ rfl _ _ 85 9 rfl w.heap.size 5 i0 Tryz.underlying85 Tryz.underlying9 hi hz0 hz1 hz2 _ _ _ rfl hown5 ⟨#[]⟩ rfl (by unfold maxLen; omega) (by omega) (by omega) ?_)
        intro v' W' ho hg _
        obtain ⟨HZ, HZ2⟩ := FIN.out ⟨#[]⟩ _ W4 (show bs [] = ⟨#[]⟩ from rfl) HEP.out.symm (Below.refl _ _) v' W' ho hg
        clear ho hg FIN HOW HEA HFA HOP HES hown5
        go_wp2
        go_roundw
        case rel => exact ⟨k + 1, _, rfl, by omega, HZ, HZ2⟩
        case measure => simp [RowKit.intOf]; omega
    · obtain rfl : acc = R := by
        have := HK.out trivial
        rw [List.drop_of_length_le (by omega)] at this
        rwa [show writeR [] = [] from rfl, List.append_nil] at this
      have ht := own_textF wr _ _ acc HX.out.1
      clear HK HC HE HS HTS
      go_wp2
      go_ret
      exact ⟨rfl, HX.out.2⟩

theorem writeR_start (e : EvP) (h : e.k = 1) : writeR [e] = openL e.n e.a := by
  show pieceR e [] ++ [] = _
  unfold pieceR
  rw [if_pos h, if_neg (fun q => by cases q.2), List.append_nil, List.append_nil]
set_option maxHeartbeats 4000000 in
set_option maxRecDepth 100000 in
theorem tagFits_any (e : EvP) (u : Value) (window : Int) (w : World) (hk : e.k = 1) (hu : AttrsR w u e.a) (hs : e.n.length + e.t.length + bulkA e.a ≤ 2000000) :
    Calls Tryz.prog 17 #[.agg (evC e u), .int .i64 window] w fun r w' => r = .returned (.bool (decide (((openL e.n e.a).length : Int) ≤ window))) ∧ Below w.heap.size w w' := by
  obtain ⟨up, uc, rfl⟩ := hu.len
  obtain ⟨W1, hW1⟩ : ∃ W1, (w.alloc (.cells (evC e (.slice up e.a.length uc)) 44)).alloc (.cells (evC e (.slice up e.a.length uc)) 44) = W1 := ⟨_, rfl⟩
  have hB : Below w.heap.size w W1 := by rw [← hW1]; exact ((Below.refl w.heap.size w).alloc (Nat.le_refl _) _).alloc (by simp) _
  have b1 : W1.heap[w.heap.size + 1]? = some (.cells (evC e (.slice up e.a.length uc)) 44 (0, 0)) := by
    rw [← hW1]
    have := heap_alloc_new (w.alloc (.cells (evC e (.slice up e.a.length uc)) 44)) (.cells (evC e (.slice up e.a.length uc)) 44)
    simpa using this
  have hev := evs_single' (e := e) b1 (hu.below hB)
  have hwr := refWrite_any (.slice (some ⟨w.heap.size + 1, 0, none⟩) 1 1) [e] W1 hev (by rw [bulkE_cons]; show _ + bulkE [] ≤ _; rw [show bulkE [] = 0 from rfl]; omega)
  rw [writeR_start e hk] at hwr
  obtain ⟨S, hS⟩ : ∃ S, bs (openL e.n e.a) = S := ⟨_, rfl⟩
  have hSz : S.size = (openL e.n e.a).length := by rw [← hS, bs_size]
  rw [hS] at hwr
  rw [← hSz]
  have hSb : S.size ≤ 20000000 := by
    rw [hSz]
    have := attrs_len e.a
    unfold openL
    simp only [List.length_append, List.length_cons, List.length_nil]
    omega
  have HWR := hid hwr
  have HB := hid hB
  unfold evC at hW1 ⊢
  clear hS hSz hwr hev b1 hB hu hs hk
  go_enter Tryz.func17, Tryz.ntmps17
  go_wp2_with fail
  refine HWR.out.mono ?_
  rintro r W2 ⟨rfl, b2⟩
  have HB2 := hid (HB.out.trans (b2.mono HB.out.size))
  clear b2
  go_wp2_with fail
  go_ret
  exact ⟨rfl, HB2.out⟩
end Go.Proofs.YtkcgmimldjeaiaaGreatDoor

/-
  The statements' lendEvents, keptEvents: their walks.
-/
namespace Go.Proofs.YtkcgmimldjeaiaaGreatDoor
open Go.RowKit Go.Lib Own

theorem lndTEvents : LndT 44 34 := ⟨by decide, by decide, by decide, by decide, by decide⟩
theorem infoEvent_ : (Tryz.prog.info? 44).map (fun i => (i.zero, i.size, i.bytes)) = some (some (.agg #[.int .i64 0, .string ⟨#[]⟩, .slice none 0 0, .string ⟨#[]⟩]), 4, 64) := by kernel_rfl
/-- what stands behind: a text of each word -/
def moreEvents (ms : List (List UInt8)) : List EvP := ms.map fun s => ⟨3, [], [], s⟩

set_option maxHeartbeats 8000000 in
set_option maxRecDepth 100000 in
theorem lendEvents_any (ev mv : Value) (es : List EvP) (ms : List (List UInt8)) (w : World) (h : EvsR w ev es) (hM : Words w mv ms) (hl : es.length ≤ 2000000) (ha : ∀ e ∈ es, e.a.length ≤ 2000000) (hm : ms.length ≤ 2000000) :
    Calls Tryz.prog 6 #[ev, mv] w fun e w' => ∃ v, e = .returned v ∧ LentE w' v es (moreEvents ms) (namesA ms) ∧ Below w.heap.size w w' := by
  obtain ⟨ep, ec, rfl, hc1, hc2, hcell⟩ := h
  obtain ⟨mp, mc, rfl, hmc, _, hmcell, _⟩ := id hM
  have HC := hid hcell
  have HM := hid hM
  have HMC := hid hmcell
  have HA := hid ha
  have hL0 : LndE 44 34 w ((w.alloc (.cells #[.slice none 0 0, .slice none 0 0, .slice none 0 0] 34)).alloc (.cells #[.slice none 0 0, .slice none 0 0, .slice none 0 0] 34)) (.slice none 0 0) (.slice none 0 0) es (namesA ms) [] [] :=
    ⟨((Below.refl w.heap.size w).alloc (Nat.le_refl _) _).alloc (by simp) _, (Go.Lib.alloc_old _ _ _ (by simp)).trans (heap_alloc_new w _), heap_two_new w _ _ _, World.ownsRow_nil _ _ _ _, World.ownsRow_nil _ _ _ _, fun k v e h1 => by simp at h1, fun k x h1 => by simp at h1⟩
  have HL0 := hid hL0
  clear hcell hM hmcell ha hL0
  go_enter Tryz.func6, Tryz.ntmps6
  go_wp2_with fail
  go_loopw [7, 8, 12] (fun _ _ iv wr => ∃ (k : Nat) (wv av : Value) (prs : List (EvP × Value)) (us : List Value), iv = .int .i64 k ∧ k ≤ es.length ∧ Hid (us.length = k ∧ prs.length = k ∧ prs.map Prod.fst = es.take k) ∧ Hid (LndE 44 34 w wr wv av es (namesA ms) prs us)) (fun _ _ iv _ => es.length - (RowKit.intOf iv).toNat)
  case atStart => exact ⟨0, _, _, [], [], rfl, Nat.zero_le _, hid ⟨rfl, rfl, rfl⟩, HL0⟩
  case round =>
    obtain ⟨k, wv, av, prs, us, rfl, hk, HN, HX⟩ := hrel
    clear HL0
    by_cases hkl : k < es.length
    · obtain ⟨e, he⟩ : ∃ e, es[k]? = some e := ⟨_, List.getElem?_eq_getElem hkl⟩
      obtain ⟨b, o, u, rfl, q0, q1, q2, q3, q4⟩ := HC.out k e he
      have hX := HX.out
      have hbx := hX.be
      replace q0 := cell_low q0 hbx (cell_block q0)
      replace q1 := cell_low q1 hbx (cell_block q1)
      replace q2 := cell_low q2 hbx (cell_block q2)
      replace q3 := cell_low q3 hbx (cell_block q3)
      have hat := HA.out e (List.mem_of_getElem? he)
      obtain ⟨up, uc, rfl⟩ := q4.len
      -- behind the event's box
      obtain ⟨W1, hW1⟩ : ∃ W1, wr.alloc (.cells (evC e (.slice up e.a.length uc)) 44) = W1 := ⟨_, rfl⟩
      have hbel1 : Below wr.heap.size wr W1 := by rw [← hW1]; exact (Below.refl _ _).alloc (Nat.le_refl _) _
      have hn1 : W1.heap[wr.heap.size]? = some (.cells (evC e (.slice up e.a.length uc)) 44 (0, 0)) := by rw [← hW1]; exact heap_alloc_new _ _
      obtain ⟨c0, c1, c2, c3⟩ := evC_at hn1
      have hlong := longAttrs_any (.slice up e.a.length uc) (.slice mp ms.length mc) e.a ms W1 ((q4.below hbx).below hbel1) ((HM.out.below hbx).below hbel1) (by omega) (by omega)
      have HLG := hid hlong
      have HE := hid he
      have H1 := hid (And.intro hn1 hbel1)
      unfold evC at hW1
      clear hlong he hX q4 hn1 hbel1 hbx
      go_upto_region 6 with fail
      clear hW1 q0 q1 q2 q3
      go_wp2_with fail
      refine HLG.out.mono ?_
      rintro r W2 ⟨u', rfl, r1, b2⟩
      obtain ⟨hn1, hbel1⟩ := H1.out
      have hbel2 := hbel1.trans (b2.mono hbel1.size)
      have hX2 := HX.out.below hbel2
      have hn2 := (b2.block _ (block_lt hn1)).trans hn1
      have r2 := row_low r1 (Nat.le_trans HX.out.be.size hbel1.size)
      obtain ⟨up', uc', hu'⟩ := row_shape r2
      subst hu'
      have hown := hX2.a
      rw [HN.out.1] at hown
      obtain ⟨ap, ac, rfl⟩ := row_shape hown
      have hsz2 := hX2.be.size
      have hle := (row_cap r2).2
      have hne : wv.ownBlock ≠ some wr.heap.size := fun hh => by have := (HX.out.r.lt _ hh).2; omega
      have hcl := hX2.be.size
      have hxs := HX.out.be.size
      have hbl : w.heap.size + 1 < wr.heap.size := block_lt HX.out.bx
      obtain ⟨z1, y1⟩ : W2.cell? ⟨w.heap.size + 1, 2, none⟩ = some (.slice ap k ac) ∧ W2.frozen? ⟨w.heap.size + 1, 2, none⟩ = false := ⟨cell_at hX2.bx rfl, free_at hX2.bx 2⟩
      obtain ⟨i0, hi, hz0, hz1, hz2⟩ := info_parts info_list
      have HX2 := hid (And.intro hX2 (And.intro hn2 r2))
      have hlena : (e.a ++ namesA ms).length = e.a.length + ms.length := by rw [List.length_append]; unfold namesA; rw [List.length_map]
      clear hX2 r1 r2 b2 hn1 hbel1 hbel2 HX H1 HLG hn2 c0 c1 c2 c3
      obtain ⟨NL, hNL⟩ : ∃ NL, (e.a ++ namesA ms).length = NL := ⟨_, rfl⟩
      rw [hNL] at hlena hle
      simp only [hNL] at HX2 ⊢
      have hNLb : NL ≤ 4000000 := by omega
      have hle2 : e.a.length ≤ uc' := by omega
      have hNL2 := hid hNL
      clear hlena hNL
      go_wp2_with (at_builtin; refine wpList_append_own _ rfl (.tmp 24) (.tmp 26) 32 rfl w.heap.size 42 i0 (.slice none 0 0) 1 24 Tryz.underlying32 hi hz0 hz1 hz2 rfl (by decide) _ _ _ rfl (hown.alloc _) ⟨_, 0, none⟩ 1 1 [.slice up' NL uc'] rfl rfl (cells_newV _ _ _) (by simp [Value.oneCell']) (by unfold maxLen; omega) (by omega) (by simp; omega) ?_)
      intro v' W3 hown2 hgrow2 _
      obtain ⟨hX2, hn2, r2⟩ := HX2.out
      have hX4 := hX2.attr (e := e) (v' := v') lndTEvents (by rw [hNL2.out]; exact r2) (by rw [HN.out.1]; exact HE.out) hgrow2 (by rw [List.length_append, HN.out.1]; exact hown2)
      obtain ⟨vp, vc, rfl⟩ := row_shape hown2
      have hax := hX2.a.alloc (.cells #[.slice up' NL uc'] 42)
      rw [HN.out.1] at hax
      have hne0 := row_ne hax ((Go.Lib.alloc_old _ _ _ (block_lt hX2.bx)).trans hX2.bx) (by decide)
      have hne1 := row_ne hax ((Go.Lib.alloc_old _ _ _ (block_lt hn2)).trans hn2) (by decide)
      have hbx3 := grown_at hgrow2 ((Go.Lib.alloc_old W2 (.cells #[.slice up' NL uc'] 42) _ (block_lt hX2.bx)).trans hX2.bx) hne0
      have hn3 := grown_at hgrow2 ((Go.Lib.alloc_old W2 (.cells #[.slice up' NL uc'] 42) _ (block_lt hn2)).trans hn2) hne1
      have y3 := free_at hbx3 2
      have z3 := cell_at hbx3 (j := 2) rfl
      have hn4 : (W3.setCell ⟨w.heap.size + 1, 2, none⟩ (.slice vp (k + 1) vc)).heap[wr.heap.size]? = _ := (heap_setCell_other W3 ⟨w.heap.size + 1, 2, none⟩ wr.heap.size (.slice vp (k + 1) vc) (by show wr.heap.size ≠ w.heap.size + 1; omega)).trans hn3
      have HX4 := hid (And.intro hX4 hn4)
      clear hX2 hX4 hn2 r2 hax hne0 hne1 hbx3 hn3 hn4 HX2 hown2 hgrow2 hown z1 y1
      go_upto_region 8 with fail
      obtain ⟨W4, hW4⟩ : ∃ W4, W3.setCell ⟨w.heap.size + 1, 2, none⟩ (.slice vp (k + 1) vc) = W4 := ⟨_, rfl⟩
      simp only [hW4] at HX4 ⊢
      clear hW4 y3 z3
      obtain ⟨c0, c1, c2, c3⟩ := evC_at HX4.out.2
      have y2 := free_at HX4.out.2 2
      have hj := just_put (j := 2) (cs2 := evC e (.slice up' e.a.length uc')) HX4.out.2 (.slice up' e.a.length uc') (by unfold evC; simp)
      have hX5 := HX4.out.1.box lndTEvents HX4.out.2 (by omega) hne hj
      have HX5 := hid (And.intro hX5 hj.at_)
      clear hj hX5 HX4
      go_upto_region 9 with fail
      obtain ⟨W5, hW5⟩ : ∃ W5, W4.setCell ⟨wr.heap.size, 2, none⟩ (.slice up' e.a.length uc') = W5 := ⟨_, rfl⟩
      simp only [hW5] at HX5 ⊢
      clear hW5 y2 c0 c1 c2 c3
      have hX5 := HX5.out.1
      obtain ⟨c0, c1, c2, c3⟩ := evC_at HX5.out.2
      have hown := hX5.r
      rw [HN.out.2.1] at hown
      obtain ⟨wp, wc, rfl⟩ := row_shape hown
      have z1 := cell_at hX5.bx (j := 1) rfl
      have hsz5 := hX5.be.size
      obtain ⟨j0, hj, hj0, hj1, hj2⟩ := info_parts infoEvent_
      go_wp2_with (at_builtin; refine wpList_append_own _ rfl (.tmp 36) (.tmp 38) 26 rfl w.heap.size 44 j0 (.agg #[.int .i64 0, .string ⟨#[]⟩, .slice none 0 0, .string ⟨#[]⟩]) 4 64 Tryz.underlying26 hj hj0 hj1 hj2 rfl (by decide) _ _ _ rfl (hown.alloc _) ⟨_, 0, none⟩ 1 1 [.int .i64 e.k, .string (bs e.n), .slice up' e.a.length uc', .string (bs e.t)] rfl rfl (cells_newV _ _ _) (by simp [Value.oneCell']) (by unfold maxLen; omega) (by omega) (by simp; omega) ?_)
      intro v'' W6 hown6 hgrow6 _
      obtain ⟨vp6, vc6, rfl⟩ := row_shape hown6
      have hX7 := hX5.ev (x := (e, .slice up' e.a.length uc')) (v' := .slice vp6 (k + 1) vc6) lndTEvents (.inr ⟨.slice up' NL uc', by rw [HN.out.2.1, ← HN.out.1, List.getElem?_append_right (Nat.le_refl _), Nat.sub_self]; rfl, by rw [HN.out.2.1]; exact HE.out, rfl⟩) hgrow6 (by rw [List.length_append, HN.out.2.1, ecells_app]; exact hown6)
      have hax := hX5.r.alloc (.cells #[.int .i64 e.k, .string (bs e.n), .slice up' e.a.length uc', .string (bs e.t)] 44)
      have hne0 := row_ne hax ((Go.Lib.alloc_old _ _ _ (block_lt hX5.bx)).trans hX5.bx) (by decide)
      have hbx6 := grown_at hgrow6 ((Go.Lib.alloc_old W5 (.cells #[.int .i64 e.k, .string (bs e.n), .slice up' e.a.length uc', .string (bs e.t)] 44) _ (block_lt hX5.bx)).trans hX5.bx) hne0
      have y3 := free_at hbx6 1
      have z3 := cell_at hbx6 (j := 1) rfl
      have HX7 := hid hX7
      have HN2 : Hid ((us ++ [Value.slice up' NL uc']).length = k + 1 ∧ (prs ++ [(e, Value.slice up' e.a.length uc')]).length = k + 1 ∧ (prs ++ [(e, Value.slice up' e.a.length uc')]).map Prod.fst = es.take (k + 1)) :=
        hid ⟨by rw [List.length_append, HN.out.1]; rfl, by rw [List.length_append, HN.out.2.1]; rfl, by rw [List.map_append, HN.out.2.2, List.take_add_one, HE.out]; rfl⟩
      clear hX5 hX7 hax hne0 hbx6 hown6 hgrow6 hown z1 c0 c1 c2 c3 HX5 HN HE
      go_wp2
      go_roundw
      case rel => exact ⟨k + 1, _, _, _, _, rfl, by omega, HN2, HX7⟩
      case measure => simp [RowKit.intOf]; omega
    · obtain rfl : k = es.length := by omega
      have hN3 := HN.out.2.2
      rw [List.take_length] at hN3
      have HN3 := hid (And.intro HN.out.1 (And.intro HN.out.2.1 hN3))
      clear hkl hk hN3 HN HC HA
      go_wp2_with fail
      go_loopw [9, 44] (fun _ iv wr => ∃ (m : Nat) (wv : Value) (prs : List (EvP × Value)), iv = .int .i64 m ∧ m ≤ ms.length ∧ Hid (us.length = es.length ∧ prs.length = es.length + m ∧ prs.map Prod.fst = es ++ moreEvents (ms.take m)) ∧ Hid (LndE 44 34 w wr wv av es (namesA ms) prs us)) (fun _ iv _ => ms.length - (RowKit.intOf iv).toNat)
      case atStart => exact ⟨0, _, prs, rfl, Nat.zero_le _, hid ⟨HN3.out.1, HN3.out.2.1, by rw [HN3.out.2.2]; exact (List.append_nil _).symm⟩, HX⟩
      case round =>
        clear HX HN3
        obtain ⟨m, wv, prs, rfl, hm', HN, HX⟩ := hrel
        by_cases hml : m < ms.length
        · obtain ⟨q, hq⟩ : ∃ q, ms[m]? = some q := ⟨_, List.getElem?_eq_getElem hml⟩
          obtain ⟨b, o, rfl, d1⟩ := HMC.out m q hq
          have hX := HX.out
          have hbs := hX.be.size
          replace d1 := cell_low d1 hX.be (cell_block d1)
          have hown := hX.r
          rw [HN.out.2.1] at hown
          obtain ⟨wp, wc, rfl⟩ := row_shape hown
          have z1 := cell_at hX.bx (j := 1) rfl
          have hne3 := row_ne hown hX.bx (by decide)
          have hl5 := block_lt hX.bx
          have hlb := cell_block d1
          obtain ⟨j0, hj, hj0, hj1, hj2⟩ := info_parts infoEvent_
          have HN2 : Hid (us.length = es.length ∧ ∀ u, (prs ++ [((⟨3, [], [], q⟩ : EvP), u)]).length = es.length + (m + 1) ∧ (prs ++ [((⟨3, [], [], q⟩ : EvP), u)]).map Prod.fst = es ++ moreEvents (ms.take (m + 1))) :=
            hid ⟨HN.out.1, fun u => ⟨by rw [List.length_append, HN.out.2.1]; rfl, by rw [List.map_append, HN.out.2.2, List.take_add_one, hq]; unfold moreEvents; rw [List.map_append, List.append_assoc]; rfl⟩⟩
          have HPR := hid HN.out.2.1
          have hfl : es.length + m ≤ 4000000 := by omega
          clear hX HN hq
          go_wp2_with fail
          go_region_law (refine step_append_lies _ rfl (.tmp 48) (.tmp 54) 26 rfl w.heap.size 44 j0 (.agg #[.int .i64 0, .string ⟨#[]⟩, .slice none 0 0, .string ⟨#[]⟩]) 4 64 Tryz.underlying26 hj hj0 hj1 hj2 rfl (by decide) (.slice wp (es.length + m) wc) (es.length + m) (ecells prs) (by simp [Act.eval]) (by exact hown.alloc _) ⟨_, 0, none⟩ 1 1 [.int .i64 3, .string ⟨#[]⟩, .slice none 0 0, .string (bs q)] (by simp [Act.eval]) rfl (cells_newV _ _ _) (by simp [Value.oneCell']) (by omega) (by unfold maxLen; omega) (by omega) (by simp; omega) _ rfl ?_; rintro g cap w10 hrow10 hgrow10 - -; have hb10 := grown_at (v := .slice wp (es.length + m) wc) (by exact hgrow10) ((Go.Lib.alloc_old _ _ _ (block_lt HX.out.drew.bx)).trans HX.out.drew.bx) hne3; have ce10 := cell_at (j := 1) hb10 rfl; have fe10 := free_at hb10 1)
          all_goals
            have hG4 := HX.out.drew.ev (x := (⟨3, [], [], q⟩, .slice none 0 0)) (v' := .slice (some ⟨g, 0, none⟩) (es.length + m + 1) cap) lndTEvents (.inl ⟨rfl, rfl⟩) (by exact hgrow10) (by rw [List.length_append, HPR.out, ecells_app]; exact hrow10)
            have HG4 := hid hG4
            clear hG4 hb10 ce10 fe10 hrow10 hgrow10
            go_wp2
            go_roundw
            case rel => exact ⟨m + 1, _, _, rfl, by omega, hid ⟨HN2.out.1, HN2.out.2 _⟩, HG4⟩
            case measure => simp [RowKit.intOf]; omega
        · obtain rfl : m = ms.length := by omega
          have hN3 := HN.out
          rw [List.take_length] at hN3
          have HN3 := hid hN3
          have hX := HX.out
          have hown := hX.r
          rw [hN3.2.1] at hown
          obtain ⟨wp, wc, rfl⟩ := row_shape hown
          obtain ⟨ap, ac, rfl⟩ := row_shape hX.a
          have hcr : es.length ≤ wc := by have := (row_cap hown).2; omega
          have z1 := cell_at hX.bx (j := 1) rfl
          have y0 := free_at hX.bx 0
          have z0 := cell_at hX.bx (j := 0) rfl
          have hB0 := hid hX.b0
          have hBX := hid hX.bx
          have hj := just_put (j := 0) (cs2 := #[.slice wp es.length wc, .slice wp (es.length + ms.length) wc, .slice ap us.length ac]) hX.bx (.slice wp es.length wc) (by simp)
          -- the answer's box, the list's box
          have hb0j := (hj.other w.heap.size (by omega)).trans hX.b0
          have hk8 := three_put hb0j (p0 := .slice wp es.length wc) (p1 := .slice wp (es.length + ms.length) wc) (p2 := .slice ap us.length ac)
          have hbl8 : Below w.heap.size w (((((wr.setCell ⟨w.heap.size + 1, 0, none⟩ (.slice wp es.length wc)).setCell ⟨w.heap.size, 0, none⟩ (.slice wp es.length wc)).setCell ⟨w.heap.size, 1, none⟩ (.slice wp (es.length + ms.length) wc)).setCell ⟨w.heap.size, 2, none⟩ (.slice ap us.length ac))) :=
            (hX.be.trans (just_low hj (by omega))).trans (just_low hk8 (by omega))
          have hrr := ((hX.lst.just lndTEvents hX.bx hj).just lndTEvents hb0j hk8).lent hN3.2.2 hN3.1
          have HF := hid (And.intro hk8.at_ (And.intro hrr hbl8))
          have hatj := hj.at_
          clear hX hk8 hbl8 hrr HX hN3 HN hb0j hown
          have HJ := hid (And.intro hatj hj.other)
          clear hatj hj
          go_upto_region 17 with fail
          have hb0j := (HJ.out.2 w.heap.size (by omega)).trans hB0.out
          have hatj := HJ.out.1
          obtain ⟨W5, hW5⟩ : ∃ W5, wr.setCell ⟨w.heap.size + 1, 0, none⟩ (.slice wp es.length wc) = W5 := ⟨_, rfl⟩
          simp only [hW5] at HF hb0j hatj ⊢
          clear hW5 y0 z0 z1 HJ hB0 hBX
          have z0 := cell_at hatj (j := 0) rfl
          have z1 := cell_at hatj (j := 1) rfl
          have z2 := cell_at hatj (j := 2) rfl
          have x0 := cell_at hb0j (j := 0) rfl
          have x1 := cell_at hb0j (j := 1) rfl
          have x2 := cell_at hb0j (j := 2) rfl
          have y0 := free_at hb0j 0
          have y1 := free_at hb0j 1
          have y2 := free_at hb0j 2
          clear hb0j hatj
          go_wp2_with fail
          obtain ⟨hat8, hl8, hb8⟩ := HF.out
          obtain ⟨W8, hW8⟩ : ∃ W8, ((W5.setCell ⟨w.heap.size, 0, none⟩ (.slice wp es.length wc)).setCell ⟨w.heap.size, 1, none⟩ (.slice wp (es.length + ms.length) wc)).setCell ⟨w.heap.size, 2, none⟩ (.slice ap us.length ac) = W8 := ⟨_, rfl⟩
          simp only [hW8] at hat8 hl8 hb8 ⊢
          clear hW8
          refine bodyPost_ret (v := .agg #[.slice wp es.length wc, .slice wp (es.length + ms.length) wc, .slice ap us.length ac]) ?_ rfl ⟨_, rfl, hl8, hb8⟩
          exact results_cell_row rfl _ _ _ _ _ _ _ rfl hat8 Tryz.underlying34 rfl (by kernel_rfl)

set_option maxHeartbeats 4000000 in
set_option maxRecDepth 100000 in
theorem keptEvents_any (v ev mv : Value) (es : List EvP) (ms : List (List UInt8)) (w : World) (hlt : LentE w v es (moreEvents ms) (namesA ms)) (h : EvsR w ev es) (hM : Words w mv ms) (hl : es.length ≤ 2000000) (ha : ∀ e ∈ es, e.a.length ≤ 2000000) (hm : ms.length ≤ 2000000) :
    Calls Tryz.prog 10 #[v, ev, mv] w fun e w' => e = .returned (.bool true) ∧ Below w.heap.size w w' := by
  obtain ⟨vf, vw, va, rfl, l1, l2, l3⟩ := hlt
  obtain ⟨f1, f2, f3, rfl⟩ := l1.shape
  obtain ⟨w1, w2, w3, rfl⟩ := l2.shape
  obtain ⟨a1, a2, a3, rfl⟩ := l3.shape
  obtain ⟨W0, hW0⟩ : ∃ W0, w.alloc (.cells #[.slice f1 f2 f3, .slice w1 w2 w3, .slice a1 a2 a3] 34) = W0 := ⟨_, rfl⟩
  have hB : Below w.heap.size w W0 := by rw [← hW0]; exact (Below.refl w.heap.size w).alloc (Nat.le_refl _) _
  have b0 : W0.heap[w.heap.size]? = some (.cells #[.slice f1 f2 f3, .slice w1 w2 w3, .slice a1 a2 a3] 34 (0, 0)) := by rw [← hW0]; exact heap_alloc_new w _
  have hlend := lendEvents_any ev mv es ms W0 (h.below hB) (hM.below hB) hl ha hm
  have HL := hid hlend
  have HB := hid (And.intro hB b0)
  have HM := hid (And.intro l2 l3)
  obtain ⟨e1, e2, e3, rfl⟩ := h.shape
  obtain ⟨m1, m2, m3, rfl⟩ := hM.shape
  clear hlend h hM l1 l2 l3 hB b0
  go_enter Tryz.func10, Tryz.ntmps10
  go_upto_region 1 with fail
  clear hW0
  go_wp2_with fail
  refine HL.out.mono ?_
  rintro e W1 ⟨v', rfl, hl', hb1⟩
  obtain ⟨vf, vw, va, rfl, l1, l2, l3⟩ := hl'
  obtain ⟨bf1, bf2, bf3, rfl⟩ := l1.shape
  obtain ⟨bw1, bw2, bw3, rfl⟩ := l2.shape
  obtain ⟨ba1, ba2, ba3, rfl⟩ := l3.shape
  have HL2 := hid (And.intro l2 l3)
  clear l1 l2 l3
  go_upto_region 2 with fail
  have hB0 := HB.out.1
  have hu2 : Below W1.heap.size W1 (W1.alloc (.cells #[.slice bf1 bf2 bf3, .slice bw1 bw2 bw3, .slice ba1 ba2 ba3] 34)) := (Below.refl _ _).alloc (Nat.le_refl _) _
  have hb2 := (hB0.trans (hb1.mono hB0.size)).trans (hu2.mono (Nat.le_trans hB0.size hb1.size))
  have ha2 := (hu2.block _ (Nat.lt_of_lt_of_le (block_lt HB.out.2) hb1.size)).trans ((hb1.block _ (block_lt HB.out.2)).trans HB.out.2)
  have hc2 := heap_alloc_new W1 (.cells #[.slice bf1 bf2 bf3, .slice bw1 bw2 bw3, .slice ba1 ba2 ba3] 34)
  obtain ⟨W2, hW2⟩ : ∃ W2, W1.alloc (.cells #[.slice bf1 bf2 bf3, .slice bw1 bw2 bw3, .slice ba1 ba2 ba3] 34) = W2 := ⟨_, rfl⟩
  simp only [hW2] at hb2 hu2 ha2 hc2 ⊢
  have se := fun n => sameEventsR_any (.slice w1 w2 w3) (.slice bw1 bw2 bw3) (es ++ moreEvents ms) (W2.drewN n) ((HM.out.1.below hb2).drewN n) ((HL2.out.1.below hu2).drewN n)
  have sl := fun n => sameLists_any (.slice a1 a2 a3) (.slice ba1 ba2 ba3) (es.map fun e => e.a ++ namesA ms) (W2.drewN n) ((HM.out.2.below hb2).drewN n) ((HL2.out.2.below hu2).drewN n)
  have SE := hid se
  have SL := hid sl
  have HF := hid hb2
  have z1 := cell_at ha2 (j := 1) rfl
  have z2 := cell_at ha2 (j := 2) rfl
  have x1 := cell_at hc2 (j := 1) rfl
  have x2 := cell_at hc2 (j := 2) rfl
  clear se sl hB0 hb2 hu2 ha2 hc2 hW2 hb1 HB HL HL2 HM
  go_wp2_with fail
  refine (SE.out 0).mono ?_
  rintro e W3 ⟨rfl, n3, rfl⟩
  go_wp2_with fail
  refine (SL.out _).mono ?_
  rintro e W4 ⟨rfl, n4, rfl⟩
  go_wp2_with fail
  go_ret
  exact ⟨rfl, ⟨HF.out.os, HF.out.tape, HF.out.output, HF.out.size, HF.out.block⟩⟩
end Go.Proofs.YtkcgmimldjeaiaaGreatDoor
