/-
  Parts of the walk, joined: RefWrB.
-/
import Derived.Test.YtcncbhbdpcpkeaaGreatDoorPJAW
/-
  The reference's opener, eats, feedAhead, Write, tagFits: their walks.
-/
namespace Go.Proofs.YtcncbhbdpcpkeaaGreatDoor
open Go.RowKit Go.Lib Own

theorem refEatsW_any (x : ByteArray) (w : World) : Calls Tryz.prog 94 #[.string x] w fun e w' => e = .returned (.bool (eatsL x.toList)) ∧ w' = w := by
  unfold eatsL
  by_cases h1 : (x.toList == [112, 114, 101]) = true
  · rw [h1, Bool.true_or]
    go_enter Tryz.func94, Tryz.ntmps94
    go_wp2
    go_ret
    exact ⟨rfl, rfl⟩
  · rw [Bool.not_eq_true] at h1
    rw [h1, Bool.false_or]
    obtain ⟨R, hR⟩ : ∃ R, (x.toList == [116, 101, 120, 116, 97, 114, 101, 97]) = R := ⟨_, rfl⟩
    rw [hR]
    go_enter Tryz.func94, Tryz.ntmps94
    go_wp2
    go_ret
    exact ⟨rfl, rfl⟩
theorem attr_eq (a : AttrP) : (⟨#[32]⟩ : ByteArray) ++ bs a.1 ++ ⟨#[61, 34]⟩ ++ bs (escL true a.2) ++ ⟨#[34]⟩ = bs (attrL a) := by
  rw [show (⟨#[32]⟩ : ByteArray) = bs [32] from rfl, show (⟨#[61, 34]⟩ : ByteArray) = bs [61, 34] from rfl, show (⟨#[34]⟩ : ByteArray) = bs [34] from rfl, bs_cat, bs_cat, bs_cat, bs_cat]
  rfl
/-- the text of bytes in a row that may be marked -/
theorem own_textN (W : World) (g cap : Nat) (l : List UInt8) (h : ownsN W 5 g l.length cap (byteCells l)) :
    (convert 65 9 (.slice (some ⟨g, 0, none⟩) l.length cap)).run Tryz.prog W = .ok (.string (bs l)) W := by
  refine run_convert_bytes_back W 65 9 5 ⟨g, 0, none⟩ cap l Tryz.underlying65 Tryz.underlying5 Tryz.underlying9 (fun j hj => ?_)
  have hadd : (⟨g, 0, none⟩ : Addr).add j = ⟨g, j, none⟩ := by unfold Addr.add; split <;> simp_all
  rw [hadd, h.cell j hj]
  simp [byteCells, hj]
theorem ownsN_cat {W : World} {g cap : Nat} {a L : List UInt8} {S : ByteArray} (hS : bs L = S) (h : ownsN W 5 g (a.length + S.size) cap (byteCells a ++ strCells S)) : ownsN W 5 g (a ++ L).length cap (byteCells (a ++ L)) := by
  subst hS
  rw [List.length_append, Lib.byteCells_append]
  rw [bs_size, show strCells (bs L) = byteCells L from strCells_byte _] at h
  exact h

set_option maxHeartbeats 4000000 in
set_option maxRecDepth 100000 in
theorem refOpener_any (e : EvP) (u : Value) (w : World) (hu : AttrsR w u e.a) (hs : e.n.length + bulkA e.a ≤ 3000000) :
    Calls Tryz.prog 93 #[.agg (evC e u)] w fun r w' => r = .returned (.string (bs (openL e.n e.a))) ∧ Below w.heap.size w w' := by
  obtain ⟨p, c, rfl, hl, hcm, hcell, _⟩ := hu
  have hlen := attrs_len e.a
  have hal := bulkA_len e.a
  obtain ⟨R, hR⟩ : ∃ R, [60] ++ e.n ++ e.a.flatMap attrL = R := ⟨_, rfl⟩
  have hRl : R.length ≤ 20000000 := by rw [← hR]; simp only [List.length_append, List.length_cons, List.length_nil]; omega
  have ho : openL e.n e.a = R ++ [62] := by unfold openL; rw [hR]
  rw [ho]
  have HR := hid (fun (_ : True) => hR)
  have HC := hid hcell
  have HB := hid hs
  have HRL := hid hRl
  have hb1 := (Below.refl w.heap.size w).alloc (Nat.le_refl _) (.cells (evC e (.slice p e.a.length c)) 60)
  have hn1 := heap_alloc_new w (.cells (evC e (.slice p e.a.length c)) 60)
  obtain ⟨W1, hW1⟩ : ∃ W1, w.alloc (.cells (evC e (.slice p e.a.length c)) 60) = W1 := ⟨_, rfl⟩
  have hsz1 : W1.heap.size = w.heap.size + 1 := by rw [← hW1]; simp
  rw [hW1] at hb1 hn1
  obtain ⟨c0, c1, c2, c3⟩ := evC_at hn1
  have hbc : ∀ S, Below w.heap.size W1 (bytesWorld W1 5 S) := fun S => ⟨rfl, rfl, rfl, by rw [bytesWorld_size]; omega, fun k hk => bytesWorld_at_old W1 5 S k (by omega)⟩
  have hold := fun S => bytesWorld_at_old W1 5 S w.heap.size (by omega)
  have hN := fun S hS => ownsN_bytes W1 5 S hS
  have hst : (⟨#[60]⟩ : ByteArray) ++ bs e.n = bs ([60] ++ e.n) := by rw [show (⟨#[60]⟩ : ByteArray) = bs [60] from rfl, bs_cat]
  obtain ⟨S0, hS0⟩ : ∃ S0, bs ([60] ++ e.n) = S0 := ⟨_, rfl⟩
  have hS0l : S0.size = ([60] ++ e.n).length := by rw [← hS0, bs_size]
  rw [hS0] at hst
  have hS0m : S0.size ≤ maxLen := by rw [hS0l]; simp only [List.length_append, List.length_cons, List.length_nil]; unfold maxLen; omega
  have hconv := Go.Lib.run_convert_string_bytes (P := Tryz.prog) W1 9 65 5 S0 Tryz.underlying9 Tryz.underlying65 Tryz.underlying5
  have hN0 := hN S0 hS0m
  have hbw0 := hb1.trans (hbc S0)
  have hev0 := (hold S0).trans hn1
  have hzz := bytesWorld_size W1 5 S0
  generalize bytesWorld W1 5 S0 = W2 at hconv hN0 hbw0 hev0 hzz
  generalize grownCap W1 S0.size 0 5 = cap at hconv hN0
  have hN1 : ownsN W2 5 W1.heap.size ([60] ++ e.n).length cap (byteCells ([60] ++ e.n)) := by
    rw [← hS0l, show byteCells ([60] ++ e.n) = strCells S0 by rw [← hS0]; exact (strCells_byte (bs ([60] ++ e.n))).symm]
    exact hN0
  have hX0 := hid (And.intro hN1 (And.intro (show w.heap.size < W1.heap.size by omega) (And.intro hbw0 hev0)))
  have HST := hid hst
  rw [hS0l] at hconv
  obtain ⟨n0, hn0⟩ : ∃ n0, ([60] ++ e.n).length = n0 := ⟨_, rfl⟩
  rw [hn0] at hconv
  have HN0 := hid (fun (_ : True) => hn0)
  obtain ⟨i0, hi, hz0, hz1, hz2⟩ := info_parts info_u8
  unfold evC at hW1 ⊢
  clear hcell hs hlen hR ho hRl hb1 hn1 hbc hold hN hst hS0 hS0l hS0m hN0 hbw0 hev0 hN1 hn0
  go_enter Tryz.func93, Tryz.ntmps93
  have hst := HST.out
  obtain ⟨Sn, hSn⟩ : ∃ Sn, bs e.n = Sn := ⟨_, rfl⟩
  have hSz : Sn.size ≤ 3000000 := by have := HB.out; rw [← hSn, bs_size]; omega
  unfold evC at hX0
  simp only [hSn] at hX0 hst c1 hW1 ⊢
  clear hSn
  go_wp2_with fail
  clear hst hconv hzz c0 c1 c3
  go_loopw [3, 4] (fun bv iv wr => ∃ (k g cap : Nat) (acc : List UInt8), iv = .int .i64 k ∧ k ≤ e.a.length ∧ bv = .slice (some ⟨g, 0, none⟩) acc.length cap ∧ Hid (ownsN wr 5 g acc.length cap (byteCells acc) ∧ w.heap.size < g ∧ Below w.heap.size w wr ∧ wr.heap[w.heap.size]? = some (.cells #[.int .i64 e.k, .string Sn, .slice p e.a.length c, .string (bs e.t)] 60 (0, 0))) ∧ Hid (True → acc ++ (e.a.drop k).flatMap attrL = R)) (fun _ iv _ => e.a.length - (RowKit.intOf iv).toNat)
  case atStart => exact ⟨0, w.heap.size + 1, cap, [60] ++ e.n, rfl, Nat.zero_le _, by rw [HN0.out trivial], by rw [← hsz1]; exact hX0, HR⟩
  case round =>
    obtain ⟨k, g, cap2, acc, rfl, hk, rfl, HX, HK⟩ := hrel
    clear hX0 HN0 HST hW1 hsz1 c2
    have c2 := cell_at HX.out.2.2.2 (j := 2) rfl
    by_cases hkl : k < e.a.length
    · obtain ⟨a, ha⟩ : ∃ a, e.a[k]? = some a := ⟨_, List.getElem?_eq_getElem hkl⟩
      obtain ⟨b, o, rfl, hc1, hc2⟩ := HC.out k a ha
      replace hc1 := cell_low hc1 HX.out.2.2.1 (cell_block hc1)
      replace hc2 := cell_low hc2 HX.out.2.2.1 (cell_block hc2)
      have hab := bulkA_get ha
      have hd := HK.out trivial
      rw [drop_at ha, List.flatMap_cons] at hd
      have hdl := congrArg List.length hd
      have hRl := HRL.out
      have hBl := HB.out
      simp only [List.length_append] at hdl
      have hal2 : acc.length + (attrL a).length ≤ 20000000 := by omega
      have hes := fun W => refEscaped_any (bs a.2) true W (by rw [bs_size]; omega)
      rw [bs_data] at hes
      have hst := attr_eq a
      obtain ⟨E, hE⟩ : ∃ E, bs (escL true a.2) = E := ⟨_, rfl⟩
      obtain ⟨S1, hS1⟩ : ∃ S, bs a.1 = S := ⟨_, rfl⟩
      obtain ⟨S2, hS2⟩ : ∃ S, bs a.2 = S := ⟨_, rfl⟩
      obtain ⟨S3, hS3⟩ : ∃ S, bs (attrL a) = S := ⟨_, rfl⟩
      have hS3l : S3.size = (attrL a).length := by rw [← hS3, bs_size]
      have hEz : E.size ≤ 20000000 := by rw [← hE, bs_size]; have := esc_len true _ a.2 (Nat.le_refl _); omega
      have hS1z : S1.size ≤ 3000000 := by rw [← hS1, bs_size]; omega
      rw [hE, hS1, hS3] at hst
      rw [hS2, hE] at hes
      rw [hS1] at hc1
      rw [hS2] at hc2
      have HS3 := hid hS3
      have HES := hid hes
      have HST := hid hst
      have HD := hid (fun (_ : True) => (by rw [List.append_assoc]; exact hd : (acc ++ attrL a) ++ (e.a.drop (k + 1)).flatMap attrL = R))
      have HAL := hid (show acc.length + S3.size ≤ 140737488355328 by omega)
      clear hes hst hE hS1 hS2 hS3 hS3l hd hdl hRl hBl hal2 hab ha HK HR
      go_wp2_with fail
      refine (HES.out _).mono ?_
      rintro r W3 ⟨rfl, b3⟩
      have hn3 := (b3.block _ (block_lt HX.out.2.2.2)).trans HX.out.2.2.2
      have hN3 := HX.out.1.kept (b3.block g HX.out.1.lt)
      have hb3 := HX.out.2.2.1.trans (b3.mono HX.out.2.2.1.size)
      have hlt3 := HX.out.2.1
      replace c2 := cell_at hn3 (j := 2) rfl
      replace hc1 := cell_low hc1 b3 (cell_block hc1)
      have HX3 := hid (And.intro hN3 (And.intro hlt3 (And.intro hb3 hn3)))
      have hst := HST.out
      clear hn3 hb3 hlt3 HX b3 hc2
      go_wp2_with (at_builtin; refine wpList_append_marked _ rfl (.tmp 24) (.tmp 35) 65 9 rfl 5 i0 Tryz.underlying65 Tryz.underlying9 hi hz0 hz1 hz2 g acc.length cap2 (byteCells acc) rfl (by exact hN3) S3 rfl HAL.out ?_)
      intro g' cap' w' ho4 hg4 hor
      have ho5 := ownsN_cat HS3.out ho4
      have hl4 : acc.length + S3.size = (acc ++ attrL a).length := by rw [List.length_append, ← HS3.out, bs_size]
      obtain ⟨m1, m2, m3, m4⟩ := HX3.out
      have hb5 : Below w.heap.size w w' := m3.trans ⟨hg4.os, hg4.tape, hg4.output, hg4.size, fun k hk => hg4.block k (Nat.lt_of_lt_of_le hk m3.size) (fun h => by cases h; omega)⟩
      have hn5 := (hg4.block w.heap.size (block_lt m4) (fun h => by cases h; omega)).trans m4
      have hlt5 : w.heap.size < g' := by have := block_lt m4; rcases hor with h | h <;> omega
      have HZ := hid (And.intro ho5 (And.intro hlt5 (And.intro hb5 hn5)))
      have HL4 := hid (fun (_ : True) => hl4)
      clear ho4 ho5 hg4 hor m1 m2 m3 m4 hb5 hn5 hlt5 hl4 hN3 hst HX3 c2 hc1
      go_wp2
      go_roundw
      case rel => exact ⟨k + 1, g', cap', acc ++ attrL a, rfl, by omega, by rw [← HL4.out trivial], HZ, HD⟩
      case measure => simp [RowKit.intOf]; omega
    · obtain rfl : acc = R := by
        have := HK.out trivial
        rw [List.drop_of_length_le (by omega)] at this
        rwa [List.flatMap_nil, List.append_nil] at this
      have ht := own_textN wr g cap2 acc HX.out.1
      have hz : bs acc ++ (⟨#[62]⟩ : ByteArray) = bs (acc ++ [62]) := by rw [show (⟨#[62]⟩ : ByteArray) = bs [62] from rfl, bs_cat]
      obtain ⟨Z, hZ⟩ : ∃ Z, bs (acc ++ [62]) = Z := ⟨_, rfl⟩
      have hYz : (bs acc).size ≤ 20000000 := by rw [bs_size]; exact HRL.out
      obtain ⟨Y, hY⟩ : ∃ Y, bs acc = Y := ⟨_, rfl⟩
      rw [hZ, hY] at hz
      rw [hY] at ht hYz
      have HZZ := hid hZ
      clear hY hZ
      clear HK HR HC HB HRL
      go_wp2
      go_ret
      exact ⟨ret_txt HZZ.out.symm, HX.out.2.2.1⟩

/-! ## what comes next -/

/-- is the next thing a text that begins with a newline? -/
def nlAhead : List EvP → Bool
  | [] => false
  | e :: r => if e.k = 1 ∨ e.k = 2 then false else if e.k = 3 ∧ e.t ≠ [] then e.t.head? == some 10 else nlAhead r
/-- one event, written with an eye on what comes next -/
def pieceR (e : EvP) (r : List EvP) : List UInt8 :=
  if e.k = 1 then openL e.n e.a ++ (if eatsL e.n = true ∧ nlAhead r = true then [10] else []) else if e.k = 2 then etagL e.n else if e.k = 3 then escL false e.t else []
def writeR : List EvP → List UInt8
  | [] => []
  | e :: r => pieceR e r ++ writeR r
theorem esc_nil (q : Bool) : escL q [] = [] := by rw [escL]
theorem nl_cons (e : EvP) (r : List EvP) : nlAhead (e :: r) = if e.k = 1 ∨ e.k = 2 then false else if e.k = 3 ∧ e.t ≠ [] then e.t.head? == some 10 else nlAhead r := rfl
theorem nl_tag (e : EvP) (r : List EvP) (h : e.k = 1 ∨ e.k = 2) : nlAhead (e :: r) = false := by rw [nl_cons, if_pos h]
theorem nl_text (e : EvP) (r : List EvP) (h : e.k = 3) (h4 : e.t ≠ []) : nlAhead (e :: r) = (e.t.head? == some 10) := by rw [nl_cons, if_neg (by omega), if_pos ⟨h, h4⟩]
theorem nl_pass (e : EvP) (r : List EvP) (h1 : e.k ≠ 1) (h2 : e.k ≠ 2) (h3 : ¬ (e.k = 3 ∧ e.t ≠ [])) : nlAhead (e :: r) = nlAhead r := by rw [nl_cons, if_neg (fun h => h.elim h1 h2), if_neg h3]
theorem writeW_R : ∀ (es : List EvP) (eat : Bool), writeW eat es = (if eat = true ∧ nlAhead es = true then [10] else []) ++ writeR es
  | [], eat => by
    rw [if_neg (fun h => by cases h.2)]
    rfl
  | e :: r, eat => by
    have ih := writeW_R r
    show (takeW eat e).2 ++ writeW (takeW eat e).1 r = (if eat = true ∧ nlAhead (e :: r) = true then [10] else []) ++ (pieceR e r ++ writeR r)
    unfold takeW pieceR
    by_cases h1 : e.k = 1
    · rw [if_pos h1, if_pos h1, nl_tag e r (.inl h1), if_neg (show ¬ (eat = true ∧ false = true) from fun h => by cases h.2), List.nil_append, List.append_assoc]
      simp only
      rw [ih]
    rw [if_neg h1, if_neg h1]
    by_cases h2 : e.k = 2
    · rw [if_pos h2, if_pos h2, nl_tag e r (.inr h2), if_neg (show ¬ (eat = true ∧ false = true) from fun h => by cases h.2), List.nil_append]
      simp only
      rw [ih, if_neg (show ¬ (false = true ∧ nlAhead r = true) from fun h => by cases h.1), List.nil_append]
    rw [if_neg h2, if_neg h2]
    by_cases h3 : e.k = 3
    · rw [if_pos h3, if_pos h3]
      unfold textW
      by_cases h4 : e.t = []
      · rw [if_pos h4, nl_pass e r h1 h2 (fun h => h.2 h4), h4, esc_nil]
        simp only [List.nil_append]
        exact ih eat
      · rw [if_neg h4, nl_text e r h3 h4]
        simp only
        rw [ih, if_neg (show ¬ (false = true ∧ nlAhead r = true) from fun h => by cases h.1), List.nil_append, List.append_assoc]
        congr 1
        simp only [beq_iff_eq]
    · rw [if_neg h3, if_neg h3, nl_pass e r h1 h2 (fun h => h3 h.1)]
      simp only [List.nil_append]
      exact ih eat
theorem writeW_false (es : List EvP) : writeW false es = writeR es := by rw [writeW_R, if_neg (fun h => by cases h.1), List.nil_append]
theorem int_ne {a b : Int} (h : a ≠ b) : (a == b) = false := beq_eq_false_iff_ne.2 h

set_option maxHeartbeats 4000000 in
set_option maxRecDepth 100000 in
theorem feedAhead_any (ev : Value) (es : List EvP) (i : Nat) (w : World) (h : EvsR w ev es) (hi : i < es.length) (ht : ∀ e ∈ es, e.t.length ≤ 100000000) :
    Calls Tryz.prog 95 #[ev, .int .i64 i] w fun r w' => r = .returned (.bool (nlAhead (es.drop (i + 1)))) ∧ w' = w := by
  obtain ⟨p, c, rfl, _, _, hcell⟩ := h
  have HC := hid hcell
  have HT := hid ht
  obtain ⟨R, hR⟩ : ∃ R, nlAhead (es.drop (i + 1)) = R := ⟨_, rfl⟩
  have HR := hid (fun (_ : True) => hR)
  rw [hR]
  clear hcell hR ht
  go_enter Tryz.func95, Tryz.ntmps95
  go_wp2
  go_loopw [5] (fun iv wr => ∃ k : Nat, iv = .int .i64 k ∧ k ≤ es.length ∧ wr = w ∧ Hid (True → nlAhead (es.drop k) = R)) (fun iv _ => es.length - (RowKit.intOf iv).toNat)
  case atStart => exact ⟨i + 1, rfl, by omega, rfl, HR⟩
  case round =>
    obtain ⟨k, rfl, hk, rfl, HK⟩ := hrel
    by_cases hkl : k < es.length
    · obtain ⟨e, he⟩ : ∃ e, es[k]? = some e := ⟨_, List.getElem?_eq_getElem hkl⟩
      obtain ⟨b, o, u, rfl, q0, q1, q2, q3, q4⟩ := HC.out k e he
      have hd := HK.out trivial
      have htl := HT.out e (List.mem_of_getElem? he)
      rw [drop_at he, nl_cons] at hd
      clear q1 q2 q4 he HR HK HC HT
      by_cases h1 : e.k = 1
      · rw [if_pos (.inl h1)] at hd
        rw [h1] at q0
        subst hd
        go_wp2
        go_ret
        exact ⟨rfl, rfl⟩
      by_cases h2 : e.k = 2
      · rw [if_pos (.inr h2)] at hd
        rw [h2] at q0
        subst hd
        go_wp2
        go_ret
        exact ⟨rfl, rfl⟩
      rw [if_neg (fun h => h.elim h1 h2)] at hd
      have n1 := int_ne h1
      have n2 := int_ne h2
      obtain ⟨T, hT⟩ : ∃ T, bs e.t = T := ⟨_, rfl⟩
      have hTz : T.size = e.t.length := by rw [← hT, bs_size]
      have hTL : T.toList = e.t := by rw [← hT, bs_toList]
      rw [hT] at q3
      by_cases h3 : e.k = 3
      · rw [h3] at q0
        by_cases h4 : e.t = []
        · rw [if_neg (fun h => h.2 h4)] at hd
          have q : (T.toList != []) = false := by rw [hTL, h4]; rfl
          have qe : T.toList.isEmpty = true := by rw [hTL, h4]; rfl
          have HD := hid (fun (_ : True) => hd)
          clear hd hT hTz hTL h1 h2 h3 h4 n1 n2 htl
          go_wp2
          go_roundw
          case rel => exact ⟨k + 1, rfl, by omega, by first | rfl | trivial, HD⟩
          case measure => simp [RowKit.intOf]; omega
        · rw [if_pos ⟨h3, h4⟩] at hd
          have q : (T.toList != []) = true := by rw [hTL]; exact bne_iff_ne.2 h4
          have qe : T.toList.isEmpty = false := by rw [hTL]; cases hh : e.t with | nil => exact absurd hh h4 | cons x y => rfl
          have hp : 0 < T.size := by rw [hTz]; exact List.length_pos_iff.2 h4
          obtain ⟨x, hx⟩ : ∃ x, T[0]'hp = x := ⟨_, rfl⟩
          have hxl := getElem_list hp hx
          rw [← Lib.toList_data, hTL] at hxl
          rw [List.head?_eq_getElem?, hxl] at hd
          have hTb : T.size ≤ 100000000 := by omega
          by_cases h5 : x = 10
          · subst h5
            have : R = true := by rw [← hd]; rfl
            subst this
            clear hd hT hTz hTL h1 h2 h3 h4 n1 n2 htl hxl
            go_wp2
            go_ret
            exact ⟨rfl, rfl⟩
          · have : R = false := by rw [← hd]; simpa using h5
            subst this
            have q5 : ((x.toNat : Int) == 10) = false := byte_ne 10 h5
            clear hd hT hTz hTL h1 h2 h3 h4 n1 n2 htl hxl h5
            go_wp2
            go_ret
            exact ⟨rfl, rfl⟩
      · rw [if_neg (fun h => h3 h.1)] at hd
        have n3 := int_ne h3
        have HD := hid (fun (_ : True) => hd)
        clear hd hT hTz hTL h1 h2 h3 htl q3
        go_wp2
        go_roundw
        case rel => exact ⟨k + 1, rfl, by omega, by first | rfl | trivial, HD⟩
        case measure => simp [RowKit.intOf]; omega
    · have hd := HK.out trivial
      rw [List.drop_of_length_le (by omega)] at hd
      obtain rfl : false = R := hd
      clear HK HC HR HT
      go_wp2
      go_ret
      exact ⟨rfl, rfl⟩
end Go.Proofs.YtcncbhbdpcpkeaaGreatDoor
