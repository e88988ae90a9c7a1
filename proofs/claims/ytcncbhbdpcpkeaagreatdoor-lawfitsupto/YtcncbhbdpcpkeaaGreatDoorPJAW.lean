/-
  Parts of the walk, joined: LinkAny, RefWrA.
-/
import Derived.Lib.RuneCountTail
import Derived.Shelf.Strings.IndexAnyAll
import Derived.Test.YtcncbhbdpcpkeaaGreatDoorPJAU
import Derived.Test.YtcncbhbdpcpkeaaGreatDoorPJAV
import Derived.Test.YtcncbhbdpcpkeaaGreatDoorPJAH
/-
  strings.IndexAny at the four marks of a link, at every text: its walk.
-/
namespace Go.Proofs.YtcncbhbdpcpkeaaGreatDoor
open Go.RowKit Go.Lib Own

/-- where the first mark lies; -1: nowhere -/
def markN (L : List UInt8) : Nat := (L.takeWhile fun c => !markT.contains c).length
def markIx (L : List UInt8) : Int := if markN L < L.length then (markN L : Int) else -1
theorem markN_is {L : List UInt8} {k : Nat} (h : ∀ j c, j < k → L[j]? = some c → markT.contains c = false) (h2 : ∀ c, L[k]? = some c → markT.contains c = true) (hk : k ≤ L.length) : markN L = k := by
  induction L generalizing k with
  | nil => simp at hk; subst hk; rfl
  | cons c r ih =>
    unfold markN
    cases k with
    | zero =>
      have := h2 c rfl
      rw [List.takeWhile_cons, this]
      rfl
    | succ k =>
      have := h 0 c (by omega) rfl
      rw [List.takeWhile_cons, this]
      simp only [Bool.not_false, if_true, List.length_cons]
      have := ih (k := k) (fun j d hj hd => h (j + 1) d (by omega) (by rw [List.getElem?_cons_succ]; exact hd)) (fun d hd => h2 d (by rw [List.getElem?_cons_succ]; exact hd)) (by simpa using hk)
      unfold markN at this
      rw [this]
theorem markIx_hit {L : List UInt8} {k : Nat} {c : UInt8} (h : ∀ j c, j < k → L[j]? = some c → markT.contains c = false) (hc : L[k]? = some c) (h2 : markT.contains c = true) : markIx L = k := by
  have hl := (List.getElem?_eq_some_iff.1 hc).1
  have hn := markN_is h (fun d hd => by obtain rfl := Option.some.inj (hc.symm.trans hd); exact h2) (by omega)
  unfold markIx
  rw [hn, if_pos hl]
theorem markIx_none {L : List UInt8} (h : ∀ j c, j < L.length → L[j]? = some c → markT.contains c = false) : markIx L = -1 := by
  have hn := markN_is (k := L.length) h (fun d hd => by have := (List.getElem?_eq_some_iff.1 hd).1; omega) (Nat.le_refl _)
  unfold markIx
  rw [hn, if_neg (by omega)]
theorem markN_all (L : List UInt8) : ∀ j c, j < markN L → L[j]? = some c → markT.contains c = false := by
  induction L with
  | nil => intro j c _ h; simp at h
  | cons d r ih =>
    intro j c hj hc
    unfold markN at hj
    rw [List.takeWhile_cons] at hj
    cases hd : markT.contains d with
    | true => rw [hd] at hj; simp at hj
    | false =>
      rw [hd] at hj
      simp only [Bool.not_false, if_true, List.length_cons] at hj
      cases j with
      | zero =>
        simp only [List.getElem?_cons_zero, Option.some.injEq] at hc
        rw [← hc]; exact hd
      | succ j =>
        rw [List.getElem?_cons_succ] at hc
        exact ih j c (by unfold markN; omega) hc
theorem markN_at (L : List UInt8) (c : UInt8) (h : L[markN L]? = some c) : markT.contains c = true := by
  induction L with
  | nil => simp at h
  | cons d r ih =>
    unfold markN at h
    rw [List.takeWhile_cons] at h
    cases hd : markT.contains d with
    | true =>
      rw [hd] at h
      simp only [Bool.not_true, Bool.false_eq_true, if_false, List.length_nil, List.getElem?_cons_zero, Option.some.injEq] at h
      rw [← h]; exact hd
    | false =>
      rw [hd] at h
      simp only [Bool.not_false, if_true, List.length_cons, List.getElem?_cons_succ] at h
      exact ih h
theorem markN_le (L : List UInt8) : markN L ≤ L.length := (List.takeWhile_prefix (p := fun c => !markT.contains c) (l := L)).length_le
theorem indexAny_mark (L : List UInt8) : Lib.indexAny L marksB.data.toList = markIx L := by
  show Lib.indexAny L markT = _
  unfold markIx
  split
  · rename_i h
    obtain ⟨c, hc⟩ : ∃ c, L[markN L]? = some c := ⟨_, List.getElem?_eq_getElem h⟩
    exact Lib.indexAny_hit (fun j b hj hb => markN_all L j b hj hb) hc (markN_at L c hc)
  · rename_i h
    have hl := markN_le L
    refine Lib.indexAny_none (fun j b hj hb => markN_all L j b (by omega) hb)

theorem iterAt_at {W : World} {k : Nat} {o : Obj} (h : W.heap[k]? = some o) {s : ByteArray} (p : Nat) : (W.iterAt k s p).heap[k]? = some (.stringIter s p) := by
  have := block_lt h
  simp [World.iterAt, this]
theorem iterAt_below {w W : World} {k : Nat} (h : Below k w W) (s : ByteArray) (p : Nat) : Below k w (W.iterAt k s p) := by
  refine ⟨h.os, h.tape, h.output, by simpa [World.iterAt] using h.size, fun j hj => ?_⟩
  rw [← h.block j hj]
  have : k ≠ j := by omega
  simp [World.iterAt, this]

set_option maxHeartbeats 4000000 in
set_option maxRecDepth 100000 in
theorem idxAny_short (s : ByteArray) (w : World) (hs : s.size ≤ 8) :
    Calls Tryz.prog 292 #[.string s, .string marksB] w fun e w' => e = .returned (.int .i64 (markIx s.data.toList)) ∧ Below w.heap.size w w' := by
  have hz := size_eq s
  have h8z : ¬ ((s.size : Int) > 8) := by omega
  have hsu : ∀ W, Calls Tryz.prog 294 #[.int .i64 (s.size : Int)] W fun e w' => e = .returned (.bool false) ∧ w' = W := fun W => by
    have h8 : decide ((8 : Int) < (s.size : Int)) = false := decide_eq_false (by omega)
    clear hz
    go_enter Tryz.func294, Tryz.ntmps294
    go_wp2_with fail
    go_ret
    exact ⟨rfl, rfl⟩
  have HSU := hid hsu
  have HZ := hid hz
  clear hsu hz h8z
  have hB0 := (Below.refl w.heap.size w)
  unfold marksB
  go_enter Tryz.func292, Tryz.ntmps292
  go_wp2_with fail
  refine (HSU.out _).mono ?_
  rintro e w1 ⟨rfl, rfl⟩
  go_wp2_with fail
  go_loopg [4, 9, 10] s.size (fun g _ _ _ wx => ∃ i : Nat, i ≤ s.size ∧ s.size ≤ i + g ∧ Hid (Below w1.heap.size w1 wx ∧ wx.heap[w1.heap.size]? = some (.stringIter s i)) ∧ Hid (∀ j c, j < i → s.data.toList[j]? = some c → markT.contains c = false))
  case atStart => exact ⟨0, Nat.zero_le _, by omega, ⟨(Below.refl _ w1).alloc (Nat.le_refl _) _, heap_alloc_new w1 _⟩, fun j c h => absurd h (Nat.not_lt_zero _)⟩
  case round =>
    obtain ⟨i, hi, hg, HX, HK⟩ := hrel
    by_cases hil : i < s.size
    · obtain ⟨x, hx⟩ : ∃ x, s[i]'hil = x := ⟨_, rfl⟩
      have hxl := getElem_list hil hx
      by_cases h128 : x.toNat < 128
      · have hnx := fun ty => Lib.run_next_ascii_at (P := Tryz.prog) wr w1.heap.size s i ty HX.out.2 hil (by rw [hx]; exact h128)
        rw [hx] at hnx
        have hri := fun W => Tryz.strings_IndexRune_ascii marksB (x.toNat : Int) W (by omega) (by omega)
        have hback : ((x.toNat : Int)).toNat.toUInt8 = x := by simp
        rw [hback] at hri
        have hcon := Lib.contains_iff_indexByte markT x
        rw [show marksB.data.toList = markT from rfl] at hri
        have hit : (wr.iterAt w1.heap.size s (i + 1)).heap[w1.heap.size]? = some (.stringIter s (i + 1)) := iterAt_at HX.out.2 _
        have hbi : Below w1.heap.size w1 (wr.iterAt w1.heap.size s (i + 1)) := iterAt_below HX.out.1 s (i + 1)
        have HI := hid (And.intro hbi hit)
        have hmk : ∀ b, markT.contains x = b → (b = true → markIx s.data.toList = i) ∧ (b = false → ∀ j c, j < i + 1 → s.data.toList[j]? = some c → markT.contains c = false) := fun b hb => ⟨fun h => markIx_hit HK.out hxl (hb.trans h), fun h j c hj hc => by
          by_cases e : j = i
          · subst e
            obtain rfl := Option.some.inj (hxl.symm.trans hc)
            exact hb.trans h
          · exact HK.out j c (by omega) hc⟩
        have HMK := hid (hmk _ rfl)
        generalize markT.contains x = b at hcon HMK
        generalize Lib.indexByte markT x = z at hri hcon
        unfold marksB at hri
        have HRI := hid hri
        clear hri hback hmk hbi hit hxl HX HK
        cases b
        · have hz : ¬ (0 : Int) ≤ z := of_decide_eq_false hcon.symm
          have HN := hid (HMK.out.2 rfl)
          clear hcon HMK
          go_wp2_with (go_at_call 270; refine (HRI.out _).mono ?_; rintro e w' ⟨rfl, rfl⟩)
          go_roundg (gk - 1)
          case measure => omega
          case rel => exact ⟨i + 1, by omega, by omega, HI, HN⟩
        · have hz : (0 : Int) ≤ z := of_decide_eq_true hcon.symm
          have hR := HMK.out.1 rfl
          clear hcon HMK
          go_wp2_with (go_at_call 270; refine (HRI.out _).mono ?_; rintro e w' ⟨rfl, rfl⟩)
          go_ret
          exact ⟨ret_i64 hR.symm, HI.out.1⟩
      · obtain ⟨n, hn⟩ : ∃ n, (Utf8.decode s i).2 = n := ⟨_, rfl⟩
        obtain ⟨c, hc⟩ : ∃ c, (Utf8.decode s i).1 = c := ⟨_, rfl⟩
        have hnx := fun ty => Lib.run_next_any_at (P := Tryz.prog) wr w1.heap.size s i ty HX.out.2 hil
        have hd := decode_high s i hil (by rw [hx]; omega)
        have hdc := decode_cont s i hil (by rw [hx]; omega)
        have hle := Lib.rune_le s i
        have hvr : ¬ (55296 ≤ c ∧ c ≤ 57343) := by
          have h1 := Lib.rune_valid (s.extract i s.size)
          rw [Lib.tail_decode, Nat.add_zero, hc] at h1
          unfold Lib.validRune at h1
          have := of_decide_eq_true h1
          omega
        rw [hc] at hd hle
        rw [hn] at hd hdc
        rw [hn, hc] at hnx
        obtain ⟨hlast, _⟩ := hdc (n - 1) (by omega)
        have hno : ∀ j c, j < i + n → s.data.toList[j]? = some c → markT.contains c = false := fun j d hj hdd => by
          by_cases e : j < i
          · exact HK.out j d e hdd
          · obtain ⟨hk2, hge⟩ := hdc (j - i) (by omega)
            have hjs : j < s.size := by omega
            have h3 := getElem_list hjs rfl
            obtain rfl := Option.some.inj (h3.symm.trans hdd)
            have hge2 : 128 ≤ (s[j]'hjs).toNat := by
              have e2 : i + (j - i) = j := by omega
              simp only [e2] at hge
              exact hge
            rw [Bool.eq_false_iff]
            intro h4
            have h5 := List.contains_iff_mem.1 h4
            simp only [markT, List.mem_cons, List.not_mem_nil, or_false] at h5
            rcases h5 with h5 | h5 | h5 | h5 <;> rw [h5] at hge2 <;> exact absurd hge2 (by decide)
        have hit : (wr.iterAt w1.heap.size s (i + n)).heap[w1.heap.size]? = some (.stringIter s (i + n)) := iterAt_at HX.out.2 _
        have hbi : Below w1.heap.size w1 (wr.iterAt w1.heap.size s (i + n)) := iterAt_below HX.out.1 s (i + n)
        have HI := hid (And.intro hbi hit)
        have hri : ∀ W, Calls Tryz.prog 270 #[.string marksB, .int .i32 (c : Int)] W fun e w' => e = .returned (.int .i64 (-1)) ∧ Below W.heap.size W w' := fun W => by
          by_cases h3 : c = 65533
          · subst h3; exact idxRune_bad W
          · exact idxRune_high (c : Int) W (by omega) (by omega) (by omega) (by omega)
        unfold marksB at hri
        have HRI := hid hri
        have HN := hid hno
        clear hri hno hdc hbi hit hxl HX HK hvr hn hc
        go_wp2_with (go_at_call 270; refine (HRI.out _).mono ?_; rintro e w5 ⟨rfl, b5⟩)
        have HZ2 := hid (And.intro (HI.out.1.trans (b5.mono HI.out.1.size)) ((b5.block _ (block_lt HI.out.2)).trans HI.out.2))
        clear b5 HI HRI
        go_roundg (gk - 1)
        case measure => omega
        case rel => exact ⟨i + n, by omega, by omega, HZ2, HN⟩
    · have hR := markIx_none (L := s.data.toList) (fun j c hj hc => HK.out j c (by rw [← HZ.out] at hj; omega) hc)
      have hnx := fun ty => Lib.run_next_end_at (P := Tryz.prog) wr w1.heap.size s i ty HX.out.2 hil
      have HB := hid HX.out.1
      clear HX HK HZ
      go_wp2_with fail
      go_ret
      exact ⟨ret_i64 hR.symm, HB.out⟩
end Go.Proofs.YtcncbhbdpcpkeaaGreatDoor

/-
  The reference's written, escaped: their walks.
-/
namespace Go.Proofs.YtcncbhbdpcpkeaaGreatDoor
open Go.RowKit Go.Lib Own

/-- one sign as it is written, and how many bytes it has -/
def wr1 (q : Bool) : List UInt8 → List UInt8 × Nat
  | [] => ([], 1)
  | c :: r => if c = 38 then (ampE, 1) else if c = 60 then (ltE, 1) else if c = 62 then (gtE, 1) else if c = 34 ∧ q = true then (quotE, 1) else if c = 194 ∧ r.head? = some 160 then (nbspE, 2) else ([c], 1)
theorem wr1_cons (q : Bool) (c : UInt8) (r : List UInt8) : wr1 q (c :: r) = if c = 38 then (ampE, 1) else if c = 60 then (ltE, 1) else if c = 62 then (gtE, 1) else if c = 34 ∧ q = true then (quotE, 1) else if c = 194 ∧ r.head? = some 160 then (nbspE, 2) else ([c], 1) := rfl
theorem esc_wr (q : Bool) (c : UInt8) (r : List UInt8) : escL q (c :: r) = (wr1 q (c :: r)).1 ++ escL q ((c :: r).drop (wr1 q (c :: r)).2) ∧ 1 ≤ (wr1 q (c :: r)).2 ∧ (wr1 q (c :: r)).2 ≤ (c :: r).length ∧ (wr1 q (c :: r)).1.length ≤ 6 := by
  rw [escL, wr1_cons]
  unfold esc1
  by_cases h1 : c = 38
  · subst h1
    rw [if_neg (fun h => absurd h.1 (by decide)), if_pos rfl, if_pos rfl]
    exact ⟨rfl, Nat.le_refl _, by simp, by decide⟩
  by_cases h2 : c = 60
  · subst h2
    rw [if_neg (fun h => absurd h.1 (by decide)), if_neg (by decide), if_pos rfl, if_neg (by decide), if_pos rfl]
    exact ⟨rfl, Nat.le_refl _, by simp, by decide⟩
  by_cases h3 : c = 62
  · subst h3
    rw [if_neg (fun h => absurd h.1 (by decide)), if_neg (by decide), if_neg (by decide), if_pos rfl, if_neg (by decide), if_neg (by decide), if_pos rfl]
    exact ⟨rfl, Nat.le_refl _, by simp, by decide⟩
  rw [if_neg h1, if_neg h1, if_neg h2, if_neg h2, if_neg h3, if_neg h3]
  by_cases h4 : c = 34 ∧ q = true
  · obtain ⟨rfl, rfl⟩ := h4
    rw [if_neg (fun h => absurd h.1 (by decide)), if_pos ⟨rfl, rfl⟩, if_pos ⟨rfl, rfl⟩]
    exact ⟨rfl, Nat.le_refl _, by simp, by decide⟩
  rw [if_neg h4, if_neg (show ¬ (q = true ∧ c = 34) from fun h => h4 ⟨h.2, h.1⟩)]
  by_cases h5 : c = 194 ∧ r.head? = some 160
  · rw [if_pos h5, if_pos h5]
    refine ⟨rfl, by simp, ?_, by decide⟩
    cases r with
    | nil => cases h5.2
    | cons d t => simp
  · rw [if_neg h5, if_neg h5]
    exact ⟨rfl, Nat.le_refl _, by simp, by simp⟩
theorem ret_pair {a b : ByteArray} {n m : Int} (h : a = b) (k : n = m) : Ending.returned (.tuple #[.string a, .int .i64 n]) = .returned (.tuple #[.string b, .int .i64 m]) := by rw [h, k]
theorem byte_ne {c : UInt8} (d : UInt8) (h : c ≠ d) : ((c.toNat : Int) == (d.toNat : Int)) = false := by
  refine beq_eq_false_iff_ne.2 (fun e => h (UInt8.toNat_inj.1 ?_))
  omega
theorem extract_one (s : ByteArray) (i : Nat) (c : UInt8) (h : s.data.toList[i]? = some c) : s.extract i (i + 1) = bs [c] := by
  apply ByteArray.ext
  apply Array.ext'
  rw [ByteArray.data_extract, Array.toList_extract]
  obtain ⟨h1, h2⟩ := List.getElem?_eq_some_iff.1 h
  show (s.data.toList.drop i).take (i + 1 - i) = [c]
  rw [show i + 1 - i = 1 by omega, List.drop_eq_getElem_cons h1, h2]
  rfl

set_option maxHeartbeats 4000000 in
set_option maxRecDepth 100000 in
theorem refWritten_any (s : ByteArray) (i : Nat) (q : Bool) (w : World) (hi : i < s.size) (hs : s.size ≤ 4000000) :
    Calls Tryz.prog 160 #[.string s, .int .i64 i, .bool q] w fun e w' => e = .returned (.tuple #[.string (bs (wr1 q (s.data.toList.drop i)).1), .int .i64 ((wr1 q (s.data.toList.drop i)).2 : Nat)]) ∧ w' = w := by
  obtain ⟨c, hc⟩ : ∃ c, s[i] = c := ⟨_, rfl⟩
  have hl := getElem_list hi hc
  have hd := drop_at hl
  rw [hd, wr1_cons]
  by_cases h1 : c = 38
  · subst h1
    rw [if_pos rfl]
    clear hl hd
    go_enter Tryz.func160, Tryz.ntmps160
    go_wp2
    go_ret2
    exact ⟨rfl, rfl⟩
  by_cases h2 : c = 60
  · subst h2
    rw [if_neg (by decide), if_pos rfl]
    clear hl hd h1
    go_enter Tryz.func160, Tryz.ntmps160
    go_wp2
    go_ret2
    exact ⟨rfl, rfl⟩
  by_cases h3 : c = 62
  · subst h3
    rw [if_neg (by decide), if_neg (by decide), if_pos rfl]
    clear hl hd h1 h2
    go_enter Tryz.func160, Tryz.ntmps160
    go_wp2
    go_ret2
    exact ⟨rfl, rfl⟩
  have q1 : ((c.toNat : Int) == 38) = false := byte_ne 38 h1
  have q2 : ((c.toNat : Int) == 60) = false := byte_ne 60 h2
  have q3 : ((c.toNat : Int) == 62) = false := byte_ne 62 h3
  rw [if_neg h1, if_neg h2, if_neg h3]
  by_cases h4 : c = 34
  · subst h4
    cases q
    · rw [if_neg (fun h => by cases h.2), if_neg (fun h => absurd h.1 (by decide))]
      have hx := extract_one s i 34 hl
      have HX := hid hx
      clear hl hd h1 h2 h3 hx
      go_enter Tryz.func160, Tryz.ntmps160
      go_wp2
      go_ret2
      exact ⟨ret_pair HX.out rfl, rfl⟩
    · rw [if_pos ⟨rfl, rfl⟩]
      clear hl hd h1 h2 h3
      go_enter Tryz.func160, Tryz.ntmps160
      go_wp2
      go_ret2
      exact ⟨rfl, rfl⟩
  have q4 : ((c.toNat : Int) == 34) = false := byte_ne 34 h4
  rw [if_neg (fun h => h4 h.1)]
  have hx := extract_one s i c hl
  have HX := hid hx
  clear hx
  by_cases h5 : c = 194
  · by_cases h6 : i + 1 < s.size
    · obtain ⟨d, hd2⟩ : ∃ d, s[i + 1] = d := ⟨_, rfl⟩
      have hl2 := getElem_list h6 hd2
      have hh : (s.data.toList.drop (i + 1)).head? = some d := by rw [List.head?_drop]; exact hl2
      rw [hh]
      by_cases h7 : d = 160
      · rw [if_pos ⟨h5, by rw [h7]⟩]
        subst h5
        subst h7
        clear hl hd hl2 hh h1 h2 h3 h4
        go_enter Tryz.func160, Tryz.ntmps160
        go_wp2
        go_ret2
        exact ⟨rfl, rfl⟩
      · rw [if_neg (fun h => h7 (Option.some.inj h.2))]
        have q7 : ((d.toNat : Int) == 160) = false := byte_ne 160 h7
        subst h5
        clear hl hd hl2 hh h1 h2 h3 h4 h7
        go_enter Tryz.func160, Tryz.ntmps160
        go_wp2
        go_ret2
        exact ⟨ret_pair HX.out rfl, rfl⟩
    · have hh : (s.data.toList.drop (i + 1)).head? = none := by rw [List.head?_drop]; exact List.getElem?_eq_none (by rw [← size_eq]; omega)
      rw [hh, if_neg (fun h => by cases h.2)]
      subst h5
      clear hl hd hh h1 h2 h3 h4
      go_enter Tryz.func160, Tryz.ntmps160
      go_wp2
      go_ret2
      exact ⟨ret_pair HX.out rfl, rfl⟩
  · have q5 : ((c.toNat : Int) == 194) = false := byte_ne 194 h5
    rw [if_neg (fun h => h5 h.1)]
    clear hl hd h1 h2 h3 h4 h5
    go_enter Tryz.func160, Tryz.ntmps160
    go_wp2
    go_ret2
    exact ⟨ret_pair HX.out rfl, rfl⟩

/-- the text of bytes that the call owns, marked or not -/
theorem own_textF (W : World) (base : Nat) (v : Value) (l : List UInt8) (h : W.ownsRowF base 5 1 v l.length (byteCells l)) :
    (convert 65 9 v).run Tryz.prog W = .ok (.string (bs l)) W := by
  obtain ⟨hl, h2⟩ := h
  rcases h2 with ⟨rfl, h0⟩ | ⟨g, cap, cur, fz, rfl, _, hg, _, hc, hm, hz, ht⟩
  · have : l = [] := List.eq_nil_of_length_eq_zero h0
    subst this
    exact nil_text W
  · refine run_convert_bytes_back W 65 9 5 ⟨g, 0, none⟩ cap l Tryz.underlying65 Tryz.underlying5 Tryz.underlying9 (fun j hj => ?_)
    have hadd : (⟨g, 0, none⟩ : Addr).add j = ⟨g, j, none⟩ := by unfold Addr.add; split <;> simp_all
    rw [hadd]
    have h3 : cur[j]? = (byteCells l)[j]? := by
      rw [← ht, List.getElem?_take, if_pos (by omega), Array.getElem?_toList]
    simp [World.cell?, hg, h3, byteCells, hj]

theorem row_shapeF {W : World} {base : Nat} {e : TypeId} {size n : Nat} {v : Value} {xs : List Value} (h : W.ownsRowF base e size v n xs) : ∃ p c, v = .slice p n c := by
  rcases h.2 with ⟨rfl, rfl⟩ | ⟨g, cap, cur, fz, rfl, _⟩
  · exact ⟨_, _, rfl⟩
  · exact ⟨_, _, rfl⟩
set_option maxHeartbeats 4000000 in
set_option maxRecDepth 100000 in
theorem refEscaped_any (s : ByteArray) (q : Bool) (w : World) (hs : s.size ≤ 4000000) :
    Calls Tryz.prog 96 #[.string s, .bool q] w fun e w' => e = .returned (.string (bs (escL q s.data.toList))) ∧ Below w.heap.size w w' := by
  obtain ⟨R, hR⟩ : ∃ R, escL q s.data.toList = R := ⟨_, rfl⟩
  rw [hR]
  have hRl : R.length ≤ 24000000 := by rw [← hR]; have := esc_len q _ s.data.toList (Nat.le_refl _); rw [← size_eq] at this; omega
  have HR : Hid (True → [] ++ escL q (s.data.toList.drop 0) = R) := fun _ => hR
  have hw := fun i hi W => refWritten_any s i q W hi hs
  have HW := hid hw
  obtain ⟨i0, hi, hz0, hz1, hz2⟩ := info_parts info_u8
  clear hw hR
  go_enter Tryz.func96, Tryz.ntmps96
  go_wp2
  go_loopw [5, 6] (fun bv iv wr => ∃ (k : Nat) (acc : List UInt8), iv = .int .i64 k ∧ k ≤ s.size ∧ Hid (wr.ownsRowF w.heap.size 5 1 bv acc.length (byteCells acc) ∧ Below w.heap.size w wr) ∧ Hid (True → acc ++ escL q (s.data.toList.drop k) = R)) (fun _ iv _ => s.size - (RowKit.intOf iv).toNat)
  case atStart => exact ⟨0, [], rfl, Nat.zero_le _, hid ⟨World.ownsRowF_of (World.ownsRow_nil _ _ _ _), Below.refl _ _⟩, HR⟩
  case round =>
    obtain ⟨k, acc, rfl, hk, HX, HK⟩ := hrel
    obtain ⟨bp, bc, rfl⟩ := row_shapeF HX.out.1
    by_cases hkl : k < s.size
    · obtain ⟨c, hc⟩ : ∃ c, s.data.toList[k]? = some c := ⟨_, List.getElem?_eq_getElem (by rw [← size_eq]; exact hkl)⟩
      have hd := drop_at hc
      have hst := HK.out trivial
      have hcall := HW.out k hkl
      have hsz := size_eq s
      have hdl : (s.data.toList.drop k).length = s.size - k := by rw [List.length_drop, ← hsz]
      rw [hd] at hst hcall hdl
      obtain ⟨e1, e2, e3, e4⟩ := esc_wr q c (s.data.toList.drop (k + 1))
      rw [e1, ← hd] at hst
      rw [← hd] at e2 e3 e4 hcall hdl
      generalize wr1 q (s.data.toList.drop k) = p at hst hcall e2 e3 e4
      obtain ⟨p1, p2⟩ := p
      simp only at hst hcall e2 e3 e4
      rw [List.drop_drop] at hst
      have hal : acc.length ≤ 24000000 := by have := congrArg List.length hst; simp only [List.length_append] at this; omega
      have HS := hid (fun (_ : True) => (by rw [List.append_assoc]; exact hst : (acc ++ p1) ++ escL q (s.data.toList.drop (k + p2)) = R))
      have HC := hid hcall
      have hkp : k + p2 ≤ s.size := by rw [hdl] at e3; omega
      obtain ⟨S, hS⟩ : ∃ S, bs p1 = S := ⟨_, rfl⟩
      have hSz : S.size = p1.length := by rw [← hS, bs_size]
      rw [hS] at HC
      have HSS := hid hS
      clear hst hcall hd hc e1 e3 hdl hS HR HW HK hsz
      go_wp2_with fail
      refine (HC.out _).mono ?_
      rintro e w' ⟨rfl, rfl⟩
      have hown := HX.out.1
      have hbw := HX.out.2
      have hbs := hbw.size
      go_wp2_with (at_builtin; refine Lib.wpList_append_own_stringF _ rfl _ _ 65 9 rfl w.heap.size 5 i0 Tryz.underlying65 Tryz.underlying9 hi hz0 hz1 hz2 _ _ _ rfl hown S rfl (by unfold maxLen; omega) (by omega) hbs ?_)
      intro v' w2 hown2 hgrow _
      have hZ : w2.ownsRowF w.heap.size 5 1 v' (acc ++ p1).length (byteCells (acc ++ p1)) := by
        rw [List.length_append, Lib.byteCells_append]
        have : strCells S = byteCells p1 := by rw [← HSS.out]; exact strCells_byte _
        rw [← this]
        exact hown2
      have hbw2 := hbw.grown hgrow hbs (fun k hk => (hown.lt k hk).1)
      have HZ := hid (And.intro hZ hbw2)
      clear hZ hbw2 hown2 hgrow hown hbw HX
      go_wp2
      go_roundw
      case rel => exact ⟨k + p2, acc ++ p1, by go_num, hkp, HZ, HS⟩
      case measure => simp [RowKit.intOf]; omega
    · obtain rfl : acc = R := by
        have := HK.out trivial
        rw [List.drop_of_length_le (by rw [← size_eq]; omega)] at this
        rwa [show escL q [] = [] by rw [escL], List.append_nil] at this
      have ht := own_textF wr _ _ acc HX.out.1
      clear HK HR HW
      go_wp2
      go_ret
      exact ⟨rfl, HX.out.2⟩
end Go.Proofs.YtcncbhbdpcpkeaaGreatDoor
