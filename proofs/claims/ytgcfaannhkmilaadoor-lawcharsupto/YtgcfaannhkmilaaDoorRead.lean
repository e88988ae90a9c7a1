/-
  scrubref.readBytes: its walk: the text, what is left over, and the CR.
-/
import Derived.Test.YtgcfaannhkmilaaDoorStop
import Derived.Test.YtgcfaannhkmilaaDoorDecode
namespace Go.Proofs.YtgcfaannhkmilaaDoor
open Go.RowKit Go.Lib

theorem info_u8 : (Tryd.prog.info? 5).map (fun i => (i.zero, i.size, i.bytes)) = some (some (.int .u8 0), 1, 1) := by kernel_rfl

theorem nil_text (W : World) : (convert 33 9 (.slice none 0 0)).run Tryd.prog W = .ok (.string ⟨#[]⟩) W := by
  rw [run_convert_bytes_string W 33 9 5 none 0 0 Tryd.underlying33 Tryd.underlying5 Tryd.underlying9]
  rfl
/-- the text of bytes that the call owns -/
theorem own_text (W : World) (base : Nat) (v : Value) (l : List UInt8) (h : W.ownsRow base 5 1 v l.length (byteCells l)) :
    (convert 33 9 v).run Tryd.prog W = .ok (.string ⟨l.toArray⟩) W := by
  rcases h.2 with ⟨rfl, h0⟩ | ⟨g, cap, cur, rfl, _⟩
  · have : l = [] := List.eq_nil_of_length_eq_zero h0
    subst this
    exact nil_text W
  · exact run_convert_bytes_back W 33 9 5 ⟨g, 0, none⟩ cap l Tryd.underlying33 Tryd.underlying5 Tryd.underlying9 (fun j hj => by
      have hadd : (⟨g, 0, none⟩ : Addr).add j = ⟨g, j, none⟩ := by unfold Addr.add; split <;> simp_all
      rw [hadd, h.cellAt j (by omega)]
      simp [byteCells, hj])
theorem four_full (l : List UInt8) (h : 4 ≤ l.length) : fullL l = true := by
  unfold fullL fullN
  rw [decide_eq_true_iff]
  rcases firstT_cases (l.getD 0 0).toNat with hX | hX | hX | hX | hX | hX | hX | hX | hX
  all_goals (rw [hX]; omega)
theorem charL_dec (l : List UInt8) : charL l = if decodeL l = (65533, 1) then (0, 0) else decodeL l := by
  unfold charL charN
  rw [← decodeL_N]

theorem step_char {s : ByteArray} {pos c n : Nat} (hd : Utf8.decode s pos = (c, n)) : ¬ (55296 ≤ c ∧ c ≤ 57343) := by
  rw [decode_N] at hd
  have e := congrArg Prod.fst hd
  simp only at e
  have l0 := (s.data.toList.getD pos 0).toNat_lt
  have l1 := (s.data.toList.getD (pos + 1) 0).toNat_lt
  subst e
  unfold decodeN
  repeat' split
  all_goals dsimp only
  all_goals omega
theorem cells_len (L : List UInt8) : (byteCells L).length = L.length * 1 := by simp [byteCells]
theorem cells_new (L : List UInt8) (W : World) : ∀ j u, (byteCells L)[j]? = some u → (W.alloc (.cells (byteCells L).toArray 5)).cell? ((⟨W.heap.size, 0, none⟩ : Addr).add j) = some u := by
  intro j u hj
  have hadd : (⟨W.heap.size, 0, none⟩ : Addr).add j = ⟨W.heap.size, j, none⟩ := by unfold Addr.add; split <;> simp_all
  rw [hadd]
  have hb := heap_alloc_new W (.cells (byteCells L).toArray 5)
  unfold World.cell?
  rw [hb]
  simp [hj]
theorem own_cat {W : World} {base : Nat} {v : Value} {a L : List UInt8} (h : W.ownsRow base 5 1 v (a.length + L.length) (byteCells a ++ byteCells L)) : W.ownsRow base 5 1 v (a ++ L).length (byteCells (a ++ L)) := by
  rw [byteCells_append, List.length_append]; exact h

set_option maxHeartbeats 8000000 in
set_option maxRecDepth 100000 in
theorem read_true (s : ByteArray) (cr : Bool) (w : World) (hs : s.size ≤ 10000000) :
    Calls Tryd.prog 11 #[.string s, .bool cr, .bool true] w fun e w' =>
      e = .returned (.tuple #[.string ⟨(rd false cr s.data.toList).1.toArray⟩, .string ⟨(rd false cr s.data.toList).2.1.toArray⟩, .bool (rd false cr s.data.toList).2.2]) ∧ Below w.heap.size w w' := by
  obtain ⟨i0, hi, hz0, hz1, hz2⟩ := info_parts info_u8
  obtain ⟨R, hR⟩ : ∃ R, rd false cr s.data.toList = R := ⟨_, rfl⟩
  rw [hR]
  have HR : Hid (rd false cr s.data.toList = R) := hR
  clear hR
  obtain ⟨R1, R2, R3⟩ := R
  go_enter Tryd.func11, Tryd.ntmps11
  go_wp2
  go_loopw [1, 9, 10] (fun crv bv iv wr => ∃ (pos : Nat) (acc : List UInt8) (cr1 : Bool), crv = .bool cr1 ∧ iv = .int .i64 pos ∧ wr.ownsRow w.heap.size 5 1 bv acc.length (byteCells acc) ∧ Below w.heap.size w wr ∧ Hid ((acc ++ (rd false cr1 (s.data.toList.drop pos)).1, (rd false cr1 (s.data.toList.drop pos)).2) = (R1, R2, R3)) ∧ acc.length ≤ 4 * pos ∧ pos ≤ s.size) (fun _ _ iv _ => s.size - (RowKit.intOf iv).toNat)
  case atStart => exact ⟨0, [], cr, rfl, rfl, World.ownsRow_nil _ _ _ _, Below.refl _ _, HR.out, by simp, Nat.zero_le _⟩
  case round =>

    obtain ⟨pos, acc, cr1, rfl, rfl, hown, hbw, HA, hal, hps⟩ := hrel
    by_cases hp : pos < s.size
    · obtain ⟨c, n, hd⟩ : ∃ c n, Utf8.decode s pos = (c, n) := ⟨_, _, rfl⟩
      obtain ⟨hw1, hw2, hw3⟩ := step_width hd hp
      have hex : (s.extract pos s.size).data.toList = s.data.toList.drop pos := Lib.extract_to_end s pos
      have hxz : (s.extract pos s.size).size = s.size - pos := by rw [size_eq, hex, List.length_drop, ← size_eq]
      have hch := fun W => char_walk (s.extract pos s.size) W (by omega) (by omega)
      rw [hex, charL_dec, decodeL_drop, hd] at hch
      have HA2 : Hid _ := step_rel hd hp rfl HA.out
      have hd0 := keep hd
      clear hd HA hex hxz
      by_cases hinv : (c, n) = (65533, 1)
      · rw [if_pos hinv] at hch
        obtain ⟨rfl, rfl⟩ := Prod.mk.inj hinv
        have HC := hid hch
        clear hch hinv
        go_wp2_with fail
        refine (HC.out _).mono ?_
        rintro e W1 ⟨rfl, b1⟩
        have hown1 := hown.kept (row := none) ⟨b1.os, b1.tape, b1.output, b1.size, fun k hk _ => b1.block k hk⟩ (Classical.em _)
        have hbw1 := hbw.trans (b1.mono hbw.size)
        have hg : goodB 65533 = true := by decide
        clear b1 hown hbw HC
        cases cr1
        · skip
          have HU := keep ((show unitL false 65533 = encodeRune 65533 from by decide))
          rw [HU.out] at HA2
          have hll : (encodeRune 65533).length ≤ 4 := by simp only [encodeRune, List.length_map]; exact (encodeRuneZ_length 65533).2
          obtain ⟨L, hL⟩ : ∃ L, encodeRune 65533 = L := ⟨_, rfl⟩
          have henc := fun W => encode_any 65533 (by omega) (by omega) (by omega) W
          rw [hL] at henc hll HA2
          have HE := keep henc
          have hA1 := keep (cells_len L)
          have hA2 := keep (cells_new L)
          have hA3 := keep (byteCells_one L)
          have hA4 := keep (show acc.length + L.length ≤ maxLen by unfold maxLen; omega)
          have hA5 := keep (show (acc.length + L.length) * 1 ≤ 140737488355328 by omega)
          have hlt := hown1.lt
          have hbs := hbw1.size
          clear henc hL HU
          go_wp2_with (first | (go_at_call 20; refine (refGood_any _ (by omega) (by omega) _).mono ?_; rintro e w' ⟨rfl, rfl⟩) | (go_at_call 21; fail))
          refine (HE.out _).mono ?_
          rintro e w' ⟨rfl, rfl⟩
          go_wp2_with (at_builtin; refine wpList_append_own _ rfl (.tmp 64) (.tmp 65) 33 rfl w.heap.size 5 i0 (.int .u8 0) 1 1 Tryd.underlying33 hi hz0 hz1 hz2 rfl (by decide) _ _ _ rfl (hown1.alloc _) ⟨_, 0, none⟩ L.length L.length (byteCells L) rfl hA1.out (hA2.out _) hA3.out hA4.out hA5.out ?_ ?_)
          · simp; omega
          · intro v' w2 hown2 hgrow _
            have hbw2 := (hbw1.alloc hbs _).grown hgrow (by simp; omega) (fun k hk => (hlt k hk).1)
            have hown3 := own_cat hown2
            clear hown2 hgrow hbw1 hown1 hlt hbs
            go_wp2
            go_roundw
            case rel => exact ⟨pos + 1, acc ++ L, false, rfl, by go_num, hown3, hbw2, HA2.out, by simp; omega, hw2⟩
            case measure => simp [RowKit.intOf]; omega
        · skip
          have HU := keep ((show unitL true 65533 = encodeRune 65533 from by decide))
          rw [HU.out] at HA2
          have hll : (encodeRune 65533).length ≤ 4 := by simp only [encodeRune, List.length_map]; exact (encodeRuneZ_length 65533).2
          obtain ⟨L, hL⟩ : ∃ L, encodeRune 65533 = L := ⟨_, rfl⟩
          have henc := fun W => encode_any 65533 (by omega) (by omega) (by omega) W
          rw [hL] at henc hll HA2
          have HE := keep henc
          have hA1 := keep (cells_len L)
          have hA2 := keep (cells_new L)
          have hA3 := keep (byteCells_one L)
          have hA4 := keep (show acc.length + L.length ≤ maxLen by unfold maxLen; omega)
          have hA5 := keep (show (acc.length + L.length) * 1 ≤ 140737488355328 by omega)
          have hlt := hown1.lt
          have hbs := hbw1.size
          clear henc hL HU
          go_wp2_with (first | (go_at_call 20; refine (refGood_any _ (by omega) (by omega) _).mono ?_; rintro e w' ⟨rfl, rfl⟩) | (go_at_call 21; fail))
          refine (HE.out _).mono ?_
          rintro e w' ⟨rfl, rfl⟩
          go_wp2_with (at_builtin; refine wpList_append_own _ rfl (.tmp 64) (.tmp 65) 33 rfl w.heap.size 5 i0 (.int .u8 0) 1 1 Tryd.underlying33 hi hz0 hz1 hz2 rfl (by decide) _ _ _ rfl (hown1.alloc _) ⟨_, 0, none⟩ L.length L.length (byteCells L) rfl hA1.out (hA2.out _) hA3.out hA4.out hA5.out ?_ ?_)
          · simp; omega
          · intro v' w2 hown2 hgrow _
            have hbw2 := (hbw1.alloc hbs _).grown hgrow (by simp; omega) (fun k hk => (hlt k hk).1)
            have hown3 := own_cat hown2
            clear hown2 hgrow hbw1 hown1 hlt hbs
            go_wp2
            go_roundw
            case rel => exact ⟨pos + 1, acc ++ L, false, rfl, by go_num, hown3, hbw2, HA2.out, by simp; omega, hw2⟩
            case measure => simp [RowKit.intOf]; omega
      · rw [if_neg hinv] at hch
        have hn0 : ((n : Int) == 0) = false := beq_eq_false_iff_ne.2 (by omega)
        have HC := hid hch
        clear hch hinv
        go_wp2_with fail
        refine (HC.out _).mono ?_
        rintro e W1 ⟨rfl, b1⟩
        have hown1 := hown.kept (row := none) ⟨b1.os, b1.tape, b1.output, b1.size, fun k hk _ => b1.block k hk⟩ (Classical.em _)
        have hbw1 := hbw.trans (b1.mono hbw.size)
        clear b1 hown hbw HC
        by_cases h13 : c = 13
        · subst h13
          have hg : goodB 10 = true := by decide
          cases cr1
          · skip
            have HU := keep ((show unitL false 13 = encodeRune 10 from by decide))
            rw [HU.out] at HA2
            have hll : (encodeRune 10).length ≤ 4 := by simp only [encodeRune, List.length_map]; exact (encodeRuneZ_length 10).2
            obtain ⟨L, hL⟩ : ∃ L, encodeRune 10 = L := ⟨_, rfl⟩
            have henc := fun W => encode_any 10 (by omega) (by omega) (by omega) W
            rw [hL] at henc hll HA2
            have HE := keep henc
            have hA1 := keep (cells_len L)
            have hA2 := keep (cells_new L)
            have hA3 := keep (byteCells_one L)
            have hA4 := keep (show acc.length + L.length ≤ maxLen by unfold maxLen; omega)
            have hA5 := keep (show (acc.length + L.length) * 1 ≤ 140737488355328 by omega)
            have hlt := hown1.lt
            have hbs := hbw1.size
            clear henc hL HU
            go_wp2_with (first | (go_at_call 20; refine (refGood_any _ (by omega) (by omega) _).mono ?_; rintro e w' ⟨rfl, rfl⟩) | (go_at_call 21; fail))
            refine (HE.out _).mono ?_
            rintro e w' ⟨rfl, rfl⟩
            go_wp2_with (at_builtin; refine wpList_append_own _ rfl (.tmp 64) (.tmp 65) 33 rfl w.heap.size 5 i0 (.int .u8 0) 1 1 Tryd.underlying33 hi hz0 hz1 hz2 rfl (by decide) _ _ _ rfl (hown1.alloc _) ⟨_, 0, none⟩ L.length L.length (byteCells L) rfl hA1.out (hA2.out _) hA3.out hA4.out hA5.out ?_ ?_)
            · simp; omega
            · intro v' w2 hown2 hgrow _
              have hbw2 := (hbw1.alloc hbs _).grown hgrow (by simp; omega) (fun k hk => (hlt k hk).1)
              have hown3 := own_cat hown2
              clear hown2 hgrow hbw1 hown1 hlt hbs
              go_wp2
              go_roundw
              case rel => exact ⟨pos + n, acc ++ L, true, rfl, by go_num, hown3, hbw2, HA2.out, by simp; omega, hw2⟩
              case measure => simp [RowKit.intOf]; omega
          · skip
            have HU := keep ((show unitL true 13 = encodeRune 10 from by decide))
            rw [HU.out] at HA2
            have hll : (encodeRune 10).length ≤ 4 := by simp only [encodeRune, List.length_map]; exact (encodeRuneZ_length 10).2
            obtain ⟨L, hL⟩ : ∃ L, encodeRune 10 = L := ⟨_, rfl⟩
            have henc := fun W => encode_any 10 (by omega) (by omega) (by omega) W
            rw [hL] at henc hll HA2
            have HE := keep henc
            have hA1 := keep (cells_len L)
            have hA2 := keep (cells_new L)
            have hA3 := keep (byteCells_one L)
            have hA4 := keep (show acc.length + L.length ≤ maxLen by unfold maxLen; omega)
            have hA5 := keep (show (acc.length + L.length) * 1 ≤ 140737488355328 by omega)
            have hlt := hown1.lt
            have hbs := hbw1.size
            clear henc hL HU
            go_wp2_with (first | (go_at_call 20; refine (refGood_any _ (by omega) (by omega) _).mono ?_; rintro e w' ⟨rfl, rfl⟩) | (go_at_call 21; fail))
            refine (HE.out _).mono ?_
            rintro e w' ⟨rfl, rfl⟩
            go_wp2_with (at_builtin; refine wpList_append_own _ rfl (.tmp 64) (.tmp 65) 33 rfl w.heap.size 5 i0 (.int .u8 0) 1 1 Tryd.underlying33 hi hz0 hz1 hz2 rfl (by decide) _ _ _ rfl (hown1.alloc _) ⟨_, 0, none⟩ L.length L.length (byteCells L) rfl hA1.out (hA2.out _) hA3.out hA4.out hA5.out ?_ ?_)
            · simp; omega
            · intro v' w2 hown2 hgrow _
              have hbw2 := (hbw1.alloc hbs _).grown hgrow (by simp; omega) (fun k hk => (hlt k hk).1)
              have hown3 := own_cat hown2
              clear hown2 hgrow hbw1 hown1 hlt hbs
              go_wp2
              go_roundw
              case rel => exact ⟨pos + n, acc ++ L, true, rfl, by go_num, hown3, hbw2, HA2.out, by simp; omega, hw2⟩
              case measure => simp [RowKit.intOf]; omega
        · have q13 : ((c : Int) == 13) = false := beq_eq_false_iff_ne.2 (by omega)
          have e13 : (c == 13) = false := beq_eq_false_iff_ne.2 h13
          rw [e13] at HA2
          clear e13
          by_cases h10 : c = 10
          · subst h10
            have hg : goodB 10 = true := by decide
            cases cr1
            · skip
              have HU := keep ((show unitL false 10 = encodeRune 10 from by decide))
              rw [HU.out] at HA2
              have hll : (encodeRune 10).length ≤ 4 := by simp only [encodeRune, List.length_map]; exact (encodeRuneZ_length 10).2
              obtain ⟨L, hL⟩ : ∃ L, encodeRune 10 = L := ⟨_, rfl⟩
              have henc := fun W => encode_any 10 (by omega) (by omega) (by omega) W
              rw [hL] at henc hll HA2
              have HE := keep henc
              have hA1 := keep (cells_len L)
              have hA2 := keep (cells_new L)
              have hA3 := keep (byteCells_one L)
              have hA4 := keep (show acc.length + L.length ≤ maxLen by unfold maxLen; omega)
              have hA5 := keep (show (acc.length + L.length) * 1 ≤ 140737488355328 by omega)
              have hlt := hown1.lt
              have hbs := hbw1.size
              clear henc hL HU
              go_wp2_with (first | (go_at_call 20; refine (refGood_any _ (by omega) (by omega) _).mono ?_; rintro e w' ⟨rfl, rfl⟩) | (go_at_call 21; fail))
              refine (HE.out _).mono ?_
              rintro e w' ⟨rfl, rfl⟩
              go_wp2_with (at_builtin; refine wpList_append_own _ rfl (.tmp 64) (.tmp 65) 33 rfl w.heap.size 5 i0 (.int .u8 0) 1 1 Tryd.underlying33 hi hz0 hz1 hz2 rfl (by decide) _ _ _ rfl (hown1.alloc _) ⟨_, 0, none⟩ L.length L.length (byteCells L) rfl hA1.out (hA2.out _) hA3.out hA4.out hA5.out ?_ ?_)
              · simp; omega
              · intro v' w2 hown2 hgrow _
                have hbw2 := (hbw1.alloc hbs _).grown hgrow (by simp; omega) (fun k hk => (hlt k hk).1)
                have hown3 := own_cat hown2
                clear hown2 hgrow hbw1 hown1 hlt hbs
                go_wp2
                go_roundw
                case rel => exact ⟨pos + n, acc ++ L, false, rfl, by go_num, hown3, hbw2, HA2.out, by simp; omega, hw2⟩
                case measure => simp [RowKit.intOf]; omega
            · rw [unit_eat, List.append_nil] at HA2
              go_wp2_with (go_at_call 20; refine (refGood_any _ (by omega) (by omega) _).mono ?_; rintro e w' ⟨rfl, rfl⟩)
              go_roundw
              case rel => exact ⟨pos + n, acc, false, rfl, by go_num, hown1, hbw1, HA2.out, by omega, hw2⟩
              case measure => simp [RowKit.intOf]; omega
          · have q10 : ((c : Int) == 10) = false := beq_eq_false_iff_ne.2 (by omega)
            have hcs : ¬ (55296 ≤ (c : Int) ∧ (c : Int) ≤ 57343) := by have := step_char hd0.out; omega
            by_cases hg : goodB c = true
            · cases cr1
              · skip
                have HU := keep ((show unitL false c = encodeRune (c : Int) from unit_good hg (fun h => h10 h.1)))
                rw [HU.out] at HA2
                have hll : (encodeRune (c : Int)).length ≤ 4 := by simp only [encodeRune, List.length_map]; exact (encodeRuneZ_length (c : Int)).2
                obtain ⟨L, hL⟩ : ∃ L, encodeRune (c : Int) = L := ⟨_, rfl⟩
                have henc := fun W => encode_any (c : Int) (by omega) (by omega) (by omega) W
                rw [hL] at henc hll HA2
                have HE := keep henc
                have hA1 := keep (cells_len L)
                have hA2 := keep (cells_new L)
                have hA3 := keep (byteCells_one L)
                have hA4 := keep (show acc.length + L.length ≤ maxLen by unfold maxLen; omega)
                have hA5 := keep (show (acc.length + L.length) * 1 ≤ 140737488355328 by omega)
                have hlt := hown1.lt
                have hbs := hbw1.size
                clear henc hL HU
                go_wp2_with (first | (go_at_call 20; refine (refGood_any _ (by omega) (by omega) _).mono ?_; rintro e w' ⟨rfl, rfl⟩) | (go_at_call 21; fail))
                refine (HE.out _).mono ?_
                rintro e w' ⟨rfl, rfl⟩
                go_wp2_with (at_builtin; refine wpList_append_own _ rfl (.tmp 64) (.tmp 65) 33 rfl w.heap.size 5 i0 (.int .u8 0) 1 1 Tryd.underlying33 hi hz0 hz1 hz2 rfl (by decide) _ _ _ rfl (hown1.alloc _) ⟨_, 0, none⟩ L.length L.length (byteCells L) rfl hA1.out (hA2.out _) hA3.out hA4.out hA5.out ?_ ?_)
                · simp; omega
                · intro v' w2 hown2 hgrow _
                  have hbw2 := (hbw1.alloc hbs _).grown hgrow (by simp; omega) (fun k hk => (hlt k hk).1)
                  have hown3 := own_cat hown2
                  clear hown2 hgrow hbw1 hown1 hlt hbs
                  go_wp2
                  go_roundw
                  case rel => exact ⟨pos + n, acc ++ L, false, rfl, by go_num, hown3, hbw2, HA2.out, by simp; omega, hw2⟩
                  case measure => simp [RowKit.intOf]; omega
              · skip
                have HU := keep ((show unitL true c = encodeRune (c : Int) from unit_good hg (fun h => h10 h.1)))
                rw [HU.out] at HA2
                have hll : (encodeRune (c : Int)).length ≤ 4 := by simp only [encodeRune, List.length_map]; exact (encodeRuneZ_length (c : Int)).2
                obtain ⟨L, hL⟩ : ∃ L, encodeRune (c : Int) = L := ⟨_, rfl⟩
                have henc := fun W => encode_any (c : Int) (by omega) (by omega) (by omega) W
                rw [hL] at henc hll HA2
                have HE := keep henc
                have hA1 := keep (cells_len L)
                have hA2 := keep (cells_new L)
                have hA3 := keep (byteCells_one L)
                have hA4 := keep (show acc.length + L.length ≤ maxLen by unfold maxLen; omega)
                have hA5 := keep (show (acc.length + L.length) * 1 ≤ 140737488355328 by omega)
                have hlt := hown1.lt
                have hbs := hbw1.size
                clear henc hL HU
                go_wp2_with (first | (go_at_call 20; refine (refGood_any _ (by omega) (by omega) _).mono ?_; rintro e w' ⟨rfl, rfl⟩) | (go_at_call 21; fail))
                refine (HE.out _).mono ?_
                rintro e w' ⟨rfl, rfl⟩
                go_wp2_with (at_builtin; refine wpList_append_own _ rfl (.tmp 64) (.tmp 65) 33 rfl w.heap.size 5 i0 (.int .u8 0) 1 1 Tryd.underlying33 hi hz0 hz1 hz2 rfl (by decide) _ _ _ rfl (hown1.alloc _) ⟨_, 0, none⟩ L.length L.length (byteCells L) rfl hA1.out (hA2.out _) hA3.out hA4.out hA5.out ?_ ?_)
                · simp; omega
                · intro v' w2 hown2 hgrow _
                  have hbw2 := (hbw1.alloc hbs _).grown hgrow (by simp; omega) (fun k hk => (hlt k hk).1)
                  have hown3 := own_cat hown2
                  clear hown2 hgrow hbw1 hown1 hlt hbs
                  go_wp2
                  go_roundw
                  case rel => exact ⟨pos + n, acc ++ L, false, rfl, by go_num, hown3, hbw2, HA2.out, by simp; omega, hw2⟩
                  case measure => simp [RowKit.intOf]; omega
            · have hg2 : goodB c = false := by simpa using hg
              clear hg
              cases cr1
              · skip
                have HU := keep ((show unitL false c = encodeRune 65533 from unit_bad hg2 h13 (fun h => h10 h.1)))
                rw [HU.out] at HA2
                have hll : (encodeRune 65533).length ≤ 4 := by simp only [encodeRune, List.length_map]; exact (encodeRuneZ_length 65533).2
                obtain ⟨L, hL⟩ : ∃ L, encodeRune 65533 = L := ⟨_, rfl⟩
                have henc := fun W => encode_any 65533 (by omega) (by omega) (by omega) W
                rw [hL] at henc hll HA2
                have HE := keep henc
                have hA1 := keep (cells_len L)
                have hA2 := keep (cells_new L)
                have hA3 := keep (byteCells_one L)
                have hA4 := keep (show acc.length + L.length ≤ maxLen by unfold maxLen; omega)
                have hA5 := keep (show (acc.length + L.length) * 1 ≤ 140737488355328 by omega)
                have hlt := hown1.lt
                have hbs := hbw1.size
                clear henc hL HU
                go_wp2_with (first | (go_at_call 20; refine (refGood_any _ (by omega) (by omega) _).mono ?_; rintro e w' ⟨rfl, rfl⟩) | (go_at_call 21; fail))
                refine (HE.out _).mono ?_
                rintro e w' ⟨rfl, rfl⟩
                go_wp2_with (at_builtin; refine wpList_append_own _ rfl (.tmp 64) (.tmp 65) 33 rfl w.heap.size 5 i0 (.int .u8 0) 1 1 Tryd.underlying33 hi hz0 hz1 hz2 rfl (by decide) _ _ _ rfl (hown1.alloc _) ⟨_, 0, none⟩ L.length L.length (byteCells L) rfl hA1.out (hA2.out _) hA3.out hA4.out hA5.out ?_ ?_)
                · simp; omega
                · intro v' w2 hown2 hgrow _
                  have hbw2 := (hbw1.alloc hbs _).grown hgrow (by simp; omega) (fun k hk => (hlt k hk).1)
                  have hown3 := own_cat hown2
                  clear hown2 hgrow hbw1 hown1 hlt hbs
                  go_wp2
                  go_roundw
                  case rel => exact ⟨pos + n, acc ++ L, false, rfl, by go_num, hown3, hbw2, HA2.out, by simp; omega, hw2⟩
                  case measure => simp [RowKit.intOf]; omega
              · skip
                have HU := keep ((show unitL true c = encodeRune 65533 from unit_bad hg2 h13 (fun h => h10 h.1)))
                rw [HU.out] at HA2
                have hll : (encodeRune 65533).length ≤ 4 := by simp only [encodeRune, List.length_map]; exact (encodeRuneZ_length 65533).2
                obtain ⟨L, hL⟩ : ∃ L, encodeRune 65533 = L := ⟨_, rfl⟩
                have henc := fun W => encode_any 65533 (by omega) (by omega) (by omega) W
                rw [hL] at henc hll HA2
                have HE := keep henc
                have hA1 := keep (cells_len L)
                have hA2 := keep (cells_new L)
                have hA3 := keep (byteCells_one L)
                have hA4 := keep (show acc.length + L.length ≤ maxLen by unfold maxLen; omega)
                have hA5 := keep (show (acc.length + L.length) * 1 ≤ 140737488355328 by omega)
                have hlt := hown1.lt
                have hbs := hbw1.size
                clear henc hL HU
                go_wp2_with (first | (go_at_call 20; refine (refGood_any _ (by omega) (by omega) _).mono ?_; rintro e w' ⟨rfl, rfl⟩) | (go_at_call 21; fail))
                refine (HE.out _).mono ?_
                rintro e w' ⟨rfl, rfl⟩
                go_wp2_with (at_builtin; refine wpList_append_own _ rfl (.tmp 64) (.tmp 65) 33 rfl w.heap.size 5 i0 (.int .u8 0) 1 1 Tryd.underlying33 hi hz0 hz1 hz2 rfl (by decide) _ _ _ rfl (hown1.alloc _) ⟨_, 0, none⟩ L.length L.length (byteCells L) rfl hA1.out (hA2.out _) hA3.out hA4.out hA5.out ?_ ?_)
                · simp; omega
                · intro v' w2 hown2 hgrow _
                  have hbw2 := (hbw1.alloc hbs _).grown hgrow (by simp; omega) (fun k hk => (hlt k hk).1)
                  have hown3 := own_cat hown2
                  clear hown2 hgrow hbw1 hown1 hlt hbs
                  go_wp2
                  go_roundw
                  case rel => exact ⟨pos + n, acc ++ L, false, rfl, by go_num, hown3, hbw2, HA2.out, by simp; omega, hw2⟩
                  case measure => simp [RowKit.intOf]; omega
    · have HE : Hid _ := step_end hp HA.out
      have htx := own_text _ _ _ acc hown
      clear HA
      go_wp2
      go_ret3
      obtain ⟨rfl, rfl, rfl⟩ : R1 = acc ∧ R2 = [] ∧ R3 = cr1 := by
        have := HE.out
        simp only [Prod.mk.injEq] at this
        exact ⟨this.1.symm, this.2.1.symm, this.2.2.symm⟩
      exact ⟨rfl, hbw⟩

set_option maxHeartbeats 8000000 in
set_option maxRecDepth 100000 in
theorem read_false (s : ByteArray) (cr : Bool) (w : World) (hs : s.size ≤ 10000000) :
    Calls Tryd.prog 11 #[.string s, .bool cr, .bool false] w fun e w' =>
      e = .returned (.tuple #[.string ⟨(rd true cr s.data.toList).1.toArray⟩, .string ⟨(rd true cr s.data.toList).2.1.toArray⟩, .bool (rd true cr s.data.toList).2.2]) ∧ Below w.heap.size w w' := by
  obtain ⟨i0, hi, hz0, hz1, hz2⟩ := info_parts info_u8
  obtain ⟨R, hR⟩ : ∃ R, rd true cr s.data.toList = R := ⟨_, rfl⟩
  rw [hR]
  have HR : Hid (rd true cr s.data.toList = R) := hR
  clear hR
  obtain ⟨R1, R2, R3⟩ := R
  go_enter Tryd.func11, Tryd.ntmps11
  go_wp2
  go_loopw [1, 9, 10] (fun crv bv iv wr => ∃ (pos : Nat) (acc : List UInt8) (cr1 : Bool), crv = .bool cr1 ∧ iv = .int .i64 pos ∧ wr.ownsRow w.heap.size 5 1 bv acc.length (byteCells acc) ∧ Below w.heap.size w wr ∧ Hid ((acc ++ (rd true cr1 (s.data.toList.drop pos)).1, (rd true cr1 (s.data.toList.drop pos)).2) = (R1, R2, R3)) ∧ acc.length ≤ 4 * pos ∧ pos ≤ s.size) (fun _ _ iv _ => s.size - (RowKit.intOf iv).toNat)
  case atStart => exact ⟨0, [], cr, rfl, rfl, World.ownsRow_nil _ _ _ _, Below.refl _ _, HR.out, by simp, Nat.zero_le _⟩
  case round =>

    obtain ⟨pos, acc, cr1, rfl, rfl, hown, hbw, HA, hal, hps⟩ := hrel
    by_cases hp : pos < s.size
    · obtain ⟨c, n, hd⟩ : ∃ c n, Utf8.decode s pos = (c, n) := ⟨_, _, rfl⟩
      obtain ⟨hw1, hw2, hw3⟩ := step_width hd hp
      have hex : (s.extract pos s.size).data.toList = s.data.toList.drop pos := Lib.extract_to_end s pos
      have hxz : (s.extract pos s.size).size = s.size - pos := by rw [size_eq, hex, List.length_drop, ← size_eq]
      have hch := fun W => char_walk (s.extract pos s.size) W (by omega) (by omega)
      rw [hex, charL_dec, decodeL_drop, hd] at hch
      have hpi : (pos : Int) < (s.size : Int) := by omega
      by_cases hst : stopL true (s.data.toList.drop pos) = true
      · have hle : s.size - pos < 4 := by
          by_cases h4 : s.size - pos < 4
          · exact h4
          · exfalso
            have := four_full (s.data.toList.drop pos) (by rw [List.length_drop, ← size_eq]; omega)
            unfold stopL at hst
            rw [this] at hst
            simp at hst
        have HE : Hid _ := step_stop hp hst HA.out
        have huf := fun W => unfinished_any (s.extract pos s.size) W (by omega) (by omega)
        rw [hex, hst] at huf
        have HF := keep huf
        have hq : decide ((s.size : Int) - (pos : Int) < 4) = true := by simp; omega
        clear huf hd HA hch hst hxz
        go_wp2_with fail
        refine (HF.out _).mono ?_
        rintro e W1 ⟨rfl, b1⟩
        have hown1 := hown.kept (row := none) ⟨b1.os, b1.tape, b1.output, b1.size, fun k hk _ => b1.block k hk⟩ (Classical.em _)
        have hbw1 := hbw.trans (b1.mono hbw.size)
        have htx := fun n => own_text (W1.drewN n) _ _ acc hown1
        clear b1 hown hbw HF hex
        go_wp2
        go_quiet (fail)
        go_wp2
        go_ret3
        obtain ⟨rfl, h2, rfl⟩ : R1 = acc ∧ R2 = s.data.toList.drop pos ∧ R3 = cr1 := by
          have := HE.out
          simp only [Prod.mk.injEq] at this
          exact ⟨this.1.symm, this.2.1.symm, this.2.2.symm⟩
        refine ⟨?_, below_drewN hbw1 _⟩
        rw [h2, tail_eq]; rfl
      · have hns : stopL true (s.data.toList.drop pos) = false := by simpa using hst
        have HA2 : Hid _ := step_rel hd hp hns HA.out
        have hd0 := keep hd
        by_cases h4 : s.size - pos < 4
        · have huf := fun W => unfinished_any (s.extract pos s.size) W (by omega) (by omega)
          rw [hex, hns] at huf
          have HF := keep huf
          have hq : decide ((s.size : Int) - (pos : Int) < 4) = true := by simp; omega
          clear huf hd HA hst hns hex hxz
          go_wp2_with fail
          refine (HF.out _).mono ?_
          rintro e W0 ⟨rfl, b0⟩
          have hown0 := hown.kept (row := none) ⟨b0.os, b0.tape, b0.output, b0.size, fun k hk _ => b0.block k hk⟩ (Classical.em _)
          have hbw0 := hbw.trans (b0.mono hbw.size)
          clear b0 hown hbw HF
          have hown := hown0
          have hbw := hbw0
          clear hown0 hbw0
          by_cases hinv : (c, n) = (65533, 1)
          · rw [if_pos hinv] at hch
            obtain ⟨rfl, rfl⟩ := Prod.mk.inj hinv
            have HC := hid hch
            clear hch hinv
            go_wp2_with fail
            refine (HC.out _).mono ?_
            rintro e W1 ⟨rfl, b1⟩
            have hown1 := hown.kept (row := none) ⟨b1.os, b1.tape, b1.output, b1.size, fun k hk _ => b1.block k hk⟩ (Classical.em _)
            have hbw1 := hbw.trans (b1.mono hbw.size)
            have hg : goodB 65533 = true := by decide
            clear b1 hown hbw HC
            cases cr1
            · skip
              have HU := keep ((show unitL false 65533 = encodeRune 65533 from by decide))
              rw [HU.out] at HA2
              have hll : (encodeRune 65533).length ≤ 4 := by simp only [encodeRune, List.length_map]; exact (encodeRuneZ_length 65533).2
              obtain ⟨L, hL⟩ : ∃ L, encodeRune 65533 = L := ⟨_, rfl⟩
              have henc := fun W => encode_any 65533 (by omega) (by omega) (by omega) W
              rw [hL] at henc hll HA2
              have HE := keep henc
              have hA1 := keep (cells_len L)
              have hA2 := keep (cells_new L)
              have hA3 := keep (byteCells_one L)
              have hA4 := keep (show acc.length + L.length ≤ maxLen by unfold maxLen; omega)
              have hA5 := keep (show (acc.length + L.length) * 1 ≤ 140737488355328 by omega)
              have hlt := hown1.lt
              have hbs := hbw1.size
              clear henc hL HU
              go_wp2_with (first | (go_at_call 20; refine (refGood_any _ (by omega) (by omega) _).mono ?_; rintro e w' ⟨rfl, rfl⟩) | (go_at_call 21; fail))
              refine (HE.out _).mono ?_
              rintro e w' ⟨rfl, rfl⟩
              go_wp2_with (at_builtin; refine wpList_append_own _ rfl (.tmp 64) (.tmp 65) 33 rfl w.heap.size 5 i0 (.int .u8 0) 1 1 Tryd.underlying33 hi hz0 hz1 hz2 rfl (by decide) _ _ _ rfl (hown1.alloc _) ⟨_, 0, none⟩ L.length L.length (byteCells L) rfl hA1.out (hA2.out _) hA3.out hA4.out hA5.out ?_ ?_)
              · simp; omega
              · intro v' w2 hown2 hgrow _
                have hbw2 := (hbw1.alloc hbs _).grown hgrow (by simp; omega) (fun k hk => (hlt k hk).1)
                have hown3 := own_cat hown2
                clear hown2 hgrow hbw1 hown1 hlt hbs
                go_wp2
                go_roundw
                case rel => exact ⟨pos + 1, acc ++ L, false, rfl, by go_num, hown3, hbw2, HA2.out, by simp; omega, hw2⟩
                case measure => simp [RowKit.intOf]; omega
            · skip
              have HU := keep ((show unitL true 65533 = encodeRune 65533 from by decide))
              rw [HU.out] at HA2
              have hll : (encodeRune 65533).length ≤ 4 := by simp only [encodeRune, List.length_map]; exact (encodeRuneZ_length 65533).2
              obtain ⟨L, hL⟩ : ∃ L, encodeRune 65533 = L := ⟨_, rfl⟩
              have henc := fun W => encode_any 65533 (by omega) (by omega) (by omega) W
              rw [hL] at henc hll HA2
              have HE := keep henc
              have hA1 := keep (cells_len L)
              have hA2 := keep (cells_new L)
              have hA3 := keep (byteCells_one L)
              have hA4 := keep (show acc.length + L.length ≤ maxLen by unfold maxLen; omega)
              have hA5 := keep (show (acc.length + L.length) * 1 ≤ 140737488355328 by omega)
              have hlt := hown1.lt
              have hbs := hbw1.size
              clear henc hL HU
              go_wp2_with (first | (go_at_call 20; refine (refGood_any _ (by omega) (by omega) _).mono ?_; rintro e w' ⟨rfl, rfl⟩) | (go_at_call 21; fail))
              refine (HE.out _).mono ?_
              rintro e w' ⟨rfl, rfl⟩
              go_wp2_with (at_builtin; refine wpList_append_own _ rfl (.tmp 64) (.tmp 65) 33 rfl w.heap.size 5 i0 (.int .u8 0) 1 1 Tryd.underlying33 hi hz0 hz1 hz2 rfl (by decide) _ _ _ rfl (hown1.alloc _) ⟨_, 0, none⟩ L.length L.length (byteCells L) rfl hA1.out (hA2.out _) hA3.out hA4.out hA5.out ?_ ?_)
              · simp; omega
              · intro v' w2 hown2 hgrow _
                have hbw2 := (hbw1.alloc hbs _).grown hgrow (by simp; omega) (fun k hk => (hlt k hk).1)
                have hown3 := own_cat hown2
                clear hown2 hgrow hbw1 hown1 hlt hbs
                go_wp2
                go_roundw
                case rel => exact ⟨pos + 1, acc ++ L, false, rfl, by go_num, hown3, hbw2, HA2.out, by simp; omega, hw2⟩
                case measure => simp [RowKit.intOf]; omega
          · rw [if_neg hinv] at hch
            have hn0 : ((n : Int) == 0) = false := beq_eq_false_iff_ne.2 (by omega)
            have HC := hid hch
            clear hch hinv
            go_wp2_with fail
            refine (HC.out _).mono ?_
            rintro e W1 ⟨rfl, b1⟩
            have hown1 := hown.kept (row := none) ⟨b1.os, b1.tape, b1.output, b1.size, fun k hk _ => b1.block k hk⟩ (Classical.em _)
            have hbw1 := hbw.trans (b1.mono hbw.size)
            clear b1 hown hbw HC
            by_cases h13 : c = 13
            · subst h13
              have hg : goodB 10 = true := by decide
              cases cr1
              · skip
                have HU := keep ((show unitL false 13 = encodeRune 10 from by decide))
                rw [HU.out] at HA2
                have hll : (encodeRune 10).length ≤ 4 := by simp only [encodeRune, List.length_map]; exact (encodeRuneZ_length 10).2
                obtain ⟨L, hL⟩ : ∃ L, encodeRune 10 = L := ⟨_, rfl⟩
                have henc := fun W => encode_any 10 (by omega) (by omega) (by omega) W
                rw [hL] at henc hll HA2
                have HE := keep henc
                have hA1 := keep (cells_len L)
                have hA2 := keep (cells_new L)
                have hA3 := keep (byteCells_one L)
                have hA4 := keep (show acc.length + L.length ≤ maxLen by unfold maxLen; omega)
                have hA5 := keep (show (acc.length + L.length) * 1 ≤ 140737488355328 by omega)
                have hlt := hown1.lt
                have hbs := hbw1.size
                clear henc hL HU
                go_wp2_with (first | (go_at_call 20; refine (refGood_any _ (by omega) (by omega) _).mono ?_; rintro e w' ⟨rfl, rfl⟩) | (go_at_call 21; fail))
                refine (HE.out _).mono ?_
                rintro e w' ⟨rfl, rfl⟩
                go_wp2_with (at_builtin; refine wpList_append_own _ rfl (.tmp 64) (.tmp 65) 33 rfl w.heap.size 5 i0 (.int .u8 0) 1 1 Tryd.underlying33 hi hz0 hz1 hz2 rfl (by decide) _ _ _ rfl (hown1.alloc _) ⟨_, 0, none⟩ L.length L.length (byteCells L) rfl hA1.out (hA2.out _) hA3.out hA4.out hA5.out ?_ ?_)
                · simp; omega
                · intro v' w2 hown2 hgrow _
                  have hbw2 := (hbw1.alloc hbs _).grown hgrow (by simp; omega) (fun k hk => (hlt k hk).1)
                  have hown3 := own_cat hown2
                  clear hown2 hgrow hbw1 hown1 hlt hbs
                  go_wp2
                  go_roundw
                  case rel => exact ⟨pos + n, acc ++ L, true, rfl, by go_num, hown3, hbw2, HA2.out, by simp; omega, hw2⟩
                  case measure => simp [RowKit.intOf]; omega
              · skip
                have HU := keep ((show unitL true 13 = encodeRune 10 from by decide))
                rw [HU.out] at HA2
                have hll : (encodeRune 10).length ≤ 4 := by simp only [encodeRune, List.length_map]; exact (encodeRuneZ_length 10).2
                obtain ⟨L, hL⟩ : ∃ L, encodeRune 10 = L := ⟨_, rfl⟩
                have henc := fun W => encode_any 10 (by omega) (by omega) (by omega) W
                rw [hL] at henc hll HA2
                have HE := keep henc
                have hA1 := keep (cells_len L)
                have hA2 := keep (cells_new L)
                have hA3 := keep (byteCells_one L)
                have hA4 := keep (show acc.length + L.length ≤ maxLen by unfold maxLen; omega)
                have hA5 := keep (show (acc.length + L.length) * 1 ≤ 140737488355328 by omega)
                have hlt := hown1.lt
                have hbs := hbw1.size
                clear henc hL HU
                go_wp2_with (first | (go_at_call 20; refine (refGood_any _ (by omega) (by omega) _).mono ?_; rintro e w' ⟨rfl, rfl⟩) | (go_at_call 21; fail))
                refine (HE.out _).mono ?_
                rintro e w' ⟨rfl, rfl⟩
                go_wp2_with (at_builtin; refine wpList_append_own _ rfl (.tmp 64) (.tmp 65) 33 rfl w.heap.size 5 i0 (.int .u8 0) 1 1 Tryd.underlying33 hi hz0 hz1 hz2 rfl (by decide) _ _ _ rfl (hown1.alloc _) ⟨_, 0, none⟩ L.length L.length (byteCells L) rfl hA1.out (hA2.out _) hA3.out hA4.out hA5.out ?_ ?_)
                · simp; omega
                · intro v' w2 hown2 hgrow _
                  have hbw2 := (hbw1.alloc hbs _).grown hgrow (by simp; omega) (fun k hk => (hlt k hk).1)
                  have hown3 := own_cat hown2
                  clear hown2 hgrow hbw1 hown1 hlt hbs
                  go_wp2
                  go_roundw
                  case rel => exact ⟨pos + n, acc ++ L, true, rfl, by go_num, hown3, hbw2, HA2.out, by simp; omega, hw2⟩
                  case measure => simp [RowKit.intOf]; omega
            · have q13 : ((c : Int) == 13) = false := beq_eq_false_iff_ne.2 (by omega)
              have e13 : (c == 13) = false := beq_eq_false_iff_ne.2 h13
              rw [e13] at HA2
              clear e13
              by_cases h10 : c = 10
              · subst h10
                have hg : goodB 10 = true := by decide
                cases cr1
                · skip
                  have HU := keep ((show unitL false 10 = encodeRune 10 from by decide))
                  rw [HU.out] at HA2
                  have hll : (encodeRune 10).length ≤ 4 := by simp only [encodeRune, List.length_map]; exact (encodeRuneZ_length 10).2
                  obtain ⟨L, hL⟩ : ∃ L, encodeRune 10 = L := ⟨_, rfl⟩
                  have henc := fun W => encode_any 10 (by omega) (by omega) (by omega) W
                  rw [hL] at henc hll HA2
                  have HE := keep henc
                  have hA1 := keep (cells_len L)
                  have hA2 := keep (cells_new L)
                  have hA3 := keep (byteCells_one L)
                  have hA4 := keep (show acc.length + L.length ≤ maxLen by unfold maxLen; omega)
                  have hA5 := keep (show (acc.length + L.length) * 1 ≤ 140737488355328 by omega)
                  have hlt := hown1.lt
                  have hbs := hbw1.size
                  clear henc hL HU
                  go_wp2_with (first | (go_at_call 20; refine (refGood_any _ (by omega) (by omega) _).mono ?_; rintro e w' ⟨rfl, rfl⟩) | (go_at_call 21; fail))
                  refine (HE.out _).mono ?_
                  rintro e w' ⟨rfl, rfl⟩
                  go_wp2_with (at_builtin; refine wpList_append_own _ rfl (.tmp 64) (.tmp 65) 33 rfl w.heap.size 5 i0 (.int .u8 0) 1 1 Tryd.underlying33 hi hz0 hz1 hz2 rfl (by decide) _ _ _ rfl (hown1.alloc _) ⟨_, 0, none⟩ L.length L.length (byteCells L) rfl hA1.out (hA2.out _) hA3.out hA4.out hA5.out ?_ ?_)
                  · simp; omega
                  · intro v' w2 hown2 hgrow _
                    have hbw2 := (hbw1.alloc hbs _).grown hgrow (by simp; omega) (fun k hk => (hlt k hk).1)
                    have hown3 := own_cat hown2
                    clear hown2 hgrow hbw1 hown1 hlt hbs
                    go_wp2
                    go_roundw
                    case rel => exact ⟨pos + n, acc ++ L, false, rfl, by go_num, hown3, hbw2, HA2.out, by simp; omega, hw2⟩
                    case measure => simp [RowKit.intOf]; omega
                · rw [unit_eat, List.append_nil] at HA2
                  go_wp2_with (go_at_call 20; refine (refGood_any _ (by omega) (by omega) _).mono ?_; rintro e w' ⟨rfl, rfl⟩)
                  go_roundw
                  case rel => exact ⟨pos + n, acc, false, rfl, by go_num, hown1, hbw1, HA2.out, by omega, hw2⟩
                  case measure => simp [RowKit.intOf]; omega
              · have q10 : ((c : Int) == 10) = false := beq_eq_false_iff_ne.2 (by omega)
                have hcs : ¬ (55296 ≤ (c : Int) ∧ (c : Int) ≤ 57343) := by have := step_char hd0.out; omega
                by_cases hg : goodB c = true
                · cases cr1
                  · skip
                    have HU := keep ((show unitL false c = encodeRune (c : Int) from unit_good hg (fun h => h10 h.1)))
                    rw [HU.out] at HA2
                    have hll : (encodeRune (c : Int)).length ≤ 4 := by simp only [encodeRune, List.length_map]; exact (encodeRuneZ_length (c : Int)).2
                    obtain ⟨L, hL⟩ : ∃ L, encodeRune (c : Int) = L := ⟨_, rfl⟩
                    have henc := fun W => encode_any (c : Int) (by omega) (by omega) (by omega) W
                    rw [hL] at henc hll HA2
                    have HE := keep henc
                    have hA1 := keep (cells_len L)
                    have hA2 := keep (cells_new L)
                    have hA3 := keep (byteCells_one L)
                    have hA4 := keep (show acc.length + L.length ≤ maxLen by unfold maxLen; omega)
                    have hA5 := keep (show (acc.length + L.length) * 1 ≤ 140737488355328 by omega)
                    have hlt := hown1.lt
                    have hbs := hbw1.size
                    clear henc hL HU
                    go_wp2_with (first | (go_at_call 20; refine (refGood_any _ (by omega) (by omega) _).mono ?_; rintro e w' ⟨rfl, rfl⟩) | (go_at_call 21; fail))
                    refine (HE.out _).mono ?_
                    rintro e w' ⟨rfl, rfl⟩
                    go_wp2_with (at_builtin; refine wpList_append_own _ rfl (.tmp 64) (.tmp 65) 33 rfl w.heap.size 5 i0 (.int .u8 0) 1 1 Tryd.underlying33 hi hz0 hz1 hz2 rfl (by decide) _ _ _ rfl (hown1.alloc _) ⟨_, 0, none⟩ L.length L.length (byteCells L) rfl hA1.out (hA2.out _) hA3.out hA4.out hA5.out ?_ ?_)
                    · simp; omega
                    · intro v' w2 hown2 hgrow _
                      have hbw2 := (hbw1.alloc hbs _).grown hgrow (by simp; omega) (fun k hk => (hlt k hk).1)
                      have hown3 := own_cat hown2
                      clear hown2 hgrow hbw1 hown1 hlt hbs
                      go_wp2
                      go_roundw
                      case rel => exact ⟨pos + n, acc ++ L, false, rfl, by go_num, hown3, hbw2, HA2.out, by simp; omega, hw2⟩
                      case measure => simp [RowKit.intOf]; omega
                  · skip
                    have HU := keep ((show unitL true c = encodeRune (c : Int) from unit_good hg (fun h => h10 h.1)))
                    rw [HU.out] at HA2
                    have hll : (encodeRune (c : Int)).length ≤ 4 := by simp only [encodeRune, List.length_map]; exact (encodeRuneZ_length (c : Int)).2
                    obtain ⟨L, hL⟩ : ∃ L, encodeRune (c : Int) = L := ⟨_, rfl⟩
                    have henc := fun W => encode_any (c : Int) (by omega) (by omega) (by omega) W
                    rw [hL] at henc hll HA2
                    have HE := keep henc
                    have hA1 := keep (cells_len L)
                    have hA2 := keep (cells_new L)
                    have hA3 := keep (byteCells_one L)
                    have hA4 := keep (show acc.length + L.length ≤ maxLen by unfold maxLen; omega)
                    have hA5 := keep (show (acc.length + L.length) * 1 ≤ 140737488355328 by omega)
                    have hlt := hown1.lt
                    have hbs := hbw1.size
                    clear henc hL HU
                    go_wp2_with (first | (go_at_call 20; refine (refGood_any _ (by omega) (by omega) _).mono ?_; rintro e w' ⟨rfl, rfl⟩) | (go_at_call 21; fail))
                    refine (HE.out _).mono ?_
                    rintro e w' ⟨rfl, rfl⟩
                    go_wp2_with (at_builtin; refine wpList_append_own _ rfl (.tmp 64) (.tmp 65) 33 rfl w.heap.size 5 i0 (.int .u8 0) 1 1 Tryd.underlying33 hi hz0 hz1 hz2 rfl (by decide) _ _ _ rfl (hown1.alloc _) ⟨_, 0, none⟩ L.length L.length (byteCells L) rfl hA1.out (hA2.out _) hA3.out hA4.out hA5.out ?_ ?_)
                    · simp; omega
                    · intro v' w2 hown2 hgrow _
                      have hbw2 := (hbw1.alloc hbs _).grown hgrow (by simp; omega) (fun k hk => (hlt k hk).1)
                      have hown3 := own_cat hown2
                      clear hown2 hgrow hbw1 hown1 hlt hbs
                      go_wp2
                      go_roundw
                      case rel => exact ⟨pos + n, acc ++ L, false, rfl, by go_num, hown3, hbw2, HA2.out, by simp; omega, hw2⟩
                      case measure => simp [RowKit.intOf]; omega
                · have hg2 : goodB c = false := by simpa using hg
                  clear hg
                  cases cr1
                  · skip
                    have HU := keep ((show unitL false c = encodeRune 65533 from unit_bad hg2 h13 (fun h => h10 h.1)))
                    rw [HU.out] at HA2
                    have hll : (encodeRune 65533).length ≤ 4 := by simp only [encodeRune, List.length_map]; exact (encodeRuneZ_length 65533).2
                    obtain ⟨L, hL⟩ : ∃ L, encodeRune 65533 = L := ⟨_, rfl⟩
                    have henc := fun W => encode_any 65533 (by omega) (by omega) (by omega) W
                    rw [hL] at henc hll HA2
                    have HE := keep henc
                    have hA1 := keep (cells_len L)
                    have hA2 := keep (cells_new L)
                    have hA3 := keep (byteCells_one L)
                    have hA4 := keep (show acc.length + L.length ≤ maxLen by unfold maxLen; omega)
                    have hA5 := keep (show (acc.length + L.length) * 1 ≤ 140737488355328 by omega)
                    have hlt := hown1.lt
                    have hbs := hbw1.size
                    clear henc hL HU
                    go_wp2_with (first | (go_at_call 20; refine (refGood_any _ (by omega) (by omega) _).mono ?_; rintro e w' ⟨rfl, rfl⟩) | (go_at_call 21; fail))
                    refine (HE.out _).mono ?_
                    rintro e w' ⟨rfl, rfl⟩
                    go_wp2_with (at_builtin; refine wpList_append_own _ rfl (.tmp 64) (.tmp 65) 33 rfl w.heap.size 5 i0 (.int .u8 0) 1 1 Tryd.underlying33 hi hz0 hz1 hz2 rfl (by decide) _ _ _ rfl (hown1.alloc _) ⟨_, 0, none⟩ L.length L.length (byteCells L) rfl hA1.out (hA2.out _) hA3.out hA4.out hA5.out ?_ ?_)
                    · simp; omega
                    · intro v' w2 hown2 hgrow _
                      have hbw2 := (hbw1.alloc hbs _).grown hgrow (by simp; omega) (fun k hk => (hlt k hk).1)
                      have hown3 := own_cat hown2
                      clear hown2 hgrow hbw1 hown1 hlt hbs
                      go_wp2
                      go_roundw
                      case rel => exact ⟨pos + n, acc ++ L, false, rfl, by go_num, hown3, hbw2, HA2.out, by simp; omega, hw2⟩
                      case measure => simp [RowKit.intOf]; omega
                  · skip
                    have HU := keep ((show unitL true c = encodeRune 65533 from unit_bad hg2 h13 (fun h => h10 h.1)))
                    rw [HU.out] at HA2
                    have hll : (encodeRune 65533).length ≤ 4 := by simp only [encodeRune, List.length_map]; exact (encodeRuneZ_length 65533).2
                    obtain ⟨L, hL⟩ : ∃ L, encodeRune 65533 = L := ⟨_, rfl⟩
                    have henc := fun W => encode_any 65533 (by omega) (by omega) (by omega) W
                    rw [hL] at henc hll HA2
                    have HE := keep henc
                    have hA1 := keep (cells_len L)
                    have hA2 := keep (cells_new L)
                    have hA3 := keep (byteCells_one L)
                    have hA4 := keep (show acc.length + L.length ≤ maxLen by unfold maxLen; omega)
                    have hA5 := keep (show (acc.length + L.length) * 1 ≤ 140737488355328 by omega)
                    have hlt := hown1.lt
                    have hbs := hbw1.size
                    clear henc hL HU
                    go_wp2_with (first | (go_at_call 20; refine (refGood_any _ (by omega) (by omega) _).mono ?_; rintro e w' ⟨rfl, rfl⟩) | (go_at_call 21; fail))
                    refine (HE.out _).mono ?_
                    rintro e w' ⟨rfl, rfl⟩
                    go_wp2_with (at_builtin; refine wpList_append_own _ rfl (.tmp 64) (.tmp 65) 33 rfl w.heap.size 5 i0 (.int .u8 0) 1 1 Tryd.underlying33 hi hz0 hz1 hz2 rfl (by decide) _ _ _ rfl (hown1.alloc _) ⟨_, 0, none⟩ L.length L.length (byteCells L) rfl hA1.out (hA2.out _) hA3.out hA4.out hA5.out ?_ ?_)
                    · simp; omega
                    · intro v' w2 hown2 hgrow _
                      have hbw2 := (hbw1.alloc hbs _).grown hgrow (by simp; omega) (fun k hk => (hlt k hk).1)
                      have hown3 := own_cat hown2
                      clear hown2 hgrow hbw1 hown1 hlt hbs
                      go_wp2
                      go_roundw
                      case rel => exact ⟨pos + n, acc ++ L, false, rfl, by go_num, hown3, hbw2, HA2.out, by simp; omega, hw2⟩
                      case measure => simp [RowKit.intOf]; omega
        · have hq : decide ((s.size : Int) - (pos : Int) < 4) = false := by simp; omega
          clear hd HA hst hns hex hxz
          by_cases hinv : (c, n) = (65533, 1)
          · rw [if_pos hinv] at hch
            obtain ⟨rfl, rfl⟩ := Prod.mk.inj hinv
            have HC := hid hch
            clear hch hinv
            go_wp2_with fail
            refine (HC.out _).mono ?_
            rintro e W1 ⟨rfl, b1⟩
            have hown1 := hown.kept (row := none) ⟨b1.os, b1.tape, b1.output, b1.size, fun k hk _ => b1.block k hk⟩ (Classical.em _)
            have hbw1 := hbw.trans (b1.mono hbw.size)
            have hg : goodB 65533 = true := by decide
            clear b1 hown hbw HC
            cases cr1
            · skip
              have HU := keep ((show unitL false 65533 = encodeRune 65533 from by decide))
              rw [HU.out] at HA2
              have hll : (encodeRune 65533).length ≤ 4 := by simp only [encodeRune, List.length_map]; exact (encodeRuneZ_length 65533).2
              obtain ⟨L, hL⟩ : ∃ L, encodeRune 65533 = L := ⟨_, rfl⟩
              have henc := fun W => encode_any 65533 (by omega) (by omega) (by omega) W
              rw [hL] at henc hll HA2
              have HE := keep henc
              have hA1 := keep (cells_len L)
              have hA2 := keep (cells_new L)
              have hA3 := keep (byteCells_one L)
              have hA4 := keep (show acc.length + L.length ≤ maxLen by unfold maxLen; omega)
              have hA5 := keep (show (acc.length + L.length) * 1 ≤ 140737488355328 by omega)
              have hlt := hown1.lt
              have hbs := hbw1.size
              clear henc hL HU
              go_wp2_with (first | (go_at_call 20; refine (refGood_any _ (by omega) (by omega) _).mono ?_; rintro e w' ⟨rfl, rfl⟩) | (go_at_call 21; fail))
              refine (HE.out _).mono ?_
              rintro e w' ⟨rfl, rfl⟩
              go_wp2_with (at_builtin; refine wpList_append_own _ rfl (.tmp 64) (.tmp 65) 33 rfl w.heap.size 5 i0 (.int .u8 0) 1 1 Tryd.underlying33 hi hz0 hz1 hz2 rfl (by decide) _ _ _ rfl (hown1.alloc _) ⟨_, 0, none⟩ L.length L.length (byteCells L) rfl hA1.out (hA2.out _) hA3.out hA4.out hA5.out ?_ ?_)
              · simp; omega
              · intro v' w2 hown2 hgrow _
                have hbw2 := (hbw1.alloc hbs _).grown hgrow (by simp; omega) (fun k hk => (hlt k hk).1)
                have hown3 := own_cat hown2
                clear hown2 hgrow hbw1 hown1 hlt hbs
                go_wp2
                go_roundw
                case rel => exact ⟨pos + 1, acc ++ L, false, rfl, by go_num, hown3, hbw2, HA2.out, by simp; omega, hw2⟩
                case measure => simp [RowKit.intOf]; omega
            · skip
              have HU := keep ((show unitL true 65533 = encodeRune 65533 from by decide))
              rw [HU.out] at HA2
              have hll : (encodeRune 65533).length ≤ 4 := by simp only [encodeRune, List.length_map]; exact (encodeRuneZ_length 65533).2
              obtain ⟨L, hL⟩ : ∃ L, encodeRune 65533 = L := ⟨_, rfl⟩
              have henc := fun W => encode_any 65533 (by omega) (by omega) (by omega) W
              rw [hL] at henc hll HA2
              have HE := keep henc
              have hA1 := keep (cells_len L)
              have hA2 := keep (cells_new L)
              have hA3 := keep (byteCells_one L)
              have hA4 := keep (show acc.length + L.length ≤ maxLen by unfold maxLen; omega)
              have hA5 := keep (show (acc.length + L.length) * 1 ≤ 140737488355328 by omega)
              have hlt := hown1.lt
              have hbs := hbw1.size
              clear henc hL HU
              go_wp2_with (first | (go_at_call 20; refine (refGood_any _ (by omega) (by omega) _).mono ?_; rintro e w' ⟨rfl, rfl⟩) | (go_at_call 21; fail))
              refine (HE.out _).mono ?_
              rintro e w' ⟨rfl, rfl⟩
              go_wp2_with (at_builtin; refine wpList_append_own _ rfl (.tmp 64) (.tmp 65) 33 rfl w.heap.size 5 i0 (.int .u8 0) 1 1 Tryd.underlying33 hi hz0 hz1 hz2 rfl (by decide) _ _ _ rfl (hown1.alloc _) ⟨_, 0, none⟩ L.length L.length (byteCells L) rfl hA1.out (hA2.out _) hA3.out hA4.out hA5.out ?_ ?_)
              · simp; omega
              · intro v' w2 hown2 hgrow _
                have hbw2 := (hbw1.alloc hbs _).grown hgrow (by simp; omega) (fun k hk => (hlt k hk).1)
                have hown3 := own_cat hown2
                clear hown2 hgrow hbw1 hown1 hlt hbs
                go_wp2
                go_roundw
                case rel => exact ⟨pos + 1, acc ++ L, false, rfl, by go_num, hown3, hbw2, HA2.out, by simp; omega, hw2⟩
                case measure => simp [RowKit.intOf]; omega
          · rw [if_neg hinv] at hch
            have hn0 : ((n : Int) == 0) = false := beq_eq_false_iff_ne.2 (by omega)
            have HC := hid hch
            clear hch hinv
            go_wp2_with fail
            refine (HC.out _).mono ?_
            rintro e W1 ⟨rfl, b1⟩
            have hown1 := hown.kept (row := none) ⟨b1.os, b1.tape, b1.output, b1.size, fun k hk _ => b1.block k hk⟩ (Classical.em _)
            have hbw1 := hbw.trans (b1.mono hbw.size)
            clear b1 hown hbw HC
            by_cases h13 : c = 13
            · subst h13
              have hg : goodB 10 = true := by decide
              cases cr1
              · skip
                have HU := keep ((show unitL false 13 = encodeRune 10 from by decide))
                rw [HU.out] at HA2
                have hll : (encodeRune 10).length ≤ 4 := by simp only [encodeRune, List.length_map]; exact (encodeRuneZ_length 10).2
                obtain ⟨L, hL⟩ : ∃ L, encodeRune 10 = L := ⟨_, rfl⟩
                have henc := fun W => encode_any 10 (by omega) (by omega) (by omega) W
                rw [hL] at henc hll HA2
                have HE := keep henc
                have hA1 := keep (cells_len L)
                have hA2 := keep (cells_new L)
                have hA3 := keep (byteCells_one L)
                have hA4 := keep (show acc.length + L.length ≤ maxLen by unfold maxLen; omega)
                have hA5 := keep (show (acc.length + L.length) * 1 ≤ 140737488355328 by omega)
                have hlt := hown1.lt
                have hbs := hbw1.size
                clear henc hL HU
                go_wp2_with (first | (go_at_call 20; refine (refGood_any _ (by omega) (by omega) _).mono ?_; rintro e w' ⟨rfl, rfl⟩) | (go_at_call 21; fail))
                refine (HE.out _).mono ?_
                rintro e w' ⟨rfl, rfl⟩
                go_wp2_with (at_builtin; refine wpList_append_own _ rfl (.tmp 64) (.tmp 65) 33 rfl w.heap.size 5 i0 (.int .u8 0) 1 1 Tryd.underlying33 hi hz0 hz1 hz2 rfl (by decide) _ _ _ rfl (hown1.alloc _) ⟨_, 0, none⟩ L.length L.length (byteCells L) rfl hA1.out (hA2.out _) hA3.out hA4.out hA5.out ?_ ?_)
                · simp; omega
                · intro v' w2 hown2 hgrow _
                  have hbw2 := (hbw1.alloc hbs _).grown hgrow (by simp; omega) (fun k hk => (hlt k hk).1)
                  have hown3 := own_cat hown2
                  clear hown2 hgrow hbw1 hown1 hlt hbs
                  go_wp2
                  go_roundw
                  case rel => exact ⟨pos + n, acc ++ L, true, rfl, by go_num, hown3, hbw2, HA2.out, by simp; omega, hw2⟩
                  case measure => simp [RowKit.intOf]; omega
              · skip
                have HU := keep ((show unitL true 13 = encodeRune 10 from by decide))
                rw [HU.out] at HA2
                have hll : (encodeRune 10).length ≤ 4 := by simp only [encodeRune, List.length_map]; exact (encodeRuneZ_length 10).2
                obtain ⟨L, hL⟩ : ∃ L, encodeRune 10 = L := ⟨_, rfl⟩
                have henc := fun W => encode_any 10 (by omega) (by omega) (by omega) W
                rw [hL] at henc hll HA2
                have HE := keep henc
                have hA1 := keep (cells_len L)
                have hA2 := keep (cells_new L)
                have hA3 := keep (byteCells_one L)
                have hA4 := keep (show acc.length + L.length ≤ maxLen by unfold maxLen; omega)
                have hA5 := keep (show (acc.length + L.length) * 1 ≤ 140737488355328 by omega)
                have hlt := hown1.lt
                have hbs := hbw1.size
                clear henc hL HU
                go_wp2_with (first | (go_at_call 20; refine (refGood_any _ (by omega) (by omega) _).mono ?_; rintro e w' ⟨rfl, rfl⟩) | (go_at_call 21; fail))
                refine (HE.out _).mono ?_
                rintro e w' ⟨rfl, rfl⟩
                go_wp2_with (at_builtin; refine wpList_append_own _ rfl (.tmp 64) (.tmp 65) 33 rfl w.heap.size 5 i0 (.int .u8 0) 1 1 Tryd.underlying33 hi hz0 hz1 hz2 rfl (by decide) _ _ _ rfl (hown1.alloc _) ⟨_, 0, none⟩ L.length L.length (byteCells L) rfl hA1.out (hA2.out _) hA3.out hA4.out hA5.out ?_ ?_)
                · simp; omega
                · intro v' w2 hown2 hgrow _
                  have hbw2 := (hbw1.alloc hbs _).grown hgrow (by simp; omega) (fun k hk => (hlt k hk).1)
                  have hown3 := own_cat hown2
                  clear hown2 hgrow hbw1 hown1 hlt hbs
                  go_wp2
                  go_roundw
                  case rel => exact ⟨pos + n, acc ++ L, true, rfl, by go_num, hown3, hbw2, HA2.out, by simp; omega, hw2⟩
                  case measure => simp [RowKit.intOf]; omega
            · have q13 : ((c : Int) == 13) = false := beq_eq_false_iff_ne.2 (by omega)
              have e13 : (c == 13) = false := beq_eq_false_iff_ne.2 h13
              rw [e13] at HA2
              clear e13
              by_cases h10 : c = 10
              · subst h10
                have hg : goodB 10 = true := by decide
                cases cr1
                · skip
                  have HU := keep ((show unitL false 10 = encodeRune 10 from by decide))
                  rw [HU.out] at HA2
                  have hll : (encodeRune 10).length ≤ 4 := by simp only [encodeRune, List.length_map]; exact (encodeRuneZ_length 10).2
                  obtain ⟨L, hL⟩ : ∃ L, encodeRune 10 = L := ⟨_, rfl⟩
                  have henc := fun W => encode_any 10 (by omega) (by omega) (by omega) W
                  rw [hL] at henc hll HA2
                  have HE := keep henc
                  have hA1 := keep (cells_len L)
                  have hA2 := keep (cells_new L)
                  have hA3 := keep (byteCells_one L)
                  have hA4 := keep (show acc.length + L.length ≤ maxLen by unfold maxLen; omega)
                  have hA5 := keep (show (acc.length + L.length) * 1 ≤ 140737488355328 by omega)
                  have hlt := hown1.lt
                  have hbs := hbw1.size
                  clear henc hL HU
                  go_wp2_with (first | (go_at_call 20; refine (refGood_any _ (by omega) (by omega) _).mono ?_; rintro e w' ⟨rfl, rfl⟩) | (go_at_call 21; fail))
                  refine (HE.out _).mono ?_
                  rintro e w' ⟨rfl, rfl⟩
                  go_wp2_with (at_builtin; refine wpList_append_own _ rfl (.tmp 64) (.tmp 65) 33 rfl w.heap.size 5 i0 (.int .u8 0) 1 1 Tryd.underlying33 hi hz0 hz1 hz2 rfl (by decide) _ _ _ rfl (hown1.alloc _) ⟨_, 0, none⟩ L.length L.length (byteCells L) rfl hA1.out (hA2.out _) hA3.out hA4.out hA5.out ?_ ?_)
                  · simp; omega
                  · intro v' w2 hown2 hgrow _
                    have hbw2 := (hbw1.alloc hbs _).grown hgrow (by simp; omega) (fun k hk => (hlt k hk).1)
                    have hown3 := own_cat hown2
                    clear hown2 hgrow hbw1 hown1 hlt hbs
                    go_wp2
                    go_roundw
                    case rel => exact ⟨pos + n, acc ++ L, false, rfl, by go_num, hown3, hbw2, HA2.out, by simp; omega, hw2⟩
                    case measure => simp [RowKit.intOf]; omega
                · rw [unit_eat, List.append_nil] at HA2
                  go_wp2_with (go_at_call 20; refine (refGood_any _ (by omega) (by omega) _).mono ?_; rintro e w' ⟨rfl, rfl⟩)
                  go_roundw
                  case rel => exact ⟨pos + n, acc, false, rfl, by go_num, hown1, hbw1, HA2.out, by omega, hw2⟩
                  case measure => simp [RowKit.intOf]; omega
              · have q10 : ((c : Int) == 10) = false := beq_eq_false_iff_ne.2 (by omega)
                have hcs : ¬ (55296 ≤ (c : Int) ∧ (c : Int) ≤ 57343) := by have := step_char hd0.out; omega
                by_cases hg : goodB c = true
                · cases cr1
                  · skip
                    have HU := keep ((show unitL false c = encodeRune (c : Int) from unit_good hg (fun h => h10 h.1)))
                    rw [HU.out] at HA2
                    have hll : (encodeRune (c : Int)).length ≤ 4 := by simp only [encodeRune, List.length_map]; exact (encodeRuneZ_length (c : Int)).2
                    obtain ⟨L, hL⟩ : ∃ L, encodeRune (c : Int) = L := ⟨_, rfl⟩
                    have henc := fun W => encode_any (c : Int) (by omega) (by omega) (by omega) W
                    rw [hL] at henc hll HA2
                    have HE := keep henc
                    have hA1 := keep (cells_len L)
                    have hA2 := keep (cells_new L)
                    have hA3 := keep (byteCells_one L)
                    have hA4 := keep (show acc.length + L.length ≤ maxLen by unfold maxLen; omega)
                    have hA5 := keep (show (acc.length + L.length) * 1 ≤ 140737488355328 by omega)
                    have hlt := hown1.lt
                    have hbs := hbw1.size
                    clear henc hL HU
                    go_wp2_with (first | (go_at_call 20; refine (refGood_any _ (by omega) (by omega) _).mono ?_; rintro e w' ⟨rfl, rfl⟩) | (go_at_call 21; fail))
                    refine (HE.out _).mono ?_
                    rintro e w' ⟨rfl, rfl⟩
                    go_wp2_with (at_builtin; refine wpList_append_own _ rfl (.tmp 64) (.tmp 65) 33 rfl w.heap.size 5 i0 (.int .u8 0) 1 1 Tryd.underlying33 hi hz0 hz1 hz2 rfl (by decide) _ _ _ rfl (hown1.alloc _) ⟨_, 0, none⟩ L.length L.length (byteCells L) rfl hA1.out (hA2.out _) hA3.out hA4.out hA5.out ?_ ?_)
                    · simp; omega
                    · intro v' w2 hown2 hgrow _
                      have hbw2 := (hbw1.alloc hbs _).grown hgrow (by simp; omega) (fun k hk => (hlt k hk).1)
                      have hown3 := own_cat hown2
                      clear hown2 hgrow hbw1 hown1 hlt hbs
                      go_wp2
                      go_roundw
                      case rel => exact ⟨pos + n, acc ++ L, false, rfl, by go_num, hown3, hbw2, HA2.out, by simp; omega, hw2⟩
                      case measure => simp [RowKit.intOf]; omega
                  · skip
                    have HU := keep ((show unitL true c = encodeRune (c : Int) from unit_good hg (fun h => h10 h.1)))
                    rw [HU.out] at HA2
                    have hll : (encodeRune (c : Int)).length ≤ 4 := by simp only [encodeRune, List.length_map]; exact (encodeRuneZ_length (c : Int)).2
                    obtain ⟨L, hL⟩ : ∃ L, encodeRune (c : Int) = L := ⟨_, rfl⟩
                    have henc := fun W => encode_any (c : Int) (by omega) (by omega) (by omega) W
                    rw [hL] at henc hll HA2
                    have HE := keep henc
                    have hA1 := keep (cells_len L)
                    have hA2 := keep (cells_new L)
                    have hA3 := keep (byteCells_one L)
                    have hA4 := keep (show acc.length + L.length ≤ maxLen by unfold maxLen; omega)
                    have hA5 := keep (show (acc.length + L.length) * 1 ≤ 140737488355328 by omega)
                    have hlt := hown1.lt
                    have hbs := hbw1.size
                    clear henc hL HU
                    go_wp2_with (first | (go_at_call 20; refine (refGood_any _ (by omega) (by omega) _).mono ?_; rintro e w' ⟨rfl, rfl⟩) | (go_at_call 21; fail))
                    refine (HE.out _).mono ?_
                    rintro e w' ⟨rfl, rfl⟩
                    go_wp2_with (at_builtin; refine wpList_append_own _ rfl (.tmp 64) (.tmp 65) 33 rfl w.heap.size 5 i0 (.int .u8 0) 1 1 Tryd.underlying33 hi hz0 hz1 hz2 rfl (by decide) _ _ _ rfl (hown1.alloc _) ⟨_, 0, none⟩ L.length L.length (byteCells L) rfl hA1.out (hA2.out _) hA3.out hA4.out hA5.out ?_ ?_)
                    · simp; omega
                    · intro v' w2 hown2 hgrow _
                      have hbw2 := (hbw1.alloc hbs _).grown hgrow (by simp; omega) (fun k hk => (hlt k hk).1)
                      have hown3 := own_cat hown2
                      clear hown2 hgrow hbw1 hown1 hlt hbs
                      go_wp2
                      go_roundw
                      case rel => exact ⟨pos + n, acc ++ L, false, rfl, by go_num, hown3, hbw2, HA2.out, by simp; omega, hw2⟩
                      case measure => simp [RowKit.intOf]; omega
                · have hg2 : goodB c = false := by simpa using hg
                  clear hg
                  cases cr1
                  · skip
                    have HU := keep ((show unitL false c = encodeRune 65533 from unit_bad hg2 h13 (fun h => h10 h.1)))
                    rw [HU.out] at HA2
                    have hll : (encodeRune 65533).length ≤ 4 := by simp only [encodeRune, List.length_map]; exact (encodeRuneZ_length 65533).2
                    obtain ⟨L, hL⟩ : ∃ L, encodeRune 65533 = L := ⟨_, rfl⟩
                    have henc := fun W => encode_any 65533 (by omega) (by omega) (by omega) W
                    rw [hL] at henc hll HA2
                    have HE := keep henc
                    have hA1 := keep (cells_len L)
                    have hA2 := keep (cells_new L)
                    have hA3 := keep (byteCells_one L)
                    have hA4 := keep (show acc.length + L.length ≤ maxLen by unfold maxLen; omega)
                    have hA5 := keep (show (acc.length + L.length) * 1 ≤ 140737488355328 by omega)
                    have hlt := hown1.lt
                    have hbs := hbw1.size
                    clear henc hL HU
                    go_wp2_with (first | (go_at_call 20; refine (refGood_any _ (by omega) (by omega) _).mono ?_; rintro e w' ⟨rfl, rfl⟩) | (go_at_call 21; fail))
                    refine (HE.out _).mono ?_
                    rintro e w' ⟨rfl, rfl⟩
                    go_wp2_with (at_builtin; refine wpList_append_own _ rfl (.tmp 64) (.tmp 65) 33 rfl w.heap.size 5 i0 (.int .u8 0) 1 1 Tryd.underlying33 hi hz0 hz1 hz2 rfl (by decide) _ _ _ rfl (hown1.alloc _) ⟨_, 0, none⟩ L.length L.length (byteCells L) rfl hA1.out (hA2.out _) hA3.out hA4.out hA5.out ?_ ?_)
                    · simp; omega
                    · intro v' w2 hown2 hgrow _
                      have hbw2 := (hbw1.alloc hbs _).grown hgrow (by simp; omega) (fun k hk => (hlt k hk).1)
                      have hown3 := own_cat hown2
                      clear hown2 hgrow hbw1 hown1 hlt hbs
                      go_wp2
                      go_roundw
                      case rel => exact ⟨pos + n, acc ++ L, false, rfl, by go_num, hown3, hbw2, HA2.out, by simp; omega, hw2⟩
                      case measure => simp [RowKit.intOf]; omega
                  · skip
                    have HU := keep ((show unitL true c = encodeRune 65533 from unit_bad hg2 h13 (fun h => h10 h.1)))
                    rw [HU.out] at HA2
                    have hll : (encodeRune 65533).length ≤ 4 := by simp only [encodeRune, List.length_map]; exact (encodeRuneZ_length 65533).2
                    obtain ⟨L, hL⟩ : ∃ L, encodeRune 65533 = L := ⟨_, rfl⟩
                    have henc := fun W => encode_any 65533 (by omega) (by omega) (by omega) W
                    rw [hL] at henc hll HA2
                    have HE := keep henc
                    have hA1 := keep (cells_len L)
                    have hA2 := keep (cells_new L)
                    have hA3 := keep (byteCells_one L)
                    have hA4 := keep (show acc.length + L.length ≤ maxLen by unfold maxLen; omega)
                    have hA5 := keep (show (acc.length + L.length) * 1 ≤ 140737488355328 by omega)
                    have hlt := hown1.lt
                    have hbs := hbw1.size
                    clear henc hL HU
                    go_wp2_with (first | (go_at_call 20; refine (refGood_any _ (by omega) (by omega) _).mono ?_; rintro e w' ⟨rfl, rfl⟩) | (go_at_call 21; fail))
                    refine (HE.out _).mono ?_
                    rintro e w' ⟨rfl, rfl⟩
                    go_wp2_with (at_builtin; refine wpList_append_own _ rfl (.tmp 64) (.tmp 65) 33 rfl w.heap.size 5 i0 (.int .u8 0) 1 1 Tryd.underlying33 hi hz0 hz1 hz2 rfl (by decide) _ _ _ rfl (hown1.alloc _) ⟨_, 0, none⟩ L.length L.length (byteCells L) rfl hA1.out (hA2.out _) hA3.out hA4.out hA5.out ?_ ?_)
                    · simp; omega
                    · intro v' w2 hown2 hgrow _
                      have hbw2 := (hbw1.alloc hbs _).grown hgrow (by simp; omega) (fun k hk => (hlt k hk).1)
                      have hown3 := own_cat hown2
                      clear hown2 hgrow hbw1 hown1 hlt hbs
                      go_wp2
                      go_roundw
                      case rel => exact ⟨pos + n, acc ++ L, false, rfl, by go_num, hown3, hbw2, HA2.out, by simp; omega, hw2⟩
                      case measure => simp [RowKit.intOf]; omega
    · have HE : Hid _ := step_end hp HA.out
      have htx := own_text _ _ _ acc hown
      clear HA
      go_wp2
      go_ret3
      obtain ⟨rfl, rfl, rfl⟩ : R1 = acc ∧ R2 = [] ∧ R3 = cr1 := by
        have := HE.out
        simp only [Prod.mk.injEq] at this
        exact ⟨this.1.symm, this.2.1.symm, this.2.2.symm⟩
      exact ⟨rfl, hbw⟩
end Go.Proofs.YtgcfaannhkmilaaDoor
