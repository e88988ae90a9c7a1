/-
  scrubref.Unref: its walk.
-/
import Derived.Test.YtndglhflbenloaaGreatDoorUnref
import Derived.Test.YtndglhflbenloaaGreatDoorOwn
namespace Go.Proofs.YtndglhflbenloaaGreatDoor
open Go.RowKit Go.Lib Own

set_option maxHeartbeats 4000000 in
set_option maxRecDepth 100000 in
theorem refUnref_any (s : ByteArray) (attr : Bool) (w : World) (hs : s.size ≤ 10000000) (hT : RefTabs w) :
    Calls Tryz.prog 38 #[.string s, .bool attr] w fun e w' => e = .returned (.string ⟨(unr attr s.data.toList).toArray⟩) ∧ Below w.heap.size w w' := by
  obtain ⟨i0, hi, hz0, hz1, hz2⟩ := info_parts info_u8
  obtain ⟨R, hR⟩ : ∃ R, unr attr s.data.toList = R := ⟨_, rfl⟩
  rw [hR]
  have HR := hid (fun (_ : True) => hR)
  have HT := hid hT
  clear hR hT
  go_enter Tryz.func38, Tryz.ntmps38
  go_wp2
  go_loopw [5, 6] (fun bv iv wr => ∃ (pos : Nat) (acc : List UInt8), iv = .int .i64 pos ∧ wr.ownsRow w.heap.size 5 1 bv acc.length (byteCells acc) ∧ Below w.heap.size w wr ∧ Hid (True → acc ++ unr attr (s.data.toList.drop pos) = R) ∧ acc.length ≤ 4 * pos ∧ pos ≤ s.size) (fun _ iv _ => s.size - (RowKit.intOf iv).toNat)
  case atStart => exact ⟨0, [], rfl, World.ownsRow_nil _ _ _ _, Below.refl _ _, HR.out, by simp, Nat.zero_le _⟩
  case round =>
    obtain ⟨pos, acc, rfl, hown, hbw, HA, hal, hps⟩ := hrel
    by_cases hp : pos < s.size
    · obtain ⟨x, hx⟩ : ∃ x, s[pos]'hp = x := ⟨_, rfl⟩
      have hl := getElem_list hp hx
      obtain ⟨h1, h2⟩ := List.getElem?_eq_some_iff.1 hl
      have hd := List.drop_eq_getElem_cons h1
      rw [h2] at hd
      have hst := HA.out trivial
      rw [hd] at hst
      clear hl h1 h2 hd HA
      have hlt := hown.lt
      have hbs := hbw.size
      by_cases hx38 : x = 38
      · subst hx38
        have q : (((38 : UInt8).toNat : Int) != 38) = false := rfl
        rw [unr_amp] at hst
        obtain ⟨tb, htb⟩ : ∃ tb, s.extract (pos + 1) s.size = tb := ⟨_, rfl⟩
        have htl : tb.data.toList = s.data.toList.drop (pos + 1) := by rw [← htb]; exact extract_to_end s (pos + 1)
        have htz : tb.size = s.size - (pos + 1) := by rw [size_eq, htl, List.length_drop, ← size_eq]
        have hfr := fun W hTW => referred_any tb attr W (by omega) hTW
        have hle := ref_le attr tb.data.toList
        have hrg := ref_range attr tb.data.toList
        have hone : oneL attr tb.data.toList = if (refL attr tb.data.toList).1 = 0 then [38] else encodeRune (refL attr tb.data.toList).2 := rfl
        rw [← htl, hone] at hst
        rw [← size_eq] at hle
        obtain ⟨qq, hqq⟩ : ∃ qq, refL attr tb.data.toList = qq := ⟨_, rfl⟩
        rw [hqq] at hfr hle hrg hst
        obtain ⟨n, c⟩ := qq
        simp only at hfr hle hrg hst
        rw [htl, List.drop_drop] at hst
        have HF := hid hfr
        have HT1 : RefTabs wr := HT.out.below hbw
        obtain ⟨hc0, hc1, hc2⟩ := hrg
        clear hone hqq hfr htl
        by_cases hn : n = 0
        · subst hn
          rw [if_pos rfl] at hst
          have e38 : encodeRune 38 = [38] := by decide
          have henc := fun W => encode_any 38 (by omega) (by omega) (by omega) W
          rw [e38] at henc
          obtain ⟨E, hE⟩ : ∃ E : List UInt8, [38] = E := ⟨_, rfl⟩
          have hEl : E.length ≤ 4 := by rw [← hE]; simp
          rw [hE] at henc hst
          have hst2 : acc ++ E ++ unr attr (s.data.toList.drop (pos + 1)) = R := by rw [← hst]; simp
          have HS := hid (fun (_ : True) => hst2)
          clear hst hst2 hE e38 hc0 hc1 hc2
          have HE := hid henc
          have hA1 := hid (cells_len E)
          have hA2 := hid (cells_new E)
          have hA3 := hid (byteCells_one E)
          have hA4 := hid (show acc.length + E.length ≤ maxLen by unfold maxLen; omega)
          have hA5 := hid (show (acc.length + E.length) * 1 ≤ 140737488355328 by omega)
          clear henc
          go_wp2_with (go_at_call 70; refine (HF.out _ HT1).mono ?_; rintro e W1 ⟨v, rfl, hv, b1⟩)
          have hown1 := hown.kept (row := none) ⟨b1.os, b1.tape, b1.output, b1.size, fun k hk _ => b1.block k hk⟩ (Classical.em _)
          have hbw1 := hbw.trans (b1.mono hbs)
          clear b1 hown hbw hlt hbs
          have hlt := hown1.lt
          have hbs := hbw1.size
          go_wp2_with fail
          refine (HE.out _).mono ?_
          rintro e W2 ⟨rfl, rfl⟩
          go_wp2_with (at_builtin; refine wpList_append_own _ rfl (.tmp 41) (.tmp 42) 37 rfl w.heap.size 5 i0 (.int .u8 0) 1 1 Tryz.underlying37 hi hz0 hz1 hz2 rfl (by decide) _ _ _ rfl (hown1.alloc _) ⟨_, 0, none⟩ E.length E.length (byteCells E) rfl hA1.out (hA2.out _) hA3.out hA4.out hA5.out ?_ ?_)
          · simp; omega
          · intro v' w2 hown2 hgrow _
            have hbw2 := (hbw1.alloc hbs _).grown hgrow (by simp; omega) (fun k hk => (hlt k hk).1)
            have hown3 := own_cat hown2
            clear hown2 hgrow hbw1 hown1 hlt hbs
            go_wp2
            go_roundw
            case rel => exact ⟨pos + 1, acc ++ E, rfl, hown3, hbw2, HS.out, by rw [List.length_append]; omega, by omega⟩
            case measure => simp [RowKit.intOf]; omega
        · have qn : ((n : Int) == 0) = false := beq_eq_false_iff_ne.2 (by omega)
          rw [if_neg hn] at hst
          have henc := fun W => encode_any c (by omega) (by omega) (by omega) W
          have hEl : (encodeRune c).length ≤ 4 := by rw [← runeCells_length]; exact (runeCells_le c).2
          obtain ⟨E, hE⟩ : ∃ E, encodeRune c = E := ⟨_, rfl⟩
          rw [hE] at henc hst hEl
          have hst2 : acc ++ E ++ unr attr (s.data.toList.drop (pos + 1 + n)) = R := by rw [← hst]; simp
          have HS := hid (fun (_ : True) => hst2)
          clear hst hst2 hE
          have HE := hid henc
          have hA1 := hid (cells_len E)
          have hA2 := hid (cells_new E)
          have hA3 := hid (byteCells_one E)
          have hA4 := hid (show acc.length + E.length ≤ maxLen by unfold maxLen; omega)
          have hA5 := hid (show (acc.length + E.length) * 1 ≤ 140737488355328 by omega)
          clear henc
          go_wp2_with (go_at_call 70; refine (HF.out _ HT1).mono ?_; rintro e W1 ⟨v, rfl, hv, b1⟩; obtain rfl := hv hn)
          have hown1 := hown.kept (row := none) ⟨b1.os, b1.tape, b1.output, b1.size, fun k hk _ => b1.block k hk⟩ (Classical.em _)
          have hbw1 := hbw.trans (b1.mono hbs)
          clear b1 hown hbw hlt hbs
          have hlt := hown1.lt
          have hbs := hbw1.size
          go_wp2_with fail
          refine (HE.out _).mono ?_
          rintro e W2 ⟨rfl, rfl⟩
          go_wp2_with (at_builtin; refine wpList_append_own _ rfl (.tmp 41) (.tmp 42) 37 rfl w.heap.size 5 i0 (.int .u8 0) 1 1 Tryz.underlying37 hi hz0 hz1 hz2 rfl (by decide) _ _ _ rfl (hown1.alloc _) ⟨_, 0, none⟩ E.length E.length (byteCells E) rfl hA1.out (hA2.out _) hA3.out hA4.out hA5.out ?_ ?_)
          · simp; omega
          · intro v' w2 hown2 hgrow _
            have hbw2 := (hbw1.alloc hbs _).grown hgrow (by simp; omega) (fun k hk => (hlt k hk).1)
            have hown3 := own_cat hown2
            clear hown2 hgrow hbw1 hown1 hlt hbs
            go_wp2
            go_roundw
            case rel => exact ⟨pos + 1 + n, acc ++ E, rfl, hown3, hbw2, HS.out, by rw [List.length_append]; omega, by omega⟩
            case measure => simp [RowKit.intOf]; omega
      · have q : ((x.toNat : Int) != 38) = true := bne_iff_ne.2 (fun h => hx38 (UInt8.toNat_inj.1 (by simp; omega)))
        rw [unr_other attr x _ hx38] at hst
        have hst2 : acc ++ [x] ++ unr attr (s.data.toList.drop (pos + 1)) = R := by rw [← hst]; simp
        have HS := hid (fun (_ : True) => hst2)
        clear hst hst2 hx38
        have hA1 := hid (cells_len [x])
        have hA2 := hid (cells_new [x])
        have hA3 := hid (byteCells_one [x])
        have hA4 := hid (show acc.length + 1 ≤ maxLen by unfold maxLen; omega)
        have hA5 := hid (show (acc.length + 1) * 1 ≤ 140737488355328 by omega)
        go_wp2_with (at_builtin; refine wpList_append_own _ rfl (.tmp 22) (.tmp 24) 37 rfl w.heap.size 5 i0 (.int .u8 0) 1 1 Tryz.underlying37 hi hz0 hz1 hz2 rfl (by decide) _ _ _ rfl (hown.alloc _) ⟨_, 0, none⟩ 1 1 (byteCells [x]) rfl hA1.out (hA2.out _) hA3.out hA4.out hA5.out ?_ ?_)
        · simp; omega
        · intro v' w2 hown2 hgrow _
          have hbw2 := (hbw.alloc hbs _).grown hgrow (by simp; omega) (fun k hk => (hlt k hk).1)
          have hown3 := own_cat (L := [x]) hown2
          clear hown2 hgrow hbw hown hlt hbs
          go_wp2
          go_roundw
          case rel => exact ⟨pos + 1, acc ++ [x], rfl, hown3, hbw2, HS.out, by simp; omega, by omega⟩
          case measure => simp [RowKit.intOf]; omega
    · have hst : acc = R := by
        have := HA.out trivial
        rw [List.drop_of_length_le (by rw [← size_eq]; omega), unr_nil, List.append_nil] at this
        exact this
      subst hst
      have hc := own_text wr w.heap.size _ acc hown
      go_wp2
      go_ret
      exact ⟨rfl, hbw⟩
end Go.Proofs.YtndglhflbenloaaGreatDoor
