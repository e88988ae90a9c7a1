/-
  scrubref's until and lowered: their walks.
-/
import Derived.Test.YtndglhflbenloaaGreatDoorRefUnref
import Derived.Test.YtndglhflbenloaaGreatDoorLower
import Derived.Test.YtndglhflbenloaaGreatDoorRefRun
namespace Go.Proofs.YtndglhflbenloaaGreatDoor
open Go.RowKit Go.Lib Own

set_option maxHeartbeats 1000000 in
theorem until_any (s : ByteArray) (i : Nat) (set : ByteArray) (w : World) (hi : i ≤ s.size) (hs : s.size ≤ 140737488355328) (ht : set.size ≤ 1000000) :
    Calls Tryz.prog 50 #[.string s, .int .i64 i, .string set] w fun e w' => e = .returned (.int .i64 ((i + ((s.data.toList.drop i).takeWhile fun c => !set.data.toList.contains c).length : Nat) : Int)) ∧ w' = w := by
  obtain ⟨r, hr⟩ : ∃ r, i + ((s.data.toList.drop i).takeWhile fun c => !set.data.toList.contains c).length = r := ⟨_, rfl⟩
  rw [hr]
  have HR := hid hr
  clear hr
  go_enter Tryz.func50, Tryz.ntmps50
  go_wp2
  go_loopw [1] (fun iv wr => ∃ k : Nat, iv = .int .i64 k ∧ k ≤ s.size ∧ wr = w ∧ Hid (k + ((s.data.toList.drop k).takeWhile fun c => !set.data.toList.contains c).length = r)) (fun iv _ => s.size - (RowKit.intOf iv).toNat)
  case atStart => exact ⟨i, rfl, hi, rfl, HR.out⟩
  case round =>
    obtain ⟨k, rfl, hk, rfl, HA⟩ := hrel
    by_cases hp : k < s.size
    · obtain ⟨x, hx⟩ : ∃ x, s[k]'hp = x := ⟨_, rfl⟩
      have hl := getElem_list hp hx
      have hc := fun W => among_any x set W ht
      obtain ⟨b, hb⟩ : ∃ b, set.data.toList.contains x = b := ⟨_, rfl⟩
      rw [hb] at hc
      have HC := hid hc
      cases b
      · have HB : Hid (k + 1 + ((s.data.toList.drop (k + 1)).takeWhile fun c => !set.data.toList.contains c).length = r) := by
          have := HA.out
          rw [while_step hl (by rw [hb]; rfl), List.length_cons] at this
          exact hid (by omega)
        clear hl hb hc HA
        go_wp2_with (go_at_call 74; refine (HC.out _).mono ?_; rintro e w' ⟨rfl, rfl⟩)
        go_roundw
        case rel => exact ⟨k + 1, rfl, by omega, by first | rfl | trivial, HB⟩
        case measure => simp [RowKit.intOf]; omega
      · have HB : Hid (k = r) := by
          have := HA.out
          rw [while_stop (fun c hc => by rw [hl] at hc; cases hc; rw [hb]; rfl)] at this
          simpa [Hid] using this
        clear hl hb hc HA
        go_wp2_with (go_at_call 74; refine (HC.out _).mono ?_; rintro e w' ⟨rfl, rfl⟩)
        go_ret
        exact ⟨ret_i64 (by have := HB.out; omega), rfl⟩
    · have HB : Hid (k = r) := by
        have := HA.out
        rw [List.drop_of_length_le (by rw [← size_eq]; omega)] at this
        simpa [Hid] using this
      clear HA
      go_wp2
      go_ret
      exact ⟨ret_i64 (by have := HB.out; omega), rfl⟩

set_option maxHeartbeats 4000000 in
set_option maxRecDepth 100000 in
theorem lowered_any (s : ByteArray) (w : World) (hs : s.size ≤ 10000000) :
    Calls Tryz.prog 72 #[.string s] w fun e w' => e = .returned (.string ⟨(s.data.toList.map lowC).toArray⟩) ∧ Below w.heap.size w w' := by
  obtain ⟨i0, hi, hz0, hz1, hz2⟩ := info_parts info_u8
  go_enter Tryz.func72, Tryz.ntmps72
  go_wp2
  go_loopw [3, 4] (fun bv iv wr => ∃ k : Nat, iv = .int .i64 k ∧ wr.ownsRow w.heap.size 5 1 bv ((s.data.toList.take k).map lowC).length (byteCells ((s.data.toList.take k).map lowC)) ∧ Below w.heap.size w wr ∧ k ≤ s.size) (fun _ iv _ => s.size - (RowKit.intOf iv).toNat)
  case atStart => exact ⟨0, rfl, World.ownsRow_nil _ _ _ _, Below.refl _ _, Nat.zero_le _⟩
  case round =>
    obtain ⟨k, rfl, hown, hbw, hk⟩ := hrel
    by_cases hp : k < s.size
    · obtain ⟨x, hx⟩ : ∃ x, s[k]'hp = x := ⟨_, rfl⟩
      have hl := getElem_list hp hx
      have hlt := hown.lt
      have hbs := hbw.size
      have hx0 := x.toNat_lt
      have hstep : (s.data.toList.take (k + 1)).map lowC = (s.data.toList.take k).map lowC ++ [lowC x] := by
        rw [List.take_add_one, hl, List.map_append]; rfl
      have hlz : ((s.data.toList.take k).map lowC).length = k := by rw [List.length_map, List.length_take, ← size_eq]; omega
      generalize (s.data.toList.take k).map lowC = acc at hown hstep hlz
      have hok := fun (w3 : World) (v3 : Value) (y : UInt8) (h : w3.ownsRow w.heap.size 5 1 v3 (k + 1) (byteCells acc ++ byteCells [y])) => own_cat (a := acc) (L := [y]) (by rw [hlz]; exact h)
      have HK := hid hok
      clear hok
      have hyz : ((lowC x).toNat : Int) = if 65 ≤ (x.toNat : Int) ∧ (x.toNat : Int) ≤ 90 then (x.toNat : Int) + 32 else (x.toNat : Int) := by
        rw [← lowZ_C]; rfl
      generalize lowC x = y at hstep hyz
      have HS := hid hstep
      have hA1 := hid (cells_len [y])
      have hA2 := hid (cells_new [y])
      have hA3 := hid (byteCells_one [y])
      have hA4 := hid (show acc.length + 1 ≤ maxLen by unfold maxLen; omega)
      have hA5 := hid (show (acc.length + 1) * 1 ≤ 140737488355328 by omega)
      have hcl : ∀ z : Int, ((y.toNat : Int) = z) → (byteCells [y]).toArray = #[Value.int .u8 z] := fun z hz => by subst hz; rfl
      have hCL := hid hcl
      clear hstep hl hcl
      by_cases hu : 65 ≤ (x.toNat : Int) ∧ (x.toNat : Int) ≤ 90
      · rw [if_pos hu] at hyz
        obtain ⟨u1, u2⟩ := hu
        have q0 := hCL.out _ hyz
        clear hyz
        go_wp2_with (at_builtin; refine wpList_append_own _ rfl (.tmp 23) (.tmp 25) 37 rfl w.heap.size 5 i0 (.int .u8 0) 1 1 Tryz.underlying37 hi hz0 hz1 hz2 rfl (by decide) _ _ _ rfl (hown.alloc _) ⟨_, 0, none⟩ 1 1 (byteCells [y]) rfl hA1.out (by have := hA2.out wr; rw [q0] at this; exact this) hA3.out hA4.out hA5.out ?_ ?_)
        · first | omega | (simp; omega)
        · intro v' w2 hown2 hgrow _
          have hbw2 := (hbw.alloc hbs _).grown hgrow (by simp; omega) (fun k hk => (hlt k hk).1)
          have hown3 := HK.out _ _ _ hown2
          clear hown2 hgrow hbw hown hlt hbs
          go_wp2
          go_roundw
          case rel => exact ⟨k + 1, rfl, by rw [HS.out]; exact hown3, hbw2, by omega⟩
          case measure => simp [RowKit.intOf]; omega
      · rw [if_neg hu] at hyz
        have q0 := hCL.out _ hyz
        clear hyz
        have q1 : ¬ (65 ≤ (x.toNat : Int) ∧ (x.toNat : Int) ≤ 90) := hu
        by_cases h65 : 65 ≤ (x.toNat : Int)
        · have h90 : ¬ (x.toNat : Int) ≤ 90 := fun h => hu ⟨h65, h⟩
          clear q1 hu
          go_wp2_with (at_builtin; refine wpList_append_own _ rfl (.tmp 23) (.tmp 25) 37 rfl w.heap.size 5 i0 (.int .u8 0) 1 1 Tryz.underlying37 hi hz0 hz1 hz2 rfl (by decide) _ _ _ rfl (hown.alloc _) ⟨_, 0, none⟩ 1 1 (byteCells [y]) rfl hA1.out (by have := hA2.out wr; rw [q0] at this; exact this) hA3.out hA4.out hA5.out ?_ ?_)
          · first | omega | (simp; omega)
          · intro v' w2 hown2 hgrow _
            have hbw2 := (hbw.alloc hbs _).grown hgrow (by simp; omega) (fun k hk => (hlt k hk).1)
            have hown3 := HK.out _ _ _ hown2
            clear hown2 hgrow hbw hown hlt hbs
            go_wp2
            go_roundw
            case rel => exact ⟨k + 1, rfl, by rw [HS.out]; exact hown3, hbw2, by omega⟩
            case measure => simp [RowKit.intOf]; omega
        · clear q1 hu
          go_wp2_with (at_builtin; refine wpList_append_own _ rfl (.tmp 23) (.tmp 25) 37 rfl w.heap.size 5 i0 (.int .u8 0) 1 1 Tryz.underlying37 hi hz0 hz1 hz2 rfl (by decide) _ _ _ rfl (hown.alloc _) ⟨_, 0, none⟩ 1 1 (byteCells [y]) rfl hA1.out (by have := hA2.out wr; rw [q0] at this; exact this) hA3.out hA4.out hA5.out ?_ ?_)
          · first | omega | (simp; omega)
          · intro v' w2 hown2 hgrow _
            have hbw2 := (hbw.alloc hbs _).grown hgrow (by simp; omega) (fun k hk => (hlt k hk).1)
            have hown3 := HK.out _ _ _ hown2
            clear hown2 hgrow hbw hown hlt hbs
            go_wp2
            go_roundw
            case rel => exact ⟨k + 1, rfl, by rw [HS.out]; exact hown3, hbw2, by omega⟩
            case measure => simp [RowKit.intOf]; omega
    · have hks : k = s.size := by omega
      subst hks
      have hall : s.data.toList.take s.size = s.data.toList := List.take_of_length_le (by rw [← size_eq]; omega)
      rw [hall] at hown
      have ht := own_text wr _ _ (s.data.toList.map lowC) hown
      go_wp2
      go_ret
      exact ⟨rfl, hbw⟩
end Go.Proofs.YtndglhflbenloaaGreatDoor
