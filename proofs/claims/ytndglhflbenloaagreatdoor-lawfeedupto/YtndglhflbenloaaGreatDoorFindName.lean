/-
  chars.findName: its walk.
-/
import Derived.Test.YtndglhflbenloaaGreatDoorGen
import Derived.Test.YtndglhflbenloaaGreatDoorNumAny
import Derived.Test.YtndglhflbenloaaGreatDoorShelf
import Derived.Deep.Cut
import Derived.BigQuiet
namespace Go.Proofs.YtndglhflbenloaaGreatDoor
open Go.RowKit Go.Lib Go.Great

theorem names_len : namesV.length = 78 := by decide +kernel
def allT : List (List UInt8 × Int) := eitherT ++ closedT
theorem flat_at (f : List UInt8 × Int → Value) (g : List UInt8 × Int → Value) : ∀ (T : List (List UInt8 × Int)) (k : Nat) (x : List UInt8 × Int), T[k]? = some x → ((T.flatMap fun t => [f t, g t]).drop (k * 2)).take 2 = [f x, g x]
  | [], k, x, h => by simp at h
  | t :: T, 0, x, h => by
    simp only [List.getElem?_cons_zero, Option.some.injEq] at h
    subst h
    rfl
  | t :: T, k + 1, x, h => by
    rw [List.getElem?_cons_succ] at h
    have := flat_at f g T k x h
    rw [show (k + 1) * 2 = k * 2 + 2 from by omega, List.flatMap_cons, ← List.drop_drop]
    rw [List.drop_drop, show k * 2 + 2 = 2 + k * 2 from by omega, ← List.drop_drop]
    exact this
theorem names_at (k : Nat) (x : List UInt8 × Int) (h : allT[k]? = some x) : (namesV.drop (k * 2)).take 2 = [strV x.1, .int .i32 x.2] :=
  flat_at (fun t => strV t.1) (fun t => .int .i32 t.2) allT k x h
theorem index_names (k : Nat) (x : List UInt8 × Int) (h : allT[k]? = some x) (W : World) :
    (Instr.index 124 (.agg namesV.toArray) (.int .i64 (k : Int))).run Tryz.prog W = .ok (.agg #[strV x.1, .int .i32 x.2]) W := by
  have h39 : k < 39 := (List.getElem?_eq_some_iff.1 h).1
  have hn : (0 ≤ (k : Int) ∧ (k : Int) < 39) := by omega
  have ha := names_at k x h
  simp [Instr.index, run_underlying Tryz.underlying124, asIntOf, h39, go_sem, ha]
theorem all_small : ∀ t ∈ allT, 0 < t.1.length ∧ t.1.length ≤ 100 := by decide +kernel
set_option maxHeartbeats 1000000 in
set_option maxRecDepth 100000 in
theorem findName_any (s : ByteArray) (w : World) (_hs : s.size ≤ 140737488355328) (hT : ChTabs w) :
    Calls Tryz.prog 90 #[.string s] w fun e w' => e = .returned (.tuple #[.int .i64 ((nameL s.data.toList).1 : Int), .int .i32 (nameL s.data.toList).2]) ∧ Below w.heap.size w w' := by
  have HT := hid hT
  clear hT
  obtain ⟨R, hR⟩ : ∃ R, nameL s.data.toList = R := ⟨_, rfl⟩
  rw [hR]
  obtain ⟨R1, R2⟩ := R
  have HR := hid (fun (_ : True) => hR)
  clear hR
  go_enter Tryz.func90, Tryz.ntmps90
  go_upto_region 1 with fail
  apply wp_region_lit
  refine wpList_load_mid rfl 124 _ rfl 0 0 rfl namesV (.array 39 123) HT.out.names Tryz.underlying124 rfl (by rw [names_len]; kernel_rfl) ?_
  go_wp2
  go_loopw [2, 3, 7] (fun lv cv iv wr => ∃ (k l : Nat) (c : Int), iv = .int .i64 k ∧ k ≤ 39 ∧ lv = .int .i64 l ∧ l ≤ 100 ∧ l ≤ s.size ∧ cv = .int .i32 c ∧ Below w.heap.size w wr ∧ Hid ((allT.drop k).foldl (step1 s.data.toList) (l, c) = name1 s.data.toList allT)) (fun _ _ iv _ => 39 - (RowKit.intOf iv).toNat)
  case atStart => exact ⟨0, 0, 0, rfl, by omega, rfl, by omega, Nat.zero_le _, rfl, Below.refl _ _, hid rfl⟩
  case round =>
    obtain ⟨k, l, c, rfl, hk, rfl, hl, hls, rfl, hbw, HA⟩ := hrel
    by_cases hp : k < 39
    · obtain ⟨x, hx⟩ : ∃ x, allT[k]? = some x := ⟨_, List.getElem?_eq_getElem hp⟩
      obtain ⟨h1, h2⟩ := List.getElem?_eq_some_iff.1 hx
      have hd := List.drop_eq_getElem_cons h1
      rw [h2] at hd
      have hsm := all_small x (by rw [← h2]; exact List.getElem_mem h1)
      have hix := fun W => index_names k x hx W
      have hst := HA.out
      rw [hd, List.foldl_cons] at hst
      have hpf := fun W => Tryz.strings_HasPrefix s ⟨x.1.toArray⟩ W
      rw [show (⟨x.1.toArray⟩ : ByteArray).data.toList = x.1 from rfl] at hpf
      have hxz : (⟨x.1.toArray⟩ : ByteArray).size = x.1.length := by simp [ByteArray.size]
      obtain ⟨N, C⟩ := x
      simp only at hsm hpf hxz
      have hone : step1 s.data.toList (l, c) (N, C) = if l < N.length ∧ N.isPrefixOf s.data.toList = true then (N.length, C) else (l, c) := by unfold step1; simp only [List.isPrefixOf_iff_prefix]
      rw [hone] at hst
      clear hone
      unfold Lib.hasPrefix at hpf
      have hbs : N.isPrefixOf s.data.toList = true → N.length ≤ s.size := fun h => by rw [size_eq]; exact (List.isPrefixOf_iff_prefix.1 h).length_le
      generalize N.isPrefixOf s.data.toList = b at hpf hst hbs
      unfold strV at hix
      simp only at hix
      obtain ⟨bN, hbN⟩ : ∃ bN : ByteArray, (⟨N.toArray⟩ : ByteArray) = bN := ⟨_, rfl⟩
      rw [hbN] at hix hpf hxz
      have HI := hid hix
      have HP := hid hpf
      have HS := hid hst
      clear hst hpf hbN hx hd h1 h2 HA
      by_cases hlt : l < N.length
      · cases b
        · go_wp2_with (go_at_call 88; refine (HP.out _).mono ?_; rintro e w' ⟨rfl, rfl⟩)
          go_roundw
          case rel =>
            refine ⟨k + 1, l, c, rfl, by omega, rfl, hl, hls, rfl, hbw.alloc hbw.size _, ?_⟩
            have := HS.out
            rw [if_neg (by simp)] at this
            exact this
          case measure => simp [RowKit.intOf]; omega
        · go_wp2_with (go_at_call 88; refine (HP.out _).mono ?_; rintro e w' ⟨rfl, rfl⟩)
          go_quiet (fail)
          all_goals go_wp2
          all_goals go_roundw
          case rel =>
            refine ⟨k + 1, N.length, C, rfl, by omega, by first | rfl | rw [hxz], hsm.2, by simpa using hbs, rfl, below_drewN (hbw.alloc hbw.size _) _, ?_⟩
            have := HS.out
            rw [if_pos (by simp [hlt])] at this
            exact this
          case measure => simp [RowKit.intOf]; omega
      · go_wp2
        go_roundw
        case rel =>
          refine ⟨k + 1, l, c, rfl, by omega, rfl, hl, hls, rfl, hbw.alloc hbw.size _, ?_⟩
          have := HS.out
          rw [if_neg (fun h => hlt h.1)] at this
          exact this
        case measure => simp [RowKit.intOf]; omega
    · have hend : (l, c) = name1 s.data.toList allT := by
        have := HA.out
        rw [List.drop_of_length_le (show allT.length ≤ k by have : allT.length = 39 := rfl; omega)] at this
        exact this
      have hN : (R1, R2) = shut1 s.data.toList (l, c) := by rw [← HR.out trivial, hend]; rfl
      clear hend HA
      by_cases h0 : l = 0
      · have hr : shut1 s.data.toList (l, c) = (0, c) := by subst h0; unfold shut1; rw [if_neg (by simp)]
        obtain ⟨rfl, rfl⟩ := Prod.mk.inj (hN.trans hr)
        subst h0
        clear hr hN
        go_wp2
        refine bodyPost_ret (v := .tuple #[.int .i64 0, .int .i32 R2]) ?_ rfl ⟨rfl, hbw⟩
        simp [results, Tryz.results90, go_sem]
      · obtain ⟨m, rfl⟩ : ∃ m, l = m + 1 := ⟨l - 1, by omega⟩
        have hm : m < s.size := by omega
        obtain ⟨x, hx⟩ : ∃ x, s[m]'hm = x := ⟨_, rfl⟩
        have hxl := getElem_list hm hx
        by_cases hx9 : x = 59
        · have hr : shut1 s.data.toList (m + 1, c) = (m + 1, c) := by
            unfold shut1
            rw [if_neg]
            intro h
            exact h.2.1 (by simp only [Nat.add_sub_cancel]; rw [hxl, hx9])
          obtain ⟨rfl, rfl⟩ := Prod.mk.inj (hN.trans hr)
          have q : ((x.toNat : Int) != 59) = false := by rw [hx9]; rfl
          clear hr hN hxl hx9
          go_wp2
          refine bodyPost_ret (v := .tuple #[.int .i64 ((m + 1 : Nat) : Int), .int .i32 R2]) ?_ rfl ⟨rfl, hbw⟩
          simp [results, Tryz.results90, go_sem]
        · have q : ((x.toNat : Int) != 59) = true := bne_iff_ne.2 (fun h => hx9 (UInt8.toNat_inj.1 (by simp; omega)))
          have hpp : (s.extract (m + 1) s.size).data.toList = s.data.toList.drop (m + 1) := extract_to_end s (m + 1)
          have hpf := fun W => Tryz.strings_HasPrefix (s.extract (m + 1) s.size) ⟨#[59]⟩ W
          rw [hpp] at hpf
          have hbb : Lib.hasPrefix (s.data.toList.drop (m + 1)) (⟨#[59]⟩ : ByteArray).data.toList = (s.data.toList[m + 1]? == some 59) := by
            unfold Lib.hasPrefix
            rcases Nat.lt_or_ge (m + 1) s.data.toList.length with h | h
            · rw [List.drop_eq_getElem_cons h, List.getElem?_eq_getElem h]
              simp only [List.isPrefixOf, Bool.and_true, Option.some_beq_some]
              exact BEq.comm
            · rw [List.drop_of_length_le h, List.getElem?_eq_none h]
              rfl
          rw [hbb] at hpf
          cases hb : (s.data.toList[m + 1]? == some 59)
          · have hr : shut1 s.data.toList (m + 1, c) = (m + 1, c) := by
              unfold shut1
              rw [if_neg]
              intro h
              rw [h.2.2] at hb
              simp at hb
            obtain ⟨rfl, rfl⟩ := Prod.mk.inj (hN.trans hr)
            rw [hb] at hpf
            have HP := hid hpf
            clear hr hN hxl hx9 hpf hbb hpp hb
            go_wp2_with (go_at_call 88; refine (HP.out _).mono ?_; rintro e w' ⟨rfl, rfl⟩)
            refine bodyPost_ret (v := .tuple #[.int .i64 ((m + 1 : Nat) : Int), .int .i32 R2]) ?_ rfl ⟨rfl, hbw⟩
            simp [results, Tryz.results90, go_sem]
          · have hr : shut1 s.data.toList (m + 1, c) = (m + 2, c) := by
              unfold shut1
              rw [if_pos]
              refine ⟨by simp, ?_, by simpa using hb⟩
              simp only [Nat.add_sub_cancel]
              rw [hxl]
              exact fun h => hx9 (Option.some.inj h)
            obtain ⟨rfl, rfl⟩ := Prod.mk.inj (hN.trans hr)
            rw [hb] at hpf
            have HP := hid hpf
            clear hr hN hxl hx9 hpf hbb hpp hb
            go_wp2_with (go_at_call 88; refine (HP.out _).mono ?_; rintro e w' ⟨rfl, rfl⟩)
            refine bodyPost_ret (v := .tuple #[.int .i64 ((m : Int) + 1 + 1), .int .i32 R2]) ?_ rfl ⟨rfl, hbw⟩
            simp [results, Tryz.results90, go_sem]
end Go.Proofs.YtndglhflbenloaaGreatDoor
