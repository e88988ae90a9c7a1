/-
  scrubref.named: its walk.
-/
import Derived.Test.YtndglhflbenloaaGreatDoorNumAny
namespace Go.Proofs.YtndglhflbenloaaGreatDoor
open Go.RowKit Go.Lib

theorem either_small : ∀ t ∈ eitherT, 0 < t.1.length ∧ t.1.length ≤ 20 := by decide +kernel
theorem closed_small : ∀ t ∈ closedT, 0 < t.1.length ∧ t.1.length ≤ 20 := by decide +kernel
theorem map_at {f : List UInt8 × Int → Value} {T : List (List UInt8 × Int)} {k : Nat} {x : List UInt8 × Int} (h : T[k]? = some x) : (T.map f)[k]? = some (f x) := by
  rw [List.getElem?_map, h]; rfl
set_option maxHeartbeats 2000000 in
set_option maxRecDepth 100000 in
theorem named_any (s : ByteArray) (w : World) (hT : RefTabs w) :
    Calls Tryz.prog 95 #[.string s] w fun e w' => e = .returned (.tuple #[.string ⟨(name2 s.data.toList eitherT closedT).1.toArray⟩, .int .i64 (name2 s.data.toList eitherT closedT).2]) ∧ w' = w := by
  have HT := hid hT
  clear hT
  obtain ⟨A, hA⟩ : ∃ A, eitherT.foldl (stepE s.data.toList) ([], 0) = A := ⟨_, rfl⟩
  obtain ⟨R, hR⟩ : ∃ R, name2 s.data.toList eitherT closedT = R := ⟨_, rfl⟩
  rw [hR]
  have hR2 : closedT.foldl (stepC s.data.toList) A = R := by rw [← hA]; exact hR
  obtain ⟨A1, A2⟩ := A
  obtain ⟨R1, R2⟩ := R
  have HA := hid (fun (_ : True) => hA)
  have HR := hid (fun (_ : True) => hR2)
  clear hA hR hR2
  go_enter Tryz.func95, Tryz.ntmps95
  go_wp2
  go_loopw [4, 5, 6] (fun bv cv iv wr => ∃ (k : Nat) (b : ByteArray) (c : Int), bv = .string b ∧ cv = .int .i64 c ∧ iv = .int .i64 k ∧ k ≤ 15 ∧ b.size ≤ 100 ∧ wr = w ∧ Hid (True → (eitherT.drop k).foldl (stepE s.data.toList) (b.data.toList, c) = (A1, A2))) (fun _ _ iv _ => 15 - (RowKit.intOf iv).toNat)
  case atStart => exact ⟨0, ⟨#[]⟩, 0, rfl, rfl, rfl, by omega, by decide, rfl, HA.out⟩
  case round =>
    obtain ⟨k, b, c, rfl, rfl, rfl, hk, hb, rfl, HB⟩ := hrel
    by_cases hp : k < 15
    · obtain ⟨x, hx⟩ : ∃ x, eitherT[k]? = some x := ⟨_, List.getElem?_eq_getElem hp⟩
      obtain ⟨h1, h2⟩ := List.getElem?_eq_some_iff.1 hx
      have hd := List.drop_eq_getElem_cons h1
      rw [h2] at hd
      have hsm := either_small x (by rw [← h2]; exact List.getElem_mem h1)
      have cn := HT.out.eitherN k (strV x.1) (map_at hx)
      have cc := HT.out.eitherC k (.int .i64 x.2) (map_at hx)
      rw [Nat.zero_add] at cn cc
      have hst := HB.out trivial
      rw [hd, List.foldl_cons] at hst
      obtain ⟨N, C⟩ := x
      simp only at hsm cn cc
      unfold strV at cn
      obtain ⟨bN, hbN⟩ : ∃ bN : ByteArray, (⟨N.toArray⟩ : ByteArray) = bN := ⟨_, rfl⟩
      rw [hbN] at cn
      have hbl : bN.data.toList = N := by rw [← hbN]
      have hbz : bN.size = N.length := by rw [size_eq, hbl]
      obtain ⟨cN, hcN⟩ : ∃ cN : ByteArray, bN ++ (⟨#[59]⟩ : ByteArray) = cN := ⟨_, rfl⟩
      have hcl : cN.data.toList = N ++ [59] := by rw [← hcN, ByteArray.data_append, Array.toList_append, hbl]
      have hcz : cN.size = N.length + 1 := by rw [size_eq, hcl]; simp
      have hg1 := fun W => begins_any s cN W
      have hg2 := fun W => begins_any s bN W
      rw [hcl] at hg1
      rw [hbl] at hg2
      have hone : stepE s.data.toList (b.data.toList, c) (N, C) = if (N ++ [59]).isPrefixOf s.data.toList = true then (if b.size < N.length + 1 then (N ++ [59], C) else (b.data.toList, c)) else if N.isPrefixOf s.data.toList = true ∧ b.size < N.length then (N, C) else (b.data.toList, c) := by
        unfold stepE
        simp only [List.isPrefixOf_iff_prefix]
        by_cases hh : N ++ [59] <+: s.data.toList
        · simp only [hh, if_true, true_and, List.length_append, List.length_singleton, ← size_eq]
        · simp only [hh, if_false, ← size_eq]
      rw [hone] at hst
      generalize (N ++ [59]).isPrefixOf s.data.toList = b1 at hst hg1
      generalize N.isPrefixOf s.data.toList = b2 at hst hg2
      have HS := hid (fun (_ : True) => hst)
      have G1 := hid hg1
      have G2 := hid hg2
      have HL := hid hbl
      have HC := hid hcl
      clear hst hg1 hg2 hbN hx hd h1 h2 HB hone hbl hcl
      cases b1
      · cases b2
        · go_wp2_with (first | (go_at_call_of 73 (Value.string cN); refine (G1.out _).mono ?_; rintro e w' ⟨rfl, rfl⟩) | (go_at_call_of 73 (Value.string bN); refine (G2.out _).mono ?_; rintro e w' ⟨rfl, rfl⟩))
          go_roundw
          case rel =>
            refine ⟨k + 1, b, c, rfl, rfl, rfl, by omega, hb, by first | rfl | trivial, ?_⟩
            have := HS.out
            simpa [Hid] using this
          case measure => simp [RowKit.intOf]; omega
        · by_cases hlt : b.size < bN.size
          · go_wp2_with (first | (go_at_call_of 73 (Value.string cN); refine (G1.out _).mono ?_; rintro e w' ⟨rfl, rfl⟩) | (go_at_call_of 73 (Value.string bN); refine (G2.out _).mono ?_; rintro e w' ⟨rfl, rfl⟩))
            go_roundw
            case rel =>
              refine ⟨k + 1, bN, C, rfl, rfl, rfl, by omega, by omega, by first | rfl | trivial, ?_⟩
              have := HS.out trivial
              rw [if_neg (by simp), if_pos ⟨trivial, by omega⟩, ← HL.out] at this
              exact hid (fun _ => this)
            case measure => simp [RowKit.intOf]; omega
          · go_wp2_with (first | (go_at_call_of 73 (Value.string cN); refine (G1.out _).mono ?_; rintro e w' ⟨rfl, rfl⟩) | (go_at_call_of 73 (Value.string bN); refine (G2.out _).mono ?_; rintro e w' ⟨rfl, rfl⟩))
            go_roundw
            case rel =>
              refine ⟨k + 1, b, c, rfl, rfl, rfl, by omega, hb, by first | rfl | trivial, ?_⟩
              have := HS.out trivial
              rw [if_neg (by simp), if_neg (fun h => hlt (by omega))] at this
              exact hid (fun _ => this)
            case measure => simp [RowKit.intOf]; omega
      · by_cases hlt : b.size < cN.size
        · go_wp2_with (first | (go_at_call_of 73 (Value.string cN); refine (G1.out _).mono ?_; rintro e w' ⟨rfl, rfl⟩))
          go_roundw
          case rel =>
            refine ⟨k + 1, cN, C, rfl, rfl, rfl, by omega, by omega, by first | rfl | trivial, ?_⟩
            have := HS.out trivial
            rw [if_pos trivial, if_pos (by omega), ← HC.out] at this
            exact hid (fun _ => this)
          case measure => simp [RowKit.intOf]; omega
        · go_wp2_with (first | (go_at_call_of 73 (Value.string cN); refine (G1.out _).mono ?_; rintro e w' ⟨rfl, rfl⟩))
          go_roundw
          case rel =>
            refine ⟨k + 1, b, c, rfl, rfl, rfl, by omega, hb, by first | rfl | trivial, ?_⟩
            have := HS.out trivial
            rw [if_pos trivial, if_neg (by omega)] at this
            exact hid (fun _ => this)
          case measure => simp [RowKit.intOf]; omega
    · have hend : (b.data.toList, c) = (A1, A2) := by
        have := HB.out trivial
        rw [List.drop_of_length_le (show eitherT.length ≤ k by have : eitherT.length = 15 := rfl; omega)] at this
        exact this
      obtain ⟨e1, rfl⟩ := Prod.mk.inj hend
      have HE := hid (fun (_ : True) => e1)
      clear hend e1 HB
      go_wp2
      go_loopw [4, 5, 8] (fun bv cv iv wx => ∃ (k : Nat) (b : ByteArray) (c : Int), bv = .string b ∧ cv = .int .i64 c ∧ iv = .int .i64 k ∧ k ≤ 24 ∧ b.size ≤ 100 ∧ wx = wr ∧ Hid (True → (closedT.drop k).foldl (stepC s.data.toList) (b.data.toList, c) = (R1, R2))) (fun _ _ iv _ => 24 - (RowKit.intOf iv).toNat)
      case atStart => exact ⟨0, b, c, rfl, rfl, rfl, by omega, hb, rfl, hid (fun _ => by rw [HE.out trivial]; exact HR.out trivial)⟩
      case round =>
        clear HE hp hk hb
        obtain ⟨k, b, d, rfl, rfl, rfl, hk, hb, rfl, HB⟩ := hrel
        by_cases hp : k < 24
        · obtain ⟨x, hx⟩ : ∃ x, closedT[k]? = some x := ⟨_, List.getElem?_eq_getElem hp⟩
          obtain ⟨h1, h2⟩ := List.getElem?_eq_some_iff.1 hx
          have hd := List.drop_eq_getElem_cons h1
          rw [h2] at hd
          have hsm := closed_small x (by rw [← h2]; exact List.getElem_mem h1)
          have cn := HT.out.closedN k (strV x.1) (map_at hx)
          have cc := HT.out.closedC k (.int .i64 x.2) (map_at hx)
          rw [Nat.zero_add] at cn cc
          have hst := HB.out trivial
          rw [hd, List.foldl_cons] at hst
          obtain ⟨N, C⟩ := x
          simp only at hsm cn cc
          unfold strV at cn
          obtain ⟨bN, hbN⟩ : ∃ bN : ByteArray, (⟨N.toArray⟩ : ByteArray) = bN := ⟨_, rfl⟩
          rw [hbN] at cn
          have hbl : bN.data.toList = N := by rw [← hbN]
          have hbz : bN.size = N.length := by rw [size_eq, hbl]
          have hg2 := fun W => begins_any s bN W
          rw [hbl] at hg2
          have hone : stepC s.data.toList (b.data.toList, d) (N, C) = if N.isPrefixOf s.data.toList = true ∧ b.size < N.length then (N, C) else (b.data.toList, d) := by
            unfold stepC
            simp only [List.isPrefixOf_iff_prefix, ← size_eq]
          rw [hone] at hst
          generalize N.isPrefixOf s.data.toList = b2 at hst hg2
          have HS := hid (fun (_ : True) => hst)
          have G2 := hid hg2
          have HL := hid hbl
          clear hst hg2 hbN hx hd h1 h2 HB hone hbl
          cases b2
          · go_wp2_with (go_at_call 73; refine (G2.out _).mono ?_; rintro e w' ⟨rfl, rfl⟩)
            go_roundw
            case rel =>
              refine ⟨k + 1, b, d, rfl, rfl, rfl, by omega, hb, by first | rfl | trivial, ?_⟩
              have := HS.out
              simpa [Hid] using this
            case measure => simp [RowKit.intOf]; omega
          · by_cases hlt : b.size < bN.size
            · go_wp2_with (go_at_call 73; refine (G2.out _).mono ?_; rintro e w' ⟨rfl, rfl⟩)
              go_roundw
              case rel =>
                refine ⟨k + 1, bN, C, rfl, rfl, rfl, by omega, by omega, by first | rfl | trivial, ?_⟩
                have := HS.out trivial
                rw [if_pos ⟨trivial, by omega⟩, ← HL.out] at this
                exact hid (fun _ => this)
              case measure => simp [RowKit.intOf]; omega
            · go_wp2_with (go_at_call 73; refine (G2.out _).mono ?_; rintro e w' ⟨rfl, rfl⟩)
              go_roundw
              case rel =>
                refine ⟨k + 1, b, d, rfl, rfl, rfl, by omega, hb, by first | rfl | trivial, ?_⟩
                have := HS.out trivial
                rw [if_neg (fun h => hlt (by omega))] at this
                exact hid (fun _ => this)
              case measure => simp [RowKit.intOf]; omega
        · have hend : (b.data.toList, d) = (R1, R2) := by
            have := HB.out trivial
            rw [List.drop_of_length_le (show closedT.length ≤ k by have : closedT.length = 24 := rfl; omega)] at this
            exact this
          obtain ⟨rfl, rfl⟩ := Prod.mk.inj hend
          clear hend HB HR
          go_wp2
          refine bodyPost_ret (v := .tuple #[.string b, .int .i64 d]) ?_ rfl ⟨rfl, rfl⟩
          simp [results, Tryz.results95, go_sem]
end Go.Proofs.YtndglhflbenloaaGreatDoor
