/-
  Parts of the walk, joined: PolRef.
-/
import Derived.Test.YtcncbhbdpcpkeaaGreatDoorPJAF
/-
  The reference's Check: the walks of what it calls.
-/
namespace Go.Proofs.YtcncbhbdpcpkeaaGreatDoor
open Go.RowKit Go.Lib Own

/-- the elements by their class: 1 phrasing, 2 flow, 3 item, 4 section, 5 row, 6 cell -/
def classT : List (List UInt8 × Nat) := [([97], 1), ([98], 1), ([99, 111, 100, 101], 1), ([101, 109], 1), ([105], 1), ([113], 1), ([115], 1), ([115, 109, 97, 108, 108], 1), ([115, 112, 97, 110], 1), ([115, 116, 114, 111, 110, 103], 1), ([115, 117, 98], 1), ([115, 117, 112], 1), ([117], 1), ([98, 114], 1), ([105, 109, 103], 1), ([116, 101, 120, 116, 97, 114, 101, 97], 1),
  ([104, 49], 2), ([104, 50], 2), ([104, 51], 2), ([104, 52], 2), ([104, 53], 2), ([104, 54], 2), ([112], 2), ([112, 114, 101], 2), ([98, 108, 111, 99, 107, 113, 117, 111, 116, 101], 2), ([100, 105, 118], 2), ([104, 114], 2), ([111, 108], 2), ([117, 108], 2), ([116, 97, 98, 108, 101], 2),
  ([108, 105], 3), ([116, 98, 111, 100, 121], 4), ([116, 102, 111, 111, 116], 4), ([116, 104, 101, 97, 100], 4), ([116, 114], 5), ([116, 100], 6), ([116, 104], 6)]
def findT : List (List UInt8 × Nat) → List UInt8 → Nat
  | [], _ => 0
  | e :: r, x => if (x == e.1) = true then e.2 else findT r x
def classL (x : List UInt8) : Nat := findT classT x
/-- the class's word -/
def classW : Nat → List UInt8
  | 1 => [112, 104, 114, 97, 115, 105, 110, 103]
  | 2 => [102, 108, 111, 119]
  | 3 => [105, 116, 101, 109]
  | 4 => [115, 101, 99, 116, 105, 111, 110]
  | 5 => [114, 111, 119]
  | 6 => [99, 101, 108, 108]
  | _ => []
theorem bs_toList2 (x : ByteArray) : bs x.toList = x := by rw [Lib.toList_data]; rfl
theorem ne_beq {x : ByteArray} {L : List UInt8} (h : x.toList ≠ L) : (x.toList == L) = false := beq_eq_false_iff_ne.2 h
set_option maxHeartbeats 4000000 in
set_option maxRecDepth 100000 in
theorem classOf_k0 (L : List UInt8) (w : World) (hk : L ∈ (([[97], [98], [99, 111, 100, 101], [101, 109], [105], [113], [115], [115, 109, 97, 108, 108], [115, 112, 97, 110], [115, 116, 114, 111, 110, 103]] : List (List UInt8)))) :
    Calls Tryz.prog 43 #[.string (bs L)] w fun e w' => e = .returned (.string (bs (classW (classL L)))) ∧ w' = w := by
  simp only [List.mem_cons, List.not_mem_nil, or_false] at hk
  rcases hk with rfl | rfl | rfl | rfl | rfl | rfl | rfl | rfl | rfl | rfl
  all_goals unfold bs
  all_goals go_enter Tryz.func43, Tryz.ntmps43
  all_goals go_wp2
  all_goals go_ret
  all_goals exact ⟨rfl, rfl⟩
set_option maxHeartbeats 4000000 in
set_option maxRecDepth 100000 in
theorem classOf_k1 (L : List UInt8) (w : World) (hk : L ∈ (([[115, 117, 98], [115, 117, 112], [117], [98, 114], [105, 109, 103], [116, 101, 120, 116, 97, 114, 101, 97], [104, 49], [104, 50], [104, 51]] : List (List UInt8)))) :
    Calls Tryz.prog 43 #[.string (bs L)] w fun e w' => e = .returned (.string (bs (classW (classL L)))) ∧ w' = w := by
  simp only [List.mem_cons, List.not_mem_nil, or_false] at hk
  rcases hk with rfl | rfl | rfl | rfl | rfl | rfl | rfl | rfl | rfl
  all_goals unfold bs
  all_goals go_enter Tryz.func43, Tryz.ntmps43
  all_goals go_wp2
  all_goals go_ret
  all_goals exact ⟨rfl, rfl⟩
set_option maxHeartbeats 4000000 in
set_option maxRecDepth 100000 in
theorem classOf_k2 (L : List UInt8) (w : World) (hk : L ∈ (([[104, 52], [104, 53], [104, 54], [112], [112, 114, 101], [98, 108, 111, 99, 107, 113, 117, 111, 116, 101], [100, 105, 118], [104, 114], [111, 108]] : List (List UInt8)))) :
    Calls Tryz.prog 43 #[.string (bs L)] w fun e w' => e = .returned (.string (bs (classW (classL L)))) ∧ w' = w := by
  simp only [List.mem_cons, List.not_mem_nil, or_false] at hk
  rcases hk with rfl | rfl | rfl | rfl | rfl | rfl | rfl | rfl | rfl
  all_goals unfold bs
  all_goals go_enter Tryz.func43, Tryz.ntmps43
  all_goals go_wp2
  all_goals go_ret
  all_goals exact ⟨rfl, rfl⟩
set_option maxHeartbeats 4000000 in
set_option maxRecDepth 100000 in
theorem classOf_k3 (L : List UInt8) (w : World) (hk : L ∈ (([[117, 108], [116, 97, 98, 108, 101], [108, 105], [116, 98, 111, 100, 121], [116, 102, 111, 111, 116], [116, 104, 101, 97, 100], [116, 114], [116, 100], [116, 104]] : List (List UInt8)))) :
    Calls Tryz.prog 43 #[.string (bs L)] w fun e w' => e = .returned (.string (bs (classW (classL L)))) ∧ w' = w := by
  simp only [List.mem_cons, List.not_mem_nil, or_false] at hk
  rcases hk with rfl | rfl | rfl | rfl | rfl | rfl | rfl | rfl | rfl
  all_goals unfold bs
  all_goals go_enter Tryz.func43, Tryz.ntmps43
  all_goals go_wp2
  all_goals go_ret
  all_goals exact ⟨rfl, rfl⟩
set_option maxHeartbeats 4000000 in
set_option maxRecDepth 100000 in
theorem classOf_none (x : ByteArray) (w : World) (hk : x.toList ∉ classT.map Prod.fst) :
    Calls Tryz.prog 43 #[.string x] w fun e w' => e = .returned (.string ⟨#[]⟩) ∧ w' = w := by
  simp only [classT, List.map_cons, List.map_nil, List.mem_cons, List.not_mem_nil, or_false, not_or] at hk
  obtain ⟨h0, h1, h2, h3, h4, h5, h6, h7, h8, h9, h10, h11, h12, h13, h14, h15, h16, h17, h18, h19, h20, h21, h22, h23, h24, h25, h26, h27, h28, h29, h30, h31, h32, h33, h34, h35, h36⟩ := hk
  replace h0 := ne_beq h0
  replace h1 := ne_beq h1
  replace h2 := ne_beq h2
  replace h3 := ne_beq h3
  replace h4 := ne_beq h4
  replace h5 := ne_beq h5
  replace h6 := ne_beq h6
  replace h7 := ne_beq h7
  replace h8 := ne_beq h8
  replace h9 := ne_beq h9
  replace h10 := ne_beq h10
  replace h11 := ne_beq h11
  replace h12 := ne_beq h12
  replace h13 := ne_beq h13
  replace h14 := ne_beq h14
  replace h15 := ne_beq h15
  replace h16 := ne_beq h16
  replace h17 := ne_beq h17
  replace h18 := ne_beq h18
  replace h19 := ne_beq h19
  replace h20 := ne_beq h20
  replace h21 := ne_beq h21
  replace h22 := ne_beq h22
  replace h23 := ne_beq h23
  replace h24 := ne_beq h24
  replace h25 := ne_beq h25
  replace h26 := ne_beq h26
  replace h27 := ne_beq h27
  replace h28 := ne_beq h28
  replace h29 := ne_beq h29
  replace h30 := ne_beq h30
  replace h31 := ne_beq h31
  replace h32 := ne_beq h32
  replace h33 := ne_beq h33
  replace h34 := ne_beq h34
  replace h35 := ne_beq h35
  replace h36 := ne_beq h36
  go_enter Tryz.func43, Tryz.ntmps43
  go_wp2
  go_ret
  exact ⟨rfl, rfl⟩
theorem find_none : ∀ (T : List (List UInt8 × Nat)) (x : List UInt8), x ∉ T.map Prod.fst → findT T x = 0
  | [], _, _ => rfl
  | e :: r, x, h => by
    simp only [List.map_cons, List.mem_cons, not_or] at h
    unfold findT
    rw [if_neg (by rw [beq_iff_eq]; exact h.1)]
    exact find_none r x h.2
theorem classOf_any (x : ByteArray) (w : World) :
    Calls Tryz.prog 43 #[.string x] w fun e w' => e = .returned (.string (bs (classW (classL x.toList)))) ∧ w' = w := by
  by_cases hk : x.toList ∈ classT.map Prod.fst
  · have hx := bs_toList2 x
    generalize x.toList = L at hk hx
    subst hx
    have h4 : L ∈ ((classT.map Prod.fst).take 10) ∨ L ∈ (((classT.map Prod.fst).drop 10).take 9) ∨ L ∈ (((classT.map Prod.fst).drop 19).take 9) ∨ L ∈ ((classT.map Prod.fst).drop 28) := by
      simp only [classT, List.map_cons, List.map_nil, List.mem_cons, List.not_mem_nil, or_false] at hk
      rcases hk with rfl | rfl | rfl | rfl | rfl | rfl | rfl | rfl | rfl | rfl | rfl | rfl | rfl | rfl | rfl | rfl | rfl | rfl | rfl | rfl | rfl | rfl | rfl | rfl | rfl | rfl | rfl | rfl | rfl | rfl | rfl | rfl | rfl | rfl | rfl | rfl | rfl
      all_goals decide
    rcases h4 with h | h | h | h
    · exact classOf_k0 L w h
    · exact classOf_k1 L w h
    · exact classOf_k2 L w h
    · exact classOf_k3 L w h
  · have := classOf_none x w hk
    rw [show classL x.toList = 0 from find_none _ _ hk]
    exact this
end Go.Proofs.YtcncbhbdpcpkeaaGreatDoor
