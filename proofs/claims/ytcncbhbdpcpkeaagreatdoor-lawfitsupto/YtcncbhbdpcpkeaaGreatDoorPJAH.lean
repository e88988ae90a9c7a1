/-
  Parts of the walk, joined: RefSet, PolMem, PolRef.
-/
import Derived.Lib.Index
import Derived.Lib.Strings
import Derived.Deep.RegionLaw
import Derived.Test.YtcncbhbdpcpkeaaGreatDoorPJAC
import Derived.Test.YtcncbhbdpcpkeaaGreatDoorPJAG
import Derived.Test.YtcncbhbdpcpkeaaGreatDoorPJAD
/-
  scrubref's until and lowered: their walks.
-/
namespace Go.Proofs.YtcncbhbdpcpkeaaGreatDoor
open Go.RowKit Go.Lib Own

set_option maxHeartbeats 1000000 in
theorem until_any (s : ByteArray) (i : Nat) (set : ByteArray) (w : World) (hi : i ≤ s.size) (hs : s.size ≤ 140737488355328) (ht : set.size ≤ 1000000) :
    Calls Tryz.prog 111 #[.string s, .int .i64 i, .string set] w fun e w' => e = .returned (.int .i64 ((i + ((s.data.toList.drop i).takeWhile fun c => !set.data.toList.contains c).length : Nat) : Int)) ∧ w' = w := by
  obtain ⟨r, hr⟩ : ∃ r, i + ((s.data.toList.drop i).takeWhile fun c => !set.data.toList.contains c).length = r := ⟨_, rfl⟩
  rw [hr]
  have HR := hid hr
  clear hr
  go_enter Tryz.func111, Tryz.ntmps111
  go_wp2
  go_loopw [1] (fun iv wr => ∃ k : Nat, iv = .int .i64 k ∧ k ≤ s.size ∧ wr = w ∧ Hid (k + ((s.data.toList.drop k).takeWhile fun c => !set.data.toList.contains c).length = r)) (fun iv _ => s.size - (RowKit.intOf iv).toNat)
  case atStart => exact ⟨i, rfl, hi, rfl, HR.out⟩
  case round =>
    obtain ⟨k, rfl, hk, rfl, HA⟩ := hrel
    by_cases hp : k < s.size
    · obtain ⟨x, hx⟩ : ∃ x, s[k]'hp = x := ⟨_, rfl⟩
      have hl := getElem_list hp hx
      have hc := fun W => among_any x set W ht
      obtain ⟨b, hb⟩ : ∃ b, set.data.toList.contains x = b := ⟨_, rfl⟩
      rw [hb] at hc
      have HC := hid hc
      cases b
      · have HB : Hid (k + 1 + ((s.data.toList.drop (k + 1)).takeWhile fun c => !set.data.toList.contains c).length = r) := by
          have := HA.out
          rw [while_step hl (by rw [hb]; rfl), List.length_cons] at this
          exact hid (by omega)
        clear hl hb hc HA
        go_wp2_with (go_at_call 173; refine (HC.out _).mono ?_; rintro e w' ⟨rfl, rfl⟩)
        go_roundw
        case rel => exact ⟨k + 1, rfl, by omega, by first | rfl | trivial, HB⟩
        case measure => simp [RowKit.intOf]; omega
      · have HB : Hid (k = r) := by
          have := HA.out
          rw [while_stop (fun c hc => by rw [hl] at hc; cases hc; rw [hb]; rfl)] at this
          simpa [Hid] using this
        clear hl hb hc HA
        go_wp2_with (go_at_call 173; refine (HC.out _).mono ?_; rintro e w' ⟨rfl, rfl⟩)
        go_ret
        exact ⟨ret_i64 (by have := HB.out; omega), rfl⟩
    · have HB : Hid (k = r) := by
        have := HA.out
        rw [List.drop_of_length_le (by rw [← size_eq]; omega)] at this
        simpa [Hid] using this
      clear HA
      go_wp2
      go_ret
      exact ⟨ret_i64 (by have := HB.out; omega), rfl⟩

set_option maxHeartbeats 4000000 in
set_option maxRecDepth 100000 in
theorem lowered_any (s : ByteArray) (w : World) (hs : s.size ≤ 10000000) :
    Calls Tryz.prog 213 #[.string s] w fun e w' => e = .returned (.string ⟨(s.data.toList.map lowC).toArray⟩) ∧ Below w.heap.size w w' := by
  obtain ⟨i0, hi, hz0, hz1, hz2⟩ := info_parts info_u8
  go_enter Tryz.func213, Tryz.ntmps213
  go_wp2
  go_loopw [3, 4] (fun bv iv wr => ∃ k : Nat, iv = .int .i64 k ∧ wr.ownsRow w.heap.size 5 1 bv ((s.data.toList.take k).map lowC).length (byteCells ((s.data.toList.take k).map lowC)) ∧ Below w.heap.size w wr ∧ k ≤ s.size) (fun _ iv _ => s.size - (RowKit.intOf iv).toNat)
  case atStart => exact ⟨0, rfl, World.ownsRow_nil _ _ _ _, Below.refl _ _, Nat.zero_le _⟩
  case round =>
    obtain ⟨k, rfl, hown, hbw, hk⟩ := hrel
    by_cases hp : k < s.size
    · obtain ⟨x, hx⟩ : ∃ x, s[k]'hp = x := ⟨_, rfl⟩
      have hl := getElem_list hp hx
      have hlt := hown.lt
      have hbs := hbw.size
      have hx0 := x.toNat_lt
      have hstep : (s.data.toList.take (k + 1)).map lowC = (s.data.toList.take k).map lowC ++ [lowC x] := by
        rw [List.take_add_one, hl, List.map_append]; rfl
      have hlz : ((s.data.toList.take k).map lowC).length = k := by rw [List.length_map, List.length_take, ← size_eq]; omega
      generalize (s.data.toList.take k).map lowC = acc at hown hstep hlz
      have hok := fun (w3 : World) (v3 : Value) (y : UInt8) (h : w3.ownsRow w.heap.size 5 1 v3 (k + 1) (byteCells acc ++ byteCells [y])) => own_cat (a := acc) (L := [y]) (by rw [hlz]; exact h)
      have HK := hid hok
      clear hok
      have hyz : ((lowC x).toNat : Int) = if 65 ≤ (x.toNat : Int) ∧ (x.toNat : Int) ≤ 90 then (x.toNat : Int) + 32 else (x.toNat : Int) := by
        rw [← lowZ_C]; rfl
      generalize lowC x = y at hstep hyz
      have HS := hid hstep
      have hA1 := hid (cells_len [y])
      have hA2 := hid (cells_new [y])
      have hA3 := hid (byteCells_one [y])
      have hA4 := hid (show acc.length + 1 ≤ maxLen by unfold maxLen; omega)
      have hA5 := hid (show (acc.length + 1) * 1 ≤ 140737488355328 by omega)
      have hcl : ∀ z : Int, ((y.toNat : Int) = z) → (byteCells [y]).toArray = #[Value.int .u8 z] := fun z hz => by subst hz; rfl
      have hCL := hid hcl
      clear hstep hl hcl
      by_cases hu : 65 ≤ (x.toNat : Int) ∧ (x.toNat : Int) ≤ 90
      · rw [if_pos hu] at hyz
        obtain ⟨u1, u2⟩ := hu
        have q0 := hCL.out _ hyz
        clear hyz
        go_wp2_with (at_builtin; refine wpList_append_own _ rfl (.tmp 23) (.tmp 25) 65 rfl w.heap.size 5 i0 (.int .u8 0) 1 1 Tryz.underlying65 hi hz0 hz1 hz2 rfl (by decide) _ _ _ rfl (hown.alloc _) ⟨_, 0, none⟩ 1 1 (byteCells [y]) rfl hA1.out (by have := hA2.out wr; rw [q0] at this; exact this) hA3.out hA4.out hA5.out ?_ ?_)
        · first | omega | (simp; omega)
        · intro v' w2 hown2 hgrow _
          have hbw2 := (hbw.alloc hbs _).grown hgrow (by simp; omega) (fun k hk => (hlt k hk).1)
          have hown3 := HK.out _ _ _ hown2
          clear hown2 hgrow hbw hown hlt hbs
          go_wp2
          go_roundw
          case rel => exact ⟨k + 1, rfl, by rw [HS.out]; exact hown3, hbw2, by omega⟩
          case measure => simp [RowKit.intOf]; omega
      · rw [if_neg hu] at hyz
        have q0 := hCL.out _ hyz
        clear hyz
        have q1 : ¬ (65 ≤ (x.toNat : Int) ∧ (x.toNat : Int) ≤ 90) := hu
        by_cases h65 : 65 ≤ (x.toNat : Int)
        · have h90 : ¬ (x.toNat : Int) ≤ 90 := fun h => hu ⟨h65, h⟩
          clear q1 hu
          go_wp2_with (at_builtin; refine wpList_append_own _ rfl (.tmp 23) (.tmp 25) 65 rfl w.heap.size 5 i0 (.int .u8 0) 1 1 Tryz.underlying65 hi hz0 hz1 hz2 rfl (by decide) _ _ _ rfl (hown.alloc _) ⟨_, 0, none⟩ 1 1 (byteCells [y]) rfl hA1.out (by have := hA2.out wr; rw [q0] at this; exact this) hA3.out hA4.out hA5.out ?_ ?_)
          · first | omega | (simp; omega)
          · intro v' w2 hown2 hgrow _
            have hbw2 := (hbw.alloc hbs _).grown hgrow (by simp; omega) (fun k hk => (hlt k hk).1)
            have hown3 := HK.out _ _ _ hown2
            clear hown2 hgrow hbw hown hlt hbs
            go_wp2
            go_roundw
            case rel => exact ⟨k + 1, rfl, by rw [HS.out]; exact hown3, hbw2, by omega⟩
            case measure => simp [RowKit.intOf]; omega
        · clear q1 hu
          go_wp2_with (at_builtin; refine wpList_append_own _ rfl (.tmp 23) (.tmp 25) 65 rfl w.heap.size 5 i0 (.int .u8 0) 1 1 Tryz.underlying65 hi hz0 hz1 hz2 rfl (by decide) _ _ _ rfl (hown.alloc _) ⟨_, 0, none⟩ 1 1 (byteCells [y]) rfl hA1.out (by have := hA2.out wr; rw [q0] at this; exact this) hA3.out hA4.out hA5.out ?_ ?_)
          · first | omega | (simp; omega)
          · intro v' w2 hown2 hgrow _
            have hbw2 := (hbw.alloc hbs _).grown hgrow (by simp; omega) (fun k hk => (hlt k hk).1)
            have hown3 := HK.out _ _ _ hown2
            clear hown2 hgrow hbw hown hlt hbs
            go_wp2
            go_roundw
            case rel => exact ⟨k + 1, rfl, by rw [HS.out]; exact hown3, hbw2, by omega⟩
            case measure => simp [RowKit.intOf]; omega
    · have hks : k = s.size := by omega
      subst hks
      have hall : s.data.toList.take s.size = s.data.toList := List.take_of_length_le (by rw [← size_eq]; omega)
      rw [hall] at hown
      have ht := own_text wr _ _ (s.data.toList.map lowC) hown
      go_wp2
      go_ret
      exact ⟨rfl, hbw⟩
end Go.Proofs.YtcncbhbdpcpkeaaGreatDoor

/-
  Lists of words and policies that can be read, whoever made them.
-/
namespace Go.Proofs.YtcncbhbdpcpkeaaGreatDoor
open Go.RowKit Go.Lib Own

set_option maxHeartbeats 1000000 in
theorem holds_any (v : Value) (ss : List (List UInt8)) (x : ByteArray) (w : World) (h : Words w v ss) (_hl : ss.length ≤ 100000000) :
    Calls Tryz.prog 45 #[v, .string x] w fun e w' => e = .returned (.bool (ss.contains x.toList)) ∧ w' = w := by
  obtain ⟨p, c, rfl, hc, hm, hcell, _⟩ := h
  obtain ⟨R, hR⟩ : ∃ R, ss.contains x.toList = R := ⟨_, rfl⟩
  have HR := hid (fun (_ : True) => hR)
  have H := hid hcell
  rw [hR]
  clear hcell hR
  go_enter Tryz.func45, Tryz.ntmps45
  go_wp2
  go_loopw [5] (fun iv wr => ∃ k : Nat, iv = .int .i64 k ∧ k ≤ ss.length ∧ wr = w ∧ Hid (True → (ss.drop k).contains x.toList = R)) (fun iv _ => ss.length - (RowKit.intOf iv).toNat)
  case atStart => exact ⟨0, rfl, Nat.zero_le _, rfl, HR.out⟩
  case round =>
    obtain ⟨k, rfl, hk, rfl, HK⟩ := hrel
    by_cases hkl : k < ss.length
    · obtain ⟨s, hs⟩ : ∃ s, ss[k]? = some s := ⟨_, List.getElem?_eq_getElem hkl⟩
      obtain ⟨b, o, rfl, hc1⟩ := H.out k s hs
      have hd := HK.out trivial
      rw [drop_at hs, List.contains_cons] at hd
      have hbt := bs_toList s
      obtain ⟨S, hS⟩ : ∃ S, bs s = S := ⟨_, rfl⟩
      rw [hS] at hbt hc1
      by_cases q : (x.toList == s) = true
      · have q2 : (S.toList == x.toList) = true := by rw [hbt]; rw [beq_iff_eq] at q ⊢; exact q.symm
        rw [q, Bool.true_or] at hd
        subst hd
        clear hs hbt q H HK HR
        go_wp2
        go_ret
        exact ⟨rfl, rfl⟩
      · have q2 : (S.toList == x.toList) = false := by rw [hbt]; rw [Bool.not_eq_true] at q; rw [← q, Bool.eq_iff_iff, beq_iff_eq, beq_iff_eq]; exact eq_comm
        rw [Bool.not_eq_true] at q
        rw [q, Bool.false_or] at hd
        have HD := hid (fun (_ : True) => hd)
        clear hs hbt q H HK HR hd
        go_wp2
        go_roundw
        case rel => exact ⟨k + 1, rfl, by omega, by first | rfl | trivial, HD⟩
        case measure => simp [RowKit.intOf]; omega
    · have hd := HK.out trivial
      rw [List.drop_of_length_le (by omega)] at hd
      have : R = false := by rw [← hd]; rfl
      subst this
      clear hd HK HR H
      go_wp2
      go_ret
      exact ⟨rfl, rfl⟩

/-- does a word stand twice? -/
def twiceL (ss : List (List UInt8)) : Bool := decide (¬ ss.Nodup)
theorem twice_yes {ss : List (List UInt8)} {k : Nat} {s : List UInt8} (hs : ss[k]? = some s) (h : (ss.take k).contains s = true) : twiceL ss = true := by
  have hm : s ∈ ss.take k := by simpa using h
  refine decide_eq_true (fun hn => ?_)
  have hd := drop_at hs
  have hsp := List.take_append_drop k ss
  rw [← hsp, hd, List.nodup_append] at hn
  exact hn.2.2 s hm s (List.mem_cons_self ..) rfl
theorem twice_no {ss : List (List UInt8)} (h : ∀ k s, ss[k]? = some s → (ss.take k).contains s = false) : twiceL ss = false := by
  refine decide_eq_false (fun hn => hn ?_)
  rw [List.nodup_iff_pairwise_ne, List.pairwise_iff_getElem]
  intro i j hi hj hij e
  have := h j ss[j] (List.getElem?_eq_getElem hj)
  rw [List.contains_eq_mem, decide_eq_false_iff_not] at this
  apply this
  rw [← e]
  rw [List.mem_take_iff_getElem]
  exact ⟨i, by omega, rfl⟩

set_option maxHeartbeats 2000000 in
theorem refTwice_any (v : Value) (ss : List (List UInt8)) (w : World) (h : Words w v ss) (hl : ss.length ≤ 100000000) :
    Calls Tryz.prog 153 #[v] w fun e w' => e = .returned (.bool (twiceL ss)) ∧ ∃ n, w' = w.drewN n := by
  have H := hid h
  obtain ⟨p, c, rfl, hc, hm, hcell, _⟩ := h
  have HC := hid hcell
  clear hcell
  go_enter Tryz.func153, Tryz.ntmps153
  go_wp2
  go_loopw [3] (fun iv wr => ∃ k : Nat, iv = .int .i64 k ∧ k ≤ ss.length ∧ Hid (True → ∃ n, wr = w.drewN n) ∧ Hid (∀ j s, j < k → ss[j]? = some s → (ss.take j).contains s = false)) (fun iv _ => ss.length - (RowKit.intOf iv).toNat)
  case atStart => exact ⟨0, rfl, Nat.zero_le _, hid (fun _ => ⟨0, rfl⟩), hid (fun j s h => absurd h (Nat.not_lt_zero _))⟩
  case round =>
    obtain ⟨k, rfl, hk, HQ, HK⟩ := hrel
    by_cases hkl : k < ss.length
    · obtain ⟨s, hs⟩ : ∃ s, ss[k]? = some s := ⟨_, List.getElem?_eq_getElem hkl⟩
      obtain ⟨b, o, rfl, hc1⟩ := HC.out k s hs
      have hq := HQ.out trivial
      have hwr : Words wr (.slice (some ⟨b, o, none⟩) ss.length c) ss := by obtain ⟨n, rfl⟩ := hq; exact H.out
      have hc2 : wr.cell? ⟨b, o + k, none⟩ = some (.string (bs s)) := by obtain ⟨n, rfl⟩ := hq; exact hc1
      have hho := fun n => holds_any _ _ (bs s) (wr.drewN n) ((hwr.front k (by omega)).drewN n) (by rw [List.length_take]; omega)
      rw [bs_toList] at hho
      obtain ⟨R, hR⟩ : ∃ R, (ss.take k).contains s = R := ⟨_, rfl⟩
      rw [hR] at hho
      have HS := hid (And.intro hs hR)
      have HH := hid hho
      obtain ⟨S, hS⟩ : ∃ S, bs s = S := ⟨_, rfl⟩
      rw [hS] at hc2 HH
      have hkc : k ≤ c := by omega
      clear hs hR hho hwr hq hc1 hS HC H
      go_wp2_with fail
      go_quiet (first | (go_at_call 45; refine Calls.quiet_of_same (HH.out _)))
      cases R
      · go_wp2
        go_roundw
        case rel =>
          obtain ⟨n, hn⟩ := HQ.out trivial
          refine ⟨k + 1, rfl, by omega, hid (fun _ => ⟨n + nq, by rw [hn]; simp⟩), hid (fun j t hj ht => ?_)⟩
          by_cases hjk : j = k
          · subst hjk
            rw [HS.out.1] at ht
            obtain rfl := Option.some.inj ht
            exact HS.out.2
          · exact HK.out j t (by omega) ht
        case measure => simp [RowKit.intOf]; omega
      · go_wp2
        go_ret
        obtain ⟨n, hn⟩ := HQ.out trivial
        exact ⟨by rw [twice_yes HS.out.1 HS.out.2]; rfl, n + nq, by rw [hn]; simp⟩
    · go_wp2
      go_ret
      exact ⟨by rw [twice_no (fun j s hj => HK.out j s (by have := (List.getElem?_eq_some_iff.1 hj).1; omega) hj)]; rfl, HQ.out trivial⟩
end Go.Proofs.YtcncbhbdpcpkeaaGreatDoor

/-
  The reference's Check: the walks of what it calls.
-/
namespace Go.Proofs.YtcncbhbdpcpkeaaGreatDoor
open Go.RowKit Go.Lib Own

/-- the elements by their class: 1 phrasing, 2 flow, 3 item, 4 section, 5 row, 6 cell -/
def classT : List (List UInt8 × Nat) := [([97], 1), ([98], 1), ([99, 111, 100, 101], 1), ([101, 109], 1), ([105], 1), ([113], 1), ([115], 1), ([115, 109, 97, 108, 108], 1), ([115, 112, 97, 110], 1), ([115, 116, 114, 111, 110, 103], 1), ([115, 117, 98], 1), ([115, 117, 112], 1), ([117], 1), ([98, 114], 1), ([105, 109, 103], 1), ([116, 101, 120, 116, 97, 114, 101, 97], 1),
  ([104, 49], 2), ([104, 50], 2), ([104, 51], 2), ([104, 52], 2), ([104, 53], 2), ([104, 54], 2), ([112], 2), ([112, 114, 101], 2), ([98, 108, 111, 99, 107, 113, 117, 111, 116, 101], 2), ([100, 105, 118], 2), ([104, 114], 2), ([111, 108], 2), ([117, 108], 2), ([116, 97, 98, 108, 101], 2),
  ([108, 105], 3), ([116, 98, 111, 100, 121], 4), ([116, 102, 111, 111, 116], 4), ([116, 104, 101, 97, 100], 4), ([116, 114], 5), ([116, 100], 6), ([116, 104], 6)]
def findT : List (List UInt8 × Nat) → List UInt8 → Nat
  | [], _ => 0
  | e :: r, x => if (x == e.1) = true then e.2 else findT r x
def classL (x : List UInt8) : Nat := findT classT x
/-- the class's word -/
def classW : Nat → List UInt8
  | 1 => [112, 104, 114, 97, 115, 105, 110, 103]
  | 2 => [102, 108, 111, 119]
  | 3 => [105, 116, 101, 109]
  | 4 => [115, 101, 99, 116, 105, 111, 110]
  | 5 => [114, 111, 119]
  | 6 => [99, 101, 108, 108]
  | _ => []
theorem bs_toList2 (x : ByteArray) : bs x.toList = x := by rw [Lib.toList_data]; rfl
theorem ne_beq {x : ByteArray} {L : List UInt8} (h : x.toList ≠ L) : (x.toList == L) = false := beq_eq_false_iff_ne.2 h
set_option maxHeartbeats 4000000 in
set_option maxRecDepth 100000 in
theorem classOf_k0 (L : List UInt8) (w : World) (hk : L ∈ (([[97], [98], [99, 111, 100, 101], [101, 109], [105], [113], [115], [115, 109, 97, 108, 108], [115, 112, 97, 110], [115, 116, 114, 111, 110, 103]] : List (List UInt8)))) :
    Calls Tryz.prog 43 #[.string (bs L)] w fun e w' => e = .returned (.string (bs (classW (classL L)))) ∧ w' = w := by
  simp only [List.mem_cons, List.not_mem_nil, or_false] at hk
  rcases hk with rfl | rfl | rfl | rfl | rfl | rfl | rfl | rfl | rfl | rfl
  all_goals unfold bs
  all_goals go_enter Tryz.func43, Tryz.ntmps43
  all_goals go_wp2
  all_goals go_ret
  all_goals exact ⟨rfl, rfl⟩
set_option maxHeartbeats 4000000 in
set_option maxRecDepth 100000 in
theorem classOf_k1 (L : List UInt8) (w : World) (hk : L ∈ (([[115, 117, 98], [115, 117, 112], [117], [98, 114], [105, 109, 103], [116, 101, 120, 116, 97, 114, 101, 97], [104, 49], [104, 50], [104, 51]] : List (List UInt8)))) :
    Calls Tryz.prog 43 #[.string (bs L)] w fun e w' => e = .returned (.string (bs (classW (classL L)))) ∧ w' = w := by
  simp only [List.mem_cons, List.not_mem_nil, or_false] at hk
  rcases hk with rfl | rfl | rfl | rfl | rfl | rfl | rfl | rfl | rfl
  all_goals unfold bs
  all_goals go_enter Tryz.func43, Tryz.ntmps43
  all_goals go_wp2
  all_goals go_ret
  all_goals exact ⟨rfl, rfl⟩
set_option maxHeartbeats 4000000 in
set_option maxRecDepth 100000 in
theorem classOf_k2 (L : List UInt8) (w : World) (hk : L ∈ (([[104, 52], [104, 53], [104, 54], [112], [112, 114, 101], [98, 108, 111, 99, 107, 113, 117, 111, 116, 101], [100, 105, 118], [104, 114], [111, 108]] : List (List UInt8)))) :
    Calls Tryz.prog 43 #[.string (bs L)] w fun e w' => e = .returned (.string (bs (classW (classL L)))) ∧ w' = w := by
  simp only [List.mem_cons, List.not_mem_nil, or_false] at hk
  rcases hk with rfl | rfl | rfl | rfl | rfl | rfl | rfl | rfl | rfl
  all_goals unfold bs
  all_goals go_enter Tryz.func43, Tryz.ntmps43
  all_goals go_wp2
  all_goals go_ret
  all_goals exact ⟨rfl, rfl⟩
set_option maxHeartbeats 4000000 in
set_option maxRecDepth 100000 in
theorem classOf_k3 (L : List UInt8) (w : World) (hk : L ∈ (([[117, 108], [116, 97, 98, 108, 101], [108, 105], [116, 98, 111, 100, 121], [116, 102, 111, 111, 116], [116, 104, 101, 97, 100], [116, 114], [116, 100], [116, 104]] : List (List UInt8)))) :
    Calls Tryz.prog 43 #[.string (bs L)] w fun e w' => e = .returned (.string (bs (classW (classL L)))) ∧ w' = w := by
  simp only [List.mem_cons, List.not_mem_nil, or_false] at hk
  rcases hk with rfl | rfl | rfl | rfl | rfl | rfl | rfl | rfl | rfl
  all_goals unfold bs
  all_goals go_enter Tryz.func43, Tryz.ntmps43
  all_goals go_wp2
  all_goals go_ret
  all_goals exact ⟨rfl, rfl⟩
set_option maxHeartbeats 4000000 in
set_option maxRecDepth 100000 in
theorem classOf_none (x : ByteArray) (w : World) (hk : x.toList ∉ classT.map Prod.fst) :
    Calls Tryz.prog 43 #[.string x] w fun e w' => e = .returned (.string ⟨#[]⟩) ∧ w' = w := by
  simp only [classT, List.map_cons, List.map_nil, List.mem_cons, List.not_mem_nil, or_false, not_or] at hk
  obtain ⟨h0, h1, h2, h3, h4, h5, h6, h7, h8, h9, h10, h11, h12, h13, h14, h15, h16, h17, h18, h19, h20, h21, h22, h23, h24, h25, h26, h27, h28, h29, h30, h31, h32, h33, h34, h35, h36⟩ := hk
  replace h0 := ne_beq h0
  replace h1 := ne_beq h1
  replace h2 := ne_beq h2
  replace h3 := ne_beq h3
  replace h4 := ne_beq h4
  replace h5 := ne_beq h5
  replace h6 := ne_beq h6
  replace h7 := ne_beq h7
  replace h8 := ne_beq h8
  replace h9 := ne_beq h9
  replace h10 := ne_beq h10
  replace h11 := ne_beq h11
  replace h12 := ne_beq h12
  replace h13 := ne_beq h13
  replace h14 := ne_beq h14
  replace h15 := ne_beq h15
  replace h16 := ne_beq h16
  replace h17 := ne_beq h17
  replace h18 := ne_beq h18
  replace h19 := ne_beq h19
  replace h20 := ne_beq h20
  replace h21 := ne_beq h21
  replace h22 := ne_beq h22
  replace h23 := ne_beq h23
  replace h24 := ne_beq h24
  replace h25 := ne_beq h25
  replace h26 := ne_beq h26
  replace h27 := ne_beq h27
  replace h28 := ne_beq h28
  replace h29 := ne_beq h29
  replace h30 := ne_beq h30
  replace h31 := ne_beq h31
  replace h32 := ne_beq h32
  replace h33 := ne_beq h33
  replace h34 := ne_beq h34
  replace h35 := ne_beq h35
  replace h36 := ne_beq h36
  go_enter Tryz.func43, Tryz.ntmps43
  go_wp2
  go_ret
  exact ⟨rfl, rfl⟩
theorem find_none : ∀ (T : List (List UInt8 × Nat)) (x : List UInt8), x ∉ T.map Prod.fst → findT T x = 0
  | [], _, _ => rfl
  | e :: r, x, h => by
    simp only [List.map_cons, List.mem_cons, not_or] at h
    unfold findT
    rw [if_neg (by rw [beq_iff_eq]; exact h.1)]
    exact find_none r x h.2
theorem classOf_any (x : ByteArray) (w : World) :
    Calls Tryz.prog 43 #[.string x] w fun e w' => e = .returned (.string (bs (classW (classL x.toList)))) ∧ w' = w := by
  by_cases hk : x.toList ∈ classT.map Prod.fst
  · have hx := bs_toList2 x
    generalize x.toList = L at hk hx
    subst hx
    have h4 : L ∈ ((classT.map Prod.fst).take 10) ∨ L ∈ (((classT.map Prod.fst).drop 10).take 9) ∨ L ∈ (((classT.map Prod.fst).drop 19).take 9) ∨ L ∈ ((classT.map Prod.fst).drop 28) := by
      simp only [classT, List.map_cons, List.map_nil, List.mem_cons, List.not_mem_nil, or_false] at hk
      rcases hk with rfl | rfl | rfl | rfl | rfl | rfl | rfl | rfl | rfl | rfl | rfl | rfl | rfl | rfl | rfl | rfl | rfl | rfl | rfl | rfl | rfl | rfl | rfl | rfl | rfl | rfl | rfl | rfl | rfl | rfl | rfl | rfl | rfl | rfl | rfl | rfl | rfl
      all_goals decide
    rcases h4 with h | h | h | h
    · exact classOf_k0 L w h
    · exact classOf_k1 L w h
    · exact classOf_k2 L w h
    · exact classOf_k3 L w h
  · have := classOf_none x w hk
    rw [show classL x.toList = 0 from find_none _ _ hk]
    exact this
end Go.Proofs.YtcncbhbdpcpkeaaGreatDoor
