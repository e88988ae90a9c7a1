/-
  Parts of the walk, joined: RpC, RpD, TabsOf.
-/
import Derived.Test.YtcncbhbdpcpkeaaGreatDoorRows
import Derived.Deep.MidRow
import Derived.Lib.LaidU8T
import Derived.Lib.LaidTab
import Derived.ChangeSame
import Derived.ChangeArms
import Derived.Test.YtcncbhbdpcpkeaaGreatDoorPJBK
import Derived.Test.YtcncbhbdpcpkeaaGreatDoorPJAG
import Derived.Test.YtcncbhbdpcpkeaaGreatDoorPJAX
import Derived.Test.YtcncbhbdpcpkeaaGreatDoorPJAA
import Derived.Test.YtcncbhbdpcpkeaaGreatDoorPJAB
import Derived.Test.YtcncbhbdpcpkeaaGreatDoorPJAE
import Derived.Test.YtcncbhbdpcpkeaaGreatDoorPJAF
/-
  The reference's nameEnd: its walk.
-/
namespace Go.Proofs.YtcncbhbdpcpkeaaGreatDoor
open Go.RowKit Go.Lib Own

def smallT : List UInt8 := [97, 98, 99, 100, 101, 102, 103, 104, 105, 106, 107, 108, 109, 110, 111, 112, 113, 114, 115, 116, 117, 118, 119, 120, 121, 122]
def digitT : List UInt8 := [48, 49, 50, 51, 52, 53, 54, 55, 56, 57]
theorem small_has (c : UInt8) : smallT.contains c = smallB c := by
  have := u8_all (p := fun c => smallT.contains c == smallB c) (by decide +kernel) c
  exact beq_iff_eq.1 this
theorem digit_has (c : UInt8) : digitT.contains c = decide (48 ≤ c.toNat ∧ c.toNat ≤ 57) := by
  have := u8_all (p := fun c => digitT.contains c == decide (48 ≤ c.toNat ∧ c.toNat ≤ 57)) (by decide +kernel) c
  exact beq_iff_eq.1 this
def wordT (sg : List UInt8) : List UInt8 := smallT ++ (digitT ++ sg)
theorem word_has (sg : List UInt8) (c : UInt8) : (wordT sg).contains c = wordB sg c := by
  unfold wordT wordB
  rw [Bool.eq_iff_iff]
  simp only [List.contains_iff_mem, List.mem_append, Bool.or_eq_true]
  rw [show (c ∈ smallT ↔ smallB c = true) by rw [← small_has]; exact List.contains_iff_mem.symm, show (c ∈ digitT ↔ decide (48 ≤ c.toNat ∧ c.toNat ≤ 57) = true) by rw [← digit_has]; exact List.contains_iff_mem.symm]
set_option maxHeartbeats 2000000 in
set_option maxRecDepth 100000 in
theorem nameEnd_any (s : ByteArray) (i : Nat) (sg : List UInt8) (w : World) (hs : s.size ≤ 4000000) (hi : i ≤ s.size) (hsg : sg.length ≤ 10) :
    Calls Tryz.prog 113 #[.string s, .int .i64 i, .string ⟨(wordT sg).toArray⟩] w fun e w' => e = .returned (.int .i64 ((i + wordN sg (s.data.toList.drop i) : Nat) : Int)) ∧ w' = w := by
  obtain ⟨R, hR⟩ : ∃ R, i + wordN sg (s.data.toList.drop i) = R := ⟨_, rfl⟩
  rw [hR]
  have hwl : (wordT sg).length ≤ 100 := by unfold wordT; rw [List.length_append, List.length_append]; simp [smallT, digitT]; omega
  by_cases h0 : i < s.size
  · obtain ⟨c, hc⟩ : ∃ c, s.data.toList[i]? = some c := ⟨_, List.getElem?_eq_getElem (by rw [← size_eq]; exact h0)⟩
    have hd := drop_at hc
    have hg : s[i]'h0 = c := by
      have := getElem_list h0 rfl
      rw [hc] at this
      exact (Option.some.inj this).symm
    have hp := past_at s i (wordT sg) hi hs hwl i rfl _ rfl _ rfl
    have ha := fun W => among_any c ⟨smallT.toArray⟩ W (by decide)
    rw [show (⟨smallT.toArray⟩ : ByteArray).data.toList = smallT from rfl, small_has] at ha
    have htw : ∀ L : List UInt8, L.takeWhile (wordT sg).contains = L.takeWhile (wordB sg) := fun L => by
      congr 1
      funext c
      exact word_has sg c
    rw [htw, hd] at hp
    rw [hd] at hR
    have HP := hid hp
    have HA := hid ha
    have hwn : wordN sg (c :: s.data.toList.drop (i + 1)) = if smallB c = true then ((s.data.toList.drop (i + 1)).takeWhile (wordB sg)).length + 1 else 0 := rfl
    rw [hwn] at hR
    have hwb : smallB c = true → wordB sg c = true := fun h => by unfold wordB; rw [h]; rfl
    obtain ⟨WT, hWT⟩ : ∃ WT, (⟨(wordT sg).toArray⟩ : ByteArray) = WT := ⟨_, rfl⟩
    rw [hWT] at HP ⊢
    have z1 : decide ((i : Int) < (s.size : Int)) = true := decide_eq_true (by omega)
    have z2 : decide (i < s.size) = true := decide_eq_true h0
    clear hp ha htw hd hc hwn hWT
    cases hsm : smallB c with
    | true =>
      rw [hsm, if_pos rfl] at hR
      rw [hsm] at HA
      rw [List.takeWhile_cons, if_pos (hwb hsm), List.length_cons] at HP
      have hr : ((i + (((s.data.toList.drop (i + 1)).takeWhile (wordB sg)).length + 1) : Nat) : Int) = (R : Int) := by rw [hR]
      rw [hr] at HP
      clear hR hr hsm hwb
      go_enter Tryz.func113, Tryz.ntmps113
      go_wp2_with fail
      refine (HA.out _).mono ?_
      rintro e W1 ⟨rfl, rfl⟩
      go_wp2_with fail
      refine (HP.out _).mono ?_
      rintro e W1 ⟨rfl, rfl⟩
      go_wp2_with fail
      go_ret
      exact ⟨rfl, rfl⟩
    | false =>
      rw [hsm, if_neg Bool.false_ne_true, Nat.add_zero] at hR
      subst hR
      rw [hsm] at HA
      clear HP hsm hwb
      go_enter Tryz.func113, Tryz.ntmps113
      go_wp2_with fail
      refine (HA.out _).mono ?_
      rintro e W1 ⟨rfl, rfl⟩
      go_wp2_with fail
      go_ret
      exact ⟨rfl, rfl⟩
  · rw [List.drop_of_length_le (by rw [← size_eq]; omega), show wordN sg [] = 0 from rfl, Nat.add_zero] at hR
    subst hR
    have z1 : decide ((i : Int) < (s.size : Int)) = false := decide_eq_false (by omega)
    have z2 : decide (i < s.size) = false := decide_eq_false h0
    obtain ⟨WT, hWT⟩ : ∃ WT, (⟨(wordT sg).toArray⟩ : ByteArray) = WT := ⟨_, rfl⟩
    rw [hWT]
    go_enter Tryz.func113, Tryz.ntmps113
    go_wp2_with fail
    go_ret
    exact ⟨rfl, rfl⟩
end Go.Proofs.YtcncbhbdpcpkeaaGreatDoor

/-
  The reference's attrToken: its walk.
-/
namespace Go.Proofs.YtcncbhbdpcpkeaaGreatDoor
open Go.RowKit Go.Lib Own

/-- what attrToken answers at place i of l -/
def attrW (l : List UInt8) (i : Nat) : AttrP × Nat :=
  if (l.drop i).head? = some 32 then (match attrP (l.drop (i + 1)) with
    | some (a, q) => (a, l.length - q.length)
    | none => (([], []), 0)) else (([], []), 0)
structure AttrOut (w w' : World) (R : AttrP × Nat) (e : Ending) : Prop where
  ans : e = .returned (.tuple #[.agg #[.string (bs R.1.1), .string (bs R.1.2)], .int .i64 R.2])
  be : Below w.heap.size w w'
theorem attr_end {w W1 W : World} (hW1 : (w.alloc (.cells #[.string ⟨#[]⟩, .string ⟨#[]⟩] 122)).alloc (.cells #[.string ⟨#[]⟩, .string ⟨#[]⟩] 122) = W1) (hb : Below (w.heap.size + 1) W1 W) (v0 v1 : Value) :
    ((W.setCell ⟨w.heap.size, 0, none⟩ v0).setCell ⟨w.heap.size, 1, none⟩ v1).heap[w.heap.size]? = some (.cells #[v0, v1] 122 (0, 0)) ∧ Below w.heap.size w ((W.setCell ⟨w.heap.size, 0, none⟩ v0).setCell ⟨w.heap.size, 1, none⟩ v1) := by
  have hb1 : Below w.heap.size w W1 := by rw [← hW1]; exact ((Below.refl _ _).alloc (Nat.le_refl _) _).alloc (by simp) _
  have n0 : W1.heap[w.heap.size]? = some (.cells #[.string ⟨#[]⟩, .string ⟨#[]⟩] 122 (0, 0)) := by rw [← hW1]; exact (alloc_old _ _ _ (by simp)).trans (heap_alloc_new w _)
  have n2 := (hb.block w.heap.size (by omega)).trans n0
  have hj1 := just_put (j := 0) n2 v0 rfl
  have hj2 := just_put (j := 1) hj1.at_ v1 rfl
  have hj := hj1.andThen hj2
  exact ⟨hj.at_, (hb1.trans (hb.mono (by omega))).trans (just_low hj (Nat.le_refl _))⟩
theorem attr_at {w W1 W : World} (hW1 : (w.alloc (.cells #[.string ⟨#[]⟩, .string ⟨#[]⟩] 122)).alloc (.cells #[.string ⟨#[]⟩, .string ⟨#[]⟩] 122) = W1) (hb : Below (w.heap.size + 2) W1 W) :
    W.heap[w.heap.size]? = some (.cells #[.string ⟨#[]⟩, .string ⟨#[]⟩] 122 (0, 0)) ∧ W.heap[w.heap.size + 1]? = some (.cells #[.string ⟨#[]⟩, .string ⟨#[]⟩] 122 (0, 0)) := by
  have n0 : W1.heap[w.heap.size]? = some (.cells #[.string ⟨#[]⟩, .string ⟨#[]⟩] 122 (0, 0)) := by rw [← hW1]; exact (alloc_old _ _ _ (by simp)).trans (heap_alloc_new w _)
  have n1 : W1.heap[w.heap.size + 1]? = some (.cells #[.string ⟨#[]⟩, .string ⟨#[]⟩] 122 (0, 0)) := by
    rw [← hW1]
    have := heap_alloc_new (w.alloc (.cells #[.string ⟨#[]⟩, .string ⟨#[]⟩] 122)) (.cells #[.string ⟨#[]⟩, .string ⟨#[]⟩] 122)
    rwa [show (w.alloc (.cells #[.string ⟨#[]⟩, .string ⟨#[]⟩] 122)).heap.size = w.heap.size + 1 by simp] at this
  exact ⟨(hb.block _ (by omega)).trans n0, (hb.block _ (by omega)).trans n1⟩
/-- the plain half: where attrToken stands -/
theorem attrW_no {l : List UInt8} {i : Nat} (h : (l.drop i).head? ≠ some 32) : attrW l i = (([], []), 0) := if_neg h
theorem attrW_sp {l : List UInt8} {i : Nat} (h : (l.drop i).head? = some 32) : attrW l i = match attrP (l.drop (i + 1)) with
    | some (a, q) => (a, l.length - q.length)
    | none => (([], []), 0) := if_pos h
theorem attrW_1 {l : List UInt8} {i : Nat} (h : (l.drop i).head? = some 32) (h1 : wordN [45] (l.drop (i + 1)) = 0 ∨ (l.drop (i + 1 + wordN [45] (l.drop (i + 1)))).take 2 ≠ [61, 34]) : attrW l i = (([], []), 0) := by
  rw [attrW_sp h]
  unfold attrP
  rw [if_pos (by rw [List.drop_drop]; exact h1)]
theorem attrW_2 {l : List UInt8} {i j k : Nat} (h : (l.drop i).head? = some 32) (hj : i + 1 + wordN [45] (l.drop (i + 1)) = j) (h1 : wordN [45] (l.drop (i + 1)) ≠ 0) (h2 : (l.drop j).take 2 = [61, 34]) (hk : j + 2 + ((l.drop (j + 2)).takeWhile noQ).length = k) (hkl : k ≤ l.length) : attrW l i = if k = l.length then (([], []), 0) else match decP ((l.drop (j + 2)).take (k - (j + 2))) with
    | some v => (((l.drop (i + 1)).take (j - (i + 1)), v), k + 1)
    | none => (([], []), 0) := by
  rw [attrW_sp h]
  unfold attrP
  have e1 : (l.drop (i + 1)).drop (wordN [45] (l.drop (i + 1))) = l.drop j := by rw [List.drop_drop, hj]
  have e2 : (l.drop (i + 1)).drop (wordN [45] (l.drop (i + 1)) + 2) = l.drop (j + 2) := by rw [List.drop_drop, ← Nat.add_assoc, hj]
  have htw := takeWhile_len noQ (l.drop (j + 2))
  have etw : (l.drop (j + 2)).takeWhile noQ = (l.drop (j + 2)).take (k - (j + 2)) := by
    rw [show k - (j + 2) = ((l.drop (j + 2)).takeWhile noQ).length by omega]
    exact (List.prefix_iff_eq_take.1 (List.takeWhile_prefix _))
  rw [e1, e2, if_neg (fun e => e.elim h1 (fun e => e h2))]
  have hl2 : j + 2 ≤ l.length := by
    have := congrArg List.length h2
    rw [List.length_take, List.length_drop] at this
    simp only [List.length_cons, List.length_nil] at this
    omega
  by_cases hkk : k = l.length
  · rw [if_pos hkk, if_pos (by rw [List.length_drop]; omega)]
  · rw [if_neg hkk, if_neg (by rw [List.length_drop]; omega), etw]
    cases decP ((l.drop (j + 2)).take (k - (j + 2))) with
    | none => rfl
    | some v =>
      simp only [Option.map_some]
      rw [← etw, List.drop_drop, List.length_drop, show wordN [45] (l.drop (i + 1)) = j - (i + 1) by omega]
      rw [show l.length - (l.length - (j + 2 + (((l.drop (j + 2)).takeWhile noQ).length + 1))) = k + 1 by omega]
theorem mid_bs (s : ByteArray) (a b : Nat) : s.extract a b = bs ((s.data.toList.drop a).take (b - a)) := by
  rw [← bs_of (s.extract a b), extract_list]
theorem quot_until (L : List UInt8) : (L.takeWhile fun c => !([34] : List UInt8).contains c) = L.takeWhile noQ := by
  congr 1
  funext c
  have := u8_all (p := fun c => (!([34] : List UInt8).contains c) == noQ c) (by decide +kernel) c
  exact beq_iff_eq.1 this
set_option maxHeartbeats 8000000 in
set_option maxRecDepth 100000 in
theorem attrToken_any (s : ByteArray) (i : Nat) (w : World) (hs : s.size ≤ 4000000) (hi : i ≤ s.size) :
    Calls Tryz.prog 114 #[.string s, .int .i64 i] w fun e w' => AttrOut w w' (attrW s.data.toList i) e := by
  obtain ⟨R, hR⟩ : ∃ R, attrW s.data.toList i = R := ⟨_, rfl⟩
  rw [hR]
  have hsz := size_eq s
  obtain ⟨W1, hW1⟩ : ∃ W1, (w.alloc (.cells #[.string ⟨#[]⟩, .string ⟨#[]⟩] 122)).alloc (.cells #[.string ⟨#[]⟩, .string ⟨#[]⟩] 122) = W1 := ⟨_, rfl⟩
  have hW1s : W1.heap.size = w.heap.size + 2 := by rw [← hW1]; simp
  obtain ⟨n0, n1⟩ := attr_at hW1 (Below.refl _ _)
  have r0 := cell_at n0 (j := 0) rfl
  have r1 := cell_at n0 (j := 1) rfl
  have g0 := free_at n0 0
  have g1 := free_at n0 1
  have a0 := cell_at n1 (j := 0) rfl
  have a1 := cell_at n1 (j := 1) rfl
  have f0 := free_at n1 0
  have f1 := free_at n1 1
  have HZ := hid (attr_end hW1 (Below.refl _ _) (.string ⟨#[]⟩) (.string ⟨#[]⟩))
  have HW := hid (fun (_ : True) => hW1)
  have HR := hid (fun (_ : True) => hR)
  clear n0 n1 hR
  by_cases h0 : i < s.size
  case neg =>
    have hr := HR.out trivial
    rw [attrW_no (by rw [List.drop_of_length_le (by omega)]; simp)] at hr
    subst hr
    have z1 : decide ((i : Int) ≥ (s.size : Int)) = true := decide_eq_true (by omega)
    have z2 : decide ((s.size : Int) ≤ (i : Int)) = true := decide_eq_true (by omega)
    have z3 : decide (s.size ≤ i) = true := decide_eq_true (by omega)
    clear HR HW
    clear hsz
    go_enter Tryz.func114, Tryz.ntmps114
    go_wp2_with fail
    (try simp only [Exit.inBlock, Exit.then]); refine bodyPost_ret (v := .tuple #[.agg #[.string ⟨#[]⟩, .string ⟨#[]⟩], .int .i64 0]) (results_two rfl _ _ _ _ _ _ _ rfl HZ.out.1 Tryz.underlying122 rfl (by kernel_rfl) _ rfl) rfl ⟨rfl, HZ.out.2⟩
  case pos =>
    obtain ⟨c, hc⟩ : ∃ c, s.data.toList[i]? = some c := ⟨_, List.getElem?_eq_getElem (by omega)⟩
    have hg : s[i]'h0 = c := by
      have := getElem_list h0 rfl
      rw [hc] at this
      exact (Option.some.inj this).symm
    have hhd : (s.data.toList.drop i).head? = some c := by rw [drop_at hc]; rfl
    have z1 : decide ((i : Int) ≥ (s.size : Int)) = false := decide_eq_false (by omega)
    have z2 : decide ((s.size : Int) ≤ (i : Int)) = false := decide_eq_false (by omega)
    have z3 : decide (s.size ≤ i) = false := decide_eq_false (by omega)
    by_cases hsp : c = 32
    case neg =>
      have hr := HR.out trivial
      rw [attrW_no (by rw [hhd]; simpa using hsp)] at hr
      subst hr
      have z4 : ((c.toNat : Int) != 32) = true := by rw [bne_iff_ne]; intro e; exact hsp (u8_ext (by show c.toNat = 32; omega))
      clear HR HW hhd hc hsp
      clear hsz
      go_enter Tryz.func114, Tryz.ntmps114
      go_wp2_with fail
      (try simp only [Exit.inBlock, Exit.then]); refine bodyPost_ret (v := .tuple #[.agg #[.string ⟨#[]⟩, .string ⟨#[]⟩], .int .i64 0]) (results_two rfl _ _ _ _ _ _ _ rfl HZ.out.1 Tryz.underlying122 rfl (by kernel_rfl) _ rfl) rfl ⟨rfl, HZ.out.2⟩
    case pos =>
      subst hsp
      have hne := nameEnd_any s (i + 1) [45] W1 hs (by omega) (by decide)
      have HN := hid hne
      have hwi : IntKind.i64.wrap ((i : Int) + 1) = (i : Int) + 1 := by rw [IntKind.wrap_i64]; omega
      have z4 : (((32 : UInt8).toNat : Int) != 32) = false := rfl
      have hsp2 := hhd
      obtain ⟨J, hJ⟩ : ∃ J, i + 1 + wordN [45] (s.data.toList.drop (i + 1)) = J := ⟨_, rfl⟩
      have hJl : J ≤ s.size := by
        have h1 := wordN_le [45] (s.data.toList.drop (i + 1))
        rw [List.length_drop] at h1
        omega
      rw [hJ, show ((i + 1 : Nat) : Int) = (i : Int) + 1 from rfl] at hne
      obtain ⟨WT, hWT⟩ : ∃ WT, (⟨(wordT [45]).toArray⟩ : ByteArray) = WT := ⟨_, rfl⟩
      have HN := hid hne
      have HJ := hid (fun (_ : True) => And.intro hhd hJ)
      clear hne hJ hhd hc hWT hsp2
      have hsgn : (⟨#[97, 98, 99, 100, 101, 102, 103, 104, 105, 106, 107, 108, 109, 110, 111, 112, 113, 114, 115, 116, 117, 118, 119, 120, 121, 122, 48, 49, 50, 51, 52, 53, 54, 55, 56, 57, 45]⟩ : ByteArray) = ⟨(wordT [45]).toArray⟩ := rfl
      rw [← hsgn] at HN
      clear hsgn
      by_cases q1 : J = i + 1
      case pos =>
        have hr := HR.out trivial
        rw [attrW_1 (HJ.out trivial).1 (.inl (by have := (HJ.out trivial).2; omega))] at hr
        subst hr
        have z5 : ((J : Int) == (i : Int) + 1) = true := beq_iff_eq.2 (by omega)
        clear HR HW HJ q1
        clear hsz
        go_enter Tryz.func114, Tryz.ntmps114
        go_wp2_with fail
        refine HN.out.mono ?_
        rintro e W2 ⟨rfl, rfl⟩
        go_wp2_with fail
        (try simp only [Exit.inBlock, Exit.then]); refine bodyPost_ret (v := .tuple #[.agg #[.string ⟨#[]⟩, .string ⟨#[]⟩], .int .i64 0]) (results_two rfl _ _ _ _ _ _ _ rfl HZ.out.1 Tryz.underlying122 rfl (by kernel_rfl) _ rfl) rfl ⟨rfl, HZ.out.2⟩
      case neg =>
        have z5 : ((J : Int) == (i : Int) + 1) = false := beq_eq_false_iff_ne.2 (by omega)
        have hwj1 : IntKind.i64.wrap ((J : Int) + 1) = (J : Int) + 1 := by rw [IntKind.wrap_i64]; omega
        have hwj2 : IntKind.i64.wrap ((J : Int) + 2) = (J : Int) + 2 := by rw [IntKind.wrap_i64]; omega
        have hx := mid_bs s J (J + 2)
        rw [Nat.add_sub_cancel_left] at hx
        by_cases q2 : J + 1 < s.size
        case neg =>
          have hr := HR.out trivial
          rw [attrW_1 (HJ.out trivial).1 (.inr (fun e => by
            rw [(HJ.out trivial).2] at e
            have := congrArg List.length e
            rw [List.length_take, List.length_drop] at this
            simp only [List.length_cons, List.length_nil] at this
            omega))] at hr
          subst hr
          have z6 : decide ((J : Int) + 1 ≥ (s.size : Int)) = true := decide_eq_true (by omega)
          have z7 : decide ((s.size : Int) ≤ (J : Int) + 1) = true := decide_eq_true (by omega)
          clear HR HW HJ q1 q2 hx
          clear hsz
          go_enter Tryz.func114, Tryz.ntmps114
          go_wp2_with fail
          refine HN.out.mono ?_
          rintro e W2 ⟨rfl, rfl⟩
          go_wp2_with fail
          (try simp only [Exit.inBlock, Exit.then]); refine bodyPost_ret (v := .tuple #[.agg #[.string ⟨#[]⟩, .string ⟨#[]⟩], .int .i64 0]) (results_two rfl _ _ _ _ _ _ _ rfl HZ.out.1 Tryz.underlying122 rfl (by kernel_rfl) _ rfl) rfl ⟨rfl, HZ.out.2⟩
        case pos =>
          have z6 : decide ((J : Int) + 1 ≥ (s.size : Int)) = false := decide_eq_false (by omega)
          have z7 : decide ((s.size : Int) ≤ (J : Int) + 1) = false := decide_eq_false (by omega)
          obtain ⟨X, hX⟩ : ∃ X, bs ((s.data.toList.drop J).take 2) = X := ⟨_, rfl⟩
          have hXl : X.toList = (s.data.toList.drop J).take 2 := by rw [← hX, bs_toList]
          rw [hX] at hx
          clear hX
          by_cases q3 : (s.data.toList.drop J).take 2 = [61, 34]
          case neg =>
            have hr := HR.out trivial
            rw [attrW_1 (HJ.out trivial).1 (.inr (by rw [(HJ.out trivial).2]; exact q3))] at hr
            subst hr
            have z8 : (X.toList == [61, 34]) = false := by rw [hXl, beq_eq_false_iff_ne]; exact q3
            clear HR HW HJ q1 q3 hXl
            clear hsz
            go_enter Tryz.func114, Tryz.ntmps114
            go_wp2_with fail
            refine HN.out.mono ?_
            rintro e W2 ⟨rfl, rfl⟩
            go_wp2_with fail
            (try simp only [Exit.inBlock, Exit.then]); refine bodyPost_ret (v := .tuple #[.agg #[.string ⟨#[]⟩, .string ⟨#[]⟩], .int .i64 0]) (results_two rfl _ _ _ _ _ _ _ rfl HZ.out.1 Tryz.underlying122 rfl (by kernel_rfl) _ rfl) rfl ⟨rfl, HZ.out.2⟩
          case pos =>
            have z8 : (X.toList == [61, 34]) = true := by rw [hXl, q3]; rfl
            obtain ⟨k, hk⟩ : ∃ k, J + 2 + ((s.data.toList.drop (J + 2)).takeWhile noQ).length = k := ⟨_, rfl⟩
            have hjk : J + 2 ≤ k := by omega
            have hij : i + 1 ≤ J := by have := (HJ.out trivial).2; omega
            have hkl : k ≤ s.size := by
              have h1 := takeWhile_len noQ (s.data.toList.drop (J + 2))
              rw [List.length_drop] at h1
              omega
            have hun := until_at s (J + 2) [34] (by omega) hs (by decide) ((J : Int) + 2) (by omega) _ rfl k (by rw [quot_until]; exact hk) W1
            have HU := hid hun
            have har := attrW_2 (HJ.out trivial).1 (HJ.out trivial).2 (by have := (HJ.out trivial).2; omega) q3 hk (by omega)
            have hr := HR.out trivial
            rw [har] at hr
            clear har hun HR HJ q3 hXl
            by_cases q4 : k = s.size
            case pos =>
              rw [if_pos (by omega)] at hr
              subst hr
              have z9 : ((k : Int) == (s.size : Int)) = true := beq_iff_eq.2 (by omega)
              clear HW hk q4 hsz
              go_enter Tryz.func114, Tryz.ntmps114
              go_wp2_with fail
              refine HN.out.mono ?_
              rintro e W2 ⟨rfl, rfl⟩
              go_wp2_with fail
              refine HU.out.mono ?_
              rintro e W2 ⟨rfl, rfl⟩
              go_wp2_with fail
              (try simp only [Exit.inBlock, Exit.then]); refine bodyPost_ret (v := .tuple #[.agg #[.string ⟨#[]⟩, .string ⟨#[]⟩], .int .i64 0]) (results_two rfl _ _ _ _ _ _ _ rfl HZ.out.1 Tryz.underlying122 rfl (by kernel_rfl) _ rfl) rfl ⟨rfl, HZ.out.2⟩
            case neg =>
              rw [if_neg (by omega)] at hr
              have z9 : ((k : Int) == (s.size : Int)) = false := beq_eq_false_iff_ne.2 (by omega)
              have hx2 := mid_bs s (J + 2) k
              have hx3 := mid_bs s (i + 1) J
              have huo := unitsOf_any ((s.data.toList.drop (J + 2)).take (k - (J + 2))) W1 (by rw [List.length_take]; omega)
              obtain ⟨X2, hX2⟩ : ∃ X, bs ((s.data.toList.drop (J + 2)).take (k - (J + 2))) = X := ⟨_, rfl⟩
              rw [hX2] at hx2 huo
              clear hX2
              have HUO := hid huo
              clear huo
              have hwk : IntKind.i64.wrap ((k : Int) + 1) = (k : Int) + 1 := by rw [IntKind.wrap_i64]; omega
              cases hdc : decP ((s.data.toList.drop (J + 2)).take (k - (J + 2))) with
              | none =>
                rw [hdc] at hr HUO
                simp only at hr
                subst hr
                clear hk q4 hsz hdc hx3
                go_enter Tryz.func114, Tryz.ntmps114
                go_wp2_with fail
                refine HN.out.mono ?_
                rintro e W2 ⟨rfl, rfl⟩
                go_wp2_with fail
                refine HU.out.mono ?_
                rintro e W2 ⟨rfl, rfl⟩
                go_wp2_with fail
                refine HUO.out.mono ?_
                rintro e W3 ⟨rfl, hb3⟩
                rw [hW1s] at hb3
                have HZ3 := hid (attr_end (HW.out trivial) (hb3.mono (by omega)) (.string ⟨#[]⟩) (.string ⟨#[]⟩))
                obtain ⟨n0, n1⟩ := attr_at (HW.out trivial) hb3
                have r0 := cell_at n0 (j := 0) rfl
                have r1 := cell_at n0 (j := 1) rfl
                have g0 := free_at n0 0
                have g1 := free_at n0 1
                have a0 := cell_at n1 (j := 0) rfl
                have a1 := cell_at n1 (j := 1) rfl
                unfold unitsV
                clear hb3 n0 n1 HW HZ HUO
                dsimp only
                go_wp2_with fail
                (try simp only [Exit.inBlock, Exit.then]); refine bodyPost_ret (v := .tuple #[.agg #[.string ⟨#[]⟩, .string ⟨#[]⟩], .int .i64 0]) (results_two rfl _ _ _ _ _ _ _ rfl HZ3.out.1 Tryz.underlying122 rfl (by kernel_rfl) _ rfl) rfl ⟨rfl, HZ3.out.2⟩
              | some v =>
                rw [hdc] at hr HUO
                simp only at hr
                obtain ⟨X3, hX3⟩ : ∃ X, bs ((s.data.toList.drop (i + 1)).take (J - (i + 1))) = X := ⟨_, rfl⟩
                rw [hX3] at hx3
                obtain ⟨X4, hX4⟩ : ∃ X, bs v = X := ⟨_, rfl⟩
                have HUO2 : Hid (Calls Tryz.prog 112 #[.string X2] W1 fun e w' => e = .returned (.tuple #[.string X4, .bool true]) ∧ Below W1.heap.size W1 w') := hid (HUO.out.mono (fun e w' hh => by rw [← hX4]; exact hh))
                have HRR := hid (fun (_ : True) => (by rw [← hr]; exact ⟨hX3, hX4, rfl⟩ : bs R.1.1 = X3 ∧ bs R.1.2 = X4 ∧ R.2 = k + 1))
                clear hk q4 hsz hdc hr hX3 hX4 HUO
                go_enter Tryz.func114, Tryz.ntmps114
                go_wp2_with fail
                refine HN.out.mono ?_
                rintro e W2 ⟨rfl, rfl⟩
                go_wp2_with fail
                refine HU.out.mono ?_
                rintro e W2 ⟨rfl, rfl⟩
                go_wp2_with fail
                refine HUO2.out.mono ?_
                rintro e W3 ⟨rfl, hb3⟩
                rw [hW1s] at hb3
                obtain ⟨n0, n1⟩ := attr_at (HW.out trivial) hb3
                have hj1 := just_put (j := 0) n1 (.string X3) rfl
                have hj2 := just_put (j := 1) hj1.at_ (.string X4) rfl
                have hj := hj1.andThen hj2
                have HZ3 := hid (attr_end (HW.out trivial) ((hb3.mono (by omega)).trans (just_low hj (Nat.le_refl _))) (.string X3) (.string X4))
                have r0 := cell_at n0 (j := 0) rfl
                have r1 := cell_at n0 (j := 1) rfl
                have g0 := free_at n0 0
                have g1 := free_at n0 1
                have a0 := cell_at n1 (j := 0) rfl
                have a1 := cell_at n1 (j := 1) rfl
                have f0 := free_at n1 0
                have f1 := free_at n1 1
                clear hb3 n0 n1 HW HZ HUO2 hj1 hj2 hj
                go_wp2_with fail
                refine bodyPost_ret (v := .tuple #[.agg #[.string X3, .string X4], .int .i64 ((k : Int) + 1)]) (results_two rfl _ _ _ _ _ _ _ rfl HZ3.out.1 Tryz.underlying122 rfl (by kernel_rfl) _ rfl) rfl ⟨?_, HZ3.out.2⟩
                rw [(HRR.out trivial).1, (HRR.out trivial).2.1, (HRR.out trivial).2.2]
                rfl
end Go.Proofs.YtcncbhbdpcpkeaaGreatDoor

/-
  From what a row says of the six tables to what lies in memory.
-/
namespace Go.Proofs.YtcncbhbdpcpkeaaGreatDoor
open Go.RowKit Go.Lib Go.ChangeShapes

theorem range_of {P : Program} {w : World} {n : String} {g : Nat} {cs : Array Value} {L : List Value} (hg : P.globalNamed n = some g) (hvar : w.var? P n = some cs) (h : ∀ (j : Nat) (v : Value), L[j]? = some v → cs.toList[j]? = some v) : w.rangeAt g 0 L := by
  intro j v hv
  rw [Nat.zero_add, World.var?_cell hg hvar j, ← Array.getElem?_toList]
  exact h j v hv
theorem one_at {α : Type} {l : List α} {j : Nat} {x : α} (h : (l.drop j).take 1 = [x]) : l[j]? = some x := by
  have := congrArg (·[0]?) h
  simpa using this
theorem flat_even {f g : List UInt8 × Int → Value} : ∀ (T : List (List UInt8 × Int)) (k : Nat), (T.flatMap fun t => [f t, g t])[k * 2]? = T[k]?.map f ∧ (T.flatMap fun t => [f t, g t])[k * 2 + 1]? = T[k]?.map g
  | [], k => by simp
  | t :: T, 0 => by simp
  | t :: T, k + 1 => by
    have := flat_even (f := f) (g := g) T k
    rw [show (k + 1) * 2 = k * 2 + 2 from by omega, show k * 2 + 2 + 1 = k * 2 + 1 + 2 from by omega, List.flatMap_cons]
    simpa using this
theorem pairs_of {P : Program} {w : World} {n : String} {g t e m ts ti : Nat} {f0 f1 : Field} {T : List (List UInt8 × Int)} (hg : P.globalNamed n = some g) (ht : (P.globals[g]?).map (·.type) = some t)
    (hu : P.underlying t = some (.array m e)) (he : P.underlying e = some (.struct #[f0, f1])) (hce : P.cellsOf e = 2) (hm : T.length = m)
    (h0 : f0.type = ts ∧ f0.offset = 0) (h1 : f1.type = ti ∧ f1.offset = 1) (hs : P.underlying ts = some .string) (hcs : P.cellsOf ts = 1) (hi : P.underlying ti = some (.int .i32)) (hci : P.cellsOf ti = 1)
    (h : VarReads P w n (.agg (T.map fun x => .agg [.lit (.string x.1), .lit (.int .i32 x.2)]))) : w.rangeAt g 0 (T.flatMap fun t => [strV t.1, .int .i32 t.2]) := by
  obtain ⟨g', t', cs, fuel, p, hg', hty, hvar, hd⟩ := h
  obtain rfl := Option.some.inj (hg.symm.trans hg')
  obtain rfl := Option.some.inj (ht.symm.trans hty)
  have key : ∀ k x, T[k]? = some x → cs.toList[k * 2]? = some (strV x.1) ∧ cs.toList[k * 2 + 1]? = some (.int .i32 x.2) := by
    intro k x hx
    obtain ⟨fuel', d, q, hdi, hel⟩ := array_elem hu hd k (by rw [← hm]; exact (List.getElem?_eq_some_iff.1 hx).1)
    rw [List.getElem?_map, hx] at hdi
    simp only [Option.map_some, Option.some.injEq] at hdi
    subst hdi
    obtain ⟨y0, y1, n', hy, _, e0, e1⟩ := trod_struct2 he hel
    rw [h0.1, h0.2, hcs, hce] at e0
    rw [h1.1, h1.2, hci, hce] at e1
    obtain ⟨s, hs1, hs2, _⟩ := DataW.trod_string hs e0
    obtain ⟨z, hz1, hz2, _⟩ := DataW.trod_int hi e1
    rw [hs2, hz2] at hy
    simp only [Prod.mk.injEq, DataW.agg.injEq, List.cons.injEq, DataW.lit.injEq, Lit.string.injEq, Lit.int.injEq, true_and, and_true] at hy
    have a0 := one_at hs1
    have a1 := one_at hz1
    rw [List.getElem?_take_of_lt (by omega), List.getElem?_drop] at a0 a1
    refine ⟨?_, ?_⟩
    · rw [show k * 2 = k * 2 + 0 from rfl, a0]
      unfold strV
      rw [hy.1.1]
    · rw [a1, hy.1.2]
  refine range_of hg hvar (fun j v hv => ?_)
  obtain ⟨f1', f2'⟩ := flat_even (f := fun t => strV t.1) (g := fun t => .int .i32 t.2) T (j / 2)
  rcases Nat.mod_two_eq_zero_or_one j with h2 | h2
  · have e : j = j / 2 * 2 := by omega
    rw [e] at hv ⊢
    rw [f1'] at hv
    obtain ⟨x, hx, rfl⟩ := Option.map_eq_some_iff.1 hv
    exact (key _ x hx).1
  · have e : j = j / 2 * 2 + 1 := by omega
    rw [e] at hv ⊢
    rw [f2'] at hv
    obtain ⟨x, hx, rfl⟩ := Option.map_eq_some_iff.1 hv
    exact (key _ x hx).2
end Go.Proofs.YtcncbhbdpcpkeaaGreatDoor
