/-
  Lists of words and policies that can be read, whoever made them.
-/
import Derived.Test.YtndlihpjefobcaaDoorRefSet
import Derived.Test.YtndlihpjefobcaaDoorMemW
import Derived.Deep.RegionLaw
namespace Go.Proofs.YtndlihpjefobcaaDoor
open Go.RowKit Go.Lib Own

set_option maxHeartbeats 1000000 in
theorem holds_any (v : Value) (ss : List (List UInt8)) (x : ByteArray) (w : World) (h : Words w v ss) (_hl : ss.length ≤ 100000000) :
    Calls Tryd.prog 14 #[v, .string x] w fun e w' => e = .returned (.bool (ss.contains x.toList)) ∧ w' = w := by
  obtain ⟨p, c, rfl, hc, hm, hcell, _⟩ := h
  obtain ⟨R, hR⟩ : ∃ R, ss.contains x.toList = R := ⟨_, rfl⟩
  have HR := hid (fun (_ : True) => hR)
  have H := hid hcell
  rw [hR]
  clear hcell hR
  go_enter Tryd.func14, Tryd.ntmps14
  go_wp2
  go_loopw [5] (fun iv wr => ∃ k : Nat, iv = .int .i64 k ∧ k ≤ ss.length ∧ wr = w ∧ Hid (True → (ss.drop k).contains x.toList = R)) (fun iv _ => ss.length - (RowKit.intOf iv).toNat)
  case atStart => exact ⟨0, rfl, Nat.zero_le _, rfl, HR.out⟩
  case round =>
    obtain ⟨k, rfl, hk, rfl, HK⟩ := hrel
    by_cases hkl : k < ss.length
    · obtain ⟨s, hs⟩ : ∃ s, ss[k]? = some s := ⟨_, List.getElem?_eq_getElem hkl⟩
      obtain ⟨b, o, rfl, hc1⟩ := H.out k s hs
      have hd := HK.out trivial
      rw [drop_at hs, List.contains_cons] at hd
      have hbt := bs_toList s
      obtain ⟨S, hS⟩ : ∃ S, bs s = S := ⟨_, rfl⟩
      rw [hS] at hbt hc1
      by_cases q : (x.toList == s) = true
      · have q2 : (S.toList == x.toList) = true := by rw [hbt]; rw [beq_iff_eq] at q ⊢; exact q.symm
        rw [q, Bool.true_or] at hd
        subst hd
        clear hs hbt q H HK HR
        go_wp2
        go_ret
        exact ⟨rfl, rfl⟩
      · have q2 : (S.toList == x.toList) = false := by rw [hbt]; rw [Bool.not_eq_true] at q; rw [← q, Bool.eq_iff_iff, beq_iff_eq, beq_iff_eq]; exact eq_comm
        rw [Bool.not_eq_true] at q
        rw [q, Bool.false_or] at hd
        have HD := hid (fun (_ : True) => hd)
        clear hs hbt q H HK HR hd
        go_wp2
        go_roundw
        case rel => exact ⟨k + 1, rfl, by omega, by first | rfl | trivial, HD⟩
        case measure => simp [RowKit.intOf]; omega
    · have hd := HK.out trivial
      rw [List.drop_of_length_le (by omega)] at hd
      have : R = false := by rw [← hd]; rfl
      subst this
      clear hd HK HR H
      go_wp2
      go_ret
      exact ⟨rfl, rfl⟩

/-- does a word stand twice? -/
def twiceL (ss : List (List UInt8)) : Bool := decide (¬ ss.Nodup)
theorem twice_yes {ss : List (List UInt8)} {k : Nat} {s : List UInt8} (hs : ss[k]? = some s) (h : (ss.take k).contains s = true) : twiceL ss = true := by
  have hm : s ∈ ss.take k := by simpa using h
  refine decide_eq_true (fun hn => ?_)
  have hd := drop_at hs
  have hsp := List.take_append_drop k ss
  rw [← hsp, hd, List.nodup_append] at hn
  exact hn.2.2 s hm s (List.mem_cons_self ..) rfl
theorem twice_no {ss : List (List UInt8)} (h : ∀ k s, ss[k]? = some s → (ss.take k).contains s = false) : twiceL ss = false := by
  refine decide_eq_false (fun hn => hn ?_)
  rw [List.nodup_iff_pairwise_ne, List.pairwise_iff_getElem]
  intro i j hi hj hij e
  have := h j ss[j] (List.getElem?_eq_getElem hj)
  rw [List.contains_eq_mem, decide_eq_false_iff_not] at this
  apply this
  rw [← e]
  rw [List.mem_take_iff_getElem]
  exact ⟨i, by omega, rfl⟩

set_option maxHeartbeats 2000000 in
theorem refTwice_any (v : Value) (ss : List (List UInt8)) (w : World) (h : Words w v ss) (hl : ss.length ≤ 100000000) :
    Calls Tryd.prog 30 #[v] w fun e w' => e = .returned (.bool (twiceL ss)) ∧ ∃ n, w' = w.drewN n := by
  have H := hid h
  obtain ⟨p, c, rfl, hc, hm, hcell, _⟩ := h
  have HC := hid hcell
  clear hcell
  go_enter Tryd.func30, Tryd.ntmps30
  go_wp2
  go_loopw [3] (fun iv wr => ∃ k : Nat, iv = .int .i64 k ∧ k ≤ ss.length ∧ Hid (True → ∃ n, wr = w.drewN n) ∧ Hid (∀ j s, j < k → ss[j]? = some s → (ss.take j).contains s = false)) (fun iv _ => ss.length - (RowKit.intOf iv).toNat)
  case atStart => exact ⟨0, rfl, Nat.zero_le _, hid (fun _ => ⟨0, rfl⟩), hid (fun j s h => absurd h (Nat.not_lt_zero _))⟩
  case round =>
    obtain ⟨k, rfl, hk, HQ, HK⟩ := hrel
    by_cases hkl : k < ss.length
    · obtain ⟨s, hs⟩ : ∃ s, ss[k]? = some s := ⟨_, List.getElem?_eq_getElem hkl⟩
      obtain ⟨b, o, rfl, hc1⟩ := HC.out k s hs
      have hq := HQ.out trivial
      have hwr : Words wr (.slice (some ⟨b, o, none⟩) ss.length c) ss := by obtain ⟨n, rfl⟩ := hq; exact H.out
      have hc2 : wr.cell? ⟨b, o + k, none⟩ = some (.string (bs s)) := by obtain ⟨n, rfl⟩ := hq; exact hc1
      have hho := fun n => holds_any _ _ (bs s) (wr.drewN n) ((hwr.front k (by omega)).drewN n) (by rw [List.length_take]; omega)
      rw [bs_toList] at hho
      obtain ⟨R, hR⟩ : ∃ R, (ss.take k).contains s = R := ⟨_, rfl⟩
      rw [hR] at hho
      have HS := hid (And.intro hs hR)
      have HH := hid hho
      obtain ⟨S, hS⟩ : ∃ S, bs s = S := ⟨_, rfl⟩
      rw [hS] at hc2 HH
      have hkc : k ≤ c := by omega
      clear hs hR hho hwr hq hc1 hS HC H
      go_wp2_with fail
      go_quiet (first | (go_at_call 14; refine Calls.quiet_of_same (HH.out _)))
      cases R
      · go_wp2
        go_roundw
        case rel =>
          obtain ⟨n, hn⟩ := HQ.out trivial
          refine ⟨k + 1, rfl, by omega, hid (fun _ => ⟨n + nq, by rw [hn]; simp⟩), hid (fun j t hj ht => ?_)⟩
          by_cases hjk : j = k
          · subst hjk
            rw [HS.out.1] at ht
            obtain rfl := Option.some.inj ht
            exact HS.out.2
          · exact HK.out j t (by omega) ht
        case measure => simp [RowKit.intOf]; omega
      · go_wp2
        go_ret
        obtain ⟨n, hn⟩ := HQ.out trivial
        exact ⟨by rw [twice_yes HS.out.1 HS.out.2]; rfl, n + nq, by rw [hn]; simp⟩
    · go_wp2
      go_ret
      exact ⟨by rw [twice_no (fun j s hj => HK.out j s (by have := (List.getElem?_eq_some_iff.1 hj).1; omega) hj)]; rfl, HQ.out trivial⟩
end Go.Proofs.YtndlihpjefobcaaDoor
