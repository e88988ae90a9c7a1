/-
  The reader's ownEnd: its walk.
-/
import Derived.Test.YtolbahmihkdmiaaDoorTagName
import Derived.BigQuiet
namespace Go.Proofs.YtolbahmihkdmiaaDoor
open Go.RowKit Go.Lib Own

/-- the reader's own six cells, ahead of its stream's three -/
structure RdAt (W : World) (b : Nat) (win : Int) (data : ByteArray) (pos mode scan : Int) (eat : Bool) : Prop where
  c0 : W.cell? ⟨b, 0, none⟩ = some (.int .i64 win)
  c1 : W.cell? ⟨b, 1, none⟩ = some (.string data)
  c2 : W.cell? ⟨b, 2, none⟩ = some (.int .i64 pos)
  c3 : W.cell? ⟨b, 3, none⟩ = some (.int .i64 mode)
  c4 : W.cell? ⟨b, 4, none⟩ = some (.int .i64 scan)
  c5 : W.cell? ⟨b, 5, none⟩ = some (.bool eat)

theorem own_go {o r : List UInt8} {k R : Nat} {x y : UInt8} (hx : r[k]? = some x) (hy : o[k]? = some y) (he : lowC x = y) (h : ownL (o.drop k) (r.drop k) = R) : ownL (o.drop (k + 1)) (r.drop (k + 1)) = R := by
  obtain ⟨h1, h2⟩ := List.getElem?_eq_some_iff.1 hx
  obtain ⟨h3, h4⟩ := List.getElem?_eq_some_iff.1 hy
  rw [List.drop_eq_getElem_cons h1, h2, List.drop_eq_getElem_cons h3, h4, ownL, if_pos he] at h
  exact h
theorem own_no {o r : List UInt8} {k R : Nat} {x y : UInt8} (hx : r[k]? = some x) (hy : o[k]? = some y) (he : lowC x ≠ y) (h : ownL (o.drop k) (r.drop k) = R) : R = 0 := by
  obtain ⟨h1, h2⟩ := List.getElem?_eq_some_iff.1 hx
  obtain ⟨h3, h4⟩ := List.getElem?_eq_some_iff.1 hy
  rw [List.drop_eq_getElem_cons h1, h2, List.drop_eq_getElem_cons h3, h4, ownL, if_neg he] at h
  exact h.symm
theorem own_short {o r : List UInt8} {k R : Nat} (hk : r.length ≤ k) (h : ownL (o.drop k) (r.drop k) = R) : R = 1 := by
  rw [List.drop_of_length_le hk] at h
  rw [← h]
  unfold ownL
  rfl
theorem own_told {o r : List UInt8} {k R : Nat} {x : UInt8} (hx : r[k]? = some x) (hk : o.length ≤ k) (h : ownL (o.drop k) (r.drop k) = R) : R = if endsC x then 2 else 0 := by
  obtain ⟨h1, h2⟩ := List.getElem?_eq_some_iff.1 hx
  rw [List.drop_of_length_le hk, List.drop_eq_getElem_cons h1, h2] at h
  exact h.symm

set_option maxHeartbeats 4000000 in
set_option maxRecDepth 10000 in
theorem ownEnd_any (b : Nat) (win : Int) (data : ByteArray) (pos mode : Nat) (scan : Int) (eat : Bool) (w : World) (hrd : RdAt w b win data pos mode scan eat) (hm1 : 1 ≤ mode) (hm2 : mode ≤ 10) (hd : data.size ≤ 10000000) (hp : pos ≤ data.size) :
    Calls Tryd.prog 23 #[.pointer (some ⟨b, 0, none⟩)] w fun e w' => e = .returned (.int .i64 (ownL (60 :: 47 :: rawL mode) (data.data.toList.drop pos) : Int)) ∧ ∃ n, w' = w.drewN n := by
  obtain ⟨c0, c1, c2, c3, c4, c5⟩ := hrd
  have hraw := fun W => raw_any mode hm1 hm2 W
  have hrl := raw_len mode
  obtain ⟨ob, hob⟩ : ∃ ob : ByteArray, (⟨#[60, 47]⟩ : ByteArray) ++ ⟨(rawL mode).toArray⟩ = ob := ⟨_, rfl⟩
  have hol : ob.data.toList = 60 :: 47 :: rawL mode := by rw [← hob, ByteArray.data_append, Array.toList_append]; rfl
  have hoz : ob.size ≤ 12 := by rw [size_eq, hol]; simp only [List.length_cons]; omega
  obtain ⟨t, ht⟩ : ∃ t : ByteArray, data.extract pos data.size = t := ⟨_, rfl⟩
  have htl : t.data.toList = data.data.toList.drop pos := by rw [← ht]; exact extract_to_end data pos
  have htz : t.size ≤ 10000000 := by rw [← ht, ByteArray.size_extract]; omega
  rw [← htl, ← hol]
  obtain ⟨R, hR⟩ : ∃ R, ownL ob.data.toList t.data.toList = R := ⟨_, rfl⟩
  rw [hR]
  obtain ⟨rb, hrb⟩ : ∃ rb : ByteArray, (⟨(rawL mode).toArray⟩ : ByteArray) = rb := ⟨_, rfl⟩
  rw [hrb] at hraw hob
  have hrz : rb.size ≤ 10 := by rw [← hrb, size_eq]; exact hrl
  obtain ⟨mn, hmn⟩ : ∃ mn, min t.size ob.size = mn := ⟨_, rfl⟩
  have hmin : min (t.size : Int) (ob.size : Int) = (mn : Int) := by omega
  have hmt : mn ≤ t.size := by omega
  have hmo : mn ≤ ob.size := by omega
  have hmc : mn = t.size ∨ mn = ob.size := by omega
  have HR := hid (fun (_ : True) => hR)
  have HW := hid hraw
  clear hR hraw hol htl hrb hrl hmn
  go_enter Tryd.func23, Tryd.ntmps23
  go_wp2_with (go_at_call 41; refine (HW.out _).mono ?_; rintro e w' ⟨rfl, rfl⟩)
  go_quiet (fail)
  go_wp2
  go_loopw [5] (fun iv wr => ∃ k : Nat, iv = .int .i64 k ∧ k ≤ mn ∧ Hid (True → ∃ n, wr = w'.drewN n) ∧ Hid (True → ownL (ob.data.toList.drop k) (t.data.toList.drop k) = R)) (fun iv _ => mn - (RowKit.intOf iv).toNat)
  case atStart => exact ⟨0, rfl, Nat.zero_le _, hid (fun _ => ⟨_, rfl⟩), HR.out⟩
  case round =>
    obtain ⟨k, rfl, hk, HQ, HA⟩ := hrel
    by_cases hkm : k < mn
    · have hkt : k < t.size := by omega
      have hko : k < ob.size := by omega
      obtain ⟨x, hx⟩ : ∃ x, t[k]'hkt = x := ⟨_, rfl⟩
      obtain ⟨y, hy⟩ : ∃ y, ob[k]'hko = y := ⟨_, rfl⟩
      have hlx := getElem_list hkt hx
      have hly := getElem_list hko hy
      have hlt := x.toNat_lt
      have hlow := fun W => low_any (x.toNat : Int) (by omega) (by omega) W
      rw [lowZ_C] at hlow
      have hib := int_beq (lowC x) y
      by_cases he : lowC x = y
      · have HB := hid (fun (_ : True) => own_go hlx hly he (HA.out trivial))
        rw [beq_iff_eq.2 he] at hib
        clear he hlx hly HA
        generalize ((lowC x).toNat : Int) = z at hlow hib
        go_wp2_with fail
        go_quiet (first | (go_at_call 42; refine Calls.quiet_of_same (hlow _)))
        go_wp2
        go_roundw
        case rel =>
          obtain ⟨n, hn⟩ := HQ.out trivial
          exact ⟨k + 1, rfl, by omega, hid (fun _ => ⟨n + nq, by rw [hn]; simp⟩), HB.out⟩
        case measure => simp [RowKit.intOf]; omega
      · have h0 := own_no hlx hly he (HA.out trivial)
        subst h0
        rw [beq_eq_false_iff_ne.2 he] at hib
        have q1 : ((k : Int) == (t.size : Int)) = false := beq_eq_false_iff_ne.2 (by omega)
        have q2 : ((k : Int) == (ob.size : Int)) = false := beq_eq_false_iff_ne.2 (by omega)
        clear he hlx hly HA HR
        generalize ((lowC x).toNat : Int) = z at hlow hib
        go_wp2_with fail
        go_quiet (first | (go_at_call 42; refine Calls.quiet_of_same (hlow _)))
        go_wp2
        go_ret
        obtain ⟨n, hn⟩ := HQ.out trivial
        exact ⟨rfl, n + nq, by rw [hn]; simp⟩
    · have hk' : k = mn := by omega
      subst hk'
      by_cases hkt : k = t.size
      · have h1 := own_short (by rw [← size_eq]; omega) (HA.out trivial)
        subst h1
        have q1 : ((k : Int) == (t.size : Int)) = true := beq_iff_eq.2 (by omega)
        have q0 : ¬ (k : Int) < (k : Int) := by omega
        clear HA HR hkt
        go_wp2_with fail
        go_quiet (fail)
        go_wp2
        go_ret
        obtain ⟨n, hn⟩ := HQ.out trivial
        exact ⟨rfl, n + nq, by rw [hn]; simp⟩
      · have hko : k = ob.size := hmc.resolve_left hkt
        have hkl : k < t.size := by omega
        obtain ⟨x, hx⟩ : ∃ x, t[k]'hkl = x := ⟨_, rfl⟩
        have h1 := own_told (getElem_list hkl hx) (by rw [← size_eq]; omega) (HA.out trivial)
        have hen := fun W => ends_any x W
        generalize endsC x = c at h1 hen
        have q1 : ((k : Int) == (t.size : Int)) = false := beq_eq_false_iff_ne.2 (by omega)
        have q2 : ((k : Int) == (ob.size : Int)) = true := beq_iff_eq.2 (by omega)
        clear HA HR hkt hko
        subst h1
        cases c
        all_goals
          go_wp2_with fail
          go_quiet (fail)
          go_wp2_with (go_at_call 43; refine (hen _).mono ?_; rintro e W9 ⟨rfl, rfl⟩)
          go_ret
          obtain ⟨n, hn⟩ := HQ.out trivial
          exact ⟨rfl, n + nq, by rw [hn]; simp⟩
end Go.Proofs.YtolbahmihkdmiaaDoor
