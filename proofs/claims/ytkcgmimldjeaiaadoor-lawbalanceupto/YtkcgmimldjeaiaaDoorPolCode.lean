/-
  policy.Check: the walks of what it calls.
-/
import Derived.Test.YtkcgmimldjeaiaaDoorVoc
import Derived.Test.YtkcgmimldjeaiaaDoorPolRefE
import Derived.Test.YtkcgmimldjeaiaaDoorByte
namespace Go.Proofs.YtkcgmimldjeaiaaDoor
open Go.RowKit Go.Lib Own

/-! ## the code's tables and the reference's -/

theorem vattr_ref (x : List UInt8) : vattrT.contains x = attrT.contains x := by
  have hp : vattrT.Perm attrT := by decide +kernel
  rw [Bool.eq_iff_iff, List.contains_iff_mem, List.contains_iff_mem]
  exact hp.mem_iff
def elemT : List (List UInt8 × Nat × Nat) := kindT.flatMap fun k => k.1.map fun n => (n, k.2)
theorem elem_none : ∀ (K : List (List (List UInt8) × Nat × Nat)) (x : List UInt8), (∀ k ∈ K, x ∉ k.1) → elemF K x = none
  | [], _, _ => rfl
  | k :: r, x, h => by
    have h1 : k.1.contains x = false := by
      have := h k (List.mem_cons_self ..)
      simpa using this
    simp only [elemF, h1, Bool.false_eq_true, if_false]
    exact elem_none r x (fun k hk => h k (List.mem_cons_of_mem _ hk))
/-- what holds of the 37 names and of every unknown one holds of all -/
theorem elem_all (p : List UInt8 → Prop) (h1 : ∀ x ∈ classT.map Prod.fst, p x) (h2 : ∀ x, elemL x = none → classL x = 0 → p x) : ∀ x, p x := by
  intro x
  by_cases hk : x ∈ classT.map Prod.fst
  · exact h1 x hk
  · refine h2 x (elem_none kindT x (fun k hk2 hx => hk ?_)) (find_none _ _ hk)
    have : ∀ k ∈ kindT, ∀ y ∈ k.1, y ∈ classT.map Prod.fst := by decide +kernel
    exact this k hk2 x hx
theorem elem_known (x : List UInt8) : (elemL x).isNone = (classL x == 0) := by
  refine elem_all (fun x => (elemL x).isNone = (classL x == 0)) (by decide +kernel) (fun x h1 h2 => ?_) x
  rw [h1, h2]
  rfl

/-! ## small walks -/

theorem isUnkEl_any (x : ByteArray) (w : World) (hT : KindsTab w) :
    Calls Tryd.prog 63 #[.string x] w fun e w' => e = .returned (.bool (classL x.toList == 0)) ∧ Below w.heap.size w w' := by
  have hf := find_any x w hT
  rw [← elem_known]
  obtain ⟨R, hR⟩ : ∃ R, elemL x.toList = R := ⟨_, rfl⟩
  rw [hR] at hf ⊢
  clear hR hT
  cases R with
  | none =>
    unfold foundV zeroE at hf
    have HF := hid hf
    clear hf
    go_enter Tryd.func63, Tryd.ntmps63
    go_wp2_with (go_at_call 89; refine HF.out.mono ?_; rintro e w1 ⟨rfl, b1⟩)
    go_ret
    exact ⟨rfl, b1.alloc b1.size _⟩
  | some q =>
    obtain ⟨c, m⟩ := q
    unfold foundV elemC at hf
    obtain ⟨S, hS⟩ : ∃ S, bs x.toList = S := ⟨_, rfl⟩
    rw [hS] at hf
    have HF := hid hf
    clear hf hS
    go_enter Tryd.func63, Tryd.ntmps63
    go_wp2_with (go_at_call 89; refine HF.out.mono ?_; rintro e w1 ⟨rfl, b1⟩)
    go_ret
    exact ⟨rfl, b1.alloc b1.size _⟩
theorem isUnkAt_any (x : ByteArray) (w : World) (hT : VAttrTab w) :
    Calls Tryd.prog 104 #[.string x] w fun e w' => e = .returned (.bool (!attrT.contains x.toList)) ∧ w' = w := by
  have hf := isAttr_any x w hT
  rw [vattr_ref] at hf
  generalize attrT.contains x.toList = R at hf ⊢
  have HF := hid hf
  clear hf hT
  go_enter Tryd.func104, Tryd.ntmps104
  go_wp2_with (go_at_call 127; refine HF.out.mono ?_; rintro e w1 ⟨rfl, rfl⟩)
  go_ret
  exact ⟨rfl, rfl⟩

set_option maxHeartbeats 2000000 in
theorem hasTwice_any (v : Value) (ss : List (List UInt8)) (w : World) (h : Words w v ss) :
    Calls Tryd.prog 64 #[v] w fun e w' => e = .returned (.bool (twiceL ss)) ∧ w' = w := by
  have H := hid h
  obtain ⟨p, c, rfl, hc, hm, hcell, _⟩ := h
  have HC := hid hcell
  clear hcell
  have hml : ss.length ≤ 9223372036854775807 := by omega
  go_enter Tryd.func64, Tryd.ntmps64
  go_wp2_with fail
  go_loopw [3, 4, 7] (fun _ _ iv wr => ∃ k : Nat, iv = .int .i64 k ∧ k ≤ ss.length ∧ wr = w ∧ Hid (∀ j s, j < k → ss[j]? = some s → (ss.take j).contains s = false)) (fun _ _ iv _ => ss.length - (RowKit.intOf iv).toNat)
  case atStart => exact ⟨0, rfl, Nat.zero_le _, rfl, hid (fun j s h => absurd h (Nat.not_lt_zero _))⟩
  case round =>
    obtain ⟨k, rfl, hk, rfl, HK⟩ := hrel
    by_cases hkl : k < ss.length
    · obtain ⟨s, hs⟩ : ∃ s, ss[k]? = some s := ⟨_, List.getElem?_eq_getElem hkl⟩
      obtain ⟨b, o, rfl, hc1⟩ := HC.out k s hs
      have hho := slContains_any _ _ (bs s) wr (H.out.front k (by omega))
      rw [bs_toList] at hho
      obtain ⟨R, hR⟩ : ∃ R, (ss.take k).contains s = R := ⟨_, rfl⟩
      rw [hR] at hho
      have HS := hid (And.intro hs hR)
      have HH := hid hho
      obtain ⟨S, hS⟩ : ∃ S, bs s = S := ⟨_, rfl⟩
      rw [hS] at hc1 HH
      have hkc : k ≤ c := by omega
      clear hs hR hho hS HC H
      cases R
      · go_wp2_with (go_at_call 102; refine HH.out.mono ?_; rintro e w1 ⟨rfl, rfl⟩)
        go_roundw
        case rel =>
          refine ⟨k + 1, rfl, by omega, by first | rfl | trivial, hid (fun j t hj ht => ?_)⟩
          by_cases hjk : j = k
          · subst hjk
            rw [HS.out.1] at ht
            obtain rfl := Option.some.inj ht
            exact HS.out.2
          · exact HK.out j t (by omega) ht
        case measure => simp [RowKit.intOf]; omega
      · go_wp2_with (go_at_call 102; refine HH.out.mono ?_; rintro e w1 ⟨rfl, rfl⟩)
        go_ret
        exact ⟨by rw [twice_yes HS.out.1 HS.out.2]; rfl, rfl⟩
    · go_wp2_with fail
      go_ret
      exact ⟨by rw [twice_no (fun j s hj => HK.out j s (by have := (List.getElem?_eq_some_iff.1 hj).1; omega) hj)]; rfl, rfl⟩
end Go.Proofs.YtkcgmimldjeaiaaDoor
