/-
  Parts of the walk, joined: BalL, FoldN, RefB, PolRefF.
-/
import Derived.Test.YtcncbhbdpcpkeaaGreatDoorPJAO
import Derived.Test.YtcncbhbdpcpkeaaGreatDoorPJBC
import Derived.Test.YtcncbhbdpcpkeaaGreatDoorPJAT
import Derived.Test.YtcncbhbdpcpkeaaGreatDoorPJBD
import Derived.Test.YtcncbhbdpcpkeaaGreatDoorPJAE
import Derived.Test.YtcncbhbdpcpkeaaGreatDoorPJAV
import Derived.Test.YtcncbhbdpcpkeaaGreatDoorPJAQ
import Derived.Test.YtcncbhbdpcpkeaaGreatDoorPJAN
/-
  Balance as a plain function on events: the nesting table, a stack of open names, one event at a time.
-/
namespace Go.Proofs.YtcncbhbdpcpkeaaGreatDoor
open Go.RowKit Go.Lib Own

/-- 0 stop, 1 up, 2 take, 3 and on: in these implied elements -/
def nestT : List (List Nat) := [[2, 2, 2, 1, 1, 1, 1], [1, 2, 2, 1, 1, 1, 1], [1, 1, 2, 1, 1, 1, 1], [3, 3, 3, 2, 1, 1, 1], [6, 6, 6, 0, 2, 4, 5], [8, 8, 8, 0, 1, 2, 7], [9, 9, 9, 0, 1, 1, 2], [2, 2, 2, 0, 1, 1, 1]]
def nestP (m c : Nat) : Nat := if m < 1 ∨ 8 < m ∨ c < 1 ∨ 7 < c then 0 else (nestT.getD (m - 1) []).getD (c - 1) 0
def liN : List UInt8 := [108, 105]
def tbodyN : List UInt8 := [116, 98, 111, 100, 121]
def trN : List UInt8 := [116, 114]
def tdN : List UInt8 := [116, 100]
def impP : Nat → List (List UInt8)
  | 3 => [liN]
  | 4 => [tbodyN]
  | 5 => [tbodyN, trN]
  | 6 => [tbodyN, trN, tdN]
  | 7 => [trN]
  | 8 => [trN, tdN]
  | 9 => [tdN]
  | _ => []
/-- class and model of a name; 0 where it isn't known -/
def clsX (x : List UInt8) : Nat := ((elemL x).map Prod.fst).getD 0
def modX (x : List UInt8) : Nat := ((elemL x).map Prod.snd).getD 0
/-- the model inside the innermost of the open elements -/
def modO (op : List (List UInt8)) : Nat := match op.getLast? with | none => 1 | some x => modX x
def aN : List UInt8 := [97]
/-- the Ends of all but k open elements, innermost first -/
def closeE (k : Nat) (op : List (List UInt8)) : List Ev := (op.drop k).reverse.map .stop
/-! ## the table -/

theorem known_bd (x : List UInt8) : elemL x ≠ none → 1 ≤ clsX x ∧ clsX x ≤ 7 ∧ clsX x ≠ 3 ∧ 1 ≤ modX x ∧ modX x ≤ 9 := by
  refine elem_all (fun x => elemL x ≠ none → 1 ≤ clsX x ∧ clsX x ≤ 7 ∧ clsX x ≠ 3 ∧ 1 ≤ modX x ∧ modX x ≤ 9) (by decide +kernel) (fun x h1 _ h => absurd h1 h) x
theorem void_mod (x : List UInt8) : voidL x = (modX x == 9) := by
  refine elem_all (fun x => voidL x = (modX x == 9)) (by decide +kernel) (fun x h1 _ => ?_) x
  have h2 : modX x = 0 := by unfold modX; rw [h1]; rfl
  rw [h2]
  by_cases h3 : voidL x = true
  · exfalso
    unfold voidL at h3
    simp only [Bool.or_eq_true, beq_iff_eq] at h3
    rcases h3 with rfl | rfl | rfl <;> exact absurd h1 (by decide +kernel)
  · rw [Bool.not_eq_true] at h3; rw [h3]; rfl
/-- what is open: known elements that are not void, at most one a among them -/
structure OpenOk (op : List (List UInt8)) : Prop where
  known : ∀ x ∈ op, elemL x ≠ none ∧ modX x ≠ 9
  one : op.count aN ≤ 1
theorem OpenOk.nil : OpenOk [] := ⟨fun _ h => absurd h List.not_mem_nil, Nat.zero_le _⟩
theorem OpenOk.take {op : List (List UInt8)} (h : OpenOk op) (k : Nat) : OpenOk (op.take k) :=
  ⟨fun x hx => h.known x (List.mem_of_mem_take hx), Nat.le_trans ((List.take_sublist k op).count_le aN) h.one⟩
theorem OpenOk.mod {op : List (List UInt8)} (h : OpenOk op) : 1 ≤ modO op ∧ modO op ≤ 8 := by
  unfold modO
  cases hl : op.getLast? with
  | none => simp
  | some x =>
    have hm : x ∈ op := List.mem_of_getLast? hl
    obtain ⟨h1, h2⟩ := h.known x hm
    have := known_bd x h1
    simp only
    omega
theorem nest_lt (m c : Nat) : nestP m c < 10 := by
  unfold nestP
  split
  · omega
  · rename_i h
    have h1 : m - 1 < 8 := by omega
    have h2 : c - 1 < 7 := by omega
    have : ∀ i < 8, ∀ j < 7, (nestT.getD i []).getD j 0 < 10 := by decide +kernel
    exact this _ h1 _ h2
/-! ## where a thing may stand -/

end Go.Proofs.YtcncbhbdpcpkeaaGreatDoor

/-
  Nodes that a call made: their row, and their lists of attributes, which stand apart; which elements are void: two walks.
-/
namespace Go.Proofs.YtcncbhbdpcpkeaaGreatDoor
open Go.RowKit Go.Lib Own

/-! ## which elements are void -/

theorem elemF_mem (x : List UInt8) (r : Nat × Nat) : ∀ T : List (List (List UInt8) × Nat × Nat), elemF T x = some r → ∃ k ∈ T, k.1.contains x = true ∧ k.2 = r
  | [], h => by cases h
  | k :: T, h => by
    unfold elemF at h
    by_cases hc : k.1.contains x = true
    · rw [if_pos hc] at h
      exact ⟨k, List.mem_cons_self .., hc, Option.some.inj h⟩
    · rw [if_neg hc] at h
      obtain ⟨q, h1, h2⟩ := elemF_mem x r T h
      exact ⟨q, List.mem_cons_of_mem _ h1, h2⟩
def voidE : Option (Nat × Nat) → Bool
  | some (_, m) => (m : Int) == 9
  | none => false
theorem void_elem (x : List UInt8) : voidE (elemL x) = voidL x := by
  by_cases h1 : x = [98, 114]
  · subst h1; decide +kernel
  by_cases h2 : x = [104, 114]
  · subst h2; decide +kernel
  by_cases h3 : x = [105, 109, 103]
  · subst h3; decide +kernel
  have hv : voidL x = false := by
    unfold voidL
    rw [beq_eq_false_iff_ne.2 h1, beq_eq_false_iff_ne.2 h2, beq_eq_false_iff_ne.2 h3]
    rfl
  rw [hv]
  cases h : elemL x with
  | none => rfl
  | some r =>
    obtain ⟨c, m⟩ := r
    obtain ⟨k, hk, hc, e⟩ := elemF_mem x _ kindT h
    refine beq_eq_false_iff_ne.2 (fun hm => ?_)
    have h9 := (by decide +kernel : ∀ k ∈ kindT, k.2.2 = 9 → k.1 = [[98, 114], [105, 109, 103]] ∨ k.1 = [[104, 114]]) k hk (by rw [e]; show m = 9; omega)
    rcases h9 with e2 | e2
    · rw [e2] at hc
      simp at hc
      rcases hc with hc | hc
      · exact h1 hc
      · exact h3 hc
    · rw [e2] at hc
      simp at hc
      exact h2 hc

theorem elemVoid_any (a : Value) (c m : Nat) (w : World) : Calls Tryz.prog 147 #[.agg #[a, .int .i64 c, .int .i64 m]] w fun e w' => e = .returned (.bool ((m : Int) == 9)) ∧ Below w.heap.size w w' := by
  have hb := (Below.refl w.heap.size w).alloc (Nat.le_refl _) (.cells #[a, .int .i64 c, .int .i64 m] 172)
  have hn := heap_alloc_new w (.cells #[a, .int .i64 c, .int .i64 m] 172)
  have c2 := cell_at (j := 2) hn rfl
  go_enter Tryz.func147, Tryz.ntmps147
  go_wp2
  go_ret
  exact ⟨rfl, hb⟩
theorem isVoid_any (x : ByteArray) (w : World) (hT : KindsTab w) : Calls Tryz.prog 107 #[.string x] w fun e w' => e = .returned (.bool (voidL x.toList)) ∧ Below w.heap.size w w' := by
  have hf := find_any x w hT
  rw [← void_elem]
  obtain ⟨o, ho⟩ : ∃ o, elemL x.toList = o := ⟨_, rfl⟩
  rw [ho] at hf ⊢
  have HF := hid hf
  have HV := hid (fun a c m w => elemVoid_any a c m w)
  clear hf ho
  go_enter Tryz.func107, Tryz.ntmps107
  go_wp2_with fail
  refine HF.out.mono ?_
  rintro r W1 ⟨rfl, b1⟩
  cases o with
  | none =>
    unfold foundV zeroE
    have hb2 := (Below.refl W1.heap.size W1).alloc (Nat.le_refl _) (.cells #[.string ⟨#[]⟩, .int .i64 0, .int .i64 0] 172)
    have hl := elem_load (heap_alloc_new W1 (.cells #[.string ⟨#[]⟩, .int .i64 0, .int .i64 0] 172))
    have HB := hid (b1.trans (hb2.mono b1.size))
    have hsz := b1.size
    clear b1 hb2
    go_wp2_with (go_at_call 147; refine (HV.out _ 0 0 _).mono ?_; rintro r W3 ⟨rfl, b3⟩)
    have HZ := hid (HB.out.trans (b3.mono HB.out.size))
    clear b3 HB
    go_ret
    exact ⟨rfl, HZ.out⟩
  | some q =>
    obtain ⟨c, m⟩ := q
    unfold foundV elemC
    have hb2 := (Below.refl W1.heap.size W1).alloc (Nat.le_refl _) (.cells #[.string (bs x.toList), .int .i64 c, .int .i64 m] 172)
    have hl := elem_load (heap_alloc_new W1 (.cells #[.string (bs x.toList), .int .i64 c, .int .i64 m] 172))
    have HB := hid (b1.trans (hb2.mono b1.size))
    have hsz := b1.size
    clear b1 hb2
    go_wp2_with (go_at_call 147; refine (HV.out _ c m _).mono ?_; rintro r W3 ⟨rfl, b3⟩)
    have HZ := hid (HB.out.trans (b3.mono HB.out.size))
    clear b3 HB
    go_ret
    exact ⟨rfl, HZ.out⟩
theorem refVoid_any (x : ByteArray) (w : World) : Calls Tryz.prog 46 #[.string x] w fun e w' => e = .returned (.bool (voidL x.toList)) ∧ w' = w := by
  unfold voidL
  by_cases h1 : (x.toList == [98, 114]) = true
  · rw [h1, Bool.true_or]
    go_enter Tryz.func46, Tryz.ntmps46
    go_wp2
    go_ret
    exact ⟨rfl, rfl⟩
  rw [Bool.not_eq_true] at h1
  rw [h1, Bool.false_or]
  by_cases h2 : (x.toList == [104, 114]) = true
  · rw [h2, Bool.true_or]
    go_enter Tryz.func46, Tryz.ntmps46
    go_wp2
    go_ret
    exact ⟨rfl, rfl⟩
  rw [Bool.not_eq_true] at h2
  rw [h2, Bool.false_or]
  go_enter Tryz.func46, Tryz.ntmps46
  go_wp2
  go_ret
  exact ⟨rfl, rfl⟩
end Go.Proofs.YtcncbhbdpcpkeaaGreatDoor

/-
  The reference's nesting: words for models and classes, nest, modelOf, impliedCount, isTable: their walks.
-/
namespace Go.Proofs.YtcncbhbdpcpkeaaGreatDoor
open Go.RowKit Go.Lib Own

/-- a model's word -/
def modW : Nat → List UInt8
  | 1 => [102, 108, 111, 119]
  | 2 => [112, 104, 114, 97, 115, 105, 110, 103]
  | 3 => [116, 101, 120, 116]
  | 4 => [108, 105, 115, 116]
  | 5 => [116, 97, 98, 108, 101]
  | 6 => [115, 101, 99, 116, 105, 111, 110]
  | 7 => [114, 111, 119]
  | 8 => [99, 101, 108, 108]
  | 9 => [118, 111, 105, 100]
  | _ => []
/-- a class's word -/
def clsW : Nat → List UInt8
  | 1 => [102, 108, 111, 119]
  | 2 => [112, 104, 114, 97, 115, 105, 110, 103]
  | 3 => [116, 101, 120, 116]
  | 4 => [105, 116, 101, 109]
  | 5 => [115, 101, 99, 116, 105, 111, 110]
  | 6 => [114, 111, 119]
  | 7 => [99, 101, 108, 108]
  | _ => []
/-- what the table says, as a word -/
def sayW (p : Nat) : List UInt8 := match p with
  | 0 => [115, 116, 111, 112]
  | 1 => [117, 112]
  | 2 => [116, 97, 107, 101]
  | _ => (impP p).headD []
theorem class_word (x : List UInt8) : classW (classL x) = clsW (clsX x) := by
  refine elem_all (fun x => classW (classL x) = clsW (clsX x)) (by decide +kernel) (fun x h1 h2 => ?_) x
  have h3 : clsX x = 0 := by unfold clsX; rw [h1]; rfl
  rw [h2, h3]
  rfl
set_option maxHeartbeats 8000000 in
set_option maxRecDepth 100000 in
theorem nestTable_any (m c : Nat) (w : World) (hm : 5 ≤ m ∧ m ≤ 7) (hc : 1 ≤ c ∧ c ≤ 7) :
    Calls Tryz.prog 89 #[.string (bs (modW m)), .string (bs (clsW c)), .bool (decide (c ≤ 3))] w fun e w' => e = .returned (.string (bs (sayW (nestP m c)))) ∧ w' = w := by
  rcases (show m = 5 ∨ m = 6 ∨ m = 7 by omega) with rfl | rfl | rfl <;> rcases (show c = 1 ∨ c = 2 ∨ c = 3 ∨ c = 4 ∨ c = 5 ∨ c = 6 ∨ c = 7 by omega) with rfl | rfl | rfl | rfl | rfl | rfl | rfl
  all_goals unfold bs
  all_goals go_enter Tryz.func89, Tryz.ntmps89
  all_goals go_wp2
  all_goals go_ret
  all_goals exact ⟨rfl, rfl⟩
set_option maxHeartbeats 16000000 in
set_option maxRecDepth 100000 in
theorem refNest_any (m c : Nat) (w : World) (hm : 1 ≤ m ∧ m ≤ 8) (hc : 1 ≤ c ∧ c ≤ 7) :
    Calls Tryz.prog 42 #[.string (bs (modW m)), .string (bs (clsW c))] w fun e w' => e = .returned (.string (bs (sayW (nestP m c)))) ∧ w' = w := by
  by_cases h5 : 5 ≤ m ∧ m ≤ 7
  · have ht := fun W => nestTable_any m c W h5 hc
    rcases (show m = 5 ∨ m = 6 ∨ m = 7 by omega) with rfl | rfl | rfl <;> rcases (show c = 1 ∨ c = 2 ∨ c = 3 ∨ c = 4 ∨ c = 5 ∨ c = 6 ∨ c = 7 by omega) with rfl | rfl | rfl | rfl | rfl | rfl | rfl
    all_goals have HT := hid ht
    all_goals clear ht
    all_goals unfold bs at *
    all_goals go_enter Tryz.func42, Tryz.ntmps42
    all_goals go_wp2_with fail
    all_goals refine (HT.out _).mono ?_
    all_goals rintro e W1 ⟨rfl, rfl⟩
    all_goals go_wp2_with fail
    all_goals go_ret
    all_goals exact ⟨rfl, rfl⟩
  · rcases (show m = 1 ∨ m = 2 ∨ m = 3 ∨ m = 4 ∨ m = 8 by omega) with rfl | rfl | rfl | rfl | rfl <;> rcases (show c = 1 ∨ c = 2 ∨ c = 3 ∨ c = 4 ∨ c = 5 ∨ c = 6 ∨ c = 7 by omega) with rfl | rfl | rfl | rfl | rfl | rfl | rfl
    all_goals unfold bs
    all_goals go_enter Tryz.func42, Tryz.ntmps42
    all_goals go_wp2
    all_goals go_ret
    all_goals exact ⟨rfl, rfl⟩
end Go.Proofs.YtcncbhbdpcpkeaaGreatDoor

/-
  The reference's Check: its walk.
-/
namespace Go.Proofs.YtcncbhbdpcpkeaaGreatDoor
open Go.RowKit Go.Lib Own

set_option maxHeartbeats 4000000 in
set_option maxRecDepth 100000 in
theorem refCheck_any (vr vs vd : Value) (P : PolP) (w : World) (h : PolR w vr vs vd P) (hF : P.Few) (hT : AttrTab w) :
    Calls Tryz.prog 38 #[.agg (polC vr vs vd P)] w fun e w' => e = .returned (.int .i64 (checkP P : Nat)) ∧ Below w.heap.size w w' := by
  have hwr := fun n h1 h10 W hW hTW => wrong_all n h1 h10 vr vs vd P W hW hF hTW
  have hb0 := heap_alloc_new w (.cells (polC vr vs vd P) 43)
  have hbel0 : Below w.heap.size w (w.alloc (.cells (polC vr vs vd P) 43)) := (Below.refl w.heap.size w).alloc (Nat.le_refl _) _
  have HWR := hid hwr
  have HP := hid h
  have HT := hid hT
  have H0 := hid (And.intro hbel0 hb0)
  obtain ⟨R, hR⟩ : ∃ R, checkP P = R := ⟨_, rfl⟩
  rw [hR]
  have HR := hid (fun (_ : True) => (hR : checkFrom P 1 10 = R))
  clear hwr h hF hT hb0 hbel0 hR
  unfold polC at H0 HWR ⊢
  go_enter Tryz.func38, Tryz.ntmps38
  go_wp2
  go_loopw [3] (fun iv wr => ∃ k : Nat, iv = .int .i64 k ∧ 1 ≤ k ∧ k ≤ 11 ∧ Hid (Below w.heap.size w wr ∧ wr.heap[w.heap.size]? = some (.cells #[vr, vs, vd, .int .i64 P.depth, .int .i64 P.window] 43 (0, 0))) ∧ Hid (True → checkFrom P k (11 - k) = R)) (fun iv _ => 11 - (RowKit.intOf iv).toNat)
  case atStart => exact ⟨1, rfl, by omega, by omega, H0, HR.out⟩
  case round =>
    obtain ⟨k, rfl, hk1, hk, HX, HK⟩ := hrel
    obtain ⟨c0, c1, c2, c3, c4⟩ := polC_at (P := P) HX.out.2
    by_cases hkl : k ≤ 10
    · have hcall := HWR.out k hk1 hkl wr (HP.out.below HX.out.1) (HT.out.below HX.out.1)
      have hd := HK.out trivial
      rw [show 11 - k = (11 - (k + 1)) + 1 by omega] at hd
      unfold checkFrom at hd
      obtain ⟨K, hK⟩ : ∃ K, wrongP k P = K := ⟨_, rfl⟩
      rw [hK] at hcall hd
      have HC := hid hcall
      have HD := hid (fun (_ : True) => hd)
      clear hcall hd hK HK HWR H0
      cases K
      · go_wp2_with (go_at_call 85; refine HC.out.mono ?_; rintro e w2 ⟨rfl, b2⟩)
        have HZ := hid (And.intro (HX.out.1.trans (b2.mono HX.out.1.size)) ((b2.block _ (block_lt HX.out.2)).trans HX.out.2))
        have HE := hid (fun (_ : True) => (by simpa using HD.out trivial : checkFrom P (k + 1) (11 - (k + 1)) = R))
        clear b2 HX HC HD c0 c1 c2 c3 c4
        go_wp2
        go_roundw
        case rel => first | exact ⟨k + 1, rfl, by omega, by omega, HZ, HE⟩ | ((repeat apply Exists.intro); exact ⟨⟨k + 1, rfl, by omega, by omega, HZ, HE⟩, rfl⟩)
        case measure => simp [RowKit.intOf]; omega
      · go_wp2_with (go_at_call 85; refine HC.out.mono ?_; rintro e w2 ⟨rfl, b2⟩)
        have HZ := hid (HX.out.1.trans (b2.mono HX.out.1.size))
        have HE := hid (fun (_ : True) => (by simpa using HD.out trivial : k = R))
        clear b2 HX HC HD c0 c1 c2 c3 c4
        go_wp2
        go_ret
        exact ⟨ret_i64 (by rw [HE.out trivial]), HZ.out⟩
    · have hd := HK.out trivial
      rw [show 11 - k = 0 by omega] at hd
      have HE := hid (fun (_ : True) => (hd : 0 = R))
      clear hd HK HWR H0
      go_wp2
      go_ret
      exact ⟨ret_i64 (by rw [← HE.out trivial]; rfl), HX.out.1⟩
end Go.Proofs.YtcncbhbdpcpkeaaGreatDoor
