/-
  Parts of the walk, joined: RefB, RefBM, RefBN, BalA, SieveA, SieveB, SieveC, SieveD, SieveE, Fresh, RowEv, TabsN.
-/
import Derived.Test.YtkcgmimldjeaiaaDoorJoinB
import Derived.BigQuiet
import Derived.Test.YtkcgmimldjeaiaaDoorLexByte
import Derived.Test.YtkcgmimldjeaiaaDoorVoc
/-
  The reference's nesting: words for models and classes, nest, modelOf, impliedCount, isTable: their walks.
-/
namespace Go.Proofs.YtkcgmimldjeaiaaDoor
open Go.RowKit Go.Lib Own

/-- a model's word -/
def modW : Nat → List UInt8
  | 1 => [102, 108, 111, 119]
  | 2 => [112, 104, 114, 97, 115, 105, 110, 103]
  | 3 => [116, 101, 120, 116]
  | 4 => [108, 105, 115, 116]
  | 5 => [116, 97, 98, 108, 101]
  | 6 => [115, 101, 99, 116, 105, 111, 110]
  | 7 => [114, 111, 119]
  | 8 => [99, 101, 108, 108]
  | 9 => [118, 111, 105, 100]
  | _ => []
/-- a class's word -/
def clsW : Nat → List UInt8
  | 1 => [102, 108, 111, 119]
  | 2 => [112, 104, 114, 97, 115, 105, 110, 103]
  | 3 => [116, 101, 120, 116]
  | 4 => [105, 116, 101, 109]
  | 5 => [115, 101, 99, 116, 105, 111, 110]
  | 6 => [114, 111, 119]
  | 7 => [99, 101, 108, 108]
  | _ => []
/-- what the table says, as a word -/
def sayW (p : Nat) : List UInt8 := match p with
  | 0 => [115, 116, 111, 112]
  | 1 => [117, 112]
  | 2 => [116, 97, 107, 101]
  | _ => (impP p).headD []
theorem class_word (x : List UInt8) : classW (classL x) = clsW (clsX x) := by
  refine elem_all (fun x => classW (classL x) = clsW (clsX x)) (by decide +kernel) (fun x h1 h2 => ?_) x
  have h3 : clsX x = 0 := by unfold clsX; rw [h1]; rfl
  rw [h2, h3]
  rfl
set_option maxHeartbeats 8000000 in
set_option maxRecDepth 100000 in
theorem nestTable_any (m c : Nat) (w : World) (hm : 5 ≤ m ∧ m ≤ 7) (hc : 1 ≤ c ∧ c ≤ 7) :
    Calls Tryd.prog 118 #[.string (bs (modW m)), .string (bs (clsW c)), .bool (decide (c ≤ 3))] w fun e w' => e = .returned (.string (bs (sayW (nestP m c)))) ∧ w' = w := by
  rcases (show m = 5 ∨ m = 6 ∨ m = 7 by omega) with rfl | rfl | rfl <;> rcases (show c = 1 ∨ c = 2 ∨ c = 3 ∨ c = 4 ∨ c = 5 ∨ c = 6 ∨ c = 7 by omega) with rfl | rfl | rfl | rfl | rfl | rfl | rfl
  all_goals unfold bs
  all_goals go_enter Tryd.func118, Tryd.ntmps118
  all_goals go_wp2
  all_goals go_ret
  all_goals exact ⟨rfl, rfl⟩
set_option maxHeartbeats 16000000 in
set_option maxRecDepth 100000 in
theorem refNest_any (m c : Nat) (w : World) (hm : 1 ≤ m ∧ m ≤ 8) (hc : 1 ≤ c ∧ c ≤ 7) :
    Calls Tryd.prog 83 #[.string (bs (modW m)), .string (bs (clsW c))] w fun e w' => e = .returned (.string (bs (sayW (nestP m c)))) ∧ w' = w := by
  by_cases h5 : 5 ≤ m ∧ m ≤ 7
  · have ht := fun W => nestTable_any m c W h5 hc
    rcases (show m = 5 ∨ m = 6 ∨ m = 7 by omega) with rfl | rfl | rfl <;> rcases (show c = 1 ∨ c = 2 ∨ c = 3 ∨ c = 4 ∨ c = 5 ∨ c = 6 ∨ c = 7 by omega) with rfl | rfl | rfl | rfl | rfl | rfl | rfl
    all_goals have HT := hid ht
    all_goals clear ht
    all_goals unfold bs at *
    all_goals go_enter Tryd.func83, Tryd.ntmps83
    all_goals go_wp2_with fail
    all_goals refine (HT.out _).mono ?_
    all_goals rintro e W1 ⟨rfl, rfl⟩
    all_goals go_wp2_with fail
    all_goals go_ret
    all_goals exact ⟨rfl, rfl⟩
  · rcases (show m = 1 ∨ m = 2 ∨ m = 3 ∨ m = 4 ∨ m = 8 by omega) with rfl | rfl | rfl | rfl | rfl <;> rcases (show c = 1 ∨ c = 2 ∨ c = 3 ∨ c = 4 ∨ c = 5 ∨ c = 6 ∨ c = 7 by omega) with rfl | rfl | rfl | rfl | rfl | rfl | rfl
    all_goals unfold bs
    all_goals go_enter Tryd.func83, Tryd.ntmps83
    all_goals go_wp2
    all_goals go_ret
    all_goals exact ⟨rfl, rfl⟩
end Go.Proofs.YtkcgmimldjeaiaaDoor

/-
  The reference's modelOf, isTable, modelAt, impliedCount: their walks.
-/
namespace Go.Proofs.YtkcgmimldjeaiaaDoor
open Go.RowKit Go.Lib Own

theorem known_all (p : List UInt8 → Prop) (h : ∀ x ∈ classT.map Prod.fst, p x) (x : List UInt8) (hx : elemL x ≠ none) : p x := by
  revert hx
  exact elem_all (fun x => elemL x ≠ none → p x) (fun x hx _ => h x hx) (fun x h1 _ h2 => absurd h1 h2) x
set_option maxHeartbeats 16000000 in
set_option maxRecDepth 100000 in
theorem modelOf_any (x : List UInt8) (w : World) (hx : elemL x ≠ none) :
    Calls Tryd.prog 117 #[.string (bs x)] w fun e w' => e = .returned (.string (bs (modW (modX x)))) ∧ w' = w := by
  revert w
  refine known_all (fun x => ∀ w, Calls Tryd.prog 117 #[.string (bs x)] w fun e w' => e = .returned (.string (bs (modW (modX x)))) ∧ w' = w) ?_ x hx
  intro x hx w
  have hcl := fun W => classOf_any (bs x) W
  rw [bs_toList, class_word] at hcl
  simp only [classT, List.map_cons, List.map_nil, List.mem_cons, List.not_mem_nil, or_false] at hx
  have e0 : bs ([] : List UInt8) = ⟨#[]⟩ := rfl
  rcases hx with rfl | rfl | rfl | rfl | rfl | rfl | rfl | rfl | rfl | rfl | rfl | rfl | rfl | rfl | rfl | rfl | rfl | rfl | rfl | rfl | rfl | rfl | rfl | rfl | rfl | rfl | rfl | rfl | rfl | rfl | rfl | rfl | rfl | rfl | rfl | rfl | rfl
  all_goals have HC := hid hcl
  all_goals clear hcl e0
  all_goals unfold bs at *
  all_goals go_enter Tryd.func117, Tryd.ntmps117
  all_goals go_wp2_with fail
  all_goals first
    | (go_ret; exact ⟨rfl, rfl⟩)
    | (refine (HC.out _).mono ?_; rintro e W1 ⟨rfl, rfl⟩; go_wp2_with fail; go_ret; exact ⟨rfl, rfl⟩)
end Go.Proofs.YtkcgmimldjeaiaaDoor

/-
  The reference's isTable, modelAt, impliedCount, closes: their walks.
-/
namespace Go.Proofs.YtkcgmimldjeaiaaDoor
open Go.RowKit Go.Lib Own

theorem table_class (x : List UInt8) : tableX x = (x == [116, 97, 98, 108, 101] || (clsX x == 5 || (clsX x == 6 || clsX x == 7))) := by
  refine elem_all (fun x => tableX x = (x == [116, 97, 98, 108, 101] || (clsX x == 5 || (clsX x == 6 || clsX x == 7)))) (by decide +kernel) (fun x h1 _ => ?_) x
  have h3 : clsX x = 0 := by unfold clsX; rw [h1]; rfl
  have h4 : modX x = 0 := by unfold modX; rw [h1]; rfl
  have h5 : (x == [116, 97, 98, 108, 101]) = false := by
    rw [Bool.eq_false_iff]
    intro e
    rw [beq_iff_eq] at e
    subst e
    exact absurd h1 (by decide +kernel)
  unfold tableX
  rw [h3, h4, h5]
  rfl
theorem clsX_le (x : List UInt8) : clsX x ≤ 7 := by
  by_cases h : elemL x = none
  · unfold clsX; rw [h]; exact Nat.zero_le _
  · exact (known_bd x h).2.1
set_option maxHeartbeats 4000000 in
set_option maxRecDepth 100000 in
theorem refTable_any (x : ByteArray) (w : World) :
    Calls Tryd.prog 88 #[.string x] w fun e w' => e = .returned (.bool (tableX x.toList)) ∧ w' = w := by
  have hcl := fun W => classOf_any x W
  rw [class_word] at hcl
  have hle := clsX_le x.toList
  have htc := table_class x.toList
  obtain ⟨R, hR⟩ : ∃ R, tableX x.toList = R := ⟨_, rfl⟩
  rw [hR] at htc ⊢
  obtain ⟨T, hT⟩ : ∃ b, (x.toList == [116, 97, 98, 108, 101]) = b := ⟨_, rfl⟩
  rw [hT] at htc
  generalize clsX x.toList = c at hcl hle htc
  have HC := hid hcl
  clear hcl hR
  rcases (show c = 0 ∨ c = 1 ∨ c = 2 ∨ c = 3 ∨ c = 4 ∨ c = 5 ∨ c = 6 ∨ c = 7 by omega) with rfl | rfl | rfl | rfl | rfl | rfl | rfl | rfl
  all_goals cases T
  all_goals simp only [Bool.true_or, Bool.false_or] at htc
  all_goals subst htc
  all_goals unfold bs at HC
  all_goals go_enter Tryd.func88, Tryd.ntmps88
  all_goals go_wp2_with fail
  all_goals refine (HC.out _).mono ?_
  all_goals rintro e W1 ⟨rfl, rfl⟩
  all_goals go_wp2_with fail
  all_goals go_ret
  all_goals exact ⟨rfl, rfl⟩
theorem modO_take_pos {op : List (List UInt8)} {n : Nat} {x : List UInt8} (h : op[n]? = some x) : modO (op.take (n + 1)) = modX x := by
  have h2 : (op.take (n + 1)).getLast? = some x := by
    rw [List.take_add_one, h]
    simp
  unfold modO
  rw [h2]
theorem modO_zero (op : List (List UInt8)) : modO (op.take 0) = 1 := rfl
set_option maxHeartbeats 2000000 in
set_option maxRecDepth 100000 in
theorem modelAt_any (pv : Value) (op : List (List UInt8)) (n : Nat) (w : World) (h : Words w pv op) (ho : ∀ x ∈ op, elemL x ≠ none) (hn : n ≤ op.length) (hl : op.length ≤ 1000000) :
    Calls Tryd.prog 82 #[pv, .int .i64 n] w fun e w' => e = .returned (.string (bs (modW (modO (op.take n))))) ∧ w' = w := by
  obtain ⟨p, c, rfl, hc, hm, hcell, _⟩ := h
  cases n with
  | zero =>
    rw [modO_zero]
    clear hcell
    go_enter Tryd.func82, Tryd.ntmps82
    go_wp2
    go_ret
    exact ⟨rfl, rfl⟩
  | succ n =>
    obtain ⟨x, hx⟩ : ∃ x, op[n]? = some x := ⟨_, List.getElem?_eq_getElem (by omega)⟩
    obtain ⟨b, o, rfl, hc1⟩ := hcell n x hx
    have hmo := fun W => modelOf_any x W (ho x (List.mem_of_getElem? hx))
    rw [modO_take_pos hx]
    have HM := hid hmo
    have w1 : IntKind.i64.wrap (((n + 1 : Nat) : Int) - 1) = (n : Int) := by rw [IntKind.wrap_i64]; omega
    have d1 : ¬ (((n + 1 : Nat) : Int) < 1) := by omega
    have d2 : ¬ ((op.length : Int) < ((n + 1 : Nat) : Int)) := by omega
    have hnc : n < c := by omega
    have hno : n < op.length := by omega
    obtain ⟨BX, hBX⟩ : ∃ n, bs x = n := ⟨_, rfl⟩
    rw [hBX] at hc1 HM
    clear hcell hx hmo ho hBX
    go_enter Tryd.func82, Tryd.ntmps82
    go_wp2_with fail
    refine (HM.out _).mono ?_
    rintro e W1 ⟨rfl, rfl⟩
    go_wp2_with fail
    go_ret
    exact ⟨rfl, rfl⟩
end Go.Proofs.YtkcgmimldjeaiaaDoor

/-
  The balancer's small functions: the nesting table, models, implied elements, walls, whitespace taken off: their walks.
-/
namespace Go.Proofs.YtkcgmimldjeaiaaDoor
open Go.RowKit Go.Lib Own

/-- the nesting table lies where its variable does -/
def NestTab (w : World) : Prop := w.rangeAt 5 0 ((nestT.flatMap id).map fun n : Nat => Value.int .i64 (n : Int))
theorem NestTab.below {w w' : World} (h : NestTab w) (hb : Below w.heap.size w w') : NestTab w' := rangeAt_below h hb
theorem nest_flat : ∀ i < 8, ∀ j < 7, (nestT.flatMap id)[i * 7 + j]? = some ((nestT.getD i []).getD j 0) := by decide +kernel
theorem nest_cell {w : World} (h : NestTab w) {i j : Nat} (hi : i < 8) (hj : j < 7) : w.cell? ⟨5, i * 7 + j, none⟩ = some (.int .i64 (nestP (i + 1) (j + 1) : Nat)) := by
  have h1 := h (i * 7 + j) (.int .i64 (nestP (i + 1) (j + 1) : Nat)) (by
    rw [List.getElem?_map, nest_flat i hi j hj]
    unfold nestP
    rw [if_neg (by omega)]
    rfl)
  rw [Nat.zero_add] at h1
  exact h1
set_option maxHeartbeats 4000000 in
theorem nest_any (m c : Nat) (w : World) (hT : NestTab w) (hm : m ≤ 100) (hc : c ≤ 100) :
    Calls Tryd.prog 96 #[.int .i64 m, .int .i64 c] w fun e w' => e = .returned (.int .i64 (nestP m c : Nat)) ∧ w' = w := by
  by_cases h1 : m < 1
  · have e : nestP m c = 0 := by unfold nestP; rw [if_pos (by omega)]
    rw [e]
    go_enter Tryd.func96, Tryd.ntmps96
    go_wp2
    go_ret
    exact ⟨rfl, rfl⟩
  by_cases h2 : 8 < m
  · have e : nestP m c = 0 := by unfold nestP; rw [if_pos (by omega)]
    rw [e]
    go_enter Tryd.func96, Tryd.ntmps96
    go_wp2
    go_ret
    exact ⟨rfl, rfl⟩
  by_cases h3 : c < 1
  · have e : nestP m c = 0 := by unfold nestP; rw [if_pos (by omega)]
    rw [e]
    go_enter Tryd.func96, Tryd.ntmps96
    go_wp2
    go_ret
    exact ⟨rfl, rfl⟩
  by_cases h4 : 7 < c
  · have e : nestP m c = 0 := by unfold nestP; rw [if_pos (by omega)]
    rw [e]
    go_enter Tryd.func96, Tryd.ntmps96
    go_wp2
    go_ret
    exact ⟨rfl, rfl⟩
  obtain ⟨i, rfl⟩ : ∃ i, m = i + 1 := ⟨m - 1, by omega⟩
  obtain ⟨j, rfl⟩ : ∃ j, c = j + 1 := ⟨c - 1, by omega⟩
  have hcell := nest_cell hT (i := i) (j := j) (by omega) (by omega)
  have w1 : IntKind.i64.wrap (((i + 1 : Nat) : Int) - 1) = (i : Int) := by rw [IntKind.wrap_i64]; omega
  have w2 : IntKind.i64.wrap (((j + 1 : Nat) : Int) - 1) = (j : Int) := by rw [IntKind.wrap_i64]; omega
  have i1 : i < 8 := by omega
  have j1 : j < 7 := by omega
  go_enter Tryd.func96, Tryd.ntmps96
  go_wp2
  go_ret
  exact ⟨rfl, rfl⟩
/-- the cells of open elements -/
def elems (op : List (List UInt8)) : List Value := op.flatMap fun x => [.string (bs x), .int .i64 (clsX x : Nat), .int .i64 (modX x : Nat)]
theorem elems_app (a b : List (List UInt8)) : elems (a ++ b) = elems a ++ elems b := List.flatMap_append
theorem elems_len : ∀ a : List (List UInt8), (elems a).length = a.length * 3
  | [] => rfl
  | x :: r => by
    have := elems_len r
    show (_ :: _ :: _ :: elems r).length = _
    simp only [List.length_cons, this]
    omega
theorem elems_at : ∀ (a : List (List UInt8)) (k : Nat) (x : List UInt8), a[k]? = some x → (elems a)[k * 3]? = some (.string (bs x)) ∧ (elems a)[k * 3 + 1]? = some (.int .i64 (clsX x : Nat)) ∧ (elems a)[k * 3 + 2]? = some (.int .i64 (modX x : Nat))
  | [], k, x, h => by simp at h
  | y :: r, 0, x, h => by
    simp only [List.getElem?_cons_zero, Option.some.injEq] at h
    subst h
    exact ⟨rfl, rfl, rfl⟩
  | y :: r, k + 1, x, h => by
    rw [List.getElem?_cons_succ] at h
    obtain ⟨h1, h2, h3⟩ := elems_at r k x h
    exact ⟨by rw [show (k + 1) * 3 = k * 3 + 1 + 1 + 1 by omega]; exact h1, by rw [show (k + 1) * 3 + 1 = k * 3 + 1 + 1 + 1 + 1 by omega]; exact h2, by rw [show (k + 1) * 3 + 2 = k * 3 + 2 + 1 + 1 + 1 by omega]; exact h3⟩
theorem elems_take : ∀ (a : List (List UInt8)) (k : Nat), (elems a).take (k * 3) = elems (a.take k)
  | [], k => by simp [elems]
  | x :: r, 0 => by simp [elems]
  | x :: r, k + 1 => by
    have := elems_take r k
    show ((_ :: _ :: _ :: elems r : List Value)).take _ = (_ :: _ :: _ :: elems (r.take k) : List Value)
    rw [show (k + 1) * 3 = k * 3 + 1 + 1 + 1 by omega, List.take_succ_cons, List.take_succ_cons, List.take_succ_cons, this]
/-- open elements in a row -/
def OpenR (W : World) (base : Nat) (v : Value) (op : List (List UInt8)) : Prop := W.ownsRow base 140 3 v op.length (elems op)
theorem row_shorter {W : World} {base : Nat} {e : TypeId} {size n k c : Nat} {p : Option Addr} {xs : List Value} (h : W.ownsRow base e size (.slice p n c) n xs) (hk : k ≤ n) : W.ownsRow base e size (.slice p k c) k (xs.take (k * size)) := by
  refine ⟨by rw [List.length_take, h.1]; exact Nat.min_eq_left (Nat.mul_le_mul_right _ hk), ?_⟩
  rcases h.2 with ⟨e1, e2⟩ | ⟨g, cap, cur, e1, e2, e3, e4, e5, e6, e7⟩
  · cases e1
    obtain rfl : k = 0 := by omega
    exact .inl ⟨rfl, rfl⟩
  · cases e1
    refine .inr ⟨g, c, cur, rfl, e2, e3, by omega, e5, e6, ?_⟩
    rw [← e7, List.take_take, Nat.min_eq_left (Nat.mul_le_mul_right _ hk)]
theorem OpenR.front {W : World} {base n k c : Nat} {p : Option Addr} {op : List (List UInt8)} (h : OpenR W base (.slice p n c) op) (hk : k ≤ op.length) (hn : n = op.length) : OpenR W base (.slice p k c) (op.take k) := by
  subst hn
  have h1 := row_shorter h hk
  rw [elems_take] at h1
  unfold OpenR
  rw [List.length_take, Nat.min_eq_left hk]
  exact h1
theorem OpenR.shape {W : World} {base : Nat} {v : Value} {op : List (List UInt8)} (h : OpenR W base v op) : ∃ p c, v = .slice p op.length c := row_shape h
set_option maxHeartbeats 1000000 in
theorem modIn_any (base : Nat) (v : Value) (op : List (List UInt8)) (w : World) (h : OpenR w base v op) (hl : op.length ≤ 1000000) :
    Calls Tryd.prog 97 #[v] w fun e w' => e = .returned (.int .i64 (modO op : Nat)) ∧ w' = w := by
  obtain ⟨p, c, rfl⟩ := h.shape
  by_cases h0 : op.length = 0
  · obtain rfl := List.length_eq_zero_iff.1 h0
    go_enter Tryd.func97, Tryd.ntmps97
    go_wp2
    go_ret
    exact ⟨rfl, rfl⟩
  · obtain ⟨x, hx⟩ : ∃ x, op[op.length - 1]? = some x := ⟨_, List.getElem?_eq_getElem (by omega)⟩
    obtain ⟨g, cap, e3, _, _, hcell⟩ := row_at h (by omega)
    cases e3
    obtain ⟨_, _, a3⟩ := elems_at op _ x hx
    have c3 := (hcell _ (by omega)).trans a3
    have hm : modO op = modX x := by unfold modO; rw [List.getLast?_eq_getElem?, hx]
    obtain ⟨n, hn⟩ : ∃ n, op.length = n + 1 := ⟨op.length - 1, by omega⟩
    rw [hm]
    rw [hn, Nat.add_sub_cancel] at c3
    rw [hn] at hl ⊢
    have w1 : IntKind.i64.wrap (((n + 1 : Nat) : Int) - 1) = (n : Int) := by rw [IntKind.wrap_i64]; omega
    have hz : (((n + 1 : Nat) : Int) == 0) = false := by rw [Bool.eq_false_iff]; intro h; rw [beq_iff_eq] at h; omega
    have hle := (row_cap h).2
    rw [hn] at hle
    clear hm hx a3 hcell h h0 hn
    go_enter Tryd.func97, Tryd.ntmps97
    go_wp2
    go_ret
    exact ⟨rfl, rfl⟩
set_option maxHeartbeats 1000000 in
theorem implied_any (p : Nat) (hp : p < 10) (w : World) :
    Calls Tryd.prog 92 #[.int .i64 p] w fun e w' => ∃ v, e = .returned v ∧ w'.ownsRow w.heap.size 9 1 v (impP p).length (wordsV (impP p)) ∧ Below w.heap.size w w' := by
  have one : ∀ (xs : List (List UInt8)), xs.length ≤ 1000 → (w.alloc (.cells (wordsV xs).toArray 9)).ownsRow w.heap.size 9 1 (.slice (some ⟨w.heap.size, 0, none⟩) xs.length xs.length) xs.length (wordsV xs) := fun xs hl =>
    ⟨wordsV_len xs, .inr ⟨w.heap.size, xs.length, _, rfl, Nat.le_refl _, heap_alloc_new w _, Nat.le_refl _, by unfold maxLen; omega, by rw [List.size_toArray, wordsV_len], by rw [List.take_of_length_le (by rw [wordsV_len]; exact Nat.le_refl _)]⟩⟩
  have bel : ∀ X, Below w.heap.size w (w.alloc X) := fun X => (Below.refl _ _).alloc (Nat.le_refl _) X
  rcases (show p = 0 ∨ p = 1 ∨ p = 2 ∨ p = 3 ∨ p = 4 ∨ p = 5 ∨ p = 6 ∨ p = 7 ∨ p = 8 ∨ p = 9 by omega) with rfl | rfl | rfl | rfl | rfl | rfl | rfl | rfl | rfl | rfl
  all_goals
    go_enter Tryd.func92, Tryd.ntmps92
    go_wp2
    go_ret
    first
      | exact ⟨_, rfl, World.ownsRow_nil _ _ _ _, Below.refl _ _⟩
      | exact ⟨_, rfl, one (impP 3) (by decide), bel _⟩
      | exact ⟨_, rfl, one (impP 4) (by decide), bel _⟩
      | exact ⟨_, rfl, one (impP 5) (by decide), bel _⟩
      | exact ⟨_, rfl, one (impP 6) (by decide), bel _⟩
      | exact ⟨_, rfl, one (impP 7) (by decide), bel _⟩
      | exact ⟨_, rfl, one (impP 8) (by decide), bel _⟩
      | exact ⟨_, rfl, one (impP 9) (by decide), bel _⟩
set_option maxHeartbeats 1000000 in
theorem isTab_any (a cv : Value) (m : Nat) (hm : m < 10) (w : World) :
    Calls Tryd.prog 123 #[.agg #[a, cv, .int .i64 m]] w fun e w' => e = .returned (.bool (decide (5 ≤ m ∧ m ≤ 8))) ∧ Below w.heap.size w w' := by
  have hb := (Below.refl w.heap.size w).alloc (Nat.le_refl _) (.cells #[a, cv, .int .i64 m] 140)
  rcases (show m = 0 ∨ m = 1 ∨ m = 2 ∨ m = 3 ∨ m = 4 ∨ m = 5 ∨ m = 6 ∨ m = 7 ∨ m = 8 ∨ m = 9 by omega) with rfl | rfl | rfl | rfl | rfl | rfl | rfl | rfl | rfl | rfl
  all_goals
    have HB := hid hb
    clear hb
    go_enter Tryd.func123, Tryd.ntmps123
    go_wp2
    go_ret
    exact ⟨rfl, HB.out⟩
set_option maxHeartbeats 4000000 in
theorem wall_any (o x : List UInt8) (w : World) (ho : modX o < 10) (hx : modX x < 10) :
    Calls Tryd.prog 95 #[.agg #[.string (bs o), .int .i64 (clsX o : Nat), .int .i64 (modX o : Nat)], .agg #[.string (bs x), .int .i64 (clsX x : Nat), .int .i64 (modX x : Nat)]] w fun e w' => e = .returned (.bool (wallX o x)) ∧ Below w.heap.size w w' := by
  have hR : wallX o x = if decide (5 ≤ modX x ∧ modX x ≤ 8) = true then modX o == 5 else if clsX x = 4 ∧ modX o = 4 then true else decide (5 ≤ modX o ∧ modX o ≤ 8) := rfl
  have h1 := fun a cv W => isTab_any a cv (modX x) hx W
  have h2 := fun a cv W => isTab_any a cv (modX o) ho W
  obtain ⟨R, hQ⟩ : ∃ R, wallX o x = R := ⟨_, rfl⟩
  rw [hQ] at hR ⊢
  clear hQ
  generalize modX o = mo at ho h2 hR ⊢
  generalize modX x = mx at hx h1 hR ⊢
  generalize clsX x = cx at hR ⊢
  generalize clsX o = co
  obtain ⟨BO, hBO⟩ : ∃ b, decide (5 ≤ mo ∧ mo ≤ 8) = b := ⟨_, rfl⟩
  obtain ⟨BX, hBX⟩ : ∃ b, decide (5 ≤ mx ∧ mx ≤ 8) = b := ⟨_, rfl⟩
  rw [hBO] at h2 hR
  rw [hBX] at h1 hR
  clear hBO hBX
  have HR := hid hR
  clear hR
  obtain ⟨W0, hW0⟩ : ∃ W0, ((w.alloc (.cells #[.string (bs o), .int .i64 (co : Nat), .int .i64 (mo : Nat)] 140)).alloc (.cells #[.string (bs x), .int .i64 (cx : Nat), .int .i64 (mx : Nat)] 140)) = W0 := ⟨_, rfl⟩
  have hB : Below w.heap.size w W0 := by rw [← hW0]; exact ((Below.refl _ _).alloc (Nat.le_refl _) _).alloc (by simp) _
  have b0 : W0.heap[w.heap.size]? = some (.cells #[.string (bs o), .int .i64 (co : Nat), .int .i64 (mo : Nat)] 140 (0, 0)) := by rw [← hW0]; exact (Go.Lib.alloc_old _ _ _ (by simp)).trans (heap_alloc_new w _)
  have b1 : W0.heap[w.heap.size + 1]? = some (.cells #[.string (bs x), .int .i64 (cx : Nat), .int .i64 (mx : Nat)] 140 (0, 0)) := by
    rw [← hW0]
    have := heap_alloc_new (w.alloc (.cells #[.string (bs o), .int .i64 (co : Nat), .int .i64 (mo : Nat)] 140)) (.cells #[.string (bs x), .int .i64 (cx : Nat), .int .i64 (mx : Nat)] 140)
    simpa using this
  have x0 := cell_at b1 (j := 0) rfl
  have x1 := cell_at b1 (j := 1) rfl
  have x2 := cell_at b1 (j := 2) rfl
  have y0 := cell_at b0 (j := 0) rfl
  have y1 := cell_at b0 (j := 1) rfl
  have y2 := cell_at b0 (j := 2) rfl
  have H1 := hid h1
  have H2 := hid h2
  have HB := hid hB
  clear h1 h2 hB b0 b1
  go_enter Tryd.func95, Tryd.ntmps95
  go_upto_region 1 with fail
  clear hW0
  go_wp2_with fail
  refine (H1.out _ _ _).mono ?_
  rintro e W1 ⟨rfl, hb1⟩
  replace x0 := cell_kept x0 hb1
  replace x1 := cell_kept x1 hb1
  replace x2 := cell_kept x2 hb1
  replace y0 := cell_kept y0 hb1
  replace y1 := cell_kept y1 hb1
  replace y2 := cell_kept y2 hb1
  have HB1 := hid (HB.out.trans (hb1.mono HB.out.size))
  clear hb1 HB
  cases BX with
  | true =>
    have e1 := HR.out
    rw [if_pos rfl] at e1
    by_cases t2 : mo = 5
    · subst t2
      subst e1
      go_wp2_with fail
      go_ret
      exact ⟨rfl, HB1.out⟩
    · have q : ((mo : Int) == 5) = false := by rw [Bool.eq_false_iff]; intro h; rw [beq_iff_eq] at h; omega
      have q2 : (mo == 5) = false := by rw [Bool.eq_false_iff]; intro h; rw [beq_iff_eq] at h; omega
      rw [q2] at e1
      subst e1
      go_wp2_with fail
      go_ret
      exact ⟨rfl, HB1.out⟩
  | false =>
    have e1 := HR.out
    rw [if_neg Bool.false_ne_true] at e1
    by_cases t2 : cx = 4
    · subst t2
      by_cases t3 : mo = 4
      · subst t3
        rw [if_pos ⟨rfl, rfl⟩] at e1
        subst e1
        go_wp2_with fail
        go_ret
        exact ⟨rfl, HB1.out⟩
      · rw [if_neg (fun h => t3 h.2)] at e1
        subst e1
        have q : ((mo : Int) == 4) = false := by rw [Bool.eq_false_iff]; intro h; rw [beq_iff_eq] at h; omega
        go_wp2_with fail
        refine (H2.out _ _ _).mono ?_
        rintro e W2 ⟨rfl, hb2⟩
        have HB2 := hid (HB1.out.trans (hb2.mono HB1.out.size))
        clear hb2
        go_wp2_with fail
        go_ret
        exact ⟨rfl, HB2.out⟩
    · rw [if_neg (fun h => t2 h.1)] at e1
      subst e1
      have q : ((cx : Int) == 4) = false := by rw [Bool.eq_false_iff]; intro h; rw [beq_iff_eq] at h; omega
      go_wp2_with fail
      refine (H2.out _ _ _).mono ?_
      rintro e W2 ⟨rfl, hb2⟩
      have HB2 := hid (HB1.out.trans (hb2.mono HB1.out.size))
      clear hb2
      go_wp2_with fail
      go_ret
      exact ⟨rfl, HB2.out⟩
theorem tail_bs (s : ByteArray) (pos : Nat) : s.extract pos s.size = ⟨(s.data.toList.drop pos).toArray⟩ := by
  have h := Lib.extract_to_end s pos
  apply ByteArray.ext
  apply Array.ext'
  rw [h]
def strN : Value → Nat
  | .string b => b.size
  | _ => 0
set_option maxHeartbeats 1000000 in
theorem trimF_any (t : List UInt8) (w : World) : Calls Tryd.prog 98 #[.string (bs t)] w fun e w' => e = .returned (.string (bs (trimP t))) ∧ w' = w := by
  obtain ⟨R, hR⟩ : ∃ R, trimP t = R := ⟨_, rfl⟩
  have HR := hid (fun (_ : True) => hR)
  rw [hR]
  clear hR
  go_enter Tryd.func98, Tryd.ntmps98
  go_wp2
  go_loopw [0] (fun tv wr => ∃ t : List UInt8, tv = .string (bs t) ∧ wr = w ∧ Hid (True → trimP t = R)) (fun tv _ => strN tv)
  case atStart => exact ⟨t, rfl, rfl, HR⟩
  case round =>
    clear HR
    obtain ⟨t, rfl, rfl, HK⟩ := hrel
    match t, HK with
    | [], HK =>
      have z1 : (bs ([] : List UInt8)).toList = [] := bs_toList []
      have hk : R = [] := (HK.out trivial).symm
      subst hk
      have z2 : ((bs ([] : List UInt8)).toList != []) = false := by rw [z1]; rfl
      have z3 : ((bs ([] : List UInt8)).toList == []) = true := by rw [z1]; rfl
      clear z1
      go_wp2
      go_ret
      exact ⟨rfl, rfl⟩
    | c :: r, HK =>
      have z1 := bs_toList (c :: r)
      have z2 : ((bs (c :: r)).toList != []) = true := by rw [z1]; rfl
      have z3 : ((bs (c :: r)).toList == []) = false := by rw [z1]; rfl
      have hd := HK.out trivial
      have hsz := bs_size (c :: r)
      have hdat := bs_data (c :: r)
      have htl : (bs (c :: r)).extract 1 (bs (c :: r)).size = bs r := by rw [tail_bs]; rfl
      obtain ⟨S, hS⟩ : ∃ S, bs (c :: r) = S := ⟨_, rfl⟩
      rw [hS] at z2 z3 hsz hdat htl
      rw [List.length_cons] at hsz
      rw [hsz] at htl
      have hz : 0 < S.size := by omega
      obtain ⟨y, hy⟩ : ∃ y, S[0]'hz = y := ⟨_, rfl⟩
      have hl := getElem_list hz hy
      rw [hdat, List.getElem?_cons_zero, Option.some.injEq] at hl
      subst hl
      have hsp := fun W => space_any (c.toNat : Int) (by omega) (by have := c.toNat_lt; omega) W
      rw [spaceZ_C] at hsp
      obtain ⟨B, hB⟩ : ∃ b, spaceC c = b := ⟨_, rfl⟩
      rw [hB] at hsp
      have HS := hid hsp
      rw [hS]
      unfold trimP at hd
      rw [List.dropWhile_cons, hB] at hd
      have hsz1 : 1 ≤ S.size := by omega
      have hmeas : (bs r).size < S.size := by rw [bs_size]; omega
      have HSS := hid hS
      clear hsp hS z1 hdat hB HK
      cases B with
      | false =>
        rw [if_neg Bool.false_ne_true] at hd
        go_wp2_with (go_at_call 124; refine (HS.out _).mono ?_; rintro e w' ⟨rfl, rfl⟩)
        go_ret
        subst hd
        exact ⟨by rw [← HSS.out]; rfl, rfl⟩
      | true =>
        rw [if_pos rfl] at hd
        have HD := hid (fun (_ : True) => hd)
        clear hd
        go_wp2_with (go_at_call 124; refine (HS.out _).mono ?_; rintro e w' ⟨rfl, rfl⟩)
        go_roundw
        case rel => exact ⟨r, rfl, by first | rfl | trivial, HD⟩
        case measure => exact hmeas
end Go.Proofs.YtkcgmimldjeaiaaDoor

/-
  Package sieve: the rule of an element, an attribute's value, the attributes that stay: their walks.
-/
namespace Go.Proofs.YtkcgmimldjeaiaaDoor
open Go.RowKit Go.Lib Own

theorem results_two {P : Program} {fn : Func} {p u : Tmp} {ty : TypeId} (h : fn.results = #[.cell p ty, .tmp u]) (tmps : Array Value) (w : World) (g : Nat) (t : TypeId) (cs : Array Value) (fr : Nat × Nat) (d : TypeDesc)
    (hp : tmps.getD p undef = .pointer (some ⟨g, 0, none⟩)) (hg : w.heap[g]? = some (.cells cs t fr))
    (hu : P.underlying ty = some d) (hd : (match d with | .struct _ | .array _ _ => true | _ => false) = true) (hi : (P.info? ty).map (·.size) = some cs.size) (x : Value) (hx : tmps.getD u undef = x) :
    (results fn tmps).run P w = .ok (.tuple #[.agg cs, x]) w := by
  rw [results_cell_tmp h, hp, hx]
  simp [asAddr, Result.andThen, run_loadVar_row w g t ty cs fr d hg hu hd hi]

/-- the cells of a Sieve -/
def sieveC (vr vs vd : Value) (P : PolP) (sk : List UInt8) (n : Nat) : Array Value := #[vr, vs, vd, .int .i64 P.depth, .int .i64 P.window, .string (bs sk), .int .i64 n]
/-- a Sieve at block b, over a policy that lies below w0's end -/
structure SvAt (w0 w : World) (b : Nat) (vr vs vd : Value) (P : PolP) (sk : List UInt8) (n : Nat) : Prop where
  at_ : w.heap[b]? = some (.cells (sieveC vr vs vd P sk n) 119 (0, 0))
  pol : PolR w0 vr vs vd P
  be : Below w0.heap.size w0 w
  lo : w0.heap.size ≤ b
theorem SvAt.below {w0 w w' : World} {b : Nat} {vr vs vd : Value} {P : PolP} {sk : List UInt8} {n : Nat} (h : SvAt w0 w b vr vs vd P sk n) (hb : Below w.heap.size w w') : SvAt w0 w' b vr vs vd P sk n :=
  ⟨(hb.block b (block_lt h.at_)).trans h.at_, h.pol, h.be.trans (hb.mono h.be.size), h.lo⟩
theorem SvAt.drew {w0 w : World} {b : Nat} {vr vs vd : Value} {P : PolP} {sk : List UInt8} {n : Nat} (h : SvAt w0 w b vr vs vd P sk n) : SvAt w0 w.drew b vr vs vd P sk n := ⟨h.at_, h.pol, ⟨h.be.os, h.be.tape, h.be.output, h.be.size, h.be.block⟩, h.lo⟩
theorem SvAt.cur {w0 w : World} {b : Nat} {vr vs vd : Value} {P : PolP} {sk : List UInt8} {n : Nat} (h : SvAt w0 w b vr vs vd P sk n) : PolR w vr vs vd P := h.pol.below h.be

theorem isLink_any (x : ByteArray) (w : World) : Calls Tryd.prog 139 #[.string x] w fun e w' => e = .returned (.bool (isLinkL x.toList)) ∧ w' = w := by
  unfold isLinkL
  by_cases h1 : (x.toList == [99, 105, 116, 101]) = true
  · rw [h1, Bool.true_or]
    go_enter Tryd.func139, Tryd.ntmps139
    go_wp2
    go_ret
    exact ⟨rfl, rfl⟩
  rw [Bool.not_eq_true] at h1
  rw [h1, Bool.false_or]
  by_cases h2 : (x.toList == [104, 114, 101, 102]) = true
  · rw [h2, Bool.true_or]
    go_enter Tryd.func139, Tryd.ntmps139
    go_wp2
    go_ret
    exact ⟨rfl, rfl⟩
  rw [Bool.not_eq_true] at h2
  rw [h2, Bool.false_or]
  obtain ⟨R, hR⟩ : ∃ R, (x.toList == [115, 114, 99]) = R := ⟨_, rfl⟩
  rw [hR]
  go_enter Tryd.func139, Tryd.ntmps139
  go_wp2
  go_ret
  exact ⟨rfl, rfl⟩

theorem ruleIs_any (g : Nat) (r : RuleP) (u : Value) (x : ByteArray) (w : World) (hg : w.cell? ⟨g, 0, none⟩ = some (.string x)) (hu : ∃ p n c, u = .slice p n c) :
    Calls Tryd.prog 111 #[.agg #[.string (bs r.1), u], .pointer (some ⟨g, 0, none⟩)] w fun e w' => e = .returned (.bool (r.1 == x.toList)) ∧ Below w.heap.size w w' := by
  obtain ⟨p, n, c, rfl⟩ := hu
  have hb := (Below.refl w.heap.size w).alloc (Nat.le_refl _) (.cells #[.string (bs r.1), .slice p n c] 73)
  have hbt := bs_toList r.1
  obtain ⟨S, hS⟩ : ∃ S, bs r.1 = S := ⟨_, rfl⟩
  rw [hS] at hb hbt ⊢
  have hg2 := cell_low hg hb (cell_block hg)
  have e : (r.1 == x.toList) = (S.toList == x.toList) := by rw [hbt]
  rw [e]
  have HB := hid hb
  clear hbt hS e hb
  go_enter Tryd.func111, Tryd.ntmps111
  go_wp2
  go_ret
  exact ⟨rfl, HB.out⟩

theorem ruleL_none {rs : List RuleP} {n : List UInt8} (h : ruleL rs n = none) : idxP (fun r : RuleP => r.1 == n) rs = -1 := by
  refine idxP_miss _ rs (fun j y hj => ?_)
  induction rs generalizing j with
  | nil => simp at hj
  | cons r rs ih =>
    unfold ruleL at h
    by_cases hr : r.1 = n
    · rw [if_pos hr] at h; cases h
    · rw [if_neg hr] at h
      cases j with
      | zero =>
        simp only [List.getElem?_cons_zero, Option.some.injEq] at hj
        subst hj
        exact beq_eq_false_iff_ne.2 hr
      | succ j => exact ih h j (by simpa using hj)
theorem ruleL_some {n : List UInt8} {l : List (List UInt8)} {rs : List RuleP} (h : ruleL rs n = some l) : ∃ k : Nat, rs[k]? = some (n, l) ∧ idxP (fun r : RuleP => r.1 == n) rs = (k : Int) := by
  induction rs with
  | nil => cases h
  | cons r rs ih =>
    unfold ruleL at h
    by_cases hr : r.1 = n
    · rw [if_pos hr] at h
      refine ⟨0, ?_, ?_⟩
      · show some r = some (n, l)
        rw [← hr, ← Option.some.inj h]
      · rw [idxP_cons, if_pos (beq_iff_eq.2 hr)]
        rfl
    · rw [if_neg hr] at h
      obtain ⟨k, h1, h2⟩ := ih h
      refine ⟨k + 1, by rw [List.getElem?_cons_succ]; exact h1, ?_⟩
      rw [idxP_cons, if_neg (by rw [beq_iff_eq]; exact hr), h2, if_neg (by omega)]
      simp

/-- what rule answers -/
def RuleV (W : World) (n : List UInt8) : Option (List (List UInt8)) → Value → Prop
  | none, v => v = .tuple #[.agg #[.string ⟨#[]⟩, .slice none 0 0], .bool false]
  | some l, v => ∃ u, v = .tuple #[.agg #[.string (bs n), u], .bool true] ∧ Words W u l

set_option maxHeartbeats 4000000 in
set_option maxRecDepth 100000 in
theorem rule_any (w0 : World) (b : Nat) (vr vs vd : Value) (P : PolP) (sk : List UInt8) (cnt : Nat) (x : ByteArray) (w : World) (h : SvAt w0 w b vr vs vd P sk cnt) (hF : P.Few) :
    Calls Tryd.prog 73 #[.pointer (some ⟨b, 0, none⟩), .string x] w fun e w' => ∃ v, e = .returned v ∧ RuleV w x.toList (ruleL P.rules x.toList) v ∧ Below w.heap.size w w' := by
  have hpol := h.cur
  obtain ⟨rp, rc, hvr, _, hrm, hcell⟩ := hpol.rules
  subst hvr
  have f1 := hF.rules
  -- the boxes
  obtain ⟨W1, hW1⟩ : ∃ W1, (w.alloc (.cells #[.string x] 9)).alloc (.cells #[.string ⟨#[]⟩, .slice none 0 0] 73) = W1 := ⟨_, rfl⟩
  have hB : Below w.heap.size w W1 := by rw [← hW1]; exact ((Below.refl w.heap.size w).alloc (Nat.le_refl _) _).alloc (by simp) _
  have b0 : W1.heap[w.heap.size]? = some (.cells #[.string x] 9 (0, 0)) := by rw [← hW1]; exact (Go.Lib.alloc_old _ _ _ (by simp)).trans (heap_alloc_new w _)
  have b1 : W1.heap[w.heap.size + 1]? = some (.cells #[.string ⟨#[]⟩, .slice none 0 0] 73 (0, 0)) := by rw [← hW1]; exact heap_two_new w _ _ _
  have hix := ruIndexFunc_any 111 #[.pointer (some ⟨w.heap.size, 0, none⟩)] (enters_of Tryd.func111 (by kernel_rfl) rfl) (fun r => r.1 == x.toList) (.slice rp P.rules.length rc) P.rules W1 (hpol.rules.below hB)
    (fun W r u _ hu hb => (ruleIs_any w.heap.size r u x W (cell_low (cell_at b0 (j := 0) rfl) hb (block_lt b0)) hu.shape).mono fun e w' q => ⟨q.1, hb.trans (q.2.mono hb.size)⟩)
  have c0 : W1.cell? ⟨b, 0, none⟩ = some (.slice rp P.rules.length rc) := cell_low (cell_at h.at_ rfl) hB (block_lt h.at_)
  have HC := hid hcell
  have HB := hid hB
  have HB1 := hid b1
  have HX := hid hix
  have HA := hid (cell_at h.at_ (j := 0) rfl)
  clear hcell hix hpol h hF b0 b1 hB
  go_enter Tryd.func73, Tryd.ntmps73
  go_upto_region 1 with fail
  go_wp2_with fail
  refine HX.out.mono ?_
  rintro e W2 ⟨rfl, hb2⟩
  have hb1 := (hb2.block _ (block_lt HB1.out)).trans HB1.out
  have hbel := HB.out.trans (hb2.mono HB.out.size)
  have d0 : W2.cell? ⟨b, 0, none⟩ = some (.slice rp P.rules.length rc) := cell_low c0 hb2 (cell_block c0)
  have z0 := cell_at hb1 (j := 0) rfl
  have z1 := cell_at hb1 (j := 1) rfl
  have y0 := free_at hb1 0
  have y1 := free_at hb1 1
  have hlo : w.heap.size < w.heap.size + 1 := by omega
  cases hr : ruleL P.rules x.toList with
  | none =>
    have hi := ruleL_none hr
    have HRR := hid hr
    have HF := hid (And.intro hb1 hbel)
    rw [hi]
    clear hr hi hb2 hbel hb1 HX HB HB1 hW1 c0 d0
    go_wp2_with fail
    have j0 := just_put (j := 0) (cs2 := #[.string ⟨#[]⟩, .slice none 0 0]) HF.out.1 (.string ⟨#[]⟩) (by simp)
    have j1 := just_put (j := 1) (cs2 := #[.string ⟨#[]⟩, .slice none 0 0]) j0.at_ (.slice none 0 0) (by simp)
    refine bodyPost_ret (v := .tuple #[.agg #[.string ⟨#[]⟩, .slice none 0 0], .bool false]) (results_two rfl _ _ _ _ _ _ _ rfl j1.at_ Tryd.underlying73 rfl (by kernel_rfl) _ rfl) rfl ⟨_, rfl, by rw [HRR.out]; rfl, ?_⟩
    exact (HF.out.2.trans (just_low j0 (by omega))).trans (just_low j1 (by omega))
  | some l =>
    obtain ⟨k, hk, hi⟩ := ruleL_some hr
    have HRR := hid hr
    obtain ⟨bb, o, u, rfl, q1, q2, q3⟩ := HC.out k _ hk
    have hkl := (List.getElem?_eq_some_iff.1 hk).1
    obtain ⟨up, uc, rfl, _⟩ := q3.len
    have HQ := hid q3
    have HF := hid (And.intro hb1 hbel)
    simp only at q1
    rw [bs_toList2] at q1
    replace q1 := cell_low q1 hbel (cell_block q1)
    replace q2 := cell_low q2 hbel (cell_block q2)
    rw [hi]
    have hxx := hid (bs_toList2 x)
    clear hr hi hb2 hbel hb1 HX HB HB1 hW1 c0 hk HC q3
    go_wp2_with fail
    have j0 := just_put (j := 0) (cs2 := #[.string x, .slice none 0 0]) HF.out.1 (.string x) (by simp)
    have j1 := just_put (j := 1) (cs2 := #[.string x, .slice up l.length uc]) j0.at_ (.slice up l.length uc) (by simp)
    refine bodyPost_ret (v := .tuple #[.agg #[.string x, .slice up l.length uc], .bool true]) (results_two rfl _ _ _ _ _ _ _ rfl j1.at_ Tryd.underlying73 rfl (by kernel_rfl) _ rfl) rfl ⟨_, rfl, by rw [HRR.out]; exact ⟨_, by rw [hxx.out], HQ.out⟩, ?_⟩
    exact (HF.out.2.trans (just_low j0 (by omega))).trans (just_low j1 (by omega))
end Go.Proofs.YtkcgmimldjeaiaaDoor

/-
  Package sieve: an attribute's value, the attributes that stay: their walks.
-/
namespace Go.Proofs.YtkcgmimldjeaiaaDoor
open Go.RowKit Go.Lib Own

/-- the value that an attribute is to have, and whether it stays -/
def valueA (schemes : List (List UInt8)) (a : AttrP) : List UInt8 × Bool := if isLinkL a.1 = true then linkL schemes a.2 else (a.2, true)
theorem keptA_cons (schemes listed seen : List (List UInt8)) (a : AttrP) (r : List AttrP) : keptA schemes listed seen (a :: r) =
    if listed.contains a.1 = false ∨ seen.contains a.1 = true then keptA schemes listed seen r else (if (valueA schemes a).2 = true then [(a.1, (valueA schemes a).1)] else []) ++ keptA schemes listed (seen ++ [a.1]) r := by
  rw [keptA]
  unfold valueA
  split
  · rfl
  · split
    · split <;> rfl
    · rfl
theorem ret_sb {a b : ByteArray} {x y : Bool} (h : a = b) (k : x = y) : Ending.returned (.tuple #[.string a, .bool x]) = .returned (.tuple #[.string b, .bool y]) := by rw [h, k]

set_option maxHeartbeats 4000000 in
set_option maxRecDepth 100000 in
theorem cleanValue_any (w0 : World) (b : Nat) (vr vs vd : Value) (P : PolP) (sk : List UInt8) (cnt : Nat) (a : AttrP) (w : World) (h : SvAt w0 w b vr vs vd P sk cnt) (ha : a.2.length ≤ 4000000) :
    Calls Tryd.prog 129 #[.pointer (some ⟨b, 0, none⟩), .agg #[.string (bs a.1), .string (bs a.2)]] w fun e w' => e = .returned (.tuple #[.string (bs (valueA P.schemes a).1), .bool (valueA P.schemes a).2]) ∧ Below w.heap.size w w' := by
  have hlk := fun W => isLink_any (bs a.1) W
  rw [bs_toList] at hlk
  have hB : Below w.heap.size w (w.alloc (.cells #[.string (bs a.1), .string (bs a.2)] 101)) := (Below.refl w.heap.size w).alloc (Nat.le_refl _) _
  have b0 := heap_alloc_new w (.cells #[.string (bs a.1), .string (bs a.2)] 101)
  obtain ⟨W1, hW1⟩ : ∃ W1, w.alloc (.cells #[.string (bs a.1), .string (bs a.2)] 101) = W1 := ⟨_, rfl⟩
  rw [hW1] at hB b0
  have hS1 := h.below hB
  obtain ⟨sp, sc, hvs, _⟩ := hS1.cur.schemes.len
  subst hvs
  have c1 := cell_at hS1.at_ (j := 1) rfl
  have hcl := fun W hW => cleanURL_any (.slice sp P.schemes.length sc) P.schemes (bs a.2) W hW (by rw [bs_size]; omega)
  rw [bs_data] at hcl
  have hw1 := hS1.cur.schemes
  have d0 := cell_at b0 (j := 0) rfl
  have d1 := cell_at b0 (j := 1) rfl
  unfold valueA
  obtain ⟨S1, hS1'⟩ : ∃ S, bs a.1 = S := ⟨_, rfl⟩
  obtain ⟨S2, hS2'⟩ : ∃ S, bs a.2 = S := ⟨_, rfl⟩
  rw [hS1', hS2'] at hW1
  rw [hS1'] at hlk d0
  rw [hS2'] at hcl d1
  have HB := hid hB
  have HS2 := hid hS2'
  rw [hS1', hS2']
  have HLK := hid hlk
  have HW1 := hid hw1
  clear hlk hS1 hB b0 h hS1' hS2' hw1
  by_cases hl : isLinkL a.1 = true
  · rw [if_pos hl]
    rw [hl] at HLK
    generalize linkL P.schemes a.2 = q at hcl ⊢
    obtain ⟨q1, q2⟩ := q
    simp only at hcl ⊢
    obtain ⟨Q, hQ⟩ : ∃ Q, bs q1 = Q := ⟨_, rfl⟩
    rw [hQ] at hcl ⊢
    have HCL := hid hcl
    clear hcl hQ HS2
    go_enter Tryd.func129, Tryd.ntmps129
    go_upto_region 1 with fail
    clear hW1
    go_wp2_with fail
    refine (HLK.out _).mono ?_
    rintro e W2 ⟨rfl, rfl⟩
    go_wp2_with fail
    go_region_with (first | (go_at_call 140; refine (HCL.out _ (by exact HW1.out)).mono ?_; rintro e W3 ⟨rfl, b3⟩; have HB3 : Hid (Below W2.heap.size W2 W3) := ⟨b3.os, b3.tape, b3.output, b3.size, b3.block⟩; clear b3))
    all_goals
      go_wp2_with fail
      go_ret2
      exact ⟨rfl, HB.out.trans (HB3.out.mono HB.out.size)⟩
  · rw [if_neg hl]
    rw [Bool.not_eq_true] at hl
    rw [hl] at HLK
    clear hcl HW1 c1
    simp only
    go_enter Tryd.func129, Tryd.ntmps129
    go_upto_region 1 with fail
    clear hW1
    go_wp2_with fail
    refine (HLK.out _).mono ?_
    rintro e W2 ⟨rfl, rfl⟩
    go_wp2_with fail
    go_ret2
    exact ⟨ret_sb HS2.out.symm rfl, HB.out⟩

set_option maxHeartbeats 8000000 in
set_option maxRecDepth 100000 in
theorem cleanAttrs_any (w0 : World) (b : Nat) (vr vs vd : Value) (P : PolP) (sk : List UInt8) (cnt : Nat) (rn : List UInt8) (ru : Value) (listed : List (List UInt8)) (av : Value) (al : List AttrP) (w : World) (h : SvAt w0 w b vr vs vd P sk cnt) (hr : Words w ru listed) (ha : AttrsR w av al) (hl : bulkA al ≤ 4000000) :
    Calls Tryd.prog 109 #[.pointer (some ⟨b, 0, none⟩), .agg #[.string (bs rn), ru], av] w fun e w' => ∃ v, e = .returned v ∧ w'.ownsRow w.heap.size 101 2 v (keptA P.schemes listed [] al).length (attrsV (keptA P.schemes listed [] al)) ∧ Below w.heap.size w w' := by
  obtain ⟨ap, ac, rfl, _, _, hcell, _⟩ := ha
  obtain ⟨rp, rc, rfl, _⟩ := hr.len
  obtain ⟨R, hR⟩ : ∃ R, keptA P.schemes listed [] al = R := ⟨_, rfl⟩
  have hRb : R.length ≤ 4000000 := by rw [← hR]; have := (keptA_bulk P.schemes listed al []).2; have := bulkA_len al; omega
  rw [hR]
  have hB : Below w.heap.size w (w.alloc (.cells #[.string (bs rn), .slice rp listed.length rc] 73)) := (Below.refl w.heap.size w).alloc (Nat.le_refl _) _
  have b0 := heap_alloc_new w (.cells #[.string (bs rn), .slice rp listed.length rc] 73)
  have H0 := hid (And.intro hB b0)
  have HS := hid h
  have HC := hid hcell
  have HW := hid hr
  have HR := hid (fun (_ : True) => (hR : [] ++ keptA P.schemes listed [] (al.drop 0) = R))
  have HRB := hid hRb
  have hall := bulkA_len al
  have hlen : al.length ≤ 4000000 := by omega
  have HL := hid hl
  obtain ⟨si, hsi, hs0, hs1, hs2⟩ := info_parts info_str
  obtain ⟨ai, hai, ha0, ha1, ha2⟩ := info_parts info_attr
  clear h hcell hr hR hB b0 hRb hall hl
  go_enter Tryd.func109, Tryd.ntmps109
  go_wp2_with fail
  go_loopw [7, 8, 15] (fun cv mv iv wr => ∃ (k : Nat) (kept : List AttrP) (seen : List (List UInt8)), iv = .int .i64 k ∧ k ≤ al.length ∧ Hid (wr.ownsRow w.heap.size 101 2 cv kept.length (attrsV kept) ∧ wr.ownsRow w.heap.size 9 1 mv seen.length (wordsV seen) ∧ Below w.heap.size w wr ∧ wr.heap[w.heap.size]? = some (.cells #[.string (bs rn), .slice rp listed.length rc] 73 (0, 0)) ∧ kept.length ≤ k ∧ seen.length ≤ k) ∧ Hid (True → kept ++ keptA P.schemes listed seen (al.drop k) = R)) (fun _ _ iv _ => al.length - (RowKit.intOf iv).toNat)
  case atStart => exact ⟨0, [], [], rfl, Nat.zero_le _, hid ⟨World.ownsRow_nil _ _ _ _, World.ownsRow_nil _ _ _ _, H0.out.1, H0.out.2, Nat.le_refl _, Nat.le_refl _⟩, HR⟩
  case round =>
    obtain ⟨k, kept, seen, rfl, hk, HX, HK⟩ := hrel
    obtain ⟨cp, cc, rfl⟩ := row_shape HX.out.1
    obtain ⟨mp, mc, rfl⟩ := row_shape HX.out.2.1
    clear H0 HR
    by_cases hkl : k < al.length
    · obtain ⟨a, hak⟩ : ∃ a, al[k]? = some a := ⟨_, List.getElem?_eq_getElem hkl⟩
      obtain ⟨bb, o, rfl, q1, q2⟩ := HC.out k a hak
      obtain ⟨hown, hmet, hbw, hbox, hkn, hsn⟩ := HX.out
      have hab := bulkA_get hak
      have hLL := HL.out
      replace q1 := cell_low q1 hbw (cell_block q1)
      replace q2 := cell_low q2 hbw (cell_block q2)
      have hd := HK.out trivial
      rw [drop_at hak, keptA_cons] at hd
      -- the box of the attribute
      obtain ⟨W1, hW1⟩ : ∃ W1, wr.alloc (.cells #[.string (bs a.1), .string (bs a.2)] 101) = W1 := ⟨_, rfl⟩
      have hb1 : Below wr.heap.size wr W1 := by rw [← hW1]; exact (Below.refl _ _).alloc (Nat.le_refl _) _
      have hn1 : W1.heap[wr.heap.size]? = some (.cells #[.string (bs a.1), .string (bs a.2)] 101 (0, 0)) := by rw [← hW1]; exact heap_alloc_new _ _
      have hbw1 := hbw.trans (hb1.mono hbw.size)
      have hbox1 := (hb1.block _ (block_lt hbox)).trans hbox
      have hown1 := row_below hown hb1
      have hmet1 := row_below hmet hb1
      have hmw : Words W1 (.slice mp seen.length mc) seen := Words.row hmet1
      have hct1 := slContains_any (.slice rp listed.length rc) listed (bs a.1) W1 (HW.out.below hbw1)
      have hct2 := slContains_any (.slice mp seen.length mc) seen (bs a.1) W1 hmw
      rw [bs_toList] at hct1 hct2
      have hcv := fun W hb => cleanValue_any w0 b vr vs vd P sk cnt a W (HS.out.below hb) (by omega)
      have d0 := cell_at hn1 (j := 0) rfl
      have d1 := cell_at hn1 (j := 1) rfl
      have e1 := cell_at hbox1 (j := 1) rfl
      have HCV := hid hcv
      have HCT1 := hid hct1
      have HCT2 := hid hct2
      have H1 := hid (And.intro hown1 (And.intro hmet1 (And.intro hbw1 (And.intro hbox1 hn1))))
      obtain ⟨c1, hc1⟩ : ∃ c1, listed.contains a.1 = c1 := ⟨_, rfl⟩
      obtain ⟨c2, hc2⟩ : ∃ c2, seen.contains a.1 = c2 := ⟨_, rfl⟩
      rw [hc1] at HCT1 hd
      rw [hc2] at HCT2 hd
      clear hcv hct1 hct2 hmw hown hmet hbw hbox hown1 hmet1 hbw1 hbox1 hn1 hb1 hak hab hLL hc1 hc2 HX HK HC
      go_upto_region 6 with fail
      clear hW1 q1 q2
      cases c1 with
      | false =>
        rw [if_pos (.inl rfl)] at hd
        have HD := hid (fun (_ : True) => hd)
        clear hd HCV HCT2
        go_wp2_with fail
        refine HCT1.out.mono ?_
        rintro r W2 ⟨rfl, rfl⟩
        go_wp2_with fail
        go_roundw
        case rel => exact ⟨k + 1, kept, seen, rfl, by omega, hid ⟨H1.out.1, H1.out.2.1, H1.out.2.2.1, H1.out.2.2.2.1, by omega, by omega⟩, HD⟩
        case measure => simp [RowKit.intOf]; omega
      | true =>
        go_wp2_with fail
        refine HCT1.out.mono ?_
        rintro r W2 ⟨rfl, rfl⟩
        cases c2 with
        | true =>
          rw [if_pos (.inr rfl)] at hd
          have HD := hid (fun (_ : True) => hd)
          clear hd HCV
          go_wp2_with fail
          refine HCT2.out.mono ?_
          rintro r W2 ⟨rfl, rfl⟩
          go_wp2_with fail
          go_roundw
          case rel => exact ⟨k + 1, kept, seen, rfl, by omega, hid ⟨H1.out.1, H1.out.2.1, H1.out.2.2.1, H1.out.2.2.2.1, by omega, by omega⟩, HD⟩
          case measure => simp [RowKit.intOf]; omega
        | false =>
          rw [if_neg (by simp)] at hd
          have HD := hid (fun (_ : True) => hd)
          clear hd
          go_wp2_with fail
          refine HCT2.out.mono ?_
          rintro r W2 ⟨rfl, rfl⟩
          obtain ⟨hown, hmet, hbw, hbox, hn1⟩ := H1.out
          have hbs := hbw.size
          have hbx := block_lt hn1
          clear HCT1 HCT2 e1
          go_wp2_with (at_builtin; refine wpList_append_own _ rfl (.tmp 31) (.tmp 34) 23 rfl w.heap.size 9 si (.string ⟨#[]⟩) 1 16 Tryd.underlying23 hsi hs0 hs1 hs2 rfl (by decide) _ _ _ rfl (hmet.alloc _) ⟨_, 0, none⟩ 1 1 [.string (bs a.1)] rfl rfl (cells_newV _ _ _) (by simp [Value.oneCell']) (by unfold maxLen; omega) (by omega) (by simp; omega) ?_)
          intro v3 W3 hown3 hgrow3 _
          have hma := hmet.alloc (.cells #[.string (bs a.1)] 9)
          have hn3 := grown_at hgrow3 ((Go.Lib.alloc_old _ (.cells #[.string (bs a.1)] 9) _ (block_lt hn1)).trans hn1) (row_ne hma ((Go.Lib.alloc_old _ _ _ (block_lt hn1)).trans hn1) (by decide))
          have hbox3 := grown_at hgrow3 ((Go.Lib.alloc_old _ (.cells #[.string (bs a.1)] 9) _ (block_lt hbox)).trans hbox) (row_ne hma ((Go.Lib.alloc_old _ _ _ (block_lt hbox)).trans hbox) (by decide))
          have hown3k := (hown.alloc (.cells #[.string (bs a.1)] 9)).kept hgrow3 (rows_ne (hown.alloc _) hma (by decide))
          have hbw3 := (hbw.alloc hbs (.cells #[.string (bs a.1)] 9)).grown hgrow3 (by simp; omega) (fun k hk => (hma.lt k hk).1)
          have hcv := HCV.out W3 (by
            refine ⟨hbw3.os, hbw3.tape, hbw3.output, hbw3.size, hbw3.block⟩)
          have hmet3 : W3.ownsRow w.heap.size 9 1 v3 (seen ++ [a.1]).length (wordsV (seen ++ [a.1])) := by
            rw [List.length_append, wordsV_app]
            exact hown3
          obtain ⟨vp3, vc3, rfl⟩ := row_shape hown3
          have d0 := cell_at hn3 (j := 0) rfl
          have d1 := cell_at hn3 (j := 1) rfl
          have HD3 := hid (And.intro hown3k (And.intro hmet3 (And.intro hbw3 (And.intro hbox3 hn3))))
          generalize valueA P.schemes a = q at hcv HD
          obtain ⟨x1, x2⟩ := q
          simp only at hcv HD
          obtain ⟨X, hX⟩ : ∃ X, bs x1 = X := ⟨_, rfl⟩
          rw [hX] at hcv
          have HCV3 := hid hcv
          have HXX := hid hX
          clear hma hn3 hbox3 hown3k hbw3 hcv hmet3 hown3 hgrow3 hown hmet hbw hbox hn1 H1 HCV hX
          go_wp2_with fail
          refine HCV3.out.mono ?_
          rintro r W4 ⟨rfl, b4⟩
          obtain ⟨hown3k, hmet3, hbw3, hbox3, hn3⟩ := HD3.out
          have hown4 := row_below hown3k b4
          have hmet4 := row_below hmet3 b4
          have hbw4 := hbw3.trans (b4.mono hbw3.size)
          have hbox4 := (b4.block _ (block_lt hbox3)).trans hbox3
          have hn4 := (b4.block _ (block_lt hn3)).trans hn3
          replace d0 := cell_at hn4 (j := 0) rfl
          have hsl : (seen ++ [a.1]).length = seen.length + 1 := by rw [List.length_append]; rfl
          have HSL := hid hsl
          clear hown3k hmet3 hbw3 hbox3 hn3 b4 d1 HD3 HCV3 hsl
          cases x2 with
          | false =>
            have HD4 := hid (fun (_ : True) => (by have := HD.out trivial; rwa [if_neg (by simp), List.nil_append] at this : kept ++ keptA P.schemes listed (seen ++ [a.1]) (al.drop (k + 1)) = R))
            have HZ := hid (And.intro hown4 (And.intro hmet4 (And.intro hbw4 (And.intro hbox4 (And.intro (show kept.length ≤ k + 1 by omega) (show (seen ++ [a.1]).length ≤ k + 1 by rw [HSL.out]; omega))))))
            clear hown4 hmet4 hbw4 hbox4 hn4 HD d0
            go_wp2_with fail
            go_roundw
            case rel => exact ⟨k + 1, kept, seen ++ [a.1], rfl, by omega, HZ, HD4⟩
            case measure => simp [RowKit.intOf]; omega
          | true =>
            have HD4 := hid (fun (_ : True) => (by have := HD.out trivial; rwa [if_pos rfl, ← List.append_assoc] at this : (kept ++ [(a.1, x1)]) ++ keptA P.schemes listed (seen ++ [a.1]) (al.drop (k + 1)) = R))
            have hbs4 := hbw4.size
            clear HD
            go_wp2_with (at_builtin; refine wpList_append_own _ rfl (.tmp 43) (.tmp 48) 37 rfl w.heap.size 101 ai (.agg #[.string ⟨#[]⟩, .string ⟨#[]⟩]) 2 32 Tryd.underlying37 hai ha0 ha1 ha2 rfl (by decide) _ _ _ rfl (hown4.alloc _) ⟨_, 0, none⟩ 1 1 [.string (bs a.1), .string X] rfl rfl (cells_newV _ _ _) (by simp [Value.oneCell']) (by unfold maxLen; omega) (by omega) (by simp; omega) ?_)
            intro v5 W5 hown5 hgrow5 _
            have hma := hown4.alloc (.cells #[.string (bs a.1), .string X] 101)
            have hbox5 := grown_at hgrow5 ((Go.Lib.alloc_old _ (.cells #[.string (bs a.1), .string X] 101) _ (block_lt hbox4)).trans hbox4) (row_ne hma ((Go.Lib.alloc_old _ _ _ (block_lt hbox4)).trans hbox4) (by decide))
            have hmet5 := (hmet4.alloc (.cells #[.string (bs a.1), .string X] 101)).kept hgrow5 (rows_ne (hmet4.alloc _) hma (by decide))
            have hbw5 := (hbw4.alloc hbs4 (.cells #[.string (bs a.1), .string X] 101)).grown hgrow5 (by simp; omega) (fun k hk => (hma.lt k hk).1)
            have hkept5 : W5.ownsRow w.heap.size 101 2 v5 (kept ++ [(a.1, x1)]).length (attrsV (kept ++ [(a.1, x1)])) := by
              rw [List.length_append, attrsV_app, show attrsV [(a.1, x1)] = [.string (bs a.1), .string X] by rw [← HXX.out]; rfl]
              exact hown5
            have HZ := hid (And.intro hkept5 (And.intro hmet5 (And.intro hbw5 (And.intro hbox5 (And.intro (show (kept ++ [(a.1, x1)]).length ≤ k + 1 by rw [List.length_append]; simp; omega) (show (seen ++ [a.1]).length ≤ k + 1 by rw [HSL.out]; omega))))))
            clear hown4 hmet4 hbw4 hbox4 hn4 d0 hma hbox5 hmet5 hbw5 hkept5 hown5 hgrow5
            go_wp2
            go_roundw
            case rel => exact ⟨k + 1, _, _, rfl, by omega, HZ, HD4⟩
            case measure => simp [RowKit.intOf]; omega
    · obtain rfl : kept = R := by
        have := HK.out trivial
        rw [List.drop_of_length_le (by omega)] at this
        rwa [show keptA P.schemes listed seen [] = [] by rw [keptA], List.append_nil] at this
      have HZ := hid (And.intro HX.out.1 HX.out.2.2.1)
      clear HK HX HC HS HW
      go_wp2_with fail
      go_ret
      exact ⟨_, rfl, HZ.out.1, HZ.out.2⟩
end Go.Proofs.YtkcgmimldjeaiaaDoor

/-
  Package sieve: an event within a skip, a Start outside of one: their walks.
-/
namespace Go.Proofs.YtkcgmimldjeaiaaDoor
open Go.RowKit Go.Lib Own

def zeroEv : Array Value := #[.int .i64 0, .string ⟨#[]⟩, .slice none 0 0, .string ⟨#[]⟩]
/-- what is left of an event -/
def TakeV (W : World) (base : Nat) : Option Ev → Value → Prop
  | none, v => v = .tuple #[.agg zeroEv, .bool false]
  | some ev, v => ∃ k n p m c t, v = .tuple #[.agg #[.int .i64 k, .string n, .slice p m c, .string t], .bool true] ∧ EvsAt W base [.int .i64 k, .string n, .slice p m c, .string t] [ev]

theorem grown_drewN {w W : World} {r : Option Nat} (h : w.grownBy W r) (q : Nat) : w.grownBy (W.drewN q) r := ⟨h.os, h.tape, h.output, h.size, h.block⟩
theorem int_ne' {a b : Int} (h : a ≠ b) : (a == b) = false := beq_eq_false_iff_ne.2 h
theorem sieve_cells {W : World} {b : Nat} {vr vs vd : Value} {P : PolP} {sk : List UInt8} {n : Nat} (h : W.heap[b]? = some (.cells (sieveC vr vs vd P sk n) 119 (0, 0))) :
    W.cell? ⟨b, 2, none⟩ = some vd ∧ W.cell? ⟨b, 4, none⟩ = some (.int .i64 P.window) ∧ W.cell? ⟨b, 5, none⟩ = some (.string (bs sk)) ∧ W.cell? ⟨b, 6, none⟩ = some (.int .i64 n) ∧ W.frozen? ⟨b, 5, none⟩ = false ∧ W.frozen? ⟨b, 6, none⟩ = false :=
  ⟨cell_at h rfl, cell_at h rfl, cell_at h rfl, cell_at h rfl, free_at h 5, free_at h 6⟩
theorem sieve_count {W : World} {b : Nat} {vr vs vd : Value} {P : PolP} {sk : List UInt8} {n : Nat} (h : W.heap[b]? = some (.cells (sieveC vr vs vd P sk n) 119 (0, 0))) (m : Nat) : Just W (W.setCell ⟨b, 6, none⟩ (.int .i64 m)) b (sieveC vr vs vd P sk m) 119 :=
  just_put h _ (by unfold sieveC; simp)
theorem sieve_begin {W : World} {b : Nat} {vr vs vd : Value} {P : PolP} {sk : List UInt8} {n : Nat} (h : W.heap[b]? = some (.cells (sieveC vr vs vd P sk n) 119 (0, 0))) (x : ByteArray) (m : Nat) : Just W ((W.setCell ⟨b, 5, none⟩ (.string x)).setCell ⟨b, 6, none⟩ (.int .i64 m)) b (sieveC vr vs vd P x.data.toList m) 119 := by
  have h0 := just_put (j := 5) (cs2 := sieveC vr vs vd P x.data.toList n) h (.string x) (by unfold sieveC; simp [bs_of])
  exact h0.andThen (sieve_count h0.at_ m)

set_option maxHeartbeats 4000000 in
set_option maxRecDepth 100000 in
theorem sieveSkip_any (w0 : World) (b : Nat) (vr vs vd : Value) (P : PolP) (sk : List UInt8) (cnt : Nat) (e : EvP) (u : Value) (w : World) (h : SvAt w0 w b vr vs vd P sk cnt) (hu : ∃ p n c, u = .slice p n c) (hc0 : 0 < cnt) (hc : cnt ≤ 1000000000) :
    Calls Tryd.prog 71 #[.pointer (some ⟨b, 0, none⟩), .agg (evC e u)] w fun r w' => r = .returned (.tuple #[]) ∧ w'.heap[b]? = some (.cells (sieveC vr vs vd P sk (skipF (sk, cnt) e)) 119 (0, 0)) ∧ w.grownBy w' (some b) := by
  obtain ⟨p, n, c, rfl⟩ := hu
  have hB : Below w.heap.size w (w.alloc (.cells (evC e (.slice p n c)) 39)) := (Below.refl w.heap.size w).alloc (Nat.le_refl _) _
  have b0 := heap_alloc_new w (.cells (evC e (.slice p n c)) 39)
  obtain ⟨W1, hW1⟩ : ∃ W1, w.alloc (.cells (evC e (.slice p n c)) 39) = W1 := ⟨_, rfl⟩
  rw [hW1] at hB b0
  have hS1 := (h.below hB).at_
  obtain ⟨-, -, c5, c6, -, f6⟩ := sieve_cells hS1
  obtain ⟨d0, d1, -, -⟩ := evC_at b0
  have hne1 := bs_toList e.n
  have hne2 := bs_toList sk
  unfold evC at hW1 ⊢
  obtain ⟨N, hN⟩ : ∃ N, bs e.n = N := ⟨_, rfl⟩
  obtain ⟨S, hS⟩ : ∃ S, bs sk = S := ⟨_, rfl⟩
  rw [hN] at d1 hne1
  rw [hS] at c5 hne2
  simp only [hN] at hW1 ⊢
  have hg1 := grown_below hB (some b)
  have HX := hid (And.intro hS1 hg1)
  have fin : ∀ (m q : Nat), Hid (Just (W1.drewN q) ((W1.drewN q).setCell ⟨b, 6, none⟩ (.int .i64 m)) b (sieveC vr vs vd P sk m) 119) := fun m q => sieve_count (by exact hS1) m
  clear hS1 hg1 hN hS hB b0 h
  by_cases q : e.n = sk
  · have q2 : (N.toList == S.toList) = true := by rw [hne1, hne2, q]; simp
    have hsz : cnt < 9223372036854775807 := by omega
    by_cases k1 : e.k = 1
    · have es : skipF (sk, cnt) e = cnt + 1 := by unfold skipF; rw [if_pos ⟨q, k1⟩]
      rw [es]
      rw [k1] at d0 hW1
      simp only [k1]
      have FIN := fin (cnt + 1)
      clear hne1 hne2 q es k1 fin
      go_enter Tryd.func71, Tryd.ntmps71
      go_upto_region 1 with fail
      clear hW1
      go_quiet (fail)
      go_wp2
      go_end0
      have hj := (FIN nq).out
      exact ⟨rfl, hj.at_, (grown_drewN HX.out.2 nq).trans (just_grown hj)⟩
    · have n1 := int_ne' k1
      by_cases k2 : e.k = 2
      · have es : skipF (sk, cnt) e = cnt - 1 := by unfold skipF; rw [if_neg (fun h => k1 h.2), if_pos ⟨q, k2⟩]
        rw [es]
        rw [k2] at d0 hW1 n1
        simp only [k2]
        have FIN := fin (cnt - 1)
        have hcc : ((cnt - 1 : Nat) : Int) = (cnt : Int) - 1 := by omega
        rw [hcc] at FIN
        clear hne1 hne2 q es k1 k2 fin hcc
        go_enter Tryd.func71, Tryd.ntmps71
        go_upto_region 1 with fail
        clear hW1
        go_quiet (fail)
        go_wp2
        go_end0
        have hj := (FIN nq).out
        exact ⟨rfl, hj.at_, (grown_drewN HX.out.2 nq).trans (just_grown hj)⟩
      · have n2 := int_ne' k2
        have es : skipF (sk, cnt) e = cnt := by unfold skipF; rw [if_neg (fun h => k1 h.2), if_neg (fun h => k2 h.2)]
        rw [es]
        clear hne1 hne2 q es k1 k2 fin
        go_enter Tryd.func71, Tryd.ntmps71
        go_upto_region 1 with fail
        clear hW1
        go_quiet (fail)
        go_wp2
        go_end0
        exact ⟨rfl, HX.out.1, grown_drewN HX.out.2 nq⟩
  · have q2 : (N.toList == S.toList) = false := by rw [hne1, hne2]; exact beq_eq_false_iff_ne.2 q
    have es : skipF (sk, cnt) e = cnt := by unfold skipF; rw [if_neg (fun h => q h.1), if_neg (fun h => q h.1)]
    rw [es]
    clear hne1 hne2 q es fin
    go_enter Tryd.func71, Tryd.ntmps71
    go_upto_region 1 with fail
    clear hW1
    go_quiet (fail)
    go_wp2
    go_end0
    exact ⟨rfl, HX.out.1, grown_drewN HX.out.2 nq⟩
end Go.Proofs.YtkcgmimldjeaiaaDoor

/-
  Package sieve: a Start outside of a skip: its walk.
-/
namespace Go.Proofs.YtkcgmimldjeaiaaDoor
open Go.RowKit Go.Lib Own

theorem zero_just {W : World} {b : Nat} {a0 a1 a2 a3 p0 p1 p2 p3 : Value} {T : TypeId} (h : W.heap[b]? = some (.cells #[a0, a1, a2, a3] T (0, 0))) :
    Just W ((((W.setCell ⟨b, 0, none⟩ p0).setCell ⟨b, 1, none⟩ p1).setCell ⟨b, 2, none⟩ p2).setCell ⟨b, 3, none⟩ p3) b #[p0, p1, p2, p3] T := by
  have h0 := just_put (j := 0) (cs2 := #[p0, a1, a2, a3]) h p0 (by simp)
  have h1 := just_put (j := 1) (cs2 := #[p0, p1, a2, a3]) h0.at_ p1 (by simp)
  have h2 := just_put (j := 2) (cs2 := #[p0, p1, p2, a3]) h1.at_ p2 (by simp)
  have h3 := just_put (j := 3) (cs2 := #[p0, p1, p2, p3]) h2.at_ p3 (by simp)
  exact ((h0.andThen h1).andThen h2).andThen h3
/-- where a call's own boxes stand: the event's, the answer's, and the Sieve's cells -/
structure StA (w W : World) (b : Nat) (e : EvP) (u : Value) (cs : Array Value) : Prop where
  g : w.grownBy W (some b)
  s : W.heap[b]? = some (.cells cs 119 (0, 0))
  b0 : W.heap[w.heap.size]? = some (.cells (evC e u) 39 (0, 0))
  b1 : W.heap[w.heap.size + 1]? = some (.cells zeroEv 39 (0, 0))
  bb : b < w.heap.size
theorem StA.below {w W W' : World} {b : Nat} {e : EvP} {u : Value} {cs : Array Value} (h : StA w W b e u cs) (hb : Below W.heap.size W W') : StA w W' b e u cs :=
  ⟨h.g.trans (grown_below hb _), (hb.block _ (block_lt h.s)).trans h.s, (hb.block _ (block_lt h.b0)).trans h.b0, (hb.block _ (block_lt h.b1)).trans h.b1, h.bb⟩
theorem StA.drewN {w W : World} {b : Nat} {e : EvP} {u : Value} {cs : Array Value} (h : StA w W b e u cs) (q : Nat) : StA w (W.drewN q) b e u cs := ⟨grown_drewN h.g q, h.s, h.b0, h.b1, h.bb⟩
/-- the answer is written -/
theorem StA.done {w W : World} {b : Nat} {e : EvP} {u : Value} {cs : Array Value} (h : StA w W b e u cs) (p0 p1 p2 p3 : Value) :
    Hid (((((W.setCell ⟨w.heap.size + 1, 0, none⟩ p0).setCell ⟨w.heap.size + 1, 1, none⟩ p1).setCell ⟨w.heap.size + 1, 2, none⟩ p2).setCell ⟨w.heap.size + 1, 3, none⟩ p3).heap[w.heap.size + 1]? = some (.cells #[p0, p1, p2, p3] 39 (0, 0)) ∧
      ((((W.setCell ⟨w.heap.size + 1, 0, none⟩ p0).setCell ⟨w.heap.size + 1, 1, none⟩ p1).setCell ⟨w.heap.size + 1, 2, none⟩ p2).setCell ⟨w.heap.size + 1, 3, none⟩ p3).heap[b]? = some (.cells cs 119 (0, 0)) ∧
      w.grownBy ((((W.setCell ⟨w.heap.size + 1, 0, none⟩ p0).setCell ⟨w.heap.size + 1, 1, none⟩ p1).setCell ⟨w.heap.size + 1, 2, none⟩ p2).setCell ⟨w.heap.size + 1, 3, none⟩ p3) (some b)) := by
  have hb1 := h.b1
  unfold zeroEv at hb1
  have j := zero_just (p0 := p0) (p1 := p1) (p2 := p2) (p3 := p3) hb1
  have hbb := h.bb
  refine ⟨j.at_, (j.other b (by omega)).trans h.s, ?_⟩
  have hg := h.g
  exact ⟨j.os.trans hg.os, j.tape.trans hg.tape, j.output.trans hg.output, by rw [j.size]; exact hg.size, fun k hk hne => (j.other k (by omega)).trans (hg.block k hk hne)⟩
theorem StA.cells {w W : World} {b : Nat} {e : EvP} {u : Value} {cs : Array Value} (h : StA w W b e u cs) :
    W.cell? ⟨w.heap.size + 1, 0, none⟩ = some (.int .i64 0) ∧ W.cell? ⟨w.heap.size + 1, 1, none⟩ = some (.string ⟨#[]⟩) ∧ W.cell? ⟨w.heap.size + 1, 2, none⟩ = some (.slice none 0 0) ∧ W.cell? ⟨w.heap.size + 1, 3, none⟩ = some (.string ⟨#[]⟩) ∧
    W.frozen? ⟨w.heap.size + 1, 0, none⟩ = false ∧ W.frozen? ⟨w.heap.size + 1, 1, none⟩ = false ∧ W.frozen? ⟨w.heap.size + 1, 2, none⟩ = false ∧ W.frozen? ⟨w.heap.size + 1, 3, none⟩ = false :=
  ⟨cell_at h.b1 rfl, cell_at h.b1 rfl, cell_at h.b1 rfl, cell_at h.b1 rfl, free_at h.b1 0, free_at h.b1 1, free_at h.b1 2, free_at h.b1 3⟩

set_option maxHeartbeats 8000000 in
set_option maxRecDepth 100000 in
theorem start_any (w0 : World) (b : Nat) (vr vs vd : Value) (P : PolP) (sk : List UInt8) (e : EvP) (u : Value) (m : Int) (w : World) (h : SvAt w0 w b vr vs vd P sk 0) (hF : P.Few) (hu : AttrsR w u e.a) (hs : e.n.length + bulkA e.a ≤ 4000000) (hk : e.k = 1)
    (hm : w.cell? ⟨10, 0, none⟩ = some (.int .i64 m)) :
    Calls Tryd.prog 72 #[.pointer (some ⟨b, 0, none⟩), .agg (evC e u)] w fun r w' => ∃ v, r = .returned v ∧ TakeV w' w.heap.size (sieveL P (sk, 0) e).2 v ∧ w'.heap[b]? = some (.cells (sieveC vr vs vd P (sieveL P (sk, 0) e).1.1 (sieveL P (sk, 0) e).1.2) 119 (0, 0)) ∧ w.grownBy w' (some b) := by
  obtain ⟨up, uc, rfl⟩ := hu.len
  have f3 := hF.drop
  have w0' := hF.w0
  have w1' := hF.w1
  obtain ⟨W1, hW1⟩ : ∃ W1, (w.alloc (.cells (evC e (.slice up e.a.length uc)) 39)).alloc (.cells zeroEv 39) = W1 := ⟨_, rfl⟩
  have hB : Below w.heap.size w W1 := by rw [← hW1]; exact ((Below.refl w.heap.size w).alloc (Nat.le_refl _) _).alloc (by simp) _
  have hA : StA w W1 b e (.slice up e.a.length uc) (sieveC vr vs vd P sk 0) := by
    refine ⟨grown_below hB _, (hB.block b (block_lt h.at_)).trans h.at_, ?_, ?_, block_lt h.at_⟩
    · rw [← hW1]; exact (Go.Lib.alloc_old _ _ _ (by simp)).trans (heap_alloc_new w _)
    · rw [← hW1]; exact heap_two_new w _ _ _
  have hS1 := h.below hB
  obtain ⟨dp, dc, hvd, _⟩ := hS1.cur.drop.len
  subst hvd
  have hct := fun q => slContains_any (.slice dp P.drop.length dc) P.drop (bs e.n) (W1.drewN q) (hS1.cur.drop.drewN q)
  rw [bs_toList] at hct
  have hru := fun q => rule_any w0 b vr vs (.slice dp P.drop.length dc) P sk 0 (bs e.n) (W1.drewN q) ⟨hS1.at_, hS1.pol, ⟨hS1.be.os, hS1.be.tape, hS1.be.output, hS1.be.size, hS1.be.block⟩, hS1.lo⟩ hF
  rw [bs_toList] at hru
  have hcl := fun W (hb : Below W1.heap.size W1 W) ru listed (hr : Words W ru listed) => cleanAttrs_any w0 b vr vs (.slice dp P.drop.length dc) P sk 0 e.n ru listed (.slice up e.a.length uc) e.a W (hS1.below hb) hr ((hu.below hB).below hb) (by omega)
  have hst := fun W v al (ha : AttrsR W v al) (hbk : bulkA al ≤ bulkA e.a) hmm => startTag_any (bs e.n) v al m W (by rw [bs_size]; omega) ha (by omega) hmm
  rw [bs_data] at hst
  obtain ⟨d0, d1, d2, d3⟩ := evC_at hA.b0
  obtain ⟨c2, c4, c5, c6, f5, f6⟩ := sieve_cells hA.s
  obtain ⟨z0, z1, z2, z3, y0, y1, y2, y3⟩ := hA.cells
  have HA := hid hA
  have HM := hid (cell_low hm hB (cell_block hm))
  have HRU := hid hru
  have HCL := hid hcl
  have HST := hid hst
  have e1 : sieveL P (sk, 0) e = if P.drop.contains e.n = true then ((e.n, 1), none) else ((sk, 0), ruledF P e) := by
    unfold sieveL outL
    rw [if_neg (Nat.lt_irrefl 0), if_pos hk]
    by_cases hd : P.drop.contains e.n = true
    · rw [if_pos ⟨hk, hd⟩, if_pos hd]
    · rw [if_neg (fun h => hd h.2), if_neg hd]
  rw [e1]
  rw [hk] at d0
  obtain ⟨ro, hro⟩ : ∃ ro, ruledF P e = ro := ⟨_, rfl⟩
  rw [hro]
  have HRO := hid hro
  clear hro
  obtain ⟨cd, hcd⟩ : ∃ cd, P.drop.contains e.n = cd := ⟨_, rfl⟩
  rw [hcd] at hct ⊢
  have hnb := bs_data e.n
  obtain ⟨N, hN⟩ : ∃ N, bs e.n = N := ⟨_, rfl⟩
  rw [hN] at hct hnb d1
  simp only [hN] at HRU HST
  unfold evC zeroEv at hW1
  unfold evC
  simp only [hN] at hW1 ⊢
  simp only [hk] at hW1 ⊢
  have HCT := hid hct
  have HNB := hid hnb
  have HNN := hid hN
  clear hct hnb hN hcd e1 hA hS1 hru hcl hst h hu hF hm hB d3
  go_enter Tryd.func72, Tryd.ntmps72
  go_upto_region 1 with fail
  clear hW1
  go_quiet (first | (go_at_call 102; exact Calls.quiet_of_same (HCT.out _)))
  have HAq := HA.out.drewN nq
  cases cd with
  | true =>
    have hj := sieve_begin HAq.s N 1
    have hA2 : StA w (((W1.drewN nq).setCell ⟨b, 5, none⟩ (.string N)).setCell ⟨b, 6, none⟩ (.int .i64 (1 : Nat))) b e (.slice up e.a.length uc) (sieveC vr vs (.slice dp P.drop.length dc) P N.data.toList 1) :=
      ⟨HAq.g.trans (just_grown hj), hj.at_, (hj.other _ (by have := HAq.bb; omega)).trans HAq.b0, (hj.other _ (by have := HAq.bb; omega)).trans HAq.b1, HAq.bb⟩
    have HA2 := hid hA2
    clear hj hA2 HAq HRU HCL HST HM HA HCT
    go_upto_region 3 with fail
    obtain ⟨W3, hW3⟩ : ∃ W3, ((W1.drewN nq).setCell ⟨b, 5, none⟩ (.string N)).setCell ⟨b, 6, none⟩ (.int .i64 (1 : Nat)) = W3 := ⟨_, rfl⟩
    have hW3' : ((W1.drewN nq).setCell ⟨b, 5, none⟩ (.string N)).setCell ⟨b, 6, none⟩ (.int .i64 1) = W3 := hW3
    rw [hW3] at HA2
    simp only [hW3']
    clear hW3 hW3' z0 z1 z2 z3 y0 y1 y2 y3 c2 c4 c5 c6 f5 f6 d0 d1 d2
    obtain ⟨z0, z1, z2, z3, y0, y1, y2, y3⟩ := HA2.out.cells
    have HD := HA2.out.done (.int .i64 0) (.string ⟨#[]⟩) (.slice none 0 0) (.string ⟨#[]⟩)
    go_wp2_with fail
    refine bodyPost_ret (v := .tuple #[.agg zeroEv, .bool false]) (results_two rfl _ _ _ _ _ _ _ rfl HD.out.1 Tryd.underlying39 rfl (by kernel_rfl) _ rfl) rfl ⟨_, rfl, rfl, ?_, HD.out.2.2⟩
    have := HD.out.2.1
    rw [HNB.out] at this
    exact this
  | false =>
    clear HCT HA c5 c6 f5 f6
    go_wp2_with fail
    refine (HRU.out nq).mono ?_
    rintro r W2 ⟨rv, rfl, hrv, b2⟩
    have hA2 := HAq.below b2
    have b2' : Below W1.heap.size W1 W2 := ⟨b2.os, b2.tape, b2.output, b2.size, b2.block⟩
    have HM2 := hid (cell_low HM.out b2' (cell_block HM.out))
    clear HAq HM HRU z0 z1 z2 z3 y0 y1 y2 y3 c2 c4 d0 d1 d2
    cases hrl : ruleL P.rules e.n with
    | none =>
      rw [hrl] at hrv
      obtain rfl : rv = _ := hrv
      obtain rfl : ro = none := HRO.out.symm.trans (ruledF_none hrl)
      have hA3 : StA w (W2.alloc (.cells #[.string ⟨#[]⟩, .slice none 0 0] 73)) b e (.slice up e.a.length uc) (sieveC vr vs (.slice dp P.drop.length dc) P sk 0) := hA2.below ((Below.refl _ _).alloc (Nat.le_refl _) _)
      obtain ⟨z0, z1, z2, z3, y0, y1, y2, y3⟩ := hA3.cells
      have HD := hA3.done (.int .i64 0) (.string ⟨#[]⟩) (.slice none 0 0) (.string ⟨#[]⟩)
      clear hA2 hA3 hrl HM2 HCL HST b2 b2'
      go_wp2_with fail
      refine bodyPost_ret (v := .tuple #[.agg zeroEv, .bool false]) (results_two rfl _ _ _ _ _ _ _ rfl HD.out.1 Tryd.underlying39 rfl (by kernel_rfl) _ rfl) rfl ⟨_, rfl, rfl, HD.out.2⟩
    | some l =>
      rw [hrl] at hrv
      obtain ⟨ru, rfl, hwr⟩ := hrv
      have HRL := hid hrl
      obtain ⟨rp, rc, rfl, _⟩ := hwr.len
      have hwr2 : Words W2 (.slice rp l.length rc) l := hwr.below b2
      obtain ⟨W3, hW3⟩ : ∃ W3, W2.alloc (.cells #[.string (bs e.n), .slice rp l.length rc] 73) = W3 := ⟨_, rfl⟩
      have hb3 : Below W2.heap.size W2 W3 := by rw [← hW3]; exact (Below.refl _ _).alloc (Nat.le_refl _) _
      have hA3 := hA2.below hb3
      have hb13 := b2'.trans (hb3.mono b2'.size)
      have hcl := HCL.out W3 hb13 (.slice rp l.length rc) l (hwr2.below hb3)
      rw [HNN.out] at hcl
      obtain ⟨d0, d1, d2, -⟩ := evC_at hA3.b0
      have hr3 : W3.heap[W2.heap.size]? = some (.cells #[.string (bs e.n), .slice rp l.length rc] 73 (0, 0)) := by rw [← hW3]; exact heap_alloc_new _ _
      have r0 := cell_at hr3 (j := 0) rfl
      have r1 := cell_at hr3 (j := 1) rfl
      simp only [HNN.out] at hW3 r0 ⊢
      have HA3 := hid hA3
      have HM3 := hid (cell_low HM2.out hb3 (cell_block HM2.out))
      have HCL3 := hid hcl
      clear hA2 hA3 hrl HM2 HCL b2 b2' hb3 hb13 hcl hwr hwr2 hr3
      go_upto_region 7 with fail
      clear hW3
      go_wp2_with fail
      refine HCL3.out.mono ?_
      rintro r W4 ⟨av, rfl, hrow, b4⟩
      have hA4 := HA3.out.below b4
      have hkb := keptA_bulk P.schemes l e.a []
      have hat := attrsR_row hrow
      have hrow4 := row_low hrow HA3.out.g.size
      have hsf : ro = startF P e l := HRO.out.symm.trans (ruledF_some HRL.out)
      unfold startF at hsf
      generalize keptA P.schemes l [] e.a = K at hrow hkb hat hrow4 hsf
      obtain ⟨kp, kc, rfl⟩ := row_shape hrow
      have hm4 := cell_low HM3.out b4 (cell_block HM3.out)
      have hst := fun W (hb : Below W4.heap.size W4 W) => HST.out W (.slice kp K.length kc) K (hat.below hb) hkb.1 (cell_low hm4 hb (cell_block hm4))
      obtain ⟨S, hS⟩ : ∃ S, bs (openL e.n K) = S := ⟨_, rfl⟩
      have hSz : S.size = (openL e.n K).length := by rw [← hS, bs_size]
      rw [← hSz] at hsf
      simp only [hS] at hst
      have HST4 := hid hst
      obtain ⟨d0, d1, d2, -⟩ := evC_at hA4.b0
      rw [HNN.out] at d1
      obtain ⟨c2, c4, c5, c6, f5, f6⟩ := sieve_cells hA4.s
      obtain ⟨z0, z1, z2, z3, y0, y1, y2, y3⟩ := hA4.cells
      have HR4 := hid hrow4
      have HA4 := hid hA4
      have HSF := hid hsf
      clear hrow hkb hat hrow4 hsf hm4 hst hS hSz hA4 b4 HA3 HM3 HCL3 HST c2 c5 c6 f5 f6 r0 r1
      go_upto_region 8 with fail
      go_region_with (first | (go_at_call 110; refine (HST4.out _ (by exact ⟨rfl, rfl, rfl, Nat.le_refl _, fun _ _ => rfl⟩)).mono ?_; rintro r W5 ⟨rfl, b5⟩; have HB5 : Hid (Below W4.heap.size W4 W5) := ⟨b5.os, b5.tape, b5.output, b5.size, b5.block⟩; clear b5; obtain ⟨d0, d1, d2, -⟩ := evC_at (HA4.out.below HB5.out).b0; rw [HNN.out] at d1; have c4 := (sieve_cells (HA4.out.below HB5.out).s).2.1))
      all_goals
        have hA5 := HA4.out.below HB5.out
        have hrow5 := row_below HR4.out HB5.out
        clear z0 z1 z2 z3 y0 y1 y2 y3
        obtain ⟨z0, z1, z2, z3, y0, y1, y2, y3⟩ := hA5.cells
        by_cases hle : (S.size : Int) ≤ P.window
        · obtain rfl : ro = some (.start e.n K) := by have := HSF.out; rwa [if_pos hle] at this
          have q1 : ¬ ((S.size : Int) > P.window) := by omega
          have HD := hA5.done (.int .i64 1) (.string N) (.slice kp K.length kc) (.string ⟨#[]⟩)
          have hj := zero_just (p0 := .int .i64 1) (p1 := .string N) (p2 := .slice kp K.length kc) (p3 := .string ⟨#[]⟩) (by have := hA5.b1; unfold zeroEv at this; exact this)
          have hrow6 := row_of_block hrow5 (fun g hg => hj.other g (fun e => row_ne hrow5 hA5.b1 (by decide) (by rw [hg, e])))
          have HR6 := hid hrow6
          clear hA5 hrow5 hj hrow6 hle HSF
          go_wp2_with fail
          refine bodyPost_ret (v := .tuple #[.agg #[.int .i64 1, .string N, .slice kp K.length kc, .string ⟨#[]⟩], .bool true]) (results_two rfl _ _ _ _ _ _ _ rfl HD.out.1 Tryd.underlying39 rfl (by kernel_rfl) _ rfl) rfl ⟨_, rfl, ⟨1, N, kp, K.length, kc, ⟨#[]⟩, rfl, ⟨rfl, by rw [← HNN.out]; rfl, HR6.out, rfl⟩, trivial⟩, HD.out.2⟩
        · obtain rfl : ro = none := by have := HSF.out; rwa [if_neg hle] at this
          have q1 : (S.size : Int) > P.window := by omega
          have HD := hA5.done (.int .i64 0) (.string ⟨#[]⟩) (.slice none 0 0) (.string ⟨#[]⟩)
          clear hA5 hrow5 hle HSF
          go_wp2_with fail
          refine bodyPost_ret (v := .tuple #[.agg zeroEv, .bool false]) (results_two rfl _ _ _ _ _ _ _ rfl HD.out.1 Tryd.underlying39 rfl (by kernel_rfl) _ rfl) rfl ⟨_, rfl, rfl, HD.out.2⟩
end Go.Proofs.YtkcgmimldjeaiaaDoor

/-
  Package sieve: Take, New: their walks.
-/
namespace Go.Proofs.YtkcgmimldjeaiaaDoor
open Go.RowKit Go.Lib Own

theorem StA.grown {w W W' : World} {b : Nat} {e : EvP} {u : Value} {cs cs' : Array Value} (h : StA w W b e u cs) (g : W.grownBy W' (some b)) (s : W'.heap[b]? = some (.cells cs' 119 (0, 0))) : StA w W' b e u cs' :=
  have hb := h.bb
  ⟨h.g.trans g, s, (g.block _ (block_lt h.b0) (fun e => by cases e; omega)).trans h.b0, (g.block _ (block_lt h.b1) (fun e => by cases e; omega)).trans h.b1, hb⟩
theorem evs1_low {W : World} {B base : Nat} (hb : base ≤ B) {k n a t : Value} {ev : Ev} (h : EvsAt W B [k, n, a, t] [ev]) : EvsAt W base [k, n, a, t] [ev] := by
  cases ev with
  | text x => exact h
  | start n x => exact ⟨⟨h.1.1, h.1.2.1, row_low h.1.2.2.1 hb, h.1.2.2.2⟩, trivial⟩
  | stop x => exact h
/-- the answer's box is another block -/
theorem evs1_just {W W' : World} {base b : Nat} {cs cs' : Array Value} (hb : W.heap[b]? = some (.cells cs 39 (0, 0))) (j : Just W W' b cs' 39) {k n a t : Value} {ev : Ev} (h : EvsAt W base [k, n, a, t] [ev]) : EvsAt W' base [k, n, a, t] [ev] := by
  cases ev with
  | text x => exact h
  | start n x => exact ⟨⟨h.1.1, h.1.2.1, row_just h.1.2.2.1 hb (by decide) j.other, h.1.2.2.2⟩, trivial⟩
  | stop x => exact h

set_option maxHeartbeats 8000000 in
set_option maxRecDepth 100000 in
theorem take_any (w0 : World) (b : Nat) (vr vs vd : Value) (P : PolP) (sk : List UInt8) (cnt : Nat) (e : EvP) (u : Value) (m : Int) (w : World) (h : SvAt w0 w b vr vs vd P sk cnt) (hF : P.Few) (hu : AttrsR w u e.a) (hs : e.n.length + e.t.length + bulkA e.a ≤ 4000000) (hc : cnt ≤ 1000000000)
    (hm : w.cell? ⟨10, 0, none⟩ = some (.int .i64 m)) :
    Calls Tryd.prog 38 #[.pointer (some ⟨b, 0, none⟩), .agg (evC e u)] w fun r w' => ∃ v, r = .returned v ∧ TakeV w' w.heap.size (sieveL P (sk, cnt) e).2 v ∧ w'.heap[b]? = some (.cells (sieveC vr vs vd P (sieveL P (sk, cnt) e).1.1 (sieveL P (sk, cnt) e).1.2) 119 (0, 0)) ∧ w.grownBy w' (some b) := by
  obtain ⟨up, uc, rfl⟩ := hu.len
  obtain ⟨W1, hW1⟩ : ∃ W1, (w.alloc (.cells (evC e (.slice up e.a.length uc)) 39)).alloc (.cells zeroEv 39) = W1 := ⟨_, rfl⟩
  have hB : Below w.heap.size w W1 := by rw [← hW1]; exact ((Below.refl w.heap.size w).alloc (Nat.le_refl _) _).alloc (by simp) _
  have hA : StA w W1 b e (.slice up e.a.length uc) (sieveC vr vs vd P sk cnt) := by
    refine ⟨grown_below hB _, (hB.block b (block_lt h.at_)).trans h.at_, ?_, ?_, block_lt h.at_⟩
    · rw [← hW1]; exact (Go.Lib.alloc_old _ _ _ (by simp)).trans (heap_alloc_new w _)
    · rw [← hW1]; exact heap_two_new w _ _ _
  have hS1 := h.below hB
  have hu1 := hu.below hB
  have hm1 := cell_low hm hB (cell_block hm)
  obtain ⟨c2, c4, c5, c6, f5, f6⟩ := sieve_cells hA.s
  obtain ⟨d0, d1, d2, d3⟩ := evC_at hA.b0
  obtain ⟨z0, z1, z2, z3, y0, y1, y2, y3⟩ := hA.cells
  have HA := hid hA
  have hsz : w.heap.size ≤ W1.heap.size := hB.size
  by_cases hcz : 0 < cnt
  · have hsk := sieveSkip_any w0 b vr vs vd P sk cnt e (.slice up e.a.length uc) W1 hS1 ⟨_, _, _, rfl⟩ hcz hc
    have es : sieveL P (sk, cnt) e = ((sk, skipF (sk, cnt) e), none) := by unfold sieveL; rw [if_pos hcz]
    rw [es]
    simp only
    generalize skipF (sk, cnt) e = cnt2 at hsk ⊢
    have HSK := hid hsk
    unfold evC at hW1 HSK ⊢
    unfold zeroEv at hW1
    clear hsk es hS1 hu1 hm1 hA hB h hu hm hF
    go_enter Tryd.func38, Tryd.ntmps38
    go_upto_region 1 with fail
    clear hW1
    go_wp2_with fail
    refine HSK.out.mono ?_
    rintro r W2 ⟨rfl, s2, g2⟩
    have hA2 := HA.out.grown g2 s2
    clear z0 z1 z2 z3 y0 y1 y2 y3
    obtain ⟨z0, z1, z2, z3, y0, y1, y2, y3⟩ := hA2.cells
    have HD := hA2.done (.int .i64 0) (.string ⟨#[]⟩) (.slice none 0 0) (.string ⟨#[]⟩)
    clear hA2 s2 g2 HA HSK c2 c4 c5 c6 f5 f6
    go_wp2_with fail
    refine bodyPost_ret (v := .tuple #[.agg zeroEv, .bool false]) (results_two rfl _ _ _ _ _ _ _ rfl HD.out.1 Tryd.underlying39 rfl (by kernel_rfl) _ rfl) rfl ⟨_, rfl, rfl, HD.out.2⟩
  obtain rfl : cnt = 0 := by omega
  by_cases k1 : e.k = 1
  · have hst := start_any w0 b vr vs vd P sk e (.slice up e.a.length uc) m W1 hS1 hF hu1 (by omega) k1 hm1
    generalize sieveL P (sk, 0) e = q at hst ⊢
    obtain ⟨⟨q1, q2⟩, q3⟩ := q
    simp only at hst ⊢
    have HST := hid hst
    unfold evC at hW1 HST ⊢
    unfold zeroEv at hW1
    rw [k1] at d0
    simp only [k1] at hW1 HST ⊢
    clear hst hS1 hu1 hm1 hA hB h hu hm hF k1
    go_enter Tryd.func38, Tryd.ntmps38
    go_upto_region 1 with fail
    clear hW1
    go_wp2_with fail
    refine HST.out.mono ?_
    rintro r W2 ⟨rv, rfl, hrv, s2, g2⟩
    have hA2 := HA.out.grown g2 s2
    clear z0 z1 z2 z3 y0 y1 y2 y3
    obtain ⟨z0, z1, z2, z3, y0, y1, y2, y3⟩ := hA2.cells
    cases q3 with
    | none =>
      obtain rfl : rv = _ := hrv
      unfold zeroEv
      have HD := hA2.done (.int .i64 0) (.string ⟨#[]⟩) (.slice none 0 0) (.string ⟨#[]⟩)
      clear hA2 s2 g2 HA HST c2 c4 c5 c6 f5 f6
      go_wp2_with fail
      refine bodyPost_ret (v := .tuple #[.agg zeroEv, .bool false]) (results_two rfl _ _ _ _ _ _ _ rfl HD.out.1 Tryd.underlying39 rfl (by kernel_rfl) _ rfl) rfl ⟨_, rfl, rfl, HD.out.2⟩
    | some ev =>
      obtain ⟨ek, en, ap, am, ac, et, rfl, hev⟩ := hrv
      have HD := hA2.done (.int .i64 ek) (.string en) (.slice ap am ac) (.string et)
      have hj := zero_just (p0 := .int .i64 ek) (p1 := .string en) (p2 := .slice ap am ac) (p3 := .string et) (by have := hA2.b1; unfold zeroEv at this; exact this)
      have hev2 := hid (evs1_low hsz (evs1_just hA2.b1 hj hev))
      clear hA2 s2 g2 HA HST c2 c4 c5 c6 f5 f6 hj hev
      go_wp2_with fail
      refine bodyPost_ret (v := .tuple #[.agg #[.int .i64 ek, .string en, .slice ap am ac, .string et], .bool true]) (results_two rfl _ _ _ _ _ _ _ rfl HD.out.1 Tryd.underlying39 rfl (by kernel_rfl) _ rfl) rfl ⟨_, rfl, ⟨ek, en, ap, am, ac, et, rfl, hev2.out⟩, HD.out.2⟩
  have n1 := int_ne' k1
  have es : sieveL P (sk, 0) e = ((sk, 0), outL P e) := by unfold sieveL; rw [if_neg hcz, if_neg (fun h => k1 h.1)]
  rw [es]
  simp only
  by_cases k2 : e.k = 2
  · have eo : outL P e = if (ruleL P.rules e.n).isSome = true then some (.stop e.n) else none := by unfold outL; rw [if_neg k1, if_pos k2]
    rw [eo]
    have hru := rule_any w0 b vr vs vd P sk 0 (bs e.n) W1 hS1 hF
    rw [bs_toList] at hru
    obtain ⟨ro, hro⟩ : ∃ ro, ruleL P.rules e.n = ro := ⟨_, rfl⟩
    rw [hro] at hru ⊢
    obtain ⟨N, hN⟩ : ∃ N, bs e.n = N := ⟨_, rfl⟩
    rw [hN] at hru d1
    have HRU := hid hru
    unfold evC at hW1 ⊢
    unfold zeroEv at hW1
    rw [k2] at d0 n1
    simp only [k2, hN] at hW1 ⊢
    have HNN := hid hN
    clear hru hro eo es hS1 hu1 hm1 hA hB h hu hm hF hN k1 k2
    go_enter Tryd.func38, Tryd.ntmps38
    go_upto_region 1 with fail
    clear hW1
    go_wp2_with fail
    refine HRU.out.mono ?_
    rintro r W2 ⟨rv, rfl, hrv, b2⟩
    have hA2 := HA.out.below b2
    clear z0 z1 z2 z3 y0 y1 y2 y3 d0 d1 d2 d3
    cases ro with
    | none =>
      obtain rfl : rv = _ := hrv
      have hA3 : StA w (W2.alloc (.cells #[.string ⟨#[]⟩, .slice none 0 0] 73)) b e (.slice up e.a.length uc) (sieveC vr vs vd P sk 0) := hA2.below ((Below.refl _ _).alloc (Nat.le_refl _) _)
      obtain ⟨z0, z1, z2, z3, y0, y1, y2, y3⟩ := hA3.cells
      have HD := hA3.done (.int .i64 0) (.string ⟨#[]⟩) (.slice none 0 0) (.string ⟨#[]⟩)
      clear hA2 hA3 HA HRU b2 c2 c4 c5 c6 f5 f6
      go_wp2_with fail
      refine bodyPost_ret (v := .tuple #[.agg zeroEv, .bool false]) (results_two rfl _ _ _ _ _ _ _ rfl HD.out.1 Tryd.underlying39 rfl (by kernel_rfl) _ rfl) rfl ⟨_, rfl, rfl, HD.out.2⟩
    | some l =>
      obtain ⟨ru, rfl, hwr⟩ := hrv
      obtain ⟨rp, rc, rfl, _⟩ := hwr.len
      obtain ⟨W3, hW3⟩ : ∃ W3, W2.alloc (.cells #[.string N, .slice rp l.length rc] 73) = W3 := ⟨_, rfl⟩
      have hA3 := hA2.below (W' := W3) (by rw [← hW3]; exact (Below.refl _ _).alloc (Nat.le_refl _) _)
      rw [HNN.out]
      obtain ⟨d0, d1, d2, -⟩ := evC_at hA3.b0
      rw [HNN.out] at d1
      obtain ⟨z0, z1, z2, z3, y0, y1, y2, y3⟩ := hA3.cells
      have HD := hA3.done (.int .i64 2) (.string N) (.slice none 0 0) (.string ⟨#[]⟩)
      clear hA2 hA3 HA HRU b2 hwr c2 c4 c5 c6 f5 f6
      go_wp2_with fail
      refine bodyPost_ret (v := .tuple #[.agg #[.int .i64 2, .string N, .slice none 0 0, .string ⟨#[]⟩], .bool true]) (results_two rfl _ _ _ _ _ _ _ rfl HD.out.1 Tryd.underlying39 rfl (by kernel_rfl) _ rfl) rfl ⟨_, rfl, ⟨2, N, none, 0, 0, ⟨#[]⟩, rfl, ⟨rfl, by rw [← HNN.out]; rfl, rfl, rfl⟩, trivial⟩, HD.out.2⟩
  have n2 := int_ne' k2
  by_cases k3 : e.k = 3
  · have eo : outL P e = if e.t = [] then none else some (.text e.t) := by unfold outL; rw [if_neg k1, if_neg k2, if_pos k3]
    rw [eo]
    obtain ⟨T, hT⟩ : ∃ T, bs e.t = T := ⟨_, rfl⟩
    have hTL : T.toList = e.t := by rw [← hT, bs_toList]
    rw [hT] at d3
    unfold evC at hW1 ⊢
    unfold zeroEv at hW1
    rw [k3] at d0 n1 n2
    simp only [k3, hT] at hW1 ⊢
    have HTT := hid hT
    by_cases h4 : e.t = []
    · rw [if_pos h4]
      have q : (T.toList != []) = false := by rw [hTL, h4]; rfl
      have qe : T.toList.isEmpty = true := by rw [hTL, h4]; rfl
      have HD := HA.out.done (.int .i64 0) (.string ⟨#[]⟩) (.slice none 0 0) (.string ⟨#[]⟩)
      clear eo es hS1 hu1 hm1 hA hB h hu hm hF hT k1 k2 k3 hTL h4 HA
      go_enter Tryd.func38, Tryd.ntmps38
      go_upto_region 1 with fail
      clear hW1
      go_wp2_with fail
      refine bodyPost_ret (v := .tuple #[.agg zeroEv, .bool false]) (results_two rfl _ _ _ _ _ _ _ rfl HD.out.1 Tryd.underlying39 rfl (by kernel_rfl) _ rfl) rfl ⟨_, rfl, rfl, HD.out.2⟩
    · rw [if_neg h4]
      have q : (T.toList != []) = true := by rw [hTL]; exact bne_iff_ne.2 h4
      have qe : T.toList.isEmpty = false := by rw [hTL]; cases hh : e.t with | nil => exact absurd hh h4 | cons x y => rfl
      have HD := HA.out.done (.int .i64 3) (.string ⟨#[]⟩) (.slice none 0 0) (.string T)
      clear eo es hS1 hu1 hm1 hA hB h hu hm hF hT k1 k2 k3 hTL h4 HA
      go_enter Tryd.func38, Tryd.ntmps38
      go_upto_region 1 with fail
      clear hW1
      go_wp2_with fail
      refine bodyPost_ret (v := .tuple #[.agg #[.int .i64 3, .string ⟨#[]⟩, .slice none 0 0, .string T], .bool true]) (results_two rfl _ _ _ _ _ _ _ rfl HD.out.1 Tryd.underlying39 rfl (by kernel_rfl) _ rfl) rfl ⟨_, rfl, ⟨3, ⟨#[]⟩, none, 0, 0, T, rfl, ⟨rfl, rfl, rfl, by rw [← HTT.out]; rfl⟩, trivial⟩, HD.out.2⟩
  have n3 := int_ne' k3
  have eo : outL P e = none := by unfold outL; rw [if_neg k1, if_neg k2, if_neg k3]
  rw [eo]
  have HD := HA.out.done (.int .i64 0) (.string ⟨#[]⟩) (.slice none 0 0) (.string ⟨#[]⟩)
  unfold evC at hW1 ⊢
  unfold zeroEv at hW1
  clear eo es hS1 hu1 hm1 hA hB h hu hm hF k1 k2 k3 HA
  go_enter Tryd.func38, Tryd.ntmps38
  go_upto_region 1 with fail
  clear hW1
  go_wp2_with fail
  refine bodyPost_ret (v := .tuple #[.agg zeroEv, .bool false]) (results_two rfl _ _ _ _ _ _ _ rfl HD.out.1 Tryd.underlying39 rfl (by kernel_rfl) _ rfl) rfl ⟨_, rfl, rfl, HD.out.2⟩

set_option maxHeartbeats 2000000 in
theorem sieveNew_any (vr vs vd : Value) (P : PolP) (w : World) (h : PolR w vr vs vd P) :
    Calls Tryd.prog 37 #[.agg (polC vr vs vd P)] w fun r w' => r = .returned (.pointer (some ⟨w.heap.size + 1, 0, none⟩)) ∧ SvAt w w' (w.heap.size + 1) vr vs vd P [] 0 ∧ w'.heap.size = w.heap.size + 2 := by
  obtain ⟨r1, r2, r3, rfl⟩ := h.rules.shape
  obtain ⟨s1, s2, s3, rfl⟩ := h.schemes.shape
  obtain ⟨d1, d2, d3, rfl⟩ := h.drop.shape
  have hX : SvAt w ((w.alloc (.cells (polC (.slice r1 r2 r3) (.slice s1 s2 s3) (.slice d1 d2 d3) P) 35)).alloc (.cells (sieveC (.slice r1 r2 r3) (.slice s1 s2 s3) (.slice d1 d2 d3) P [] 0) 119)) (w.heap.size + 1) (.slice r1 r2 r3) (.slice s1 s2 s3) (.slice d1 d2 d3) P [] 0 :=
    ⟨heap_two_new w _ _ _, h, ((Below.refl w.heap.size w).alloc (Nat.le_refl _) _).alloc (by simp) _, by omega⟩
  have HX := hid hX
  unfold polC sieveC at HX
  unfold polC
  clear hX h
  go_enter Tryd.func37, Tryd.ntmps37
  go_wp2
  go_ret
  exact ⟨rfl, HX.out, by simp⟩
end Go.Proofs.YtkcgmimldjeaiaaDoor

/-
  The statements' freshEvents: its walk.
-/
namespace Go.Proofs.YtkcgmimldjeaiaaDoor
open Go.RowKit Go.Lib Own

/-- the lists of attributes of events' cells -/
def colA : List Value → List Value
  | _ :: _ :: a :: _ :: r => a :: colA r
  | _ => []
theorem colA_get {W : World} {base : Nat} : ∀ (xs : List Value) (l : List Ev) (k : Nat), EvsAt W base xs l → k < l.length → (colA xs)[k]? = xs[k * 4 + 2]?
  | [], [], k, _, h => by simp at h
  | _ :: _ :: a :: _ :: r, e :: l, 0, _, _ => rfl
  | x0 :: x1 :: a :: x3 :: r, e :: l, k + 1, ⟨_, h2⟩, h => by
    have := colA_get r l k h2 (by simpa using h)
    show (a :: colA r)[k + 1]? = _
    rw [List.getElem?_cons_succ, this, show (k + 1) * 4 + 2 = k * 4 + 2 + 4 by omega]
    rfl
  | [], _ :: _, _, h, _ => h.elim
  | [_], _, _, h, _ => by cases ‹List Ev› <;> exact h.elim
  | [_, _], _, _, h, _ => by cases ‹List Ev› <;> exact h.elim
  | [_, _, _], _, _, h, _ => by cases ‹List Ev› <;> exact h.elim
  | _ :: _ :: _ :: _ :: _, [], _, h, _ => h.elim
theorem colA_len {W : World} {base : Nat} : ∀ (xs : List Value) (l : List Ev), EvsAt W base xs l → (colA xs).length = l.length
  | [], [], _ => rfl
  | _ :: _ :: a :: _ :: r, e :: l, ⟨_, h2⟩ => by
    have := colA_len r l h2
    show (a :: colA r).length = _
    simp [this]
  | [], _ :: _, h => h.elim
  | [_], _, h => by cases ‹List Ev› <;> exact h.elim
  | [_, _], _, h => by cases ‹List Ev› <;> exact h.elim
  | [_, _, _], _, h => by cases ‹List Ev› <;> exact h.elim
  | _ :: _ :: _ :: _ :: _, [], h => h.elim
theorem notIn_col {g : Nat} : ∀ (xs : List Value), NotIn g xs → ∀ (k : Nat) (v : Value), (colA xs)[k]? = some v → v.ownBlock ≠ some g
  | _ :: _ :: a :: _ :: r, h, 0, v, hv => by
    have : a = v := by simpa [colA] using hv
    rw [← this]
    exact h.1
  | _ :: _ :: a :: _ :: r, h, k + 1, v, hv => notIn_col r h.2 k v (by simpa [colA] using hv)
  | [], _, k, v, hv => by simp [colA] at hv
  | [_], _, k, v, hv => by simp [colA] at hv
  | [_, _], _, k, v, hv => by simp [colA] at hv
  | [_, _, _], _, k, v, hv => by simp [colA] at hv
theorem dist_of : ∀ (xs : List Value), Apart xs → Dist (colA xs)
  | _ :: _ :: a :: _ :: r, h => by
    have ih := dist_of r h.2
    intro j k v u hj hk hne g hg
    cases j with
    | zero =>
      cases k with
      | zero => exact absurd rfl hne
      | succ k =>
        have e1 : a = v := by simpa [colA] using hj
        rw [← e1] at hg
        exact notIn_col r (h.1 g hg) k u (by simpa [colA] using hk)
    | succ j =>
      cases k with
      | zero =>
        have e1 : a = u := by simpa [colA] using hk
        intro e2
        rw [← e1] at e2
        exact notIn_col r (h.1 g e2) j v (by simpa [colA] using hj) hg
      | succ k => exact ih j k v u (by simpa [colA] using hj) (by simpa [colA] using hk) (by omega) g hg
  | [], _ => fun j k v u hj => by simp [colA] at hj
  | [_], _ => fun j k v u hj => by simp [colA] at hj
  | [_, _], _ => fun j k v u hj => by simp [colA] at hj
  | [_, _, _], _ => fun j k v u hj => by simp [colA] at hj

theorem four_set {sc r : List Value} {i : Nat} {k n a t k' n' a' t' : Value} (h : sc.length = i * 4) : ((((sc ++ k :: n :: a :: t :: r).set (i * 4) k').set (i * 4 + 1) n').set (i * 4 + 2) a').set (i * 4 + 3) t' = sc ++ [k', n', a', t'] ++ r := by
  rw [← h, List.set_append, if_neg (by omega), Nat.sub_self, List.set_cons_zero, List.set_append, if_neg (by omega), Nat.add_sub_cancel_left, List.set_append, if_neg (by omega), Nat.add_sub_cancel_left, List.set_append, if_neg (by omega), Nat.add_sub_cancel_left]
  simp
/-- the rows of the attributes -/
def Rows4 (W : World) (base : Nat) (J : List Ev) (vs : List Value) : Prop := ∀ (k : Nat) (e : Ev) (v : Value), J[k]? = some e → vs[k]? = some v → W.ownsRow base 101 2 v (evA e).length (attrsV (evA e))
theorem rows4_of {W : World} {base : Nat} {xs : List Value} {J : List Ev} (h : EvsAt W base xs J) : Rows4 W base J (colA xs) := by
  intro k e v he hv
  have hk : k < J.length := (List.getElem?_eq_some_iff.1 he).1
  rw [colA_get xs J k h hk] at hv
  obtain ⟨a, _, _, h3, _, h5, _⟩ := evs_get xs J k e h he
  rw [h3] at hv
  obtain rfl := Option.some.inj hv
  exact h5
theorem Rows4.mono {W W' : World} {base : Nat} {J : List Ev} {vs : List Value} (h : Rows4 W base J vs) (hr : ∀ a n ys, W.ownsRow base 101 2 a n ys → W'.ownsRow base 101 2 a n ys) : Rows4 W' base J vs :=
  fun k e v he hv => hr _ _ _ (h k e v he hv)

/-- what freshEvents holds on its way -/
structure Frs (w W : World) (base : Nat) (J : List Ev) (vs : List Value) (gv : Value) (n : Nat) (cs : List Value) (lgv : Value) (i : Nat) : Prop where
  be : Below base w W
  got : W.ownsRow base 39 4 gv n cs
  lg : W.ownsRow base 37 1 lgv i (vs.take i)
  rows : Rows4 W base J vs
  kp : KeepT w W
/-- a list more -/
theorem Frs.list {w W w2 : World} {base : Nat} {J : List Ev} {vs : List Value} {gv lgv lgv2 v : Value} {n i : Nat} {cs : List Value} {X : Obj} (h : Frs w W base J vs gv n cs lgv i) (hb : base ≤ w.heap.size) (hv : vs[i]? = some v)
    (h2 : w2.ownsRow base 37 1 lgv2 (i + 1) (vs.take i ++ [v])) (hg : (W.alloc X).grownBy w2 lgv.ownBlock) : Frs w w2 base J vs gv n cs lgv2 (i + 1) := by
  have hbs := h.be.size
  have hlg := h.lg.alloc X
  refine ⟨h.be.trans (((Below.refl base W).alloc (by omega) X).grown hg (by simp; omega) (fun k hk => (hlg.lt k hk).1)), (h.got.alloc X).kept hg (rows_ne (h.got.alloc X) hlg (by decide)), ?_, h.rows.mono (fun a n ys hr => (hr.alloc X).kept hg (rows_ne (hr.alloc X) hlg (by decide))), h.kp.trans (KeepT.row h.lg (.inr (.inr rfl)) (fun k hk hne => (hg.block k (by simp; omega) (fun e => hne e.symm)).trans (Go.Lib.alloc_old W X k hk)))⟩
  rw [List.take_add_one, hv]
  exact h2
/-- an event is written over -/
theorem Frs.over {w W : World} {base g n c : Nat} {J : List Ev} {vs : List Value} {lgv : Value} {i l : Nat} {sc r : List Value} {k m a t k' m' a' t' : Value} (h : Frs w W base J vs (.slice (some ⟨g, 0, none⟩) n c) n (sc ++ k :: m :: a :: t :: r) lgv l) (hsc : sc.length = i * 4) (hgb : base ≤ g) :
    Frs w ((((W.setCell ⟨g, i * 4, none⟩ k').setCell ⟨g, i * 4 + 1, none⟩ m').setCell ⟨g, i * 4 + 2, none⟩ a').setCell ⟨g, i * 4 + 3, none⟩ t') base J vs (.slice (some ⟨g, 0, none⟩) n c) n (sc ++ [k', m', a', t'] ++ r) lgv l := by
  have h1 := ((((((h.got.stored (i * 4) k').1.stored (i * 4 + 1) m').1.stored (i * 4 + 2) a').1.stored (i * 4 + 3) t').1))
  rw [four_set hsc] at h1
  obtain ⟨cur, hcur⟩ : ∃ cur, W.heap[g]? = some (.cells cur 39 (0, 0)) := by
    rcases h.got.2 with ⟨e, _⟩ | ⟨g2, cap2, cur, e, _, hh, _⟩
    · cases e
    · cases e
      exact ⟨cur, hh⟩
  have hk : ∀ k2, k2 ≠ g → ((((W.setCell ⟨g, i * 4, none⟩ k').setCell ⟨g, i * 4 + 1, none⟩ m').setCell ⟨g, i * 4 + 2, none⟩ a').setCell ⟨g, i * 4 + 3, none⟩ t').heap[k2]? = W.heap[k2]? := fun k2 hne => by
    rw [heap_setCell_other _ _ _ _ hne, heap_setCell_other _ _ _ _ hne, heap_setCell_other _ _ _ _ hne, heap_setCell_other _ _ _ _ hne]
  exact ⟨(((h.be.setCell hgb _).setCell hgb _).setCell hgb _).setCell hgb _, h1, row_just h.lg hcur (by decide) hk, h.rows.mono (fun a n ys hr => row_just hr hcur (by decide) hk), h.kp.trans (KeepT.row h.got (.inl rfl) (fun k2 _ hne => hk k2 (fun e => hne (by rw [e]; rfl))))⟩
/-- the answer grows -/
theorem Frs.more {w W w2 : World} {base : Nat} {J : List Ev} {vs : List Value} {gv gv2 lgv : Value} {n i : Nat} {cs news : List Value} {X : Obj} (h : Frs w W base J vs gv n cs lgv i) (hb : base ≤ w.heap.size)
    (h2 : w2.ownsRow base 39 4 gv2 (n + 1) (cs ++ news)) (hg : (W.alloc X).grownBy w2 gv.ownBlock) : Frs w w2 base J vs gv2 (n + 1) (cs ++ news) lgv i := by
  have hbs := h.be.size
  have hgt := h.got.alloc X
  exact ⟨h.be.trans (((Below.refl base W).alloc (by omega) X).grown hg (by simp; omega) (fun k hk => (hgt.lt k hk).1)), h2, (h.lg.alloc X).kept hg (rows_ne (h.lg.alloc X) hgt (by decide)), h.rows.mono (fun a n ys hr => (hr.alloc X).kept hg (rows_ne (hr.alloc X) hgt (by decide))), h.kp.trans (KeepT.row h.got (.inl rfl) (fun k hk hne => (hg.block k (by simp; omega) (fun e => hne e.symm)).trans (Go.Lib.alloc_old W X k hk)))⟩

theorem drop_four {xs : List Value} {N i : Nat} (h : xs.length = N * 4) (hi : i < N) : ∃ k n a t, xs.drop (i * 4) = k :: n :: a :: t :: xs.drop ((i + 1) * 4) ∧ xs[i * 4 + 2]? = some a := by
  have h0 : i * 4 < xs.length := by omega
  have h1 : i * 4 + 1 < xs.length := by omega
  have h2 : i * 4 + 1 + 1 < xs.length := by omega
  have h3 : i * 4 + 1 + 1 + 1 < xs.length := by omega
  refine ⟨xs[i * 4], xs[i * 4 + 1], xs[i * 4 + 1 + 1], xs[i * 4 + 1 + 1 + 1], ?_, List.getElem?_eq_getElem h2⟩
  rw [List.drop_eq_getElem_cons h0, List.drop_eq_getElem_cons h1, List.drop_eq_getElem_cons h2, List.drop_eq_getElem_cons h3, show i * 4 + 1 + 1 + 1 + 1 = (i + 1) * 4 by omega]
theorem ev4_at {sc r : List Value} {i : Nat} {k n a t : Value} (h : sc.length = i * 4) : (sc ++ k :: n :: a :: t :: r)[i * 4]? = some k ∧ (sc ++ k :: n :: a :: t :: r)[i * 4 + 1]? = some n ∧ (sc ++ k :: n :: a :: t :: r)[i * 4 + 2]? = some a ∧ (sc ++ k :: n :: a :: t :: r)[i * 4 + 3]? = some t := by
  rw [← h]
  refine ⟨?_, ?_, ?_, ?_⟩
  · rw [List.getElem?_append_right (by omega), Nat.sub_self]; rfl
  · rw [List.getElem?_append_right (by omega), Nat.add_sub_cancel_left]; rfl
  · rw [List.getElem?_append_right (by omega), Nat.add_sub_cancel_left]; rfl
  · rw [List.getElem?_append_right (by omega), Nat.add_sub_cancel_left]; rfl

set_option maxHeartbeats 8000000 in
set_option maxRecDepth 100000 in
theorem fresh_any (base B2 : Nat) (gv dv : Value) (xs ys : List Value) (J : List Ev) (a : Option Addr) (mc : Nat) (ss : List ByteArray) (w : World) (hg : w.ownsRow base 39 4 gv J.length xs) (he : EvsAt w base xs J) (hap : Apart xs) (hd : w.ownsRow B2 39 4 dv J.length ys) (hde : EvsAt w B2 ys J)
    (hJ : J.length ≤ 5000000) (hA : ∀ e ∈ J, (evA e).length ≤ 5000000) (hb : base ≤ w.heap.size) (hs : ss.length ≤ 5000000) (hw : WordsAt w base a ss) (hP : PowB base w) :
    Calls Tryd.prog 9 #[gv, dv, .slice a ss.length mc] w fun e w' => e = .returned (.bool true) ∧ Below base w w' ∧ KeepT w w' := by
  have hsame := sameEvents_any base B2 gv dv xs ys J w hg he hd hde
  obtain ⟨p, c, rfl⟩ := row_shape hg
  obtain ⟨p2, c2, rfl⟩ := row_shape hd
  obtain ⟨vs, hvs⟩ : ∃ vs, colA xs = vs := ⟨_, rfl⟩
  have hvl : vs.length = J.length := by rw [← hvs]; exact colA_len xs J he
  have hcol : ∀ k, k < J.length → vs[k]? = xs[k * 4 + 2]? := fun k hk => by rw [← hvs]; exact colA_get xs J k he hk
  have hD : Dist vs := by rw [← hvs]; exact dist_of xs hap
  have hR4 : Rows4 w base J vs := by rw [← hvs]; exact rows4_of he
  have hxl : xs.length = J.length * 4 := evs_len xs J he
  have hns : ∀ k, k < J.length → ((J[k]?.map fun e => (evA e).length).getD 0) ≤ 5000000 := fun k hk => by
    rw [List.getElem?_eq_getElem hk]
    exact hA _ (List.getElem_mem hk)
  have hfam : ∀ W, Rows4 W base J vs → Fam W base vs (fun k => (J[k]?.map fun e => (evA e).length).getD 0) 0 := fun W h => ⟨fun k v hk => by
    have hkl : k < J.length := by rw [← hvl]; exact (List.getElem?_eq_some_iff.1 hk).1
    refine ⟨fun h => absurd h (Nat.not_lt_zero _), attrsV (evA J[k]), ?_⟩
    have := h k J[k] v (List.getElem?_eq_getElem hkl) hk
    simp only [List.getElem?_eq_getElem hkl, Option.map_some, Option.getD_some]
    exact this⟩
  have hone : ∀ k, k < J.length → ∀ W, Rows4 W base J vs → ∀ v, vs[k]? = some v → ∃ p n c, v = .slice p n c := fun k hk W h v hv => by
    obtain ⟨p, c, e⟩ := row_shape (h k J[k] v (List.getElem?_eq_getElem hk) hv)
    exact ⟨p, _, c, e⟩
  obtain ⟨N, hN⟩ : ∃ N, J.length = N := ⟨_, rfl⟩
  rw [hN] at hsame hg hd hJ hvl hcol hxl hns hone ⊢
  have hfin : ∀ lv W, Frs w W base J vs (.slice p N c) N xs lv N → True := fun _ _ _ => trivial
  have hend : ∀ (lp : Option Addr) (lc : Nat) (gv2 : Value) (n2 : Nat) (cs2 : List Value) (W : World), Frs w W base J vs gv2 n2 cs2 (.slice lp N lc) N → Calls Tryd.prog 30 #[.slice lp N lc, .slice a ss.length mc] W fun e w' => e = .returned (.bool true) ∧ Below base w w' ∧ KeepT w w' := fun lp lc gv2 n2 cs2 W h => by
    have hl := h.lg
    have hbs := h.be.size
    rw [List.take_of_length_le (by omega)] at hl
    have := apart_any base (.slice lp N lc) vs (fun k => (J[k]?.map fun e => (evA e).length).getD 0) a mc ss W (by rw [hvl]; exact hl) (hfam W h.rows) hD (by rw [hvl]; exact hns) (by omega) (by omega) hs (hw.below h.be) (hP.below h.be)
    exact this.mono fun e w' h2 => ⟨h2.1, h.be.trans h2.2.1, h.kp.trans h2.2.2⟩
  have H0 : ∀ nd, Frs w (w.drewN nd) base J vs (.slice p N c) N xs (.slice none 0 0) 0 := fun nd => ⟨below_drewN (Below.refl base w) nd, hg, World.ownsRow_nil _ _ _ _, hR4, KeepT.refl _⟩
  obtain ⟨li0, lhi, lhz0, lhz1, lhz2⟩ := info_parts info_list
  obtain ⟨ei0, ehi, ehz0, ehz1, ehz2⟩ := info_parts info_event
  have HS := hid hsame
  have H0 := hid H0
  have HEND := hid hend
  have HONE := hid hone
  have HCOL := hid hcol
  have HXL := hid (fun (_ : True) => hxl)
  have HVL := hid (fun (_ : True) => hvl)
  have HW := hid hw
  clear hsame hend hone hcol hxl hvl hvs hg hd he hde hap hD hR4 hns hfam hfin hN hA hw hP
  go_enter Tryd.func9, Tryd.ntmps9
  go_wp2_with (go_at_call 11; refine HS.out.mono ?_; rintro e w1 ⟨rfl, nd, rfl⟩)
  go_loopw [7, 16] (fun lgv iv wr => ∃ (i : Nat) (sc r : List Value), iv = .int .i64 i ∧ i ≤ N ∧ Hid (Frs w wr base J vs (.slice p N c) N (sc ++ r) lgv i ∧ sc.length = i * 4 ∧ r = xs.drop (i * 4))) (fun _ iv _ => N - (RowKit.intOf iv).toNat)
  case atStart => exact ⟨0, [], xs, rfl, Nat.zero_le _, hid ⟨H0.out nd, rfl, rfl⟩⟩
  case round =>
    obtain ⟨i, sc, r, rfl, hi, HX⟩ := hrel
    obtain ⟨lgp, lgc, rfl⟩ := row_shape HX.out.1.lg
    by_cases hiN : i < N
    · obtain ⟨k0, n0, a0, t0, hr4, ha0⟩ := drop_four (HXL.out trivial) hiN
      have hv := HCOL.out i hiN
      rw [ha0] at hv
      obtain ⟨ap, an, ac, rfl⟩ := HONE.out i hiN _ HX.out.1.rows _ hv
      have hX1 := HX.out.1
      rw [HX.out.2.2, hr4] at hX1
      have hX2 := HX.out.2.1
      obtain ⟨g, cap, e0, hg1, hg2, hgc⟩ := row_at hX1.got (by omega)
      cases e0
      obtain ⟨q0, q1, q2, q3⟩ := ev4_at (r := xs.drop ((i + 1) * 4)) (k := k0) (n := n0) (a := .slice ap an ac) (t := t0) hX2
      have c2 := (hgc (i * 4 + 2) (by omega)).trans q2
      have hlg := hX1.lg
      have hbs := hX1.be.size
      have HX1 := hid hX1
      have HX2 := hid (fun (_ : True) => hX2)
      have HV := hid hv
      have HQ := hid (And.intro q0 (And.intro q1 (And.intro q2 q3)))
      clear hX1 hX2 hv hgc q0 q1 q2 q3 hr4 ha0 HX
      go_wp2_with (at_builtin; refine wpList_append_own _ rfl (.tmp 19) (.tmp 25) 25 rfl base 37 li0 (.slice none 0 0) 1 24 Tryd.underlying25 lhi lhz0 lhz1 lhz2 rfl (by decide) _ _ _ rfl (hlg.alloc _) ⟨_, 0, none⟩ 1 1 [.slice ap an ac] rfl rfl (cells_newV _ _ _) (by simp [Value.oneCell']) (by unfold maxLen; omega) (by omega) (by simp; omega) ?_)
      intro v' w2 hown2 hgrow2 _
      have F2 := HX1.out.list hb HV.out hown2 hgrow2
      obtain ⟨g', cap', e1, hg1', hg2', hgc⟩ := row_at F2.got (by omega)
      cases e1
      obtain ⟨q0, q1, q2, q3⟩ := HQ.out
      have k0 := (hgc (i * 4) (by omega)).trans q0
      have k1 := (hgc (i * 4 + 1) (by omega)).trans q1
      have k2 := (hgc (i * 4 + 2) (by omega)).trans q2
      have k3 := (hgc (i * 4 + 3) (by omega)).trans q3
      have f0 := F2.got.frozenAt (i * 4)
      have f1 := F2.got.frozenAt (i * 4 + 1)
      have f2 := F2.got.frozenAt (i * 4 + 2)
      have f3 := F2.got.frozenAt (i * 4 + 3)
      have hov := F2.over (k' := .int .i64 0) (m' := .string ⟨#[115, 99, 114, 97, 119, 108]⟩) (a' := .slice none 0 0) (t' := .string ⟨#[]⟩) (HX2.out trivial) hg1'
      have hsl : (sc ++ [Value.int .i64 0, .string ⟨#[115, 99, 114, 97, 119, 108]⟩, .slice none 0 0, .string ⟨#[]⟩]).length = (i + 1) * 4 := by
        rw [List.length_append, HX2.out trivial]
        simp
        omega
      have HZ := hid (And.intro hov (And.intro hsl (rfl : xs.drop ((i + 1) * 4) = xs.drop ((i + 1) * 4))))
      clear hov hsl hown2 hgrow2 F2 hgc q0 q1 q2 q3 HX1 HX2 HQ HV hlg
      go_wp2
      go_roundw
      case rel => first | exact ⟨i + 1, _, _, rfl, by omega, HZ⟩ | ((repeat apply Exists.intro); exact ⟨⟨i + 1, _, _, rfl, by omega, HZ⟩, rfl⟩)
      case measure => simp [RowKit.intOf]; omega
    · obtain rfl : i = N := by omega
      have hX1 := HX.out.1
      have hgt := hX1.got
      have hbs := hX1.be.size
      obtain ⟨cs0, hcs0⟩ : ∃ cs0, sc ++ r = cs0 := ⟨_, rfl⟩
      rw [hcs0] at hX1 hgt
      have HX1 := hid hX1
      clear hX1 hcs0 HX
      go_wp2_with (at_builtin; refine wpList_append_own _ rfl (.tmp 32) (.tmp 34) 22 rfl base 39 ei0 (.agg #[.int .i64 0, .string ⟨#[]⟩, .slice none 0 0, .string ⟨#[]⟩]) 4 64 Tryd.underlying22 ehi ehz0 ehz1 ehz2 rfl (by decide) _ _ _ rfl (hgt.alloc _) ⟨_, 0, none⟩ 1 1 [.int .i64 0, .string ⟨#[115, 99, 114, 97, 119, 108]⟩, .slice none 0 0, .string ⟨#[]⟩] rfl rfl (cells_newV _ _ _) (by simp [Value.oneCell']) (by unfold maxLen; omega) (by omega) (by simp; omega) ?_)
      intro v' w2 hown2 hgrow2 _
      have F2 := hid (HX1.out.more hb hown2 hgrow2)
      clear hown2 hgrow2 HX1 hgt
      go_wp2_with fail
      go_loopw [0, 38] (fun gv2 iv wr => ∃ (k : Nat) (cs2 : List Value), iv = .int .i64 k ∧ k ≤ ss.length ∧ Hid (Frs w wr base J vs gv2 (i + 1 + k) cs2 (.slice lgp i lgc) i)) (fun _ iv _ => ss.length - (RowKit.intOf iv).toNat)
      case atStart => exact ⟨0, _, rfl, Nat.zero_le _, F2⟩
      case round =>
        obtain ⟨k, cs2, rfl, hk, HF⟩ := hrel
        clear F2
        obtain ⟨gp, gc, rfl⟩ := row_shape HF.out.got
        by_cases hkl : k < ss.length
        · obtain ⟨b, o, rfl, hb2, hc⟩ := HW.out.at_ k hkl
          have hc2 := cell_low hc HF.out.be hb2
          obtain ⟨x, hx⟩ : ∃ x, ss.getD k ByteArray.empty = x := ⟨_, rfl⟩
          rw [hx] at hc2
          have hgt := HF.out.got
          have hbs := HF.out.be.size
          clear hc hx
          go_wp2_with (at_builtin; refine wpList_append_own _ rfl (.tmp 41) (.tmp 47) 22 rfl base 39 ei0 (.agg #[.int .i64 0, .string ⟨#[]⟩, .slice none 0 0, .string ⟨#[]⟩]) 4 64 Tryd.underlying22 ehi ehz0 ehz1 ehz2 rfl (by decide) _ _ _ rfl (hgt.alloc _) ⟨_, 0, none⟩ 1 1 [.int .i64 0, .string x, .slice none 0 0, .string ⟨#[]⟩] rfl rfl (cells_newV _ _ _) (by simp [Value.oneCell']) (by unfold maxLen; omega) (by omega) (by simp; omega) ?_)
          intro v3 w3 hown3 hgrow3 _
          have F3 := hid (HF.out.more hb hown3 hgrow3)
          clear hown3 hgrow3 HF hgt
          go_wp2
          go_roundw
          case rel => first | exact ⟨k + 1, _, rfl, by omega, F3⟩ | ((repeat apply Exists.intro); exact ⟨⟨k + 1, _, rfl, by omega, F3⟩, rfl⟩)
          case measure => simp [RowKit.intOf]; omega
        · go_wp2_with (go_at_call 30; refine (HEND.out _ _ _ _ _ _ HF.out).mono ?_; rintro e w4 ⟨rfl, b4, k4⟩)
          go_ret
          exact ⟨rfl, b4, k4⟩
end Go.Proofs.YtkcgmimldjeaiaaDoor

/-
  Rows of events that a call fills: their lists of attributes are those of the events that were appended.
-/
namespace Go.Proofs.YtkcgmimldjeaiaaDoor
open Go.RowKit Go.Lib Own

/-- a row of events, its lists of attributes read at the world w0 -/
def RowE (w0 : World) (base : Nat) (W : World) (v : Value) (es : List EvP) : Prop :=
  ∃ prs : List (EvP × Value), prs.map Prod.fst = es ∧ W.ownsRow base 39 4 v prs.length (ecells prs) ∧ (∀ x ∈ prs, AttrsR w0 x.2 x.1.a) ∧ Below w0.heap.size w0 W ∧ w0.heap.size ≤ base
theorem RowE.be {w0 W : World} {base : Nat} {v : Value} {es : List EvP} (h : RowE w0 base W v es) : Below w0.heap.size w0 W := by
  obtain ⟨prs, _, _, _, hb, _⟩ := h
  exact hb
theorem RowE.shape {w0 W : World} {base : Nat} {v : Value} {es : List EvP} (h : RowE w0 base W v es) : ∃ p c, v = .slice p es.length c := by
  obtain ⟨prs, rfl, hr, _⟩ := h
  rw [List.length_map]
  exact row_shape hr
theorem RowE.nil {w W : World} (hb : Below w.heap.size w W) {base : Nat} (h : w.heap.size ≤ base) : RowE w base W (.slice none 0 0) [] := ⟨[], rfl, World.ownsRow_nil _ _ _ _, fun x h => (by cases h), hb, h⟩
theorem RowE.below {w0 W W' : World} {base : Nat} {v : Value} {es : List EvP} (h : RowE w0 base W v es) (hb : Below W.heap.size W W') : RowE w0 base W' v es := by
  obtain ⟨prs, h1, h2, h3, h4, h5⟩ := h
  exact ⟨prs, h1, row_below h2 hb, h3, h4.trans (hb.mono h4.size), h5⟩
theorem RowE.evs {w0 W : World} {base : Nat} {v : Value} {es : List EvP} (h : RowE w0 base W v es) : EvsR W v es := by
  obtain ⟨prs, rfl, h2, h3, h4, _⟩ := h
  exact evsR_row h2 (fun x hx => (h3 x hx).below h4)
/-- an empty list in a block of its own -/
theorem RowE.empty {w W : World} (hb : Below w.heap.size w W) : RowE w W.heap.size (W.alloc (.cells #[] 39)) (.slice (some ⟨W.heap.size, 0, none⟩) 0 0) [] :=
  ⟨[], rfl, ⟨rfl, .inr ⟨W.heap.size, 0, #[], rfl, Nat.le_refl _, heap_alloc_new W _, Nat.le_refl _, by decide, rfl, rfl⟩⟩, fun x h => (by cases h), hb.alloc hb.size _, hb.size⟩
/-- a list of one event in a block of its own -/
theorem RowE.one {w W : World} (hb : Below w.heap.size w W) (e : EvP) (he : e.a = []) : RowE w W.heap.size (W.alloc (.cells #[.int .i64 e.k, .string (bs e.n), .slice none 0 0, .string (bs e.t)] 39)) (.slice (some ⟨W.heap.size, 0, none⟩) 1 1) [e] :=
  ⟨[(e, .slice none 0 0)], rfl, ⟨rfl, .inr ⟨W.heap.size, 1, _, rfl, Nat.le_refl _, heap_alloc_new W _, Nat.le_refl _, by decide, rfl, rfl⟩⟩, fun x h => (by
    simp only [List.mem_cons, List.not_mem_nil, or_false] at h
    subst h
    show AttrsR w (.slice none 0 0) e.a
    rw [he]
    exact AttrsR.nil w), hb.alloc hb.size _, hb.size⟩
theorem ecells_len (prs : List (EvP × Value)) : (ecells prs).length = prs.length * 4 := by
  induction prs with
  | nil => rfl
  | cons x r ih =>
    show (_ :: _ :: _ :: _ :: ecells r).length = _
    simp only [List.length_cons, ih]
    omega
theorem attrsR_one {W : World} {v : Value} {al : List AttrP} (h : AttrsR W v al) : v.oneCell' = true := by
  obtain ⟨p, c, rfl, _⟩ := h
  rfl
theorem ecells_one {w0 : World} {prs : List (EvP × Value)} (h : ∀ x ∈ prs, AttrsR w0 x.2 x.1.a) : ∀ u ∈ ecells prs, u.oneCell' = true := by
  intro u hu
  unfold ecells at hu
  obtain ⟨s, hs0, hs⟩ := List.mem_flatMap.1 hu
  simp only [List.mem_cons, List.not_mem_nil, or_false] at hs
  rcases hs with rfl | rfl | rfl | rfl
  · rfl
  · rfl
  · exact attrsR_one (h s hs0)
  · rfl
theorem info_event4 : (Tryd.prog.info? 39).map (fun i => (i.zero, i.size, i.bytes)) = some (some (.agg #[.int .i64 0, .string ⟨#[]⟩, .slice none 0 0, .string ⟨#[]⟩]), 4, 64) := by kernel_rfl
/-- cells of events that were built, appended to a row of events -/
theorem wpList_append_evcells {w : World} {ops : Array Oper} {rest : List Oper} {o : Oper} {a : Act} {Q : Exit → Act → World → Prop} (hgd : o.guard = none) (s x : Operand)
    (ho : o.op = .call { callee := .builtin .append, args := #[s, x], argTypes := #[22, 22] }) (w0 W : World) (base : Nat) (v : Value) (l : List EvP) (hs : a.eval s = v)
    (hown : RowE w0 base W v l) (hbase : base ≤ W.heap.size) (hW : Below W.heap.size W w)
    (ad : Addr) (c : Nat) (qrs : List (EvP × Value)) (hx : a.eval x = .slice (some ad) qrs.length c) (hcell : ∀ j u, (ecells qrs)[j]? = some u → w.cell? (ad.add j) = some u) (hqa : ∀ x ∈ qrs, AttrsR w0 x.2 x.1.a) (hsz : l.length + qrs.length ≤ 1000000000)
    (h : ∀ v' w', RowE w0 base w' v' (l ++ qrs.map Prod.fst) → Below base W w' → wpList Tryd.prog ops Q rest (a.put o.dst v') w') : wpList Tryd.prog ops Q (o :: rest) a w := by
  obtain ⟨i0, hi, hz0, hz1, hz2⟩ := info_parts info_event4
  obtain ⟨prs, rfl, hr, ha, hb, hb0⟩ := id hown
  rw [List.length_map] at hsz
  have hr2 := row_below hr hW
  refine wpList_append_own w hgd s x 22 ho base 39 i0 (.agg #[.int .i64 0, .string ⟨#[]⟩, .slice none 0 0, .string ⟨#[]⟩]) 4 64 Tryd.underlying22 hi hz0 hz1 hz2 rfl (by decide) v prs.length (ecells prs) hs hr2 ad qrs.length c (ecells qrs) hx (ecells_len qrs) hcell (ecells_one hqa) (by unfold maxLen; omega) (by omega) (Nat.le_trans hbase hW.size) ?_
  intro v' w' h2 h3 _
  have hB : Below base W w' := (hW.mono hbase).grown h3 (Nat.le_trans hbase hW.size) (fun k hk => (hr2.lt k hk).1)
  refine h v' w' ⟨prs ++ qrs, by rw [List.map_append], by rw [List.length_append, ecells_app]; exact h2, fun y hy => ?_, hb.trans (hB.mono hb0), hb0⟩ hB
  rcases List.mem_append.1 hy with h4 | h4
  · exact ha y h4
  · exact hqa y h4
/-- a row of events appended to a row of events -/
theorem wpList_append_evrow {w : World} {ops : Array Oper} {rest : List Oper} {o : Oper} {a : Act} {Q : Exit → Act → World → Prop} (hgd : o.guard = none) (s x : Operand)
    (ho : o.op = .call { callee := .builtin .append, args := #[s, x], argTypes := #[22, 22] }) (w0 : World) (base base2 : Nat) (v vx : Value) (l m : List EvP) (hs : a.eval s = v) (hx : a.eval x = vx)
    (hown : RowE w0 base w v l) (hbase : base ≤ w.heap.size) (hw : RowE w0 base2 w vx m) (hsz : l.length + m.length ≤ 1000000000)
    (h : ∀ v' w', RowE w0 base w' v' (l ++ m) → Below base w w' → wpList Tryd.prog ops Q rest (a.put o.dst v') w') : wpList Tryd.prog ops Q (o :: rest) a w := by
  obtain ⟨i0, hi, hz0, hz1, hz2⟩ := info_parts info_event4
  obtain ⟨qrs, rfl, hqr, hqa, _, _⟩ := id hw
  rcases hqr.2 with ⟨rfl, h0⟩ | ⟨g, cap, cur, rfl, _⟩
  · obtain rfl : qrs = [] := List.length_eq_zero_iff.1 h0
    obtain ⟨prs, rfl, hr, _⟩ := id hown
    refine wpList_append_own_none hgd s x 22 ho base 39 i0 4 Tryd.underlying22 hi v prs.length (ecells prs) hs hr hx ?_
    refine h v w ?_ (Below.refl _ _)
    rw [List.map_nil, List.append_nil]
    exact hown
  · rw [List.length_map] at hsz
    exact wpList_append_evcells hgd s x ho w0 w base v l hs hown hbase (Below.refl _ _) ⟨g, 0, none⟩ cap qrs hx (fun j u hj => hqr.cells (g := g) rfl j u hj) hqa hsz h
end Go.Proofs.YtkcgmimldjeaiaaDoor

/-
  From what a row says of the nesting table to what lies in memory.
-/
namespace Go.Proofs.YtkcgmimldjeaiaaDoor
open Go.RowKit Go.Lib Go.ChangeShapes Go.Deep

set_option maxRecDepth 100000 in
theorem nest_of {w : World} (h : VarReads Tryd.prog w "scrub/vocabulary.nesting" (.agg (nestT.map fun r => .agg (r.map fun n : Nat => .lit (.int .i64 (n : Int)))))) : NestTab w := by
  obtain ⟨g', t', cs, fuel, p, hg', hty, hvar, hd⟩ := h
  obtain rfl := Option.some.inj ((show Tryd.prog.globalNamed "scrub/vocabulary.nesting" = some 5 by kernel_rfl).symm.trans hg')
  obtain rfl := Option.some.inj ((show (Tryd.prog.globals[5]?).map (·.type) = some 167 by kernel_rfl).symm.trans hty)
  have k7 : Tryd.prog.cellsOf 166 = 7 := by kernel_rfl
  have k1 : Tryd.prog.cellsOf 143 = 1 := by kernel_rfl
  refine range_ofK (by kernel_rfl) hvar (fun j v hv => ?_)
  rw [List.getElem?_map] at hv
  obtain ⟨n, hn, rfl⟩ := Option.map_eq_some_iff.1 hv
  have hj : j < 56 := (List.getElem?_eq_some_iff.1 hn).1
  have hi : j / 7 < 8 := by omega
  have hk : j % 7 < 7 := Nat.mod_lt _ (by decide)
  have hf := nest_flat (j / 7) hi (j % 7) hk
  rw [show j / 7 * 7 + j % 7 = j by omega, hn] at hf
  have hall : ∀ i < 8, nestT[i]? = some (nestT.getD i []) ∧ ∀ k < 7, (nestT.getD i [])[k]? = some ((nestT.getD i []).getD k 0) := by decide +kernel
  obtain ⟨h1, h2⟩ := hall _ hi
  have h3 := h2 _ hk
  rw [← Option.some.inj hf] at h3
  obtain ⟨f1, d1, q1, e1, t1⟩ := array_elem Tryd.underlying167 hd (j / 7) hi
  rw [List.getElem?_map, h1] at e1
  simp only [Option.map_some, Option.some.injEq] at e1
  subst e1
  rw [k7] at t1
  obtain ⟨f2, d2, q2, e2, t2⟩ := array_elem Tryd.underlying166 t1 (j % 7) hk
  rw [List.getElem?_map, h3] at e2
  simp only [Option.map_some, Option.some.injEq] at e2
  subst e2
  rw [k1, Nat.mul_one] at t2
  obtain ⟨m, c1, e3, _⟩ := DataW.trod_int Tryd.underlying143 t2
  simp only [Prod.mk.injEq, DataW.lit.injEq, Lit.int.injEq, true_and] at e3
  have h4 := one_atK c1
  rw [List.getElem?_take_of_lt hk, List.getElem?_drop, show j / 7 * 7 + j % 7 = j by omega] at h4
  rw [h4, ← e3.1]
end Go.Proofs.YtkcgmimldjeaiaaDoor
