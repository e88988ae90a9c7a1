/-
  Parts of the walk, joined: PolRefB, PolRefC, PolCode, BalL, PolLend, PolLendA.
-/
import Derived.Laws.AppendOwnNone
import Derived.Deep.Cut
import Derived.Deep.RegionWith
import Derived.Deep.AppendLies
import Derived.Test.YtcncbhbdpcpkeaaGreatDoorPJAM
import Derived.Test.YtcncbhbdpcpkeaaGreatDoorPJAC
import Derived.Test.YtcncbhbdpcpkeaaGreatDoorPJAB
import Derived.Test.YtcncbhbdpcpkeaaGreatDoorPJAA
import Derived.Test.YtcncbhbdpcpkeaaGreatDoorPJAG
/-
  The reference's Check: words, rules, schemes, drops: their walks.
-/
namespace Go.Proofs.YtcncbhbdpcpkeaaGreatDoor
open Go.RowKit Go.Lib Own

def smallL : List UInt8 := [97, 98, 99, 100, 101, 102, 103, 104, 105, 106, 107, 108, 109, 110, 111, 112, 113, 114, 115, 116, 117, 118, 119, 120, 121, 122]
def digitL : List UInt8 := [48, 49, 50, 51, 52, 53, 54, 55, 56, 57]
end Go.Proofs.YtcncbhbdpcpkeaaGreatDoor

/-
  The reference's Check: rules' names, one rule, one scheme, one drop: their walks.
-/
namespace Go.Proofs.YtcncbhbdpcpkeaaGreatDoor
open Go.RowKit Go.Lib Own

theorem info_str : (Tryz.prog.info? 9).map (fun i => (i.zero, i.size, i.bytes)) = some (some (.string ⟨#[]⟩), 1, 16) := by kernel_rfl
end Go.Proofs.YtcncbhbdpcpkeaaGreatDoor

/-
  policy.Check: the walks of what it calls.
-/
namespace Go.Proofs.YtcncbhbdpcpkeaaGreatDoor
open Go.RowKit Go.Lib Own

/-! ## the code's tables and the reference's -/

theorem elem_none : ∀ (K : List (List (List UInt8) × Nat × Nat)) (x : List UInt8), (∀ k ∈ K, x ∉ k.1) → elemF K x = none
  | [], _, _ => rfl
  | k :: r, x, h => by
    have h1 : k.1.contains x = false := by
      have := h k (List.mem_cons_self ..)
      simpa using this
    simp only [elemF, h1, Bool.false_eq_true, if_false]
    exact elem_none r x (fun k hk => h k (List.mem_cons_of_mem _ hk))
/-- what holds of the 37 names and of every unknown one holds of all -/
theorem elem_all (p : List UInt8 → Prop) (h1 : ∀ x ∈ classT.map Prod.fst, p x) (h2 : ∀ x, elemL x = none → classL x = 0 → p x) : ∀ x, p x := by
  intro x
  by_cases hk : x ∈ classT.map Prod.fst
  · exact h1 x hk
  · refine h2 x (elem_none kindT x (fun k hk2 hx => hk ?_)) (find_none _ _ hk)
    have : ∀ k ∈ kindT, ∀ y ∈ k.1, y ∈ classT.map Prod.fst := by decide +kernel
    exact this k hk2 x hx
/-! ## small walks -/

end Go.Proofs.YtcncbhbdpcpkeaaGreatDoor

/-
  Balance as a plain function on events: the nesting table, a stack of open names, one event at a time.
-/
namespace Go.Proofs.YtcncbhbdpcpkeaaGreatDoor
open Go.RowKit Go.Lib Own

def tdN : List UInt8 := [116, 100]
/-- class and model of a name; 0 where it isn't known -/
def clsX (x : List UInt8) : Nat := ((elemL x).map Prod.fst).getD 0
def modX (x : List UInt8) : Nat := ((elemL x).map Prod.snd).getD 0
def aN : List UInt8 := [97]
/-- the Ends of all but k open elements, innermost first -/
def closeE (k : Nat) (op : List (List UInt8)) : List Ev := (op.drop k).reverse.map .stop
def tableX (x : List UInt8) : Bool := decide (5 ≤ modX x ∧ modX x ≤ 8)
/-! ## the table -/

theorem known_bd (x : List UInt8) : elemL x ≠ none → 1 ≤ clsX x ∧ clsX x ≤ 7 ∧ clsX x ≠ 3 ∧ 1 ≤ modX x ∧ modX x ≤ 9 := by
  refine elem_all (fun x => elemL x ≠ none → 1 ≤ clsX x ∧ clsX x ≤ 7 ∧ clsX x ≠ 3 ∧ 1 ≤ modX x ∧ modX x ≤ 9) (by decide +kernel) (fun x h1 _ h => absurd h1 h) x
theorem void_mod (x : List UInt8) : voidL x = (modX x == 9) := by
  refine elem_all (fun x => voidL x = (modX x == 9)) (by decide +kernel) (fun x h1 _ => ?_) x
  have h2 : modX x = 0 := by unfold modX; rw [h1]; rfl
  rw [h2]
  by_cases h3 : voidL x = true
  · exfalso
    unfold voidL at h3
    simp only [Bool.or_eq_true, beq_iff_eq] at h3
    rcases h3 with rfl | rfl | rfl <;> exact absurd h1 (by decide +kernel)
  · rw [Bool.not_eq_true] at h3; rw [h3]; rfl
/-! ## where a thing may stand -/

end Go.Proofs.YtcncbhbdpcpkeaaGreatDoor

/-
  The statements' sameTexts, longTexts: their walks.
-/
namespace Go.Proofs.YtcncbhbdpcpkeaaGreatDoor
open Go.RowKit Go.Lib Own

/-- the cells of words -/
def wordsV (ss : List (List UInt8)) : List Value := ss.map fun s => .string (bs s)
theorem wordsV_app (a b : List (List UInt8)) : wordsV (a ++ b) = wordsV a ++ wordsV b := List.map_append
theorem wordsV_len (a : List (List UInt8)) : (wordsV a).length = a.length * 1 := by simp [wordsV]
theorem wordsV_one (a : List (List UInt8)) : ∀ u ∈ wordsV a, u.oneCell' = true := by
  intro u hu
  unfold wordsV at hu
  obtain ⟨s, _, rfl⟩ := List.mem_map.1 hu
  rfl
/-- words appended to a row of words that the call owns -/
theorem wpList_append_words {w : World} {ops : Array Oper} {rest : List Oper} {o : Oper} {a : Act} {Q : Exit → Act → World → Prop} (hgd : o.guard = none) (s x : Operand)
    (ho : o.op = .call { callee := .builtin .append, args := #[s, x], argTypes := #[41, 41] }) (base : Nat) (v vx : Value) (l m : List (List UInt8)) (hs : a.eval s = v) (hx : a.eval x = vx)
    (hown : w.ownsRow base 9 1 v l.length (wordsV l)) (hw : Words w vx m) (hbase : base ≤ w.heap.size) (hsz : l.length + m.length ≤ 1000000000)
    (h : ∀ v' w', w'.ownsRow base 9 1 v' (l ++ m).length (wordsV (l ++ m)) → w.grownBy w' v.ownBlock → wpList Tryz.prog ops Q rest (a.put o.dst v') w') : wpList Tryz.prog ops Q (o :: rest) a w := by
  obtain ⟨i0, hi, hz0, hz1, hz2⟩ := info_parts info_str
  obtain ⟨p, c, rfl, hc, hm, hcell, hnone⟩ := hw
  cases p with
  | none =>
    obtain rfl : c = 0 := hnone rfl
    obtain rfl : m = [] := List.length_eq_zero_iff.1 (by omega)
    refine wpList_append_own_none hgd s x 41 ho base 9 i0 1 Tryz.underlying41 hi v l.length (wordsV l) hs hown hx ?_
    exact h v w (by rw [List.append_nil]; exact hown) ⟨rfl, rfl, rfl, Nat.le_refl _, fun _ _ _ => rfl⟩
  | some ad =>
    refine wpList_append_own w hgd s x 41 ho base 9 i0 (.string ⟨#[]⟩) 1 16 Tryz.underlying41 hi hz0 hz1 hz2 rfl (by decide) v l.length (wordsV l) hs hown ad m.length c (wordsV m) hx (wordsV_len m) ?_ (wordsV_one m) (by unfold maxLen; omega) (by omega) hbase ?_
    · intro j u hj
      unfold wordsV at hj
      rw [List.getElem?_map] at hj
      obtain ⟨t, ht, rfl⟩ := Option.map_eq_some_iff.1 hj
      obtain ⟨b, o', e, hd⟩ := hcell j t ht
      cases e
      have hadd : (⟨b, o', none⟩ : Addr).add j = ⟨b, o' + j, none⟩ := by unfold Addr.add; split <;> simp_all
      rw [hadd]
      exact hd
    · intro v' w' h2 h3 _
      exact h v' w' (by rw [List.length_append, wordsV_app]; exact h2) h3

end Go.Proofs.YtcncbhbdpcpkeaaGreatDoor

/-
  The statements' lendPolicy: what its memory holds.
-/
namespace Go.Proofs.YtcncbhbdpcpkeaaGreatDoor
open Go.RowKit Go.Lib Own

theorem row_cap {W : World} {base : Nat} {e : TypeId} {size n m c : Nat} {p : Option Addr} {xs : List Value} (h : W.ownsRow base e size (.slice p m c) n xs) : m = n ∧ n ≤ c := by
  rcases h.2 with ⟨e, rfl⟩ | ⟨g, cap, cur, e, _, _, hle, _⟩
  · cases e
    exact ⟨rfl, Nat.le_refl _⟩
  · cases e
    exact ⟨rfl, hle⟩
theorem alloc_lt (W : World) (X : Obj) : W.heap.size < (W.alloc X).heap.size := by simp
theorem Just.andThen {W W1 W2 : World} {b : Nat} {cs cs2 : Array Value} {T : TypeId} (h : Just W W1 b cs T) (h2 : Just W1 W2 b cs2 T) : Just W W2 b cs2 T :=
  ⟨h2.os.trans h.os, h2.tape.trans h.tape, h2.output.trans h.output, h2.size.trans h.size, h2.at_, fun k hk => (h2.other k hk).trans (h.other k hk)⟩
theorem just_put {W : World} {b j : Nat} {cs cs2 : Array Value} {T : TypeId} (h : W.heap[b]? = some (.cells cs T (0, 0))) (v : Value) (e : cs.setIfInBounds j v = cs2) : Just W (W.setCell ⟨b, j, none⟩ v) b cs2 T := by
  subst e
  exact just_set h v
theorem just_low {W W' : World} {b : Nat} {cs : Array Value} {T : TypeId} (h : Just W W' b cs T) {base : Nat} (hb : base ≤ b) : Below base W W' :=
  ⟨h.os, h.tape, h.output, by rw [h.size]; exact Nat.le_refl _, fun k hk => h.other k (by omega)⟩
theorem grown_at {W W2 : World} {v : Value} (hg : W.grownBy W2 v.ownBlock) {b : Nat} {o : Obj} (h : W.heap[b]? = some o) (hne : v.ownBlock ≠ some b) : W2.heap[b]? = some o := (hg.block b (block_lt h) (fun e => hne e.symm)).trans h
end Go.Proofs.YtcncbhbdpcpkeaaGreatDoor
