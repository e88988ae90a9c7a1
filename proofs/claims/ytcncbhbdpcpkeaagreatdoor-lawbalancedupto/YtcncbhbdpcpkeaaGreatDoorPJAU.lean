/-
  Parts of the walk, joined: PolCode, BalL, ParL, ParB.
-/
import Derived.Test.YtcncbhbdpcpkeaaGreatDoorPJAO
import Derived.Test.YtcncbhbdpcpkeaaGreatDoorPJAM
import Derived.Test.YtcncbhbdpcpkeaaGreatDoorPJAB
import Derived.Test.YtcncbhbdpcpkeaaGreatDoorPJAH
import Derived.Test.YtcncbhbdpcpkeaaGreatDoorPJAT
/-
  policy.Check: the walks of what it calls.
-/
namespace Go.Proofs.YtcncbhbdpcpkeaaGreatDoor
open Go.RowKit Go.Lib Own

/-! ## the code's tables and the reference's -/

theorem elem_none : ∀ (K : List (List (List UInt8) × Nat × Nat)) (x : List UInt8), (∀ k ∈ K, x ∉ k.1) → elemF K x = none
  | [], _, _ => rfl
  | k :: r, x, h => by
    have h1 : k.1.contains x = false := by
      have := h k (List.mem_cons_self ..)
      simpa using this
    simp only [elemF, h1, Bool.false_eq_true, if_false]
    exact elem_none r x (fun k hk => h k (List.mem_cons_of_mem _ hk))
/-- what holds of the 37 names and of every unknown one holds of all -/
theorem elem_all (p : List UInt8 → Prop) (h1 : ∀ x ∈ classT.map Prod.fst, p x) (h2 : ∀ x, elemL x = none → classL x = 0 → p x) : ∀ x, p x := by
  intro x
  by_cases hk : x ∈ classT.map Prod.fst
  · exact h1 x hk
  · refine h2 x (elem_none kindT x (fun k hk2 hx => hk ?_)) (find_none _ _ hk)
    have : ∀ k ∈ kindT, ∀ y ∈ k.1, y ∈ classT.map Prod.fst := by decide +kernel
    exact this k hk2 x hx
/-! ## small walks -/

end Go.Proofs.YtcncbhbdpcpkeaaGreatDoor

/-
  Balance as a plain function on events: the nesting table, a stack of open names, one event at a time.
-/
namespace Go.Proofs.YtcncbhbdpcpkeaaGreatDoor
open Go.RowKit Go.Lib Own

/-- 0 stop, 1 up, 2 take, 3 and on: in these implied elements -/
def nestT : List (List Nat) := [[2, 2, 2, 1, 1, 1, 1], [1, 2, 2, 1, 1, 1, 1], [1, 1, 2, 1, 1, 1, 1], [3, 3, 3, 2, 1, 1, 1], [6, 6, 6, 0, 2, 4, 5], [8, 8, 8, 0, 1, 2, 7], [9, 9, 9, 0, 1, 1, 2], [2, 2, 2, 0, 1, 1, 1]]
def nestP (m c : Nat) : Nat := if m < 1 ∨ 8 < m ∨ c < 1 ∨ 7 < c then 0 else (nestT.getD (m - 1) []).getD (c - 1) 0
def liN : List UInt8 := [108, 105]
def tbodyN : List UInt8 := [116, 98, 111, 100, 121]
def trN : List UInt8 := [116, 114]
def tdN : List UInt8 := [116, 100]
def impP : Nat → List (List UInt8)
  | 3 => [liN]
  | 4 => [tbodyN]
  | 5 => [tbodyN, trN]
  | 6 => [tbodyN, trN, tdN]
  | 7 => [trN]
  | 8 => [trN, tdN]
  | 9 => [tdN]
  | _ => []
/-- class and model of a name; 0 where it isn't known -/
def clsX (x : List UInt8) : Nat := ((elemL x).map Prod.fst).getD 0
def modX (x : List UInt8) : Nat := ((elemL x).map Prod.snd).getD 0
/-- the model inside the innermost of the open elements -/
def modO (op : List (List UInt8)) : Nat := match op.getLast? with | none => 1 | some x => modX x
/-- a place for a thing of class c, looked for from the innermost of k open elements outward: how many stay open, and the place -/
def findP (c : Nat) (op : List (List UInt8)) : Nat → Nat × Nat
  | 0 => if nestP (modO (op.take 0)) c = 1 then (0, 0) else (0, nestP (modO (op.take 0)) c)
  | k + 1 => if nestP (modO (op.take (k + 1))) c = 1 then findP c op k else (k + 1, nestP (modO (op.take (k + 1))) c)
def aN : List UInt8 := [97]
def reachP (op : List (List UInt8)) (x : List UInt8) : Nat := if x = aN then op.idxOf aN else op.length
/-- the Ends of all but k open elements, innermost first -/
def closeE (k : Nat) (op : List (List UInt8)) : List Ev := (op.drop k).reverse.map .stop
def openE (l : List (List UInt8)) : List Ev := l.map fun x => .start x []
def tableX (x : List UInt8) : Bool := decide (5 ≤ modX x ∧ modX x ≤ 8)
/-- does an open element hide those around it from the end tag of x? -/
def wallX (o x : List UInt8) : Bool := if tableX x = true then modX o == 5 else if clsX x = 4 ∧ modX o = 4 then true else tableX o
/-- how many elements stay open behind an end tag that is looked for among the k outermost -/
def closesP (op : List (List UInt8)) (x : List UInt8) : Nat → Option Nat
  | 0 => none
  | k + 1 => if op.getD k [] = x then some k else if wallX (op.getD k []) x = true then none else closesP op x k
/-- whitespace taken off the beginning -/
def trimP (t : List UInt8) : List UInt8 := t.dropWhile spaceC
def startP (d : Nat) (op : List (List UInt8)) (x : List UInt8) (al : List AttrP) : List (List UInt8) × List Ev :=
  if elemL x = none then (op, []) else
  if (findP (clsX x) op (reachP op x)).2 = 0 ∨ d < (findP (clsX x) op (reachP op x)).1 + (impP (findP (clsX x) op (reachP op x)).2).length + 1 then (op, []) else
  (op.take (findP (clsX x) op (reachP op x)).1 ++ impP (findP (clsX x) op (reachP op x)).2 ++ (if modX x = 9 then [] else [x]),
    closeE (findP (clsX x) op (reachP op x)).1 op ++ openE (impP (findP (clsX x) op (reachP op x)).2) ++ [.start x al])
def textP (d : Nat) (op : List (List UInt8)) (t : List UInt8) : List (List UInt8) × List Ev :=
  if nestP (modO op) 3 = 2 then (op, if t = [] then [] else [.text t]) else
  if trimP t = [] ∨ d < op.length + (impP (nestP (modO op) 3)).length then (op, []) else (op ++ impP (nestP (modO op) 3), openE (impP (nestP (modO op) 3)) ++ [.text (trimP t)])
def endP (op : List (List UInt8)) (x : List UInt8) : List (List UInt8) × List Ev :=
  if elemL x = none then (op, []) else match closesP op x op.length with
    | none => (op, [])
    | some k => (op.take k, closeE k op)
def balS (d : Nat) (op : List (List UInt8)) (e : EvP) : List (List UInt8) × List Ev :=
  if e.k = 1 then startP d op e.n e.a else if e.k = 2 then endP op e.n else if e.k = 3 then textP d op e.t else (op, [])
/-- all events from a stack on, with the Ends behind the last -/
def rawB (d : Nat) : List (List UInt8) → List EvP → List Ev
  | op, [] => closeE 0 op
  | op, e :: r => (balS d op e).2 ++ rawB d (balS d op e).1 r
theorem rawB_step (d : Nat) (op : List (List UInt8)) (e : EvP) (r : List EvP) : rawB d op (e :: r) = (balS d op e).2 ++ rawB d (balS d op e).1 r := rfl
/-- an event put into a stream: texts that meet are one -/
def putE (s : List Ev × List UInt8) : Ev → List Ev × List UInt8
  | .text b => (s.1, s.2 ++ b)
  | e => (flushE s ++ [e], [])
def putEs (s : List Ev × List UInt8) (l : List Ev) : List Ev × List UInt8 := l.foldl putE s
theorem putEs_app (s : List Ev × List UInt8) (a b : List Ev) : putEs s (a ++ b) = putEs (putEs s a) b := List.foldl_append
/-- Balance's answer -/
def balP (d : Nat) (es : List EvP) : List Ev := flushE (putEs ([], []) (rawB d [] es))

/-! ## the table -/

theorem known_bd (x : List UInt8) : elemL x ≠ none → 1 ≤ clsX x ∧ clsX x ≤ 7 ∧ clsX x ≠ 3 ∧ 1 ≤ modX x ∧ modX x ≤ 9 := by
  refine elem_all (fun x => elemL x ≠ none → 1 ≤ clsX x ∧ clsX x ≤ 7 ∧ clsX x ≠ 3 ∧ 1 ≤ modX x ∧ modX x ≤ 9) (by decide +kernel) (fun x h1 _ h => absurd h1 h) x
theorem void_mod (x : List UInt8) : voidL x = (modX x == 9) := by
  refine elem_all (fun x => voidL x = (modX x == 9)) (by decide +kernel) (fun x h1 _ => ?_) x
  have h2 : modX x = 0 := by unfold modX; rw [h1]; rfl
  rw [h2]
  by_cases h3 : voidL x = true
  · exfalso
    unfold voidL at h3
    simp only [Bool.or_eq_true, beq_iff_eq] at h3
    rcases h3 with rfl | rfl | rfl <;> exact absurd h1 (by decide +kernel)
  · rw [Bool.not_eq_true] at h3; rw [h3]; rfl
theorem nest_lt (m c : Nat) : nestP m c < 10 := by
  unfold nestP
  split
  · omega
  · rename_i h
    have h1 : m - 1 < 8 := by omega
    have h2 : c - 1 < 7 := by omega
    have : ∀ i < 8, ∀ j < 7, (nestT.getD i []).getD j 0 < 10 := by decide +kernel
    exact this _ h1 _ h2
theorem imp_one {p : Nat} {x : List UInt8} (h : x ∈ impP p) : x = liN ∨ x = tbodyN ∨ x = trN ∨ x = tdN := by
  unfold impP at h
  split at h <;> (try simp only [List.mem_cons, List.not_mem_nil, or_false] at h)
  · exact .inl h
  · exact .inr (.inl h)
  · rcases h with h | h
    · exact .inr (.inl h)
    · exact .inr (.inr (.inl h))
  · rcases h with h | h | h
    · exact .inr (.inl h)
    · exact .inr (.inr (.inl h))
    · exact .inr (.inr (.inr h))
  · exact .inr (.inr (.inl h))
  · rcases h with h | h
    · exact .inr (.inr (.inl h))
    · exact .inr (.inr (.inr h))
  · exact .inr (.inr (.inr h))
theorem imp_ok {p : Nat} {x : List UInt8} (h : x ∈ impP p) : elemL x ≠ none ∧ modX x ≠ 9 ∧ x ≠ aN ∧ x ≠ [] := by
  rcases imp_one h with rfl | rfl | rfl | rfl <;> decide +kernel
theorem imp_len (p : Nat) : (impP p).length ≤ 3 := by
  unfold impP
  split <;> simp

/-! ## where a thing may stand -/

theorem findP_le (c : Nat) (op : List (List UInt8)) : ∀ k, (findP c op k).1 ≤ k
  | 0 => by unfold findP; split <;> exact Nat.le_refl 0
  | k + 1 => by
    unfold findP
    split
    · have := findP_le c op k; omega
    · exact Nat.le_refl _
/-- the place is not up; and if it isn't stop, it is the table's at what stays open -/
theorem findP_at (c : Nat) (op : List (List UInt8)) : ∀ k, (findP c op k).2 ≠ 1 ∧ ((findP c op k).2 ≠ 0 → (findP c op k).2 = nestP (modO (op.take (findP c op k).1)) c)
  | 0 => by
    unfold findP
    split
    · simp
    · rename_i h; exact ⟨h, fun _ => rfl⟩
  | k + 1 => by
    unfold findP
    split
    · exact findP_at c op k
    · rename_i h; exact ⟨h, fun _ => rfl⟩
theorem findP_self {c k p : Nat} {op : List (List UInt8)} (h : nestP (modO (op.take k)) c = p) (hp : p ≠ 1) : findP c op k = (k, p) := by
  subst h
  cases k <;> (unfold findP; rw [if_neg hp])
end Go.Proofs.YtcncbhbdpcpkeaaGreatDoor

/-
  Parse as a plain function: units, tokens, the verdict on each, the tree.
-/
namespace Go.Proofs.YtcncbhbdpcpkeaaGreatDoor
open Go.RowKit Go.Lib Own

/-- what the front of a text stands for, and its length -/
def unitP (l : List UInt8) : Option (List UInt8 × Nat) :=
  if ampE.isPrefixOf l = true then some ([38], 5) else if ltE.isPrefixOf l = true then some ([60], 4) else if gtE.isPrefixOf l = true then some ([62], 4) else if quotE.isPrefixOf l = true then some ([34], 6) else if nbspE.isPrefixOf l = true then some ([194, 160], 6)
  else if (codeL l).2 = 0 ∨ (codeL l).1 = 38 ∨ goodB (codeL l).1 = false then none else some (l.take (codeL l).2, (codeL l).2)
def decPf : Nat → List UInt8 → Option (List UInt8)
  | 0, _ => some []
  | f + 1, l => if l = [] then some [] else match unitP l with
    | none => none
    | some (b, n) => (decPf f (l.drop n)).map (b ++ ·)
/-- a run of units -/
def decP (l : List UInt8) : Option (List UInt8) := decPf l.length l
def smallB (c : UInt8) : Bool := decide (97 ≤ c.toNat ∧ c.toNat ≤ 122)
def wordB (sg : List UInt8) (c : UInt8) : Bool := smallB c || (decide (48 ≤ c.toNat ∧ c.toNat ≤ 57) || sg.contains c)
/-- the length of the word that a text begins with -/
def wordN (sg : List UInt8) : List UInt8 → Nat
  | [] => 0
  | c :: r => if smallB c = true then (r.takeWhile (wordB sg)).length + 1 else 0
def noQ (c : UInt8) : Bool := c != 34
def noLt (c : UInt8) : Bool := c != 60
/-- one attribute, behind its blank -/
def attrP (r : List UInt8) : Option (AttrP × List UInt8) :=
  if wordN [45] r = 0 ∨ (r.drop (wordN [45] r)).take 2 ≠ [61, 34] then none else
  if ((r.drop (wordN [45] r + 2)).takeWhile noQ).length = (r.drop (wordN [45] r + 2)).length then none else
  (decP ((r.drop (wordN [45] r + 2)).takeWhile noQ)).map fun v => ((r.take (wordN [45] r), v), (r.drop (wordN [45] r + 2)).drop (((r.drop (wordN [45] r + 2)).takeWhile noQ).length + 1))
def attrsP : Nat → List UInt8 → Option (List AttrP × List UInt8)
  | 0, _ => none
  | f + 1, l => if l.head? = some 62 then some ([], l.tail) else if l.head? = some 32 then (match attrP l.tail with
    | none => none
    | some (a, q) => (attrsP f q).map fun x => (a :: x.1, x.2)) else none
/-- the token that a text begins with, and what is behind it -/
def tokP (l : List UInt8) : Option (Ev × List UInt8) :=
  if l.head? = some 60 then
    if l.tail.head? = some 47 then
      if wordN [] (l.drop 2) = 0 ∨ ((l.drop 2).drop (wordN [] (l.drop 2))).head? ≠ some 62 then none else some (.stop ((l.drop 2).take (wordN [] (l.drop 2))), (l.drop 2).drop (wordN [] (l.drop 2) + 1))
    else if wordN [] l.tail = 0 then none else (attrsP (l.length + 1) (l.tail.drop (wordN [] l.tail))).map fun x => (.start (l.tail.take (wordN [] l.tail)) x.1, x.2)
  else (decP (l.takeWhile noLt)).map fun t => (.text t, l.drop (l.takeWhile noLt).length)

/-! ## the verdicts -/

def pN : List UInt8 := [112]
def divN : List UInt8 := [100, 105, 118]
def tblN : List UInt8 := [116, 97, 98, 108, 101]
def thN : List UInt8 := [116, 104]
/-- the model of the innermost table element; 0: none. The list is the innermost first -/
def innR : List (List UInt8) → Nat
  | [] => 0
  | y :: r => if tableX y = true then modX y else innR r
def innT (op : List (List UInt8)) : Nat := innR op.reverse
def partT (m : Nat) : Nat := if m = 5 then 5 else if m = 6 then 6 else 7
def judgeT (op : List (List UInt8)) (x : List UInt8) : Nat :=
  if innT op = 0 ∧ tableX x = true ∧ modX x ≠ 5 then 5 else if innT op = 8 ∧ tableX x = true ∧ modX x ≠ 5 then 6 else if innT op = 0 ∨ innT op = 8 ∨ clsX x = partT (innT op) then 0 else if tableX x = true then 6 else 8
def nearR (x : List UInt8) (ws : List (List UInt8)) : List (List UInt8) → Bool
  | [] => false
  | y :: r => if y = x then true else if ws.contains y = true then false else nearR x ws r
def itemR : List (List UInt8) → Bool
  | [] => false
  | y :: r => if clsX y = 4 then true else if clsX y ≠ 2 ∧ y ≠ divN ∧ y ≠ pN then false else itemR r
def headX (x : List UInt8) : Bool := x.length == 2 && (x.getD 0 0 == 104 && (decide (49 ≤ (x.getD 1 0).toNat) && decide ((x.getD 1 0).toNat ≤ 54)))
def judgeO (op : List (List UInt8)) (x : List UInt8) : Nat :=
  if clsX x = 4 ∧ itemR op.reverse = true then 6 else if (clsX x = 4 ∨ clsX x = 1) ∧ nearR pN [tblN, tdN, thN] op.reverse = true then 6 else if headX x = true ∧ headX (op.getLast?.getD []) = true then 6 else if x = aN ∧ nearR aN [tdN, thN] op.reverse = true then 7 else 0
/-- the model of the innermost element; 0: none is open -/
def modI (op : List (List UInt8)) : Nat := (op.getLast?.map modX).getD 0
def judgeP (op : List (List UInt8)) (x : List UInt8) : Nat :=
  if modI op = 3 then 1 else if elemL x = none then 3 else if 256 ≤ op.length then 4 else if judgeT op x ≠ 0 then judgeT op x else judgeO op x

structure PS where
  op : List (List UInt8)
  ns : List EvP
  eat : Bool
def wsP (c : UInt8) : Bool := c == 9 || (c == 10 || (c == 12 || c == 32))
def eaten (eat : Bool) (t : List UInt8) : List UInt8 := if eat = true ∧ t.head? = some 10 then t.tail else t
/-- one token: the verdict, and what stands then -/
def stepP (s : PS) : Ev → Nat × PS
  | .text t => if eaten s.eat t = [] then (0, ⟨s.op, s.ns, false⟩) else if (innT s.op = 5 ∨ innT s.op = 6 ∨ innT s.op = 7) ∧ (eaten s.eat t).all wsP = false then (8, s) else (0, ⟨s.op, s.ns ++ [⟨s.op.length, [], [], eaten s.eat t⟩], false⟩)
  | .start x al => if ¬ (al.map Prod.fst).Nodup then (2, s) else if judgeP s.op x ≠ 0 then (judgeP s.op x, s) else (0, ⟨if modX x = 9 then s.op else s.op ++ [x], s.ns ++ [⟨s.op.length, x, al, []⟩], eatsL x⟩)
  | .stop x => if s.op.getLast? = some x then (0, ⟨s.op.dropLast, s.ns, false⟩) else if modI s.op = 3 then (1, s) else (9, s)
def parsePf : Nat → PS → List UInt8 → Nat × List EvP
  | 0, s, _ => if s.op = [] then (0, s.ns) else (10, [])
  | f + 1, s, l => if l = [] then (if s.op = [] then (0, s.ns) else (10, [])) else match tokP l with
    | none => (1, [])
    | some (t, r) => if (stepP s t).1 = 0 then parsePf f (stepP s t).2 r else ((stepP s t).1, [])
/-- the verdict on a text, and its tree -/
def parseP (l : List UInt8) : Nat × List EvP := parsePf l.length ⟨[], [], false⟩ l

/-! ## their lengths -/

theorem unit_len {l b : List UInt8} {n : Nat} (h : unitP l = some (b, n)) (h0 : l ≠ []) : 1 ≤ n ∧ n ≤ l.length ∧ 1 ≤ b.length ∧ b.length ≤ n := by
  have hp : ∀ p : List UInt8, p.isPrefixOf l = true → p.length ≤ l.length := fun p hp => (List.isPrefixOf_iff_prefix.1 hp).length_le
  unfold unitP at h
  split at h
  · rename_i h1; cases h; have := hp _ h1; simp [ampE] at this ⊢; omega
  split at h
  · rename_i h1; cases h; have := hp _ h1; simp [ltE] at this ⊢; omega
  split at h
  · rename_i h1; cases h; have := hp _ h1; simp [gtE] at this ⊢; omega
  split at h
  · rename_i h1; cases h; have := hp _ h1; simp [quotE] at this ⊢; omega
  split at h
  · rename_i h1; cases h; have := hp _ h1; simp [nbspE] at this ⊢; omega
  split at h
  · cases h
  · rename_i h1
    cases h
    have h2 := codeL_le l h0
    have h3 : (codeL l).2 ≠ 0 := fun e => h1 (.inl e)
    rw [List.length_take]
    omega
theorem decPf_fuel : ∀ (f g : Nat) (l : List UInt8), l.length ≤ f → l.length ≤ g → decPf f l = decPf g l
  | 0, 0, _, _, _ => rfl
  | 0, g + 1, l, hf, _ => by
    have : l = [] := List.eq_nil_of_length_eq_zero (by omega)
    simp [decPf, this]
  | f + 1, 0, l, _, hg => by
    have : l = [] := List.eq_nil_of_length_eq_zero (by omega)
    simp [decPf, this]
  | f + 1, g + 1, l, hf, hg => by
    by_cases h0 : l = []
    · simp [decPf, h0]
    · unfold decPf
      rw [if_neg h0, if_neg h0]
      cases hu : unitP l with
      | none => rfl
      | some x =>
        obtain ⟨b, n⟩ := x
        have := unit_len hu h0
        simp only
        rw [decPf_fuel f g (l.drop n) (by simp; omega) (by simp; omega)]
theorem decP_nil : decP [] = some [] := rfl
theorem decP_step {l : List UInt8} (h0 : l ≠ []) : decP l = match unitP l with
    | none => none
    | some (b, n) => (decP (l.drop n)).map (b ++ ·) := by
  have e1 : l.length = (l.length - 1) + 1 := by
    have := List.length_pos_iff.2 h0
    omega
  conv => lhs; unfold decP; rw [e1]
  unfold decPf
  rw [if_neg h0]
  cases hu : unitP l with
  | none => rfl
  | some x =>
    obtain ⟨b, n⟩ := x
    have := unit_len hu h0
    simp only
    rw [show decPf (l.length - 1) (l.drop n) = decP (l.drop n) from decPf_fuel _ _ _ (by simp; omega) (Nat.le_refl _)]
theorem decP_len : ∀ (n : Nat) (l b : List UInt8), l.length ≤ n → decP l = some b → b.length ≤ l.length ∧ (l ≠ [] → b ≠ [])
  | 0, l, b, h, hd => by
    have : l = [] := List.eq_nil_of_length_eq_zero (by omega)
    subst this
    cases hd
    exact ⟨Nat.le_refl _, fun h => absurd rfl h⟩
  | m + 1, l, b, h, hd => by
    by_cases h0 : l = []
    · subst h0; cases hd; exact ⟨Nat.le_refl _, fun h => absurd rfl h⟩
    · rw [decP_step h0] at hd
      cases hu : unitP l with
      | none => rw [hu] at hd; cases hd
      | some x =>
        obtain ⟨c, n⟩ := x
        have hl := unit_len hu h0
        rw [hu] at hd
        simp only at hd
        cases hr : decP (l.drop n) with
        | none => rw [hr] at hd; cases hd
        | some q =>
          rw [hr] at hd
          simp only [Option.map_some, Option.some.injEq] at hd
          subst hd
          have ih := decP_len m _ _ (by simp; omega) hr
          simp only [List.length_drop] at ih
          refine ⟨by rw [List.length_append]; omega, fun _ e => ?_⟩
          have := congrArg List.length e
          rw [List.length_append] at this
          simp only [List.length_nil] at this
          omega
theorem takeWhile_len {α : Type} (p : α → Bool) : ∀ l : List α, (l.takeWhile p).length ≤ l.length
  | [] => Nat.le_refl _
  | a :: r => by
    rw [List.takeWhile_cons]
    split
    · have := takeWhile_len p r; simp only [List.length_cons]; omega
    · exact Nat.zero_le _
theorem wordN_le (sg : List UInt8) (l : List UInt8) : wordN sg l ≤ l.length := by
  cases l with
  | nil => exact Nat.le_refl _
  | cons c r =>
    rw [show wordN sg (c :: r) = if smallB c = true then (r.takeWhile (wordB sg)).length + 1 else 0 from rfl]
    split
    · have := takeWhile_len (wordB sg) r; simp only [List.length_cons]; omega
    · exact Nat.zero_le _
theorem attr_len {r q : List UInt8} {a : AttrP} (h : attrP r = some (a, q)) : q.length + 4 ≤ r.length ∧ a.1.length + a.2.length + q.length + 3 ≤ r.length := by
  unfold attrP at h
  split at h
  · cases h
  rename_i h1
  split at h
  · cases h
  rename_i h2
  have hw := wordN_le [45] r
  have h3 : wordN [45] r ≠ 0 := fun e => h1 (.inl e)
  have h4 : (r.drop (wordN [45] r)).take 2 = [61, 34] := Classical.byContradiction fun e => h1 (.inr e)
  have h5 := congrArg List.length h4
  rw [List.length_take, List.length_drop] at h5
  simp only [List.length_cons, List.length_nil] at h5
  have h6 := takeWhile_len noQ (r.drop (wordN [45] r + 2))
  obtain ⟨v, hv, hx⟩ := Option.map_eq_some_iff.1 h
  simp only [Prod.mk.injEq] at hx
  obtain ⟨rfl, rfl⟩ := hx
  have h7 := (decP_len _ _ _ (Nat.le_refl _) hv).1
  simp only [List.length_drop, List.length_take] at h2 h6 h7 ⊢
  omega
theorem attrs_lenP : ∀ (f : Nat) (l q : List UInt8) (al : List AttrP), attrsP f l = some (al, q) → q.length + 1 ≤ l.length ∧ bulkA al + q.length ≤ l.length
  | 0, l, q, al, h => by cases h
  | f + 1, l, q, al, h => by
    unfold attrsP at h
    split at h
    · rename_i h1
      cases h
      cases l with
      | nil => cases h1
      | cons c r => simp [bulkA]
    · split at h
      · rename_i h1
        cases l with
        | nil => cases h1
        | cons c r =>
          simp only [List.tail_cons] at h
          cases ha : attrP r with
          | none => rw [ha] at h; cases h
          | some x =>
            obtain ⟨a, q'⟩ := x
            rw [ha] at h
            simp only at h
            obtain ⟨⟨al', q''⟩, hy, hx⟩ := Option.map_eq_some_iff.1 h
            simp only [Prod.mk.injEq] at hx
            obtain ⟨rfl, rfl⟩ := hx
            have h2 := attr_len ha
            have h3 := attrs_lenP f _ _ _ hy
            rw [bulkA_cons]
            simp only [List.length_cons]
            omega
      · cases h
theorem attrsP_fuel : ∀ (f g : Nat) (l : List UInt8), l.length < f → l.length < g → attrsP f l = attrsP g l
  | 0, _, _, h, _ => absurd h (Nat.not_lt_zero _)
  | _ + 1, 0, _, _, h => absurd h (Nat.not_lt_zero _)
  | f + 1, g + 1, l, hf, hg => by
    unfold attrsP
    split
    · rfl
    split
    · cases ha : attrP l.tail with
      | none => rfl
      | some x =>
        obtain ⟨a, q⟩ := x
        have h2 := attr_len ha
        rw [List.length_tail] at h2
        simp only
        rw [attrsP_fuel f g q (by omega) (by omega)]
    · rfl
theorem tok_len {l r : List UInt8} {t : Ev} (h : tokP l = some (t, r)) (h0 : l ≠ []) : r.length + 1 ≤ l.length := by
  have hl := List.length_pos_iff.2 h0
  unfold tokP at h
  split at h
  · split at h
    · split at h
      · cases h
      · rename_i h1
        cases h
        simp only [List.length_drop]
        omega
    · split at h
      · cases h
      · obtain ⟨⟨al, q⟩, hy, hx⟩ := Option.map_eq_some_iff.1 h
        simp only [Prod.mk.injEq] at hx
        obtain ⟨rfl, rfl⟩ := hx
        have h3 := attrs_lenP _ _ _ _ hy
        rw [List.length_drop, List.length_tail] at h3
        show q.length + 1 ≤ _
        omega
  · rename_i h1
    obtain ⟨v, hv, hx⟩ := Option.map_eq_some_iff.1 h
    simp only [Prod.mk.injEq] at hx
    obtain ⟨rfl, rfl⟩ := hx
    cases l with
    | nil => exact absurd rfl h0
    | cons c q =>
      have h2 : noLt c = true := by
        unfold noLt
        rw [bne_iff_ne]
        rintro rfl
        exact h1 rfl
      rw [List.takeWhile_cons, if_pos h2]
      simp only [List.length_cons, List.length_drop]
      omega
theorem parsePf_fuel : ∀ (f g : Nat) (s : PS) (l : List UInt8), l.length ≤ f → l.length ≤ g → parsePf f s l = parsePf g s l
  | 0, 0, _, _, _, _ => rfl
  | 0, g + 1, s, l, hf, _ => by
    have : l = [] := List.eq_nil_of_length_eq_zero (by omega)
    simp [parsePf, this]
  | f + 1, 0, s, l, _, hg => by
    have : l = [] := List.eq_nil_of_length_eq_zero (by omega)
    simp [parsePf, this]
  | f + 1, g + 1, s, l, hf, hg => by
    by_cases h0 : l = []
    · simp [parsePf, h0]
    · unfold parsePf
      rw [if_neg h0, if_neg h0]
      cases hu : tokP l with
      | none => rfl
      | some x =>
        obtain ⟨t, r⟩ := x
        have := tok_len hu h0
        simp only
        split
        · exact parsePf_fuel f g _ _ (by omega) (by omega)
        · rfl
/-- Parse from a state on -/
def parseS (s : PS) (l : List UInt8) : Nat × List EvP := parsePf l.length s l
theorem parseS_nil (s : PS) : parseS s [] = if s.op = [] then (0, s.ns) else (10, []) := rfl
theorem parseS_step (s : PS) {l : List UInt8} (h0 : l ≠ []) : parseS s l = match tokP l with
    | none => (1, [])
    | some (t, r) => if (stepP s t).1 = 0 then parseS (stepP s t).2 r else ((stepP s t).1, []) := by
  have e1 : l.length = (l.length - 1) + 1 := by
    have := List.length_pos_iff.2 h0
    omega
  conv => lhs; unfold parseS; rw [e1]
  unfold parsePf
  rw [if_neg h0]
  cases hu : tokP l with
  | none => rfl
  | some x =>
    obtain ⟨t, r⟩ := x
    have := tok_len hu h0
    simp only
    rw [show parsePf (l.length - 1) (stepP s t).2 r = parseS (stepP s t).2 r from parsePf_fuel _ _ _ _ (by omega) (Nat.le_refl _)]
end Go.Proofs.YtcncbhbdpcpkeaaGreatDoor

/-
  What is written is read back: units, tokens. Plain.
-/
namespace Go.Proofs.YtcncbhbdpcpkeaaGreatDoor
open Go.RowKit Go.Lib Own

/-- good text, character by character -/
theorem gt_chars {P : List UInt8 → Prop} (h0 : P []) (h1 : ∀ (c : Nat) (r : List UInt8), goodB c = true → gt r = true → P r → P (encodeRune c ++ r)) : ∀ (n : Nat) (l : List UInt8), l.length ≤ n → gt l = true → P l
  | 0, l, h, _ => by
    have : l = [] := List.eq_nil_of_length_eq_zero (by omega)
    subst this; exact h0
  | n + 1, l, h, hg => by
    by_cases hl : l = []
    · subst hl; exact h0
    · have hle := codeL_le l hl
      by_cases hbad : (codeL l).2 = 0 ∨ goodB (codeL l).1 = false
      · rw [gt_bad l hl hbad] at hg; exact absurd hg (by decide)
      · have g1 : (codeL l).2 ≠ 0 := fun h => hbad (Or.inl h)
        have g2 : goodB (codeL l).1 = true := by
          cases hb : goodB (codeL l).1
          · exact absurd (Or.inr hb) hbad
          · rfl
        rw [gt_step l hl g1 g2] at hg
        have he : encodeRune (codeL l).1 = l.take (codeL l).2 := by
          have := enc_take (l.getD 0 0) (l.getD 1 0) (l.getD 2 0) (l.getD 3 0) l.length g1 g2
          exact this.trans (four_take l _ hle.2.1 hle.2.2)
        have ih := gt_chars h0 h1 n (l.drop (codeL l).2) (by simp; omega) hg
        have := h1 _ _ g2 hg ih
        rw [he, List.take_append_drop] at this
        exact this
theorem gt_app {a b : List UInt8} (ha : gt a = true) : gt (a ++ b) = gt b :=
  gt_chars (P := fun a => gt (a ++ b) = gt b) rfl (fun c r hc _ ih => by rw [List.append_assoc, gt_enc c _ hc]; exact ih) _ a (Nat.le_refl _) ha
theorem enc_one {c : Nat} (h : c < 128) : encodeRune (c : Int) = [c.toUInt8] := by
  unfold encodeRune
  rw [encodeRuneZ_one (by omega) (by omega)]
  simp
theorem esc_high {q : Bool} {b : UInt8} {r : List UInt8} (hb : 128 ≤ b.toNat) (h : b ≠ 194 ∨ r.head? ≠ some 160) : escL q (b :: r) = b :: escL q r := by
  have hn : ∀ d : UInt8, d.toNat < 128 → b ≠ d := fun d hd e => by subst e; omega
  rw [escL, if_neg (fun e => h.elim (fun k => k e.1) (fun k => k e.2))]
  unfold esc1
  rw [if_neg (hn 38 (by decide)), if_neg (hn 60 (by decide)), if_neg (hn 62 (by decide)), if_neg (fun e => hn 34 (by decide) e.2)]
  rfl
theorem u8_nat {n : Nat} (h : n < 256) : n.toUInt8.toNat = n := by simp; omega
/-- a character beyond the letters of one byte stands as it is, but for one -/
theorem esc_enc (q : Bool) {c : Nat} (r : List UInt8) (hg : goodB c = true) (h : 128 ≤ c) (h160 : c ≠ 160) : escL q (encodeRune c ++ r) = encodeRune c ++ escL q r := by
  have hb := goodB_le hg
  unfold encodeRune
  by_cases h2 : c ≤ 2047
  · rw [encodeRuneZ_two (by omega) (by omega)]
    have e0 := byte_of (x := 192 + (c : Int) / 64) (by omega) (by omega)
    have e1 := byte_of (x := 128 + (c : Int) % 64) (by omega) (by omega)
    simp only [List.map_cons, List.map_nil, List.cons_append, List.nil_append]
    rw [esc_high (by rw [e0]; omega), esc_high (by rw [e1]; omega)]
    · left; intro e; have := congrArg UInt8.toNat e; rw [e1] at this; have h3 : (194 : UInt8).toNat = 194 := rfl; omega
    · by_cases h194 : c / 64 = 2
      · right
        simp only [List.head?_cons, ne_eq, Option.some.injEq]
        intro e; have := congrArg UInt8.toNat e; rw [e1] at this; have h3 : (160 : UInt8).toNat = 160 := rfl; omega
      · left; intro e; have := congrArg UInt8.toNat e; rw [e0] at this; have h3 : (194 : UInt8).toNat = 194 := rfl; omega
  · by_cases h3 : c ≤ 65535
    · rw [encodeRuneZ_three (by omega)]
      have e0 := byte_of (x := 224 + (c : Int) / 4096) (by omega) (by omega)
      have e1 := byte_of (x := 128 + (c : Int) / 64 % 64) (by omega) (by omega)
      have e2 := byte_of (x := 128 + (c : Int) % 64) (by omega) (by omega)
      have k : (194 : UInt8).toNat = 194 := rfl
      simp only [List.map_cons, List.map_nil, List.cons_append, List.nil_append]
      rw [esc_high (by rw [e0]; omega) (.inl fun e => by have := congrArg UInt8.toNat e; rw [e0] at this; omega), esc_high (by rw [e1]; omega) (.inl fun e => by have := congrArg UInt8.toNat e; rw [e1] at this; omega), esc_high (by rw [e2]; omega) (.inl fun e => by have := congrArg UInt8.toNat e; rw [e2] at this; omega)]
    · rw [encodeRuneZ_four (by omega) (by omega)]
      have e0 := byte_of (x := 240 + (c : Int) / 262144) (by omega) (by omega)
      have e1 := byte_of (x := 128 + (c : Int) / 4096 % 64) (by omega) (by omega)
      have e2 := byte_of (x := 128 + (c : Int) / 64 % 64) (by omega) (by omega)
      have e3 := byte_of (x := 128 + (c : Int) % 64) (by omega) (by omega)
      have k : (194 : UInt8).toNat = 194 := rfl
      simp only [List.map_cons, List.map_nil, List.cons_append, List.nil_append]
      rw [esc_high (by rw [e0]; omega) (.inl fun e => by have := congrArg UInt8.toNat e; rw [e0] at this; omega), esc_high (by rw [e1]; omega) (.inl fun e => by have := congrArg UInt8.toNat e; rw [e1] at this; omega), esc_high (by rw [e2]; omega) (.inl fun e => by have := congrArg UInt8.toNat e; rw [e2] at this; omega), esc_high (by rw [e3]; omega) (.inl fun e => by have := congrArg UInt8.toNat e; rw [e3] at this; omega)]
theorem enc_head {c : Nat} (hg : goodB c = true) (h : c ≠ 38) (r : List UInt8) : (encodeRune c ++ r).head? ≠ some 38 := by
  have hb := goodB_le hg
  unfold encodeRune
  have k : (38 : UInt8).toNat = 38 := rfl
  by_cases h1 : c ≤ 127
  · rw [encodeRuneZ_one (by omega) (by omega)]
    have e0 := byte_of (x := (c : Int)) (by omega) (by omega)
    simp only [List.map_cons, List.map_nil, List.cons_append, List.head?_cons, ne_eq, Option.some.injEq]
    intro e; have := congrArg UInt8.toNat e; rw [e0] at this; omega
  · by_cases h2 : c ≤ 2047
    · rw [encodeRuneZ_two (by omega) (by omega)]
      have e0 := byte_of (x := 192 + (c : Int) / 64) (by omega) (by omega)
      simp only [List.map_cons, List.map_nil, List.cons_append, List.head?_cons, ne_eq, Option.some.injEq]
      intro e; have := congrArg UInt8.toNat e; rw [e0] at this; omega
    · by_cases h3 : c ≤ 65535
      · rw [encodeRuneZ_three (by omega)]
        have e0 := byte_of (x := 224 + (c : Int) / 4096) (by omega) (by omega)
        simp only [List.map_cons, List.map_nil, List.cons_append, List.head?_cons, ne_eq, Option.some.injEq]
        intro e; have := congrArg UInt8.toNat e; rw [e0] at this; omega
      · rw [encodeRuneZ_four (by omega) (by omega)]
        have e0 := byte_of (x := 240 + (c : Int) / 262144) (by omega) (by omega)
        simp only [List.map_cons, List.map_nil, List.cons_append, List.head?_cons, ne_eq, Option.some.injEq]
        intro e; have := congrArg UInt8.toNat e; rw [e0] at this; omega
theorem pre_none {p : List UInt8} {l : List UInt8} (hp : p.head? = some 38) (hl : l.head? ≠ some 38) : p.isPrefixOf l = false := by
  cases p with
  | nil => cases hp
  | cons a q =>
    cases l with
    | nil => rfl
    | cons b r =>
      simp only [List.head?_cons, Option.some.injEq, ne_eq] at hp hl
      subst hp
      simp only [List.isPrefixOf, Bool.and_eq_false_iff, beq_eq_false_iff_ne]
      exact .inl fun e => hl e.symm
theorem unit_other {l : List UInt8} (hl : l.head? ≠ some 38) : unitP l = if (codeL l).2 = 0 ∨ (codeL l).1 = 38 ∨ goodB (codeL l).1 = false then none else some (l.take (codeL l).2, (codeL l).2) := by
  have h : ∀ p : List UInt8, p.head? = some 38 → ¬ (p.isPrefixOf l = true) := fun p hp e => by rw [pre_none hp hl] at e; cases e
  unfold unitP
  rw [if_neg (h _ rfl), if_neg (h _ rfl), if_neg (h _ rfl), if_neg (h _ rfl), if_neg (h _ rfl)]
theorem dec_enc {c : Nat} (hg : goodB c = true) (h : c ≠ 38) (X : List UInt8) : decP (encodeRune c ++ X) = (decP X).map (encodeRune c ++ ·) := by
  have he := code_enc c X hg
  have hl := enc_len (c : Int)
  have hne : encodeRune c ++ X ≠ [] := fun h0 => by
    have := congrArg List.length h0
    rw [List.length_append, List.length_nil] at this; omega
  have hu : unitP (encodeRune c ++ X) = some (encodeRune c, (encodeRune c).length) := by
    rw [unit_other (enc_head hg h X), he]
    rw [if_neg (fun e => by
      rcases e with e | e | e
      · simp only at e; omega
      · exact h e
      · simp only at e; rw [hg] at e; cases e)]
    simp
  rw [decP_step hne, hu]
  simp
theorem dec_amp (X : List UInt8) : decP (ampE ++ X) = (decP X).map ([38] ++ ·) := by
  rw [decP_step (by simp [ampE])]
  have : unitP (ampE ++ X) = some ([38], 5) := by unfold unitP; rw [if_pos (by simp [ampE, List.isPrefixOf])]
  rw [this]
  rfl
theorem dec_lt (X : List UInt8) : decP (ltE ++ X) = (decP X).map ([60] ++ ·) := by
  rw [decP_step (by simp [ltE])]
  have : unitP (ltE ++ X) = some ([60], 4) := by unfold unitP; rw [if_neg (by simp [ampE, ltE, List.isPrefixOf]), if_pos (by simp [ltE, List.isPrefixOf])]
  rw [this]
  rfl
theorem dec_gtE (X : List UInt8) : decP (gtE ++ X) = (decP X).map ([62] ++ ·) := by
  rw [decP_step (by simp [gtE])]
  have : unitP (gtE ++ X) = some ([62], 4) := by unfold unitP; rw [if_neg (by simp [ampE, gtE, List.isPrefixOf]), if_neg (by simp [ltE, gtE, List.isPrefixOf]), if_pos (by simp [gtE, List.isPrefixOf])]
  rw [this]
  rfl
theorem dec_quot (X : List UInt8) : decP (quotE ++ X) = (decP X).map ([34] ++ ·) := by
  rw [decP_step (by simp [quotE])]
  have : unitP (quotE ++ X) = some ([34], 6) := by unfold unitP; rw [if_neg (by simp [ampE, quotE, List.isPrefixOf]), if_neg (by simp [ltE, quotE, List.isPrefixOf]), if_neg (by simp [gtE, quotE, List.isPrefixOf]), if_pos (by simp [quotE, List.isPrefixOf])]
  rw [this]
  rfl
theorem dec_nbsp (X : List UInt8) : decP (nbspE ++ X) = (decP X).map ([194, 160] ++ ·) := by
  rw [decP_step (by simp [nbspE])]
  have : unitP (nbspE ++ X) = some ([194, 160], 6) := by unfold unitP; rw [if_neg (by simp [ampE, nbspE, List.isPrefixOf]), if_neg (by simp [ltE, nbspE, List.isPrefixOf]), if_neg (by simp [gtE, nbspE, List.isPrefixOf]), if_neg (by simp [quotE, nbspE, List.isPrefixOf]), if_pos (by simp [nbspE, List.isPrefixOf])]
  rw [this]
  rfl
/-- what is escaped is read back -/
theorem dec_esc (q : Bool) {s : List UInt8} (h : gt s = true) : decP (escL q s) = some s := by
  refine gt_chars (P := fun s => decP (escL q s) = some s) (by rw [escL]; rfl) (fun c r hc _ ih => ?_) _ s (Nat.le_refl _) h
  by_cases h1 : c < 128
  · rw [enc_one h1]
    have hcn : (c.toUInt8).toNat = c := u8_nat (by omega)
    have hne : c.toUInt8 ≠ 194 := fun e => by have := congrArg UInt8.toNat e; rw [hcn] at this; have h3 : (194 : UInt8).toNat = 194 := rfl; omega
    show decP (escL q (c.toUInt8 :: r)) = some (c.toUInt8 :: r)
    rw [escL, if_neg (fun e => hne e.1)]
    unfold esc1
    split
    · rename_i e; rw [dec_amp, ih, e]; rfl
    split
    · rename_i e; rw [dec_lt, ih, e]; rfl
    split
    · rename_i e; rw [dec_gtE, ih, e]; rfl
    split
    · rename_i e; rw [dec_quot, ih, e.2]; rfl
    rename_i e38 _ _ _
    have h38 : c ≠ 38 := fun e => e38 (by rw [e]; rfl)
    have := dec_enc hc h38 (escL q r)
    rw [enc_one h1, ih] at this
    exact this
  · by_cases h2 : c = 160
    · subst h2
      have e : encodeRune ((160 : Nat) : Int) = [194, 160] := by decide
      rw [e]
      show decP (escL q (194 :: 160 :: r)) = some (194 :: 160 :: r)
      rw [escL, if_pos ⟨rfl, rfl⟩, dec_nbsp]
      show (decP (escL q r)).map _ = _
      rw [ih]; rfl
    · rw [esc_enc q r hc (by omega) h2, dec_enc hc (by omega), ih]
      rfl
/-! ## tokens -/

theorem takeWhile_stop {p : UInt8 → Bool} {a r : List UInt8} (ha : ∀ c ∈ a, p c = true) (hr : ∀ c, r.head? = some c → p c = false) : (a ++ r).takeWhile p = a := by
  induction a with
  | nil =>
    cases r with
    | nil => rfl
    | cons c q =>
      rw [List.nil_append, List.takeWhile_cons, if_neg (by rw [hr c rfl]; exact Bool.false_ne_true)]
  | cons c q ih =>
    rw [List.cons_append, List.takeWhile_cons, if_pos (ha c (List.mem_cons_self ..)), ih (fun d hd => ha d (List.mem_cons_of_mem _ hd))]
/-- is it a word -/
def wordOk (sg n : List UInt8) : Bool := match n with
  | [] => false
  | c :: r => smallB c && r.all (wordB sg)
theorem wordN_word {sg n r : List UInt8} (h : wordOk sg n = true) (hr : ∀ c, r.head? = some c → wordB sg c = false) : wordN sg (n ++ r) = n.length := by
  cases n with
  | nil => cases h
  | cons c q =>
    unfold wordOk at h
    simp only [Bool.and_eq_true, List.all_eq_true] at h
    rw [List.cons_append, show wordN sg (c :: (q ++ r)) = if smallB c = true then ((q ++ r).takeWhile (wordB sg)).length + 1 else 0 from rfl, if_pos h.1, takeWhile_stop h.2 hr]
    rfl
theorem word_ne {sg n : List UInt8} (h : wordOk sg n = true) : n ≠ [] := by rintro rfl; cases h
theorem esc_noLt (q : Bool) (s : List UInt8) : ∀ c ∈ escL q s, noLt c = true := fun c hc => by
  unfold noLt; rw [bne_iff_ne]; exact (esc_signs q _ s (Nat.le_refl _) c hc).1
theorem esc_noQ (s : List UInt8) : ∀ c ∈ escL true s, noQ c = true := fun c hc => by
  unfold noQ; rw [bne_iff_ne]; exact (esc_signs true _ s (Nat.le_refl _) c hc).2.2 rfl
theorem esc_ne {q : Bool} {s : List UInt8} (h : s ≠ []) : escL q s ≠ [] := fun e => by
  cases s with
  | nil => exact h rfl
  | cons c r =>
    rw [escL] at e
    split at e
    · simp [nbspE] at e
    · have := (List.append_eq_nil_iff.1 e).1
      revert this
      unfold esc1
      repeat' split
      all_goals simp [ampE, ltE, gtE, quotE]
/-- nothing or a tag -/
def tagAhead (r : List UInt8) : Prop := r = [] ∨ r.head? = some 60
theorem tok_text {b r : List UInt8} (hb : b ≠ []) (hg : gt b = true) (hr : tagAhead r) : tokP (escL false b ++ r) = some (.text b, r) := by
  have hne := esc_ne (q := false) hb
  have htw : (escL false b ++ r).takeWhile noLt = escL false b := takeWhile_stop (esc_noLt false b) fun c hc => by
    rcases hr with rfl | hr
    · cases hc
    · rw [hr] at hc; cases hc; rfl
  have hh : (escL false b ++ r).head? ≠ some 60 := by
    cases he : escL false b with
    | nil => exact absurd he hne
    | cons c q =>
      have := esc_noLt false b c (by rw [he]; exact List.mem_cons_self ..)
      unfold noLt at this
      rw [bne_iff_ne] at this
      simp only [List.cons_append, List.head?_cons, ne_eq, Option.some.injEq]
      exact this
  unfold tokP
  rw [if_neg hh, htw, dec_esc false hg]
  simp
theorem small_ne {c : UInt8} (h : smallB c = true) (d : UInt8) (hd : smallB d = false) : c ≠ d := fun e => by rw [e, hd] at h; cases h
theorem tok_stop {n r : List UInt8} (hn : wordOk [] n = true) : tokP (etagL n ++ r) = some (.stop n, r) := by
  have e : etagL n ++ r = 60 :: 47 :: (n ++ 62 :: r) := by simp [etagL]
  have hw : wordN [] (n ++ 62 :: r) = n.length := wordN_word hn fun c hc => by cases hc; decide
  have hl : n.length ≠ 0 := fun h => word_ne hn (List.length_eq_zero_iff.1 h)
  rw [e]
  unfold tokP
  rw [List.head?_cons, if_pos rfl, List.tail_cons, List.head?_cons, if_pos rfl]
  show (if wordN [] (n ++ 62 :: r) = 0 ∨ ((n ++ 62 :: r).drop (wordN [] (n ++ 62 :: r))).head? ≠ some 62 then none else some (Ev.stop ((n ++ 62 :: r).take (wordN [] (n ++ 62 :: r))), (n ++ 62 :: r).drop (wordN [] (n ++ 62 :: r) + 1))) = _
  rw [hw, if_neg (fun h => by
    rcases h with h | h
    · exact hl h
    · rw [List.drop_left] at h; exact h rfl), List.take_left, ← List.drop_drop, List.drop_left]
  rfl
/-- attributes that are read back -/
def attrOk (a : AttrP) : Bool := wordOk [45] a.1 && gt a.2
theorem attr_back {a : AttrP} {r : List UInt8} (h : attrOk a = true) : attrP (a.1 ++ [61, 34] ++ escL true a.2 ++ [34] ++ r) = some (a, r) := by
  unfold attrOk at h
  rw [Bool.and_eq_true] at h
  obtain ⟨h1, h2⟩ := h
  have e : a.1 ++ [61, 34] ++ escL true a.2 ++ [34] ++ r = a.1 ++ 61 :: 34 :: (escL true a.2 ++ 34 :: r) := by simp
  have hw : wordN [45] (a.1 ++ 61 :: 34 :: (escL true a.2 ++ 34 :: r)) = a.1.length := wordN_word h1 fun c hc => by cases hc; decide
  have hl : a.1.length ≠ 0 := fun h => word_ne h1 (List.length_eq_zero_iff.1 h)
  have hd : (a.1 ++ 61 :: 34 :: (escL true a.2 ++ 34 :: r)).drop (a.1.length + 2) = escL true a.2 ++ 34 :: r := by rw [← List.drop_drop, List.drop_left]; rfl
  have htw : (escL true a.2 ++ 34 :: r).takeWhile noQ = escL true a.2 := takeWhile_stop (esc_noQ a.2) fun c hc => by cases hc; rfl
  rw [e]
  unfold attrP
  rw [hw, hd, htw, if_neg (fun h => by
    rcases h with h | h
    · exact hl h
    · rw [List.drop_left] at h; exact h rfl), if_neg (by simp), dec_esc true h2, List.take_left, ← List.drop_drop, List.drop_left]
  rfl
theorem attrs_back : ∀ (al : List AttrP) (f : Nat) (r : List UInt8), (∀ a ∈ al, attrOk a = true) → al.length < f → attrsP f (al.flatMap attrL ++ 62 :: r) = some (al, r)
  | [], 0, _, _, h => absurd h (Nat.not_lt_zero _)
  | [], f + 1, r, _, _ => by unfold attrsP; rfl
  | a :: q, 0, _, _, h => absurd h (Nat.not_lt_zero _)
  | a :: q, f + 1, r, h, hf => by
    have e : (a :: q).flatMap attrL ++ 62 :: r = 32 :: (a.1 ++ [61, 34] ++ escL true a.2 ++ [34] ++ (q.flatMap attrL ++ 62 :: r)) := by simp [attrL]
    rw [e]
    unfold attrsP
    rw [if_neg (by simp), List.head?_cons, if_pos rfl, List.tail_cons, attr_back (h a (List.mem_cons_self ..))]
    simp only
    rw [attrs_back q f r (fun x hx => h x (List.mem_cons_of_mem _ hx)) (by simp only [List.length_cons] at hf; omega)]
    rfl
theorem attrs_count : ∀ al : List AttrP, al.length ≤ (al.flatMap attrL).length
  | [] => Nat.le_refl _
  | a :: q => by
    have := attrs_count q
    rw [List.flatMap_cons, List.length_append, List.length_cons]
    have : 1 ≤ (attrL a).length := by simp [attrL]
    omega
theorem tok_start {n r : List UInt8} {al : List AttrP} (hn : wordOk [] n = true) (ha : ∀ a ∈ al, attrOk a = true) : tokP (openL n al ++ r) = some (.start n al, r) := by
  have e : openL n al ++ r = 60 :: (n ++ (al.flatMap attrL ++ 62 :: r)) := by simp [openL]
  have hw : wordN [] (n ++ (al.flatMap attrL ++ 62 :: r)) = n.length := wordN_word hn fun c hc => by
    cases al with
    | nil => cases hc; decide
    | cons a q => simp [attrL] at hc; subst hc; decide
  have hl : n.length ≠ 0 := fun h => word_ne hn (List.length_eq_zero_iff.1 h)
  have h47 : (n ++ (al.flatMap attrL ++ 62 :: r)).head? ≠ some 47 := by
    cases n with
    | nil => cases hn
    | cons c q =>
      unfold wordOk at hn
      simp only [Bool.and_eq_true] at hn
      simp only [List.cons_append, List.head?_cons, ne_eq, Option.some.injEq]
      exact small_ne hn.1 47 (by decide)
  rw [e]
  unfold tokP
  rw [List.head?_cons, if_pos rfl, List.tail_cons, if_neg h47, hw, if_neg hl, List.take_left, List.drop_left, attrs_back al _ r ha (by
    have := attrs_count al
    simp only [List.length_cons, List.length_append]
    omega)]
  rfl
end Go.Proofs.YtcncbhbdpcpkeaaGreatDoor
