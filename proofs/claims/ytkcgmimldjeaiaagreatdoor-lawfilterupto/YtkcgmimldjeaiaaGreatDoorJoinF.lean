/-
  Parts of the walk, joined: FiltL, PolLendA, PolSame, PolLendB, PolKept, AppendTwo, LinkAny, WrTake, TabsK, PolOpen, EvOpen.
-/
import Derived.Test.YtkcgmimldjeaiaaGreatDoorWrTag
import Derived.Test.YtkcgmimldjeaiaaGreatDoorJoinB
import Derived.Test.YtkcgmimldjeaiaaGreatDoorJoinD
import Derived.Deep.Cut
import Derived.Deep.RegionWith
import Derived.Deep.AppendLies
import Derived.BigQuiet
import Derived.Laws.Rows
import Derived.Maps.AppendAt
import Derived.Laws.AppendOwnNone
import Derived.Lib.RuneCountTail
import Derived.Shelf.Strings.IndexAnyAll
import Derived.Test.YtkcgmimldjeaiaaGreatDoorLex
import Derived.Test.YtkcgmimldjeaiaaGreatDoorRows
import Derived.Test.YtkcgmimldjeaiaaGreatDoorJoinC
import Derived.SliceStrings
import Derived.Deep.Strs
import Derived.Lib.LaidU8T
import Derived.Lib.LaidTab
import Derived.Lib.LaidU8
import Derived.OpenShut
import Derived.ChangeSame
import Derived.ChangeArms
import Derived.Lib.SmallJoins
import Derived.Deep.SlicePairs
import Derived.ChangeMaps5
/-
  Filter as a plain function on events: one event at a time, a skip that is counted.
-/
namespace Go.Proofs.YtkcgmimldjeaiaaGreatDoor
open Go.RowKit Go.Lib Own

def isLinkL (n : List UInt8) : Bool := n == [99, 105, 116, 101] || (n == [104, 114, 101, 102] || n == [115, 114, 99])
/-- the attributes that stay, behind those whose names were seen -/
def keptA (schemes listed : List (List UInt8)) : List (List UInt8) → List AttrP → List AttrP
  | _, [] => []
  | seen, a :: r => if listed.contains a.1 = false ∨ seen.contains a.1 = true then keptA schemes listed seen r else
    if isLinkL a.1 = true then (if (linkL schemes a.2).2 = true then (a.1, (linkL schemes a.2).1) :: keptA schemes listed (seen ++ [a.1]) r else keptA schemes listed (seen ++ [a.1]) r)
    else a :: keptA schemes listed (seen ++ [a.1]) r
/-- the attributes that the first rule of this name lists -/
def ruleL : List RuleP → List UInt8 → Option (List (List UInt8))
  | [], _ => none
  | r :: rs, n => if r.1 = n then some r.2 else ruleL rs n
/-- a Start that has a rule -/
def startF (P : PolP) (e : EvP) (listed : List (List UInt8)) : Option Ev :=
  if ((openL e.n (keptA P.schemes listed [] e.a)).length : Int) ≤ P.window then some (.start e.n (keptA P.schemes listed [] e.a)) else none
/-- a Start, by the rule of its name -/
def ruledF (P : PolP) (e : EvP) : Option Ev := match ruleL P.rules e.n with | none => none | some l => startF P e l
theorem ruledF_none {P : PolP} {e : EvP} (h : ruleL P.rules e.n = none) : ruledF P e = none := by unfold ruledF; rw [h]
theorem ruledF_some {P : PolP} {e : EvP} {l : List (List UInt8)} (h : ruleL P.rules e.n = some l) : ruledF P e = startF P e l := by unfold ruledF; rw [h]
/-- within a skip -/
def skipF (s : List UInt8 × Nat) (e : EvP) : Nat := if e.n = s.1 ∧ e.k = 1 then s.2 + 1 else if e.n = s.1 ∧ e.k = 2 then s.2 - 1 else s.2
/-- what is left of one event outside of a skip -/
def outL (P : PolP) (e : EvP) : Option Ev :=
  if e.k = 1 then ruledF P e
  else if e.k = 2 then (if (ruleL P.rules e.n).isSome = true then some (.stop e.n) else none)
  else if e.k = 3 then (if e.t = [] then none else some (.text e.t)) else none
def sieveL (P : PolP) (s : List UInt8 × Nat) (e : EvP) : (List UInt8 × Nat) × Option Ev :=
  if 0 < s.2 then ((s.1, skipF s e), none) else if e.k = 1 ∧ P.drop.contains e.n = true then ((e.n, 1), none) else (s, outL P e)
def filtL (P : PolP) : List UInt8 × Nat → List EvP → List Ev
  | _, [] => []
  | s, e :: r => (sieveL P s e).2.toList ++ filtL P (sieveL P s e).1 r
/-- how many events a skip takes -/
def dropN (n : List UInt8) : Nat → List EvP → Nat
  | _, [] => 0
  | c, e :: r => if c = 0 then 0 else 1 + dropN n (skipF (n, c) e) r
theorem dropN_le (n : List UInt8) : ∀ (es : List EvP) (c : Nat), dropN n c es ≤ es.length
  | [], _ => Nat.le_refl _
  | e :: r, c => by
    unfold dropN
    have := dropN_le n r (skipF (n, c) e)
    split
    · omega
    · simp only [List.length_cons]; omega
theorem filt_step (P : PolP) (s : List UInt8 × Nat) (e : EvP) (r : List EvP) : filtL P s (e :: r) = (sieveL P s e).2.toList ++ filtL P (sieveL P s e).1 r := rfl
theorem filt_zero (P : PolP) (n x : List UInt8) : ∀ es : List EvP, filtL P (n, 0) es = filtL P (x, 0) es
  | [] => rfl
  | e :: r => by
    rw [filt_step, filt_step]
    unfold sieveL
    rw [if_neg (Nat.lt_irrefl 0), if_neg (Nat.lt_irrefl 0)]
    split
    · rfl
    · rw [filt_zero P n x r]
theorem filt_skip (P : PolP) (n x : List UInt8) : ∀ (es : List EvP) (c : Nat), filtL P (n, c) es = filtL P (x, 0) (es.drop (dropN n c es))
  | [], c => by cases c <;> simp [filtL, dropN]
  | e :: r, 0 => by
    show _ = filtL P (x, 0) ((e :: r).drop 0)
    exact filt_zero P n x (e :: r)
  | e :: r, c + 1 => by
    rw [filt_step]
    unfold sieveL dropN
    rw [if_pos (Nat.succ_pos c), if_neg (Nat.succ_ne_zero c), Nat.add_comm 1, List.drop_succ_cons]
    exact filt_skip P n x r _
/-- Filter's answer -/
def filterP (P : PolP) (es : List EvP) : List Ev := filtL P ([], 0) es

/-! ## how long things are -/

theorem stripL_len (v : List UInt8) : (stripL v).length ≤ v.length := by
  unfold stripL rtrim
  have h1 := List.length_filter_le seenB v
  generalize v.filter seenB = f at h1
  have h2 : ∀ l : List UInt8, (l.dropWhile fun c => c == 32).length ≤ l.length := fun l => (List.dropWhile_sublist _).length_le
  have h3 := h2 ((f.drop (f.takeWhile [32].contains).length).reverse)
  rw [List.length_reverse] at h3 ⊢
  rw [List.length_drop] at h3
  omega
theorem linkL_len (schemes : List (List UInt8)) (v : List UInt8) : (linkL schemes v).1.length ≤ v.length := by
  unfold linkL
  split
  · simp
  · exact stripL_len v
theorem keptA_bulk (schemes listed : List (List UInt8)) : ∀ (al : List AttrP) (seen : List (List UInt8)), bulkA (keptA schemes listed seen al) ≤ bulkA al ∧ (keptA schemes listed seen al).length ≤ al.length
  | [], _ => ⟨Nat.le_refl _, Nat.le_refl _⟩
  | a :: r, seen => by
    have h1 := keptA_bulk schemes listed r seen
    have h2 := keptA_bulk schemes listed r (seen ++ [a.1])
    have h3 := linkL_len schemes a.2
    rw [bulkA_cons]
    unfold keptA
    simp only [List.length_cons]
    split
    · omega
    · split
      · split
        · rw [bulkA_cons]; simp only [List.length_cons]; omega
        · omega
      · rw [bulkA_cons]; simp only [List.length_cons]; omega
theorem sieve_opt (P : PolP) (s : List UInt8 × Nat) (e : EvP) : (sieveL P s e).2.toList.length ≤ 1 := by
  cases h : (sieveL P s e).2 <;> simp
theorem filt_len (P : PolP) : ∀ (es : List EvP) (s : List UInt8 × Nat), (filtL P s es).length ≤ es.length
  | [], _ => Nat.le_refl _
  | e :: r, s => by
    have h1 := filt_len P r (sieveL P s e).1
    have h2 := sieve_opt P s e
    rw [filt_step, List.length_append, List.length_cons]
    omega
theorem out_evA (P : PolP) (e : EvP) (v : Ev) (h : outL P e = some v) : (evA v).length ≤ e.a.length := by
  unfold outL at h
  split at h
  · unfold ruledF at h
    split at h
    · cases h
    · unfold startF at h
      split at h
      · cases h; exact (keptA_bulk _ _ _ _).2
      · cases h
  · split at h
    · split at h
      · cases h; exact Nat.zero_le _
      · cases h
    · split at h
      · split at h
        · cases h
        · cases h; exact Nat.zero_le _
      · cases h
theorem filt_evA (P : PolP) (N : Nat) : ∀ (es : List EvP) (s : List UInt8 × Nat), (∀ e ∈ es, e.a.length ≤ N) → ∀ v ∈ filtL P s es, (evA v).length ≤ N
  | [], _, _, v, hv => by cases hv
  | e :: r, s, h, v, hv => by
    rw [filt_step] at hv
    rcases List.mem_append.1 hv with hv | hv
    · have h2 : (sieveL P s e).2 = some v := by simpa using hv
      unfold sieveL at h2
      split at h2
      · cases h2
      · split at h2
        · cases h2
        · exact Nat.le_trans (out_evA P e v h2) (h e (List.mem_cons_self ..))
    · exact filt_evA P N r _ (fun x hx => h x (List.mem_cons_of_mem _ hx)) v hv
end Go.Proofs.YtkcgmimldjeaiaaGreatDoor

/-
  The statements' lendPolicy: what its memory holds.
-/
namespace Go.Proofs.YtkcgmimldjeaiaaGreatDoor
open Go.RowKit Go.Lib Own

def zeroP : List Value := [.slice none 0 0, .slice none 0 0, .slice none 0 0, .int .i64 0, .int .i64 0]
def zeroL : Array Value := #[.slice none 0 0, .slice none 0 0, .slice none 0 0, .int .i64 0, .int .i64 0, .slice none 0 0, .slice none 0 0, .slice none 0 0, .slice none 0 0]
theorem row_cap {W : World} {base : Nat} {e : TypeId} {size n m c : Nat} {p : Option Addr} {xs : List Value} (h : W.ownsRow base e size (.slice p m c) n xs) : m = n ∧ n ≤ c := by
  rcases h.2 with ⟨e, rfl⟩ | ⟨g, cap, cur, e, _, _, hle, _⟩
  · cases e
    exact ⟨rfl, Nat.le_refl _⟩
  · cases e
    exact ⟨rfl, hle⟩
/-- the two boxes that stand all the while -/
structure LndB (w W : World) (C0 : Array Value) : Prop where
  be : Below w.heap.size w W
  b0 : W.heap[w.heap.size]? = some (.cells C0 25 (0, 0))
  b1 : W.heap[w.heap.size + 1]? = some (.cells zeroL 30 (0, 0))
theorem LndB.below {w W W' : World} {C0 : Array Value} (h : LndB w W C0) (hb : Below W.heap.size W W') : LndB w W' C0 :=
  ⟨h.be.trans (hb.mono h.be.size), (hb.block _ (block_lt h.b0)).trans h.b0, (hb.block _ (block_lt h.b1)).trans h.b1⟩
theorem LndB.alloc {w W : World} {C0 : Array Value} (h : LndB w W C0) (X : Obj) : LndB w (W.alloc X) C0 := h.below ((Below.refl W.heap.size W).alloc (Nat.le_refl _) X)
theorem LndB.drew {w W : World} {C0 : Array Value} (h : LndB w W C0) : LndB w W.drew C0 := ⟨⟨h.be.os, h.be.tape, h.be.output, h.be.size, h.be.block⟩, h.b0, h.b1⟩

theorem alloc_lt (W : World) (X : Obj) : W.heap.size < (W.alloc X).heap.size := by simp
theorem lp_cells {W : World} {b : Nat} {a0 a1 a2 a3 a4 a5 a6 a7 a8 : Value} (h : W.heap[b]? = some (.cells #[a0, a1, a2, a3, a4, a5, a6, a7, a8] 30 (0, 0))) :
    W.cell? ⟨b, 0, none⟩ = some a0 ∧ W.cell? ⟨b, 1, none⟩ = some a1 ∧ W.cell? ⟨b, 2, none⟩ = some a2 ∧ W.cell? ⟨b, 3, none⟩ = some a3 ∧ W.cell? ⟨b, 4, none⟩ = some a4 ∧ W.cell? ⟨b, 5, none⟩ = some a5 ∧ W.cell? ⟨b, 6, none⟩ = some a6 ∧ W.cell? ⟨b, 7, none⟩ = some a7 ∧ W.cell? ⟨b, 8, none⟩ = some a8 ∧ W.frozen? ⟨b, 0, none⟩ = false ∧ W.frozen? ⟨b, 1, none⟩ = false ∧ W.frozen? ⟨b, 2, none⟩ = false ∧ W.frozen? ⟨b, 3, none⟩ = false ∧ W.frozen? ⟨b, 4, none⟩ = false ∧ W.frozen? ⟨b, 5, none⟩ = false ∧ W.frozen? ⟨b, 6, none⟩ = false ∧ W.frozen? ⟨b, 7, none⟩ = false ∧ W.frozen? ⟨b, 8, none⟩ = false :=
  ⟨cell_at h rfl, cell_at h rfl, cell_at h rfl, cell_at h rfl, cell_at h rfl, cell_at h rfl, cell_at h rfl, cell_at h rfl, cell_at h rfl, free_at h 0, free_at h 1, free_at h 2, free_at h 3, free_at h 4, free_at h 5, free_at h 6, free_at h 7, free_at h 8⟩
/-- a rule's cells: its name and the front of its words -/
def frontV : Value → Nat → Value
  | .slice p _ c, n => .slice p n c
  | v, _ => v
def rcells (prs : List (RuleP × Value)) : List Value := prs.flatMap fun x => [.string (bs x.1.1), x.2]
theorem rcells_app (a b : List (RuleP × Value)) : rcells (a ++ b) = rcells a ++ rcells b := List.flatMap_append
theorem rcells_len : ∀ a : List (RuleP × Value), (rcells a).length = a.length * 2
  | [] => rfl
  | x :: r => by
    have := rcells_len r
    show (_ :: _ :: rcells r).length = _
    simp only [List.length_cons, this]
    omega
theorem rcells_at : ∀ (a : List (RuleP × Value)) (k : Nat) (x : RuleP × Value), a[k]? = some x → (rcells a)[k * 2]? = some (.string (bs x.1.1)) ∧ (rcells a)[k * 2 + 1]? = some x.2
  | [], k, x, h => by simp at h
  | y :: r, 0, x, h => by
    simp only [List.getElem?_cons_zero, Option.some.injEq] at h
    subst h
    exact ⟨rfl, rfl⟩
  | y :: r, k + 1, x, h => by
    rw [List.getElem?_cons_succ] at h
    obtain ⟨h1, h2⟩ := rcells_at r k x h
    exact ⟨by rw [show (k + 1) * 2 = k * 2 + 1 + 1 by omega]; exact h1, by rw [show (k + 1) * 2 + 1 = k * 2 + 1 + 1 + 1 by omega]; exact h2⟩
/-- what is being lent -/
structure LndG (w W : World) (b5 : Nat) (rv av sv dv : Value) (R : List RuleP) (S D ms : List (List UInt8)) (prs : List (RuleP × Value)) (us : List Value) : Prop where
  bx : W.heap[b5]? = some (.cells #[.slice none 0 0, .slice none 0 0, .slice none 0 0, .int .i64 0, .int .i64 0, rv, av, sv, dv] 30 (0, 0))
  lo : w.heap.size + 2 ≤ b5
  s : W.ownsRow w.heap.size 9 1 sv S.length (wordsV S)
  d : W.ownsRow w.heap.size 9 1 dv D.length (wordsV D)
  a : W.ownsRow w.heap.size 23 1 av us.length us
  r : W.ownsRow w.heap.size 53 2 rv prs.length (rcells prs)
  u : ∀ (k : Nat) (v : Value) (q : RuleP), us[k]? = some v → R[k]? = some q → W.ownsRow w.heap.size 9 1 v (q.2 ++ ms).length (wordsV (q.2 ++ ms))
  rw : ∀ (k : Nat) (x : RuleP × Value), prs[k]? = some x → (x.1.2 = [] ∧ x.2 = .slice none 0 0) ∨ ∃ v, us[k]? = some v ∧ R[k]? = some x.1 ∧ x.2 = frontV v x.1.2.length
theorem LndG.below {w W W' : World} {b5 : Nat} {rv av sv dv : Value} {R : List RuleP} {S D ms : List (List UInt8)} {prs : List (RuleP × Value)} {us : List Value} (h : LndG w W b5 rv av sv dv R S D ms prs us) (hb : Below W.heap.size W W') : LndG w W' b5 rv av sv dv R S D ms prs us :=
  ⟨(hb.block _ (block_lt h.bx)).trans h.bx, h.lo, row_below h.s hb, row_below h.d hb, row_below h.a hb, row_below h.r hb, fun k v q h1 h2 => row_below (h.u k v q h1 h2) hb, h.rw⟩

theorem Just.andThen {W W1 W2 : World} {b : Nat} {cs cs2 : Array Value} {T : TypeId} (h : Just W W1 b cs T) (h2 : Just W1 W2 b cs2 T) : Just W W2 b cs2 T :=
  ⟨h2.os.trans h.os, h2.tape.trans h.tape, h2.output.trans h.output, h2.size.trans h.size, h2.at_, fun k hk => (h2.other k hk).trans (h.other k hk)⟩
theorem just_put {W : World} {b j : Nat} {cs cs2 : Array Value} {T : TypeId} (h : W.heap[b]? = some (.cells cs T (0, 0))) (v : Value) (e : cs.setIfInBounds j v = cs2) : Just W (W.setCell ⟨b, j, none⟩ v) b cs2 T := by
  subst e
  exact just_set h v
theorem three_just {W : World} {b : Nat} {a0 a1 a2 a3 a4 a5 a6 a7 a8 p0 p1 p2 : Value} (h : W.heap[b]? = some (.cells #[a0, a1, a2, a3, a4, a5, a6, a7, a8] 30 (0, 0))) :
    Just W (((W.setCell ⟨b, 0, none⟩ p0).setCell ⟨b, 1, none⟩ p1).setCell ⟨b, 2, none⟩ p2) b #[p0, p1, p2, a3, a4, a5, a6, a7, a8] 30 := by
  have h0 := just_put (j := 0) (cs2 := #[p0, a1, a2, a3, a4, a5, a6, a7, a8]) h p0 (by simp)
  have h1 := just_put (j := 1) (cs2 := #[p0, p1, a2, a3, a4, a5, a6, a7, a8]) h0.at_ p1 (by simp)
  have h2 := just_put (j := 2) (cs2 := #[p0, p1, p2, a3, a4, a5, a6, a7, a8]) h1.at_ p2 (by simp)
  exact (h0.andThen h1).andThen h2
theorem five_just {W : World} {b : Nat} {a0 a1 a2 a3 a4 a5 a6 a7 a8 p0 p1 p2 p3 p4 : Value} (h : W.heap[b]? = some (.cells #[a0, a1, a2, a3, a4, a5, a6, a7, a8] 30 (0, 0))) :
    Just W (((((W.setCell ⟨b, 0, none⟩ p0).setCell ⟨b, 1, none⟩ p1).setCell ⟨b, 2, none⟩ p2).setCell ⟨b, 3, none⟩ p3).setCell ⟨b, 4, none⟩ p4) b #[p0, p1, p2, p3, p4, a5, a6, a7, a8] 30 := by
  have h0 := three_just (p0 := p0) (p1 := p1) (p2 := p2) h
  have h1 := just_put (j := 3) (cs2 := #[p0, p1, p2, p3, a4, a5, a6, a7, a8]) h0.at_ p3 (by simp)
  have h2 := just_put (j := 4) (cs2 := #[p0, p1, p2, p3, p4, a5, a6, a7, a8]) h1.at_ p4 (by simp)
  exact (h0.andThen h1).andThen h2
theorem nine_just {W : World} {b : Nat} {a0 a1 a2 a3 a4 a5 a6 a7 a8 p0 p1 p2 p3 p4 p5 p6 p7 p8 : Value} (h : W.heap[b]? = some (.cells #[a0, a1, a2, a3, a4, a5, a6, a7, a8] 30 (0, 0))) :
    Just W (((((((((W.setCell ⟨b, 0, none⟩ p0).setCell ⟨b, 1, none⟩ p1).setCell ⟨b, 2, none⟩ p2).setCell ⟨b, 3, none⟩ p3).setCell ⟨b, 4, none⟩ p4).setCell ⟨b, 5, none⟩ p5).setCell ⟨b, 6, none⟩ p6).setCell ⟨b, 7, none⟩ p7).setCell ⟨b, 8, none⟩ p8) b #[p0, p1, p2, p3, p4, p5, p6, p7, p8] 30 := by
  have h0 := five_just (p0 := p0) (p1 := p1) (p2 := p2) (p3 := p3) (p4 := p4) h
  have h1 := just_put (j := 5) (cs2 := #[p0, p1, p2, p3, p4, p5, a6, a7, a8]) h0.at_ p5 (by simp)
  have h2 := just_put (j := 6) (cs2 := #[p0, p1, p2, p3, p4, p5, p6, a7, a8]) h1.at_ p6 (by simp)
  have h3 := just_put (j := 7) (cs2 := #[p0, p1, p2, p3, p4, p5, p6, p7, a8]) h2.at_ p7 (by simp)
  have h4 := just_put (j := 8) (cs2 := #[p0, p1, p2, p3, p4, p5, p6, p7, p8]) h3.at_ p8 (by simp)
  exact (((h0.andThen h1).andThen h2).andThen h3).andThen h4
theorem nine_set {W : World} {b : Nat} {a0 a1 a2 a3 a4 a5 a6 a7 a8 sv dv : Value} (h : W.heap[b]? = some (.cells #[a0, a1, a2, a3, a4, a5, a6, a7, a8] 30 (0, 0))) :
    (((((((((W.setCell ⟨b, 0, none⟩ (.slice none 0 0)).setCell ⟨b, 1, none⟩ (.slice none 0 0)).setCell ⟨b, 2, none⟩ (.slice none 0 0)).setCell ⟨b, 3, none⟩ (.int .i64 0)).setCell ⟨b, 4, none⟩ (.int .i64 0)).setCell ⟨b, 5, none⟩ (.slice none 0 0)).setCell ⟨b, 6, none⟩ (.slice none 0 0)).setCell ⟨b, 7, none⟩ (sv)).setCell ⟨b, 8, none⟩ (dv)).heap[b]? = some (.cells #[.slice none 0 0, .slice none 0 0, .slice none 0 0, .int .i64 0, .int .i64 0, .slice none 0 0, .slice none 0 0, sv, dv] 30 (0, 0)) := by
  simp [World.setCell, Array.getElem?_modify, h]
theorem nine_other (W : World) (b : Nat) (sv dv : Value) (k : Nat) (hk : k ≠ b) : (((((((((W.setCell ⟨b, 0, none⟩ (.slice none 0 0)).setCell ⟨b, 1, none⟩ (.slice none 0 0)).setCell ⟨b, 2, none⟩ (.slice none 0 0)).setCell ⟨b, 3, none⟩ (.int .i64 0)).setCell ⟨b, 4, none⟩ (.int .i64 0)).setCell ⟨b, 5, none⟩ (.slice none 0 0)).setCell ⟨b, 6, none⟩ (.slice none 0 0)).setCell ⟨b, 7, none⟩ (sv)).setCell ⟨b, 8, none⟩ (dv)).heap[k]? = W.heap[k]? := by
  rw [heap_setCell_other _ _ _ _ hk, heap_setCell_other _ _ _ _ hk, heap_setCell_other _ _ _ _ hk, heap_setCell_other _ _ _ _ hk, heap_setCell_other _ _ _ _ hk, heap_setCell_other _ _ _ _ hk, heap_setCell_other _ _ _ _ hk, heap_setCell_other _ _ _ _ hk, heap_setCell_other _ _ _ _ hk]
theorem nine_below {B : Nat} {w W : World} (h : Below B w W) {b : Nat} (hb : B ≤ b) (sv dv : Value) : Below B w (((((((((W.setCell ⟨b, 0, none⟩ (.slice none 0 0)).setCell ⟨b, 1, none⟩ (.slice none 0 0)).setCell ⟨b, 2, none⟩ (.slice none 0 0)).setCell ⟨b, 3, none⟩ (.int .i64 0)).setCell ⟨b, 4, none⟩ (.int .i64 0)).setCell ⟨b, 5, none⟩ (.slice none 0 0)).setCell ⟨b, 6, none⟩ (.slice none 0 0)).setCell ⟨b, 7, none⟩ (sv)).setCell ⟨b, 8, none⟩ (dv)) :=
  ((((((((h.setCell hb _).setCell hb _).setCell hb _).setCell hb _).setCell hb _).setCell hb _).setCell hb _).setCell hb _).setCell hb _
theorem lnd_set {w W : World} {C0 : Array Value} {b : Nat} {a0 a1 a2 a3 a4 a5 a6 a7 a8 sv dv : Value} {R : List RuleP} {S D ms : List (List UInt8)} (hB : LndB w W C0) (h : W.heap[b]? = some (.cells #[a0, a1, a2, a3, a4, a5, a6, a7, a8] 30 (0, 0))) (hlo : w.heap.size + 2 ≤ b)
    (r1 : W.ownsRow w.heap.size 9 1 sv S.length (wordsV S)) (r2 : W.ownsRow w.heap.size 9 1 dv D.length (wordsV D)) :
    LndB w (((((((((W.setCell ⟨b, 0, none⟩ (.slice none 0 0)).setCell ⟨b, 1, none⟩ (.slice none 0 0)).setCell ⟨b, 2, none⟩ (.slice none 0 0)).setCell ⟨b, 3, none⟩ (.int .i64 0)).setCell ⟨b, 4, none⟩ (.int .i64 0)).setCell ⟨b, 5, none⟩ (.slice none 0 0)).setCell ⟨b, 6, none⟩ (.slice none 0 0)).setCell ⟨b, 7, none⟩ (sv)).setCell ⟨b, 8, none⟩ (dv)) C0 ∧ LndG w (((((((((W.setCell ⟨b, 0, none⟩ (.slice none 0 0)).setCell ⟨b, 1, none⟩ (.slice none 0 0)).setCell ⟨b, 2, none⟩ (.slice none 0 0)).setCell ⟨b, 3, none⟩ (.int .i64 0)).setCell ⟨b, 4, none⟩ (.int .i64 0)).setCell ⟨b, 5, none⟩ (.slice none 0 0)).setCell ⟨b, 6, none⟩ (.slice none 0 0)).setCell ⟨b, 7, none⟩ (sv)).setCell ⟨b, 8, none⟩ (dv)) b (.slice none 0 0) (.slice none 0 0) sv dv R S D ms [] [] :=
  ⟨⟨nine_below hB.be (by omega) sv dv, (nine_other W b sv dv _ (by omega)).trans hB.b0, (nine_other W b sv dv _ (by omega)).trans hB.b1⟩,
    ⟨nine_set h, hlo, row_just r1 h (by decide) (nine_other W b sv dv), row_just r2 h (by decide) (nine_other W b sv dv), World.ownsRow_nil _ _ _ _, World.ownsRow_nil _ _ _ _, fun k v r hk => by simp at hk, fun k x hk => by simp at hk⟩⟩
theorem lnd_new {w W : World} {C0 : Array Value} {sv dv : Value} {R : List RuleP} {S D ms : List (List UInt8)} (hB : LndB w W C0)
    (r1 : W.ownsRow w.heap.size 9 1 sv S.length (wordsV S)) (r2 : W.ownsRow w.heap.size 9 1 dv D.length (wordsV D)) :
    LndB w (W.alloc (.cells #[.slice none 0 0, .slice none 0 0, .slice none 0 0, .int .i64 0, .int .i64 0, .slice none 0 0, .slice none 0 0, sv, dv] 30)) C0 ∧ LndG w (W.alloc (.cells #[.slice none 0 0, .slice none 0 0, .slice none 0 0, .int .i64 0, .int .i64 0, .slice none 0 0, .slice none 0 0, sv, dv] 30)) W.heap.size (.slice none 0 0) (.slice none 0 0) sv dv R S D ms [] [] :=
  ⟨hB.alloc _, ⟨heap_alloc_new W _, by have := block_lt hB.b1; omega, r1.alloc _, r2.alloc _, World.ownsRow_nil _ _ _ _, World.ownsRow_nil _ _ _ _, fun k v r hk => by simp at hk, fun k x hk => by simp at hk⟩⟩

theorem just_low {W W' : World} {b : Nat} {cs : Array Value} {T : TypeId} (h : Just W W' b cs T) {base : Nat} (hb : base ≤ b) : Below base W W' :=
  ⟨h.os, h.tape, h.output, by rw [h.size]; exact Nat.le_refl _, fun k hk => h.other k (by omega)⟩
theorem grown_at {W W2 : World} {v : Value} (hg : W.grownBy W2 v.ownBlock) {b : Nat} {o : Obj} (h : W.heap[b]? = some o) (hne : v.ownBlock ≠ some b) : W2.heap[b]? = some o := (hg.block b (block_lt h) (fun e => hne e.symm)).trans h
theorem LndG.bx_grown {w W W2 : World} {b5 : Nat} {rv av sv dv v : Value} {R : List RuleP} {S D ms : List (List UInt8)} {prs : List (RuleP × Value)} {us : List Value} (h : LndG w W b5 rv av sv dv R S D ms prs us) (o : Obj) (hg : (W.alloc o).grownBy W2 v.ownBlock) (hne : v.ownBlock ≠ some b5) :
    W2.heap[b5]? = some (.cells #[.slice none 0 0, .slice none 0 0, .slice none 0 0, .int .i64 0, .int .i64 0, rv, av, sv, dv] 30 (0, 0)) := grown_at hg ((Go.Lib.alloc_old _ _ _ (block_lt h.bx)).trans h.bx) hne
/-- one more list of attributes -/
theorem LndG.attr {w W W2 : World} {C0 : Array Value} {b5 : Nat} {rv av sv dv u' v' : Value} {R : List RuleP} {S D ms : List (List UInt8)} {prs : List (RuleP × Value)} {us : List Value} {q : RuleP} (hB : LndB w W C0) (h : LndG w W b5 rv av sv dv R S D ms prs us)
    (hu : W.ownsRow w.heap.size 9 1 u' (q.2 ++ ms).length (wordsV (q.2 ++ ms))) (hq : R[us.length]? = some q)
    (hg : (W.alloc (.cells #[u'] 23)).grownBy W2 av.ownBlock) (hv : W2.ownsRow w.heap.size 23 1 v' (us ++ [u']).length (us ++ [u'])) :
    LndB w (W2.setCell ⟨b5, 6, none⟩ v') C0 ∧ LndG w (W2.setCell ⟨b5, 6, none⟩ v') b5 rv v' sv dv R S D ms prs (us ++ [u']) := by
  have hlo := h.lo
  have hax := h.a.alloc (.cells #[u'] 23)
  have bxa : (W.alloc (.cells #[u'] 23)).heap[b5]? = _ := (Go.Lib.alloc_old _ _ _ (block_lt h.bx)).trans h.bx
  have b0a : (W.alloc (.cells #[u'] 23)).heap[w.heap.size]? = _ := (Go.Lib.alloc_old _ _ _ (block_lt hB.b0)).trans hB.b0
  have b1a : (W.alloc (.cells #[u'] 23)).heap[w.heap.size + 1]? = _ := (Go.Lib.alloc_old _ _ _ (block_lt hB.b1)).trans hB.b1
  have bx2 := grown_at hg bxa (row_ne hax bxa (by decide))
  have b02 := grown_at hg b0a (row_ne hax b0a (by decide))
  have b12 := grown_at hg b1a (row_ne hax b1a (by decide))
  have j := just_set (j := 6) bx2 v'
  have str : ∀ a n xs, W.ownsRow w.heap.size 9 1 a n xs → (W2.setCell ⟨b5, 6, none⟩ v').ownsRow w.heap.size 9 1 a n xs := fun a n xs hr =>
    row_just ((hr.alloc _).kept hg (rows_ne (hr.alloc _) hax (by decide))) bx2 (by decide) j.other
  refine ⟨⟨((hB.be.alloc hB.be.size _).grown hg (by have := hB.be.size; simp; omega) (fun k hk => (hax.lt k hk).1)).trans (just_low j (by omega)), (j.other _ (by omega)).trans b02, (j.other _ (by omega)).trans b12⟩,
    ⟨j.at_, h.lo, str _ _ _ h.s, str _ _ _ h.d, row_just hv bx2 (by decide) j.other, row_just ((h.r.alloc _).kept hg (rows_ne (h.r.alloc _) hax (by decide))) bx2 (by decide) j.other, fun k v x h1 h2 => ?_, fun k x h1 => ?_⟩⟩
  · by_cases hk : k < us.length
    · rw [List.getElem?_append_left hk] at h1
      exact str _ _ _ (h.u k v x h1 h2)
    · obtain rfl : k = us.length := by have := (List.getElem?_eq_some_iff.1 h1).1; simp at this; omega
      rw [List.getElem?_append_right (Nat.le_refl _), Nat.sub_self] at h1
      obtain rfl := Option.some.inj h1
      obtain rfl := Option.some.inj (hq.symm.trans h2)
      exact str _ _ _ hu
  · rcases h.rw k x h1 with h3 | ⟨v, h3, h4, h5⟩
    · exact .inl h3
    · exact .inr ⟨v, by rw [List.getElem?_append_left (List.getElem?_eq_some_iff.1 h3).1]; exact h3, h4, h5⟩
/-- one more rule -/
theorem LndG.rule {w W W2 : World} {C0 : Array Value} {b5 : Nat} {rv av sv dv v' : Value} {R : List RuleP} {S D ms : List (List UInt8)} {prs : List (RuleP × Value)} {us : List Value} {x : RuleP × Value} (hB : LndB w W C0) (h : LndG w W b5 rv av sv dv R S D ms prs us)
    (hx : (x.1.2 = [] ∧ x.2 = .slice none 0 0) ∨ ∃ v, us[prs.length]? = some v ∧ R[prs.length]? = some x.1 ∧ x.2 = frontV v x.1.2.length)
    (hg : (W.alloc (.cells #[.string (bs x.1.1), x.2] 53)).grownBy W2 rv.ownBlock) (hv : W2.ownsRow w.heap.size 53 2 v' (prs ++ [x]).length (rcells (prs ++ [x]))) :
    LndB w (W2.setCell ⟨b5, 5, none⟩ v') C0 ∧ LndG w (W2.setCell ⟨b5, 5, none⟩ v') b5 v' av sv dv R S D ms (prs ++ [x]) us := by
  have hlo := h.lo
  have hax := h.r.alloc (.cells #[.string (bs x.1.1), x.2] 53)
  have bxa : (W.alloc (.cells #[.string (bs x.1.1), x.2] 53)).heap[b5]? = _ := (Go.Lib.alloc_old _ _ _ (block_lt h.bx)).trans h.bx
  have b0a : (W.alloc (.cells #[.string (bs x.1.1), x.2] 53)).heap[w.heap.size]? = _ := (Go.Lib.alloc_old _ _ _ (block_lt hB.b0)).trans hB.b0
  have b1a : (W.alloc (.cells #[.string (bs x.1.1), x.2] 53)).heap[w.heap.size + 1]? = _ := (Go.Lib.alloc_old _ _ _ (block_lt hB.b1)).trans hB.b1
  have bx2 := grown_at hg bxa (row_ne hax bxa (by decide))
  have b02 := grown_at hg b0a (row_ne hax b0a (by decide))
  have b12 := grown_at hg b1a (row_ne hax b1a (by decide))
  have j := just_set (j := 5) bx2 v'
  have str : ∀ a n xs, W.ownsRow w.heap.size 9 1 a n xs → (W2.setCell ⟨b5, 5, none⟩ v').ownsRow w.heap.size 9 1 a n xs := fun a n xs hr =>
    row_just ((hr.alloc _).kept hg (rows_ne (hr.alloc _) hax (by decide))) bx2 (by decide) j.other
  refine ⟨⟨((hB.be.alloc hB.be.size _).grown hg (by have := hB.be.size; simp; omega) (fun k hk => (hax.lt k hk).1)).trans (just_low j (by omega)), (j.other _ (by omega)).trans b02, (j.other _ (by omega)).trans b12⟩,
    ⟨j.at_, h.lo, str _ _ _ h.s, str _ _ _ h.d, row_just ((h.a.alloc _).kept hg (rows_ne (h.a.alloc _) hax (by decide))) bx2 (by decide) j.other, row_just hv bx2 (by decide) j.other, fun k v x h1 h2 => str _ _ _ (h.u k v x h1 h2), fun k y h1 => ?_⟩⟩
  by_cases hk : k < prs.length
  · rw [List.getElem?_append_left hk] at h1
    exact h.rw k y h1
  · obtain rfl : k = prs.length := by have := (List.getElem?_eq_some_iff.1 h1).1; simp at this; omega
    rw [List.getElem?_append_right (Nat.le_refl _), Nat.sub_self] at h1
    obtain rfl := Option.some.inj h1
    exact hx
theorem LndG.drew {w W : World} {b5 : Nat} {rv av sv dv : Value} {R : List RuleP} {S D ms : List (List UInt8)} {prs : List (RuleP × Value)} {us : List Value} (h : LndG w W b5 rv av sv dv R S D ms prs us) : LndG w W.drew b5 rv av sv dv R S D ms prs us := ⟨h.bx, h.lo, h.s, h.d, h.a, h.r, h.u, h.rw⟩
theorem info_rule : (Tryz.prog.info? 53).map (fun i => (i.zero, i.size, i.bytes)) = some (some (.agg #[.string ⟨#[]⟩, .slice none 0 0]), 2, 40) := by kernel_rfl
theorem info_words : (Tryz.prog.info? 23).map (fun i => (i.zero, i.size, i.bytes)) = some (some (.slice none 0 0), 1, 24) := by kernel_rfl


/-- a list of lists of words -/
def ListsR (W : World) (v : Value) (ls : List (List (List UInt8))) : Prop :=
  ∃ p c, v = .slice p ls.length c ∧ ls.length ≤ c ∧ c ≤ 9223372036854775807 ∧ ∀ j l, ls[j]? = some l → ∃ b o u, p = some ⟨b, o, none⟩ ∧ W.cell? ⟨b, o + j, none⟩ = some u ∧ Words W u l
theorem ListsR.below {W W' : World} {v : Value} {ls : List (List (List UInt8))} (h : ListsR W v ls) (hb : Below W.heap.size W W') : ListsR W' v ls := by
  obtain ⟨p, c, rfl, h1, h2, h3⟩ := h
  refine ⟨p, c, rfl, h1, h2, fun j r hj => ?_⟩
  obtain ⟨b, o, u, rfl, hc, hw⟩ := h3 j r hj
  exact ⟨b, o, u, rfl, cell_kept hc hb, hw.below hb⟩
/-- a policy that was lent -/
def LentR (W : World) (v : Value) (P : PolP) (ms : List (List UInt8)) : Prop :=
  ∃ vr vs vd vR va vS vD, v = .agg #[vr, vs, vd, .int .i64 P.depth, .int .i64 P.window, vR, va, vS, vD] ∧ PolR W vr vs vd P ∧ RulesR W vR (P.rules ++ ms.map fun s => (s, [])) ∧ ListsR W va (P.rules.map fun q => q.2 ++ ms) ∧ Words W vS (P.schemes ++ ms) ∧ Words W vD (P.drop ++ ms)
theorem LentR.below {W W' : World} {v : Value} {P : PolP} {ms : List (List UInt8)} (h : LentR W v P ms) (hb : Below W.heap.size W W') : LentR W' v P ms := by
  obtain ⟨vr, vs, vd, vR, va, vS, vD, e, h1, h2, h3, h4, h5⟩ := h
  exact ⟨vr, vs, vd, vR, va, vS, vD, e, h1.below hb, h2.below hb, h3.below hb, h4.below hb, h5.below hb⟩
theorem RulesR.front {W : World} {p : Option Addr} {n c : Nat} {a b : List RuleP} (h : RulesR W (.slice p n c) (a ++ b)) : RulesR W (.slice p a.length c) a := by
  obtain ⟨p', c', e, h1, h2, h3⟩ := h
  cases e
  rw [List.length_append] at h1
  refine ⟨p, c, rfl, by omega, h2, fun j r hj => h3 j r ?_⟩
  rw [List.getElem?_append_left (List.getElem?_eq_some_iff.1 hj).1]
  exact hj
theorem row_bound {W : World} {base : Nat} {e : TypeId} {size n m c : Nat} {p : Option Addr} {xs : List Value} (h : W.ownsRow base e size (.slice p m c) n xs) : c ≤ 9223372036854775807 := by
  rcases h.2 with ⟨e, _⟩ | ⟨g, cap, cur, e, _, _, _, hle, _⟩
  · cases e
    omega
  · cases e
    unfold maxLen at hle
    omega
/-- the lists alone -/
structure LndR (w W : World) (rv av sv dv : Value) (R : List RuleP) (S D ms : List (List UInt8)) (prs : List (RuleP × Value)) (us : List Value) : Prop where
  s : W.ownsRow w.heap.size 9 1 sv S.length (wordsV S)
  d : W.ownsRow w.heap.size 9 1 dv D.length (wordsV D)
  a : W.ownsRow w.heap.size 23 1 av us.length us
  r : W.ownsRow w.heap.size 53 2 rv prs.length (rcells prs)
  u : ∀ (k : Nat) (v : Value) (q : RuleP), us[k]? = some v → R[k]? = some q → W.ownsRow w.heap.size 9 1 v (q.2 ++ ms).length (wordsV (q.2 ++ ms))
  rw : ∀ (k : Nat) (x : RuleP × Value), prs[k]? = some x → (x.1.2 = [] ∧ x.2 = .slice none 0 0) ∨ ∃ v, us[k]? = some v ∧ R[k]? = some x.1 ∧ x.2 = frontV v x.1.2.length
theorem LndG.rows {w W : World} {b5 : Nat} {rv av sv dv : Value} {R : List RuleP} {S D ms : List (List UInt8)} {prs : List (RuleP × Value)} {us : List Value} (h : LndG w W b5 rv av sv dv R S D ms prs us) : LndR w W rv av sv dv R S D ms prs us := ⟨h.s, h.d, h.a, h.r, h.u, h.rw⟩
theorem LndR.just {w W W' : World} {b : Nat} {cs0 cs : Array Value} {rv av sv dv : Value} {R : List RuleP} {S D ms : List (List UInt8)} {prs : List (RuleP × Value)} {us : List Value} (h : LndR w W rv av sv dv R S D ms prs us)
    (hb : W.heap[b]? = some (.cells cs0 30 (0, 0))) (j : Just W W' b cs 30) : LndR w W' rv av sv dv R S D ms prs us :=
  ⟨row_just h.s hb (by decide) j.other, row_just h.d hb (by decide) j.other, row_just h.a hb (by decide) j.other, row_just h.r hb (by decide) j.other, fun k v q h1 h2 => row_just (h.u k v q h1 h2) hb (by decide) j.other, h.rw⟩
theorem LndR.lent {w W : World} {rp sp dp ap : Option Addr} {rn rc sn sc dn dc an ac : Nat} {P : PolP} {ms : List (List UInt8)} {prs : List (RuleP × Value)} {us : List Value}
    (h : LndR w W (.slice rp rn rc) (.slice ap an ac) (.slice sp sn sc) (.slice dp dn dc) P.rules (P.schemes ++ ms) (P.drop ++ ms) ms prs us)
    (hp : prs.map Prod.fst = P.rules ++ ms.map fun s => (s, [])) (hu : us.length = P.rules.length) :
    LentR W (.agg #[.slice rp P.rules.length rc, .slice sp P.schemes.length sc, .slice dp P.drop.length dc, .int .i64 P.depth, .int .i64 P.window, .slice rp rn rc, .slice ap an ac, .slice sp sn sc, .slice dp dn dc]) P ms := by
  have hpl : prs.length = (P.rules ++ ms.map fun s => (s, [])).length := by rw [← hp, List.length_map]
  have hS : Words W (.slice sp sn sc) (P.schemes ++ ms) := Words.row h.s
  have hD : Words W (.slice dp dn dc) (P.drop ++ ms) := Words.row h.d
  have hRR : RulesR W (.slice rp rn rc) (P.rules ++ ms.map fun s => (s, [])) := by
    obtain ⟨e1, e2⟩ := row_cap h.r
    subst e1
    refine ⟨rp, rc, by rw [← hpl], by rw [← hpl]; exact e2, row_bound h.r, fun j q hj => ?_⟩
    rw [← hp, List.getElem?_map] at hj
    obtain ⟨x, hx, rfl⟩ := Option.map_eq_some_iff.1 hj
    have hlt := (List.getElem?_eq_some_iff.1 hx).1
    obtain ⟨g, cap, e3, _, _, hcell⟩ := row_at h.r (by omega)
    cases e3
    obtain ⟨a1, a2⟩ := rcells_at prs j x hx
    refine ⟨g, 0, x.2, rfl, by rw [Nat.zero_add, hcell _ (by omega), a1], by rw [Nat.zero_add, hcell _ (by omega), a2], ?_⟩
    rcases h.rw j x hx with ⟨h1, h2⟩ | ⟨v, h1, h2, h3⟩
    · rw [h1, h2]
      exact Words.nil W
    · have hw := Words.row (h.u j v x.1 h1 h2)
      obtain ⟨p, c, rfl, _⟩ := hw.len
      have := hw.front x.1.2.length (by rw [List.length_append]; omega)
      rw [List.take_left] at this
      rw [h3]
      exact this
  have hA : ListsR W (.slice ap an ac) (P.rules.map fun q => q.2 ++ ms) := by
    obtain ⟨e1, e2⟩ := row_cap h.a
    subst e1
    refine ⟨ap, ac, by rw [List.length_map, hu], by rw [List.length_map, ← hu]; exact e2, row_bound h.a, fun j l hj => ?_⟩
    rw [List.getElem?_map] at hj
    obtain ⟨q, hq, rfl⟩ := Option.map_eq_some_iff.1 hj
    have hlt := (List.getElem?_eq_some_iff.1 hq).1
    obtain ⟨g, cap, e3, _, _, hcell⟩ := row_at h.a (by omega)
    cases e3
    obtain ⟨v, hv⟩ : ∃ v, us[j]? = some v := ⟨_, List.getElem?_eq_getElem (by omega)⟩
    exact ⟨g, 0, v, rfl, by rw [Nat.zero_add, hcell _ (by omega), hv], Words.row (h.u j v q hv hq)⟩
  refine ⟨_, _, _, _, _, _, _, rfl, ⟨hRR.front, ?_, ?_⟩, hRR, hA, hS, hD⟩
  · have := hS.front P.schemes.length (by rw [List.length_append]; omega)
    rwa [List.take_left] at this
  · have := hD.front P.drop.length (by rw [List.length_append]; omega)
    rwa [List.take_left] at this
end Go.Proofs.YtkcgmimldjeaiaaGreatDoor

/-
  The statements' samePolicy: its walk, at policies that are the same.
-/
namespace Go.Proofs.YtkcgmimldjeaiaaGreatDoor
open Go.RowKit Go.Lib Own

theorem cell_drewT {W0 wr : World} (hq : Hid (True → ∃ n, wr = W0.drewN n)) {b o : Nat} {v : Value} (h : W0.cell? ⟨b, o, none⟩ = some v) : wr.cell? ⟨b, o, none⟩ = some v := by
  obtain ⟨n, rfl⟩ := hq.out trivial
  exact h

theorem heap_two_new (W : World) (X : Obj) (cs : Array Value) (t : TypeId) : ((W.alloc X).alloc (.cells cs t)).heap[W.heap.size + 1]? = some (.cells cs t (0, 0)) := by
  have := heap_alloc_new (W.alloc X) (.cells cs t)
  simpa using this

set_option maxHeartbeats 4000000 in
set_option maxRecDepth 100000 in
theorem samePolicy_any (vr vs vd vr' vs' vd' : Value) (P : PolP) (w : World) (h1 : PolR w vr vs vd P) (h2 : PolR w vr' vs' vd' P) :
    Calls Tryz.prog 25 #[.agg (polC vr vs vd P), .agg (polC vr' vs' vd' P)] w fun e w' => e = .returned (.bool true) ∧ Below w.heap.size w w' := by
  obtain ⟨rp, rc, rfl, _, _, hr⟩ := h1.rules
  obtain ⟨rp', rc', rfl, _, _, hr'⟩ := h2.rules
  obtain ⟨sp, sc, rfl, _⟩ := h1.schemes.len
  obtain ⟨sp', sc', rfl, _⟩ := h2.schemes.len
  obtain ⟨dp, dc, rfl, _⟩ := h1.drop.len
  obtain ⟨dp', dc', rfl, _⟩ := h2.drop.len
  have hB : Below w.heap.size w ((w.alloc (.cells (polC (.slice rp P.rules.length rc) (.slice sp P.schemes.length sc) (.slice dp P.drop.length dc) P) 25)).alloc (.cells (polC (.slice rp' P.rules.length rc') (.slice sp' P.schemes.length sc') (.slice dp' P.drop.length dc') P) 25)) :=
    ((Below.refl w.heap.size w).alloc (Nat.le_refl _) _).alloc (by simp) _
  have b0 : ((w.alloc (.cells (polC (.slice rp P.rules.length rc) (.slice sp P.schemes.length sc) (.slice dp P.drop.length dc) P) 25)).alloc (.cells (polC (.slice rp' P.rules.length rc') (.slice sp' P.schemes.length sc') (.slice dp' P.drop.length dc') P) 25)).heap[w.heap.size]? = _ := (Go.Lib.alloc_old _ _ _ (by simp)).trans (heap_alloc_new w _)
  have b1 : ((w.alloc (.cells (polC (.slice rp P.rules.length rc) (.slice sp P.schemes.length sc) (.slice dp P.drop.length dc) P) 25)).alloc (.cells (polC (.slice rp' P.rules.length rc') (.slice sp' P.schemes.length sc') (.slice dp' P.drop.length dc') P) 25)).heap[w.heap.size + 1]? = _ := heap_two_new w _ _ _
  have HP1 := hid h1
  have HP2 := hid h2
  have HR1 := hid hr
  have HR2 := hid hr'
  clear h1 h2 hr hr'
  unfold polC at hB b0 b1 ⊢
  go_enter Tryz.func25, Tryz.ntmps25
  go_upto_region 1 with fail
  obtain ⟨W0, hW0⟩ : ∃ W0, ((w.alloc (.cells #[.slice rp P.rules.length rc, .slice sp P.schemes.length sc, .slice dp P.drop.length dc, .int .i64 P.depth, .int .i64 P.window] 25)).alloc (.cells #[.slice rp' P.rules.length rc', .slice sp' P.schemes.length sc', .slice dp' P.drop.length dc', .int .i64 P.depth, .int .i64 P.window] 25)) = W0 := ⟨_, rfl⟩
  rw [hW0] at hB b0 b1
  simp only [hW0]
  clear hW0
  obtain ⟨c0, c1, c2, c3, c4⟩ := polC_at (P := P) b0
  obtain ⟨d0, d1, d2, d3, d4⟩ := polC_at (P := P) b1
  have HC := hid (fun (_ : True) => And.intro c0 (And.intro c1 (And.intro c2 (And.intro d0 (And.intro d1 d2)))))
  have HB := hid hB
  have q0 : ((P.rules.length : Int) != (P.rules.length : Int)) = false := by simp
  have q1 : ((P.depth : Int) != P.depth) = false := by simp
  have q2 : ((P.window : Int) != P.window) = false := by simp
  clear hB b0 b1
  go_wp2
  clear c0 c1 c2 c3 c4 d0 d1 d2 d3 d4 q0 q1 q2
  go_loopw [5, 30] (fun _ iv wr => ∃ k : Nat, iv = .int .i64 k ∧ k ≤ P.rules.length ∧ Hid (True → ∃ n, wr = W0.drewN n)) (fun _ iv _ => P.rules.length - (RowKit.intOf iv).toNat)
  case atStart => exact ⟨0, rfl, Nat.zero_le _, hid fun _ => ⟨0, rfl⟩⟩
  case round =>
    obtain ⟨k, rfl, hk, HQ⟩ := hrel
    obtain ⟨c0, c1, c2, d0, d1, d2⟩ := HC.out trivial
    replace c0 := cell_drewT HQ c0
    replace c1 := cell_drewT HQ c1
    replace c2 := cell_drewT HQ c2
    replace d0 := cell_drewT HQ d0
    replace d1 := cell_drewT HQ d1
    replace d2 := cell_drewT HQ d2
    by_cases hkl : k < P.rules.length
    · obtain ⟨r, hr⟩ : ∃ r, P.rules[k]? = some r := ⟨_, List.getElem?_eq_getElem hkl⟩
      obtain ⟨b, o, u, rfl, e1, e2, e3⟩ := HR1.out k r hr
      obtain ⟨b', o', u', rfl, f1, f2, f3⟩ := HR2.out k r hr
      obtain ⟨p3, n3, rfl, _⟩ := e3.len
      obtain ⟨p4, n4, rfl, _⟩ := f3.len
      have hsame := fun n => sameTexts_any (.slice p3 r.2.length n3) (.slice p4 r.2.length n4) r.2 (wr.drewN n) (by obtain ⟨n', rfl⟩ := HQ.out trivial; exact ((e3.below HB.out).drewN _).drewN _) (by obtain ⟨n', rfl⟩ := HQ.out trivial; exact ((f3.below HB.out).drewN _).drewN _)
      have HS := hid hsame
      replace e1 := cell_drewT HQ (cell_kept e1 HB.out)
      replace e2 := cell_drewT HQ (cell_kept e2 HB.out)
      replace f1 := cell_drewT HQ (cell_kept f1 HB.out)
      replace f2 := cell_drewT HQ (cell_kept f2 HB.out)
      obtain ⟨S, hS⟩ : ∃ S, bs r.1 = S := ⟨_, rfl⟩
      rw [hS] at e1 f1
      clear hsame hr hS e3 f3 c1 c2 d1 d2
      go_wp2_with fail
      go_quiet (first | (go_at_call 24; refine Calls.quiet_of (HS.out _)))
      go_wp2
      go_roundw
      case rel =>
        obtain ⟨n, hn⟩ := HQ.out trivial
        exact ⟨k + 1, rfl, by omega, hid (fun _ => ⟨n + nq, by rw [hn]; simp⟩)⟩
      case measure => simp [RowKit.intOf]; omega
    · have hs1 := fun n => sameTexts_any (.slice sp P.schemes.length sc) (.slice sp' P.schemes.length sc') P.schemes (wr.drewN n) (by obtain ⟨n', rfl⟩ := HQ.out trivial; exact ((HP1.out.schemes.below HB.out).drewN _).drewN _) (by obtain ⟨n', rfl⟩ := HQ.out trivial; exact ((HP2.out.schemes.below HB.out).drewN _).drewN _)
      have hs2 := fun n => sameTexts_any (.slice dp P.drop.length dc) (.slice dp' P.drop.length dc') P.drop (wr.drewN n) (by obtain ⟨n', rfl⟩ := HQ.out trivial; exact ((HP1.out.drop.below HB.out).drewN _).drewN _) (by obtain ⟨n', rfl⟩ := HQ.out trivial; exact ((HP2.out.drop.below HB.out).drewN _).drewN _)
      have HS1 := hid hs1
      have HS2 := hid hs2
      clear hs1 hs2
      go_wp2_with fail
      refine (HS1.out 0).mono ?_
      rintro e w9 ⟨rfl, n9, rfl⟩
      go_wp2_with fail
      refine (HS2.out _).mono ?_
      rintro e w10 ⟨rfl, n10, rfl⟩
      go_wp2_with fail
      go_ret
      exact ⟨rfl, by obtain ⟨n, rfl⟩ := HQ.out trivial; exact ⟨HB.out.os, HB.out.tape, HB.out.output, HB.out.size, HB.out.block⟩⟩
end Go.Proofs.YtkcgmimldjeaiaaGreatDoor

/-
  The statements' lendPolicy: its walk.
-/
namespace Go.Proofs.YtkcgmimldjeaiaaGreatDoor
open Go.RowKit Go.Lib Own

set_option maxHeartbeats 8000000 in
set_option maxRecDepth 100000 in
theorem lendPolicy_any (vr vs vd mv : Value) (P : PolP) (ms : List (List UInt8)) (w : World) (h : PolR w vr vs vd P) (hF : P.Few) (hM : Words w mv ms) (hm : ms.length ≤ 2000000) :
    Calls Tryz.prog 5 #[.agg (polC vr vs vd P), mv] w fun e w' => ∃ v, e = .returned v ∧ LentR w' v P ms ∧ Below w.heap.size w w' := by
  have f1 := hF.rules
  have f2 := hF.schemes
  have f3 := hF.drop
  obtain ⟨rp, rc, rfl, hr1, hr2, hr3⟩ := h.rules
  obtain ⟨sp, sc, rfl, _⟩ := h.schemes
  obtain ⟨dp, dc, rfl, _⟩ := h.drop
  obtain ⟨mp, mc, rfl, _⟩ := hM.len
  have HR3 := hid hr3
  have HP := hid h
  have HF := hid hF
  have HM := hid hM
  have hB : LndB w ((w.alloc (.cells (polC (.slice rp P.rules.length rc) (.slice sp P.schemes.length sc) (.slice dp P.drop.length dc) P) 25)).alloc (.cells zeroL 30)) (polC (.slice rp P.rules.length rc) (.slice sp P.schemes.length sc) (.slice dp P.drop.length dc) P) :=
    ⟨((Below.refl w.heap.size w).alloc (Nat.le_refl _) _).alloc (by simp) _, (Go.Lib.alloc_old _ _ _ (by simp)).trans (heap_alloc_new w _), by have := heap_alloc_new (w.alloc (.cells (polC (.slice rp P.rules.length rc) (.slice sp P.schemes.length sc) (.slice dp P.drop.length dc) P) 25)) (.cells zeroL 30); simpa using this⟩
  have hls := fun W (hW : PolR W (.slice rp P.rules.length rc) (.slice sp P.schemes.length sc) (.slice dp P.drop.length dc) P) hM => longTexts_any (.slice sp P.schemes.length sc) (.slice mp ms.length mc) P.schemes ms W hW.schemes hM (by omega) (by omega)
  have hld := fun W (hW : PolR W (.slice rp P.rules.length rc) (.slice sp P.schemes.length sc) (.slice dp P.drop.length dc) P) hM => longTexts_any (.slice dp P.drop.length dc) (.slice mp ms.length mc) P.drop ms W hW.drop hM (by omega) (by omega)
  have HLS := hid hls
  have HLD := hid hld
  clear hls hld hr3 h hF hM
  unfold polC zeroL at hB
  unfold polC
  go_enter Tryz.func5, Tryz.ntmps5
  go_upto_region 1 with fail
  obtain ⟨W0, hW0⟩ : ∃ W0, ((w.alloc (.cells #[.slice rp P.rules.length rc, .slice sp P.schemes.length sc, .slice dp P.drop.length dc, .int .i64 P.depth, .int .i64 P.window] 25)).alloc (.cells #[.slice none 0 0, .slice none 0 0, .slice none 0 0, .int .i64 0, .int .i64 0, .slice none 0 0, .slice none 0 0, .slice none 0 0, .slice none 0 0] 30)) = W0 := ⟨_, rfl⟩
  rw [hW0] at hB
  simp only [hW0]
  go_cut [5] from 10 (fun lv wc => ∃ b5 sv dv, lv = .pointer (some ⟨b5, 0, none⟩) ∧ Hid (LndB w wc (polC (.slice rp P.rules.length rc) (.slice sp P.schemes.length sc) (.slice dp P.drop.length dc) P) ∧ LndG w wc b5 (.slice none 0 0) (.slice none 0 0) sv dv P.rules (P.schemes ++ ms) (P.drop ++ ms) ms [] []))
  case first =>
    obtain ⟨c0, c1, c2, c3, c4⟩ := polC_at (P := P) hB.b0
    have hlt0 := block_lt hB.b0
    have HB := hid hB
    clear hB hW0
    go_region_with (first
      | (go_at_call_of 18 (Value.slice sp P.schemes.length sc); refine (HLS.out _ (HP.out.below (by first | exact HB.out.drew.be | exact (HB.out.drew.alloc _).be)) (HM.out.below (by first | exact HB.out.drew.be | exact (HB.out.drew.alloc _).be))).mono ?_; rintro e W8 ⟨sv, rfl, r1, b8⟩; rw [List.length_append] at r1; obtain ⟨sp8, sc8, rfl⟩ := row_shape r1; have hB8 : LndB w W8 (polC (.slice rp P.rules.length rc) (.slice sp P.schemes.length sc) (.slice dp P.drop.length dc) P) := LndB.below (by first | exact HB.out.drew | exact HB.out.drew.alloc _) b8; obtain ⟨c0, c1, c2, c3, c4⟩ := polC_at (P := P) hB8.b0; have hlt8 := block_lt hB8.b0; have HB8 := hid hB8; clear hB8; try (have HZ8 : Hid (W8.heap[W0.heap.size]? = some (.cells #[.slice none 0 0, .slice none 0 0, .slice none 0 0, .int .i64 0, .int .i64 0, .slice none 0 0, .slice none 0 0, .slice none 0 0, .slice none 0 0] 30 (0, 0))) := (b8.block _ (alloc_lt W0.drew _)).trans (heap_alloc_new W0.drew (.cells #[.slice none 0 0, .slice none 0 0, .slice none 0 0, .int .i64 0, .int .i64 0, .slice none 0 0, .slice none 0 0, .slice none 0 0, .slice none 0 0] 30)); obtain ⟨z0, z1, z2, z3, z4, z5, z6, z7, z8, y0, y1, y2, y3, y4, y5, y6, y7, y8⟩ := lp_cells HZ8.out))
      | (go_at_call_of 18 (Value.slice dp P.drop.length dc); refine (HLD.out _ (HP.out.below (by first | exact HB8.out.be | exact (HB8.out.alloc _).be)) (HM.out.below (by first | exact HB8.out.be | exact (HB8.out.alloc _).be))).mono ?_; rintro e W9 ⟨dv, rfl, r2, b9⟩; rw [List.length_append] at r2; obtain ⟨sp9, sc9, rfl⟩ := row_shape r2; first | (have HZ9 := hid ((b9.block _ (block_lt HZ8.out)).trans HZ8.out); obtain ⟨z0, z1, z2, z3, z4, z5, z6, z7, z8, y0, y1, y2, y3, y4, y5, y6, y7, y8⟩ := lp_cells HZ9.out) | (have HZ9 : Hid (W9.heap[W8.heap.size]? = some (.cells #[.slice none 0 0, .slice none 0 0, .slice none 0 0, .int .i64 0, .int .i64 0, .slice none 0 0, .slice none 0 0, .slice none 0 0, .slice none 0 0] 30 (0, 0))) := (b9.block _ (alloc_lt W8 _)).trans (heap_alloc_new W8 (.cells #[.slice none 0 0, .slice none 0 0, .slice none 0 0, .int .i64 0, .int .i64 0, .slice none 0 0, .slice none 0 0, .slice none 0 0, .slice none 0 0] 30)); obtain ⟨z0, z1, z2, z3, z4, z5, z6, z7, z8, y0, y1, y2, y3, y4, y5, y6, y7, y8⟩ := lp_cells HZ9.out) | skip))
    all_goals
      have hb9 : LndB w W9 (polC (.slice rp P.rules.length rc) (.slice sp P.schemes.length sc) (.slice dp P.drop.length dc) P) := LndB.below (by first | exact HB8.out | exact HB8.out.alloc _) b9
      have q1 : W9.ownsRow w.heap.size 9 1 (.slice sp8 (P.schemes.length + ms.length) sc8) (P.schemes ++ ms).length (wordsV (P.schemes ++ ms)) := by
        rw [List.length_append]
        first | exact row_below (row_low r1 (by first | exact HB.out.be.size | exact (HB.out.alloc _).be.size)) b9 | exact row_below ((row_low r1 (by first | exact HB.out.be.size | exact (HB.out.alloc _).be.size)).alloc _) b9
      have q2 : W9.ownsRow w.heap.size 9 1 (.slice sp9 (P.drop.length + ms.length) sc9) (P.drop ++ ms).length (wordsV (P.drop ++ ms)) := by
        rw [List.length_append]
        exact row_low r2 (by first | exact HB8.out.be.size | exact (HB8.out.alloc _).be.size)
      have HX := hid (And.intro hb9 (And.intro q1 q2))
      clear hb9 q1 q2 r1 r2 b8 b9
      go_wp2_with fail
      go_meet
      refine ⟨_, .slice sp8 (P.schemes.length + ms.length) sc8, .slice sp9 (P.drop.length + ms.length) sc9, rfl, hid ?_⟩
      first
        | with_reducible exact lnd_new HX.out.1 HX.out.2.1 HX.out.2.2
        | with_reducible exact lnd_set HX.out.1 HZ9.out (by have := block_lt HB8.out.b1; omega) HX.out.2.1 HX.out.2.2
        | with_reducible exact lnd_set HX.out.1 HZ9.out (by have := block_lt HB.out.b1; omega) HX.out.2.1 HX.out.2.2
  case rest =>
    obtain ⟨b5, sv, dv, rfl, HL⟩ := hcut
    obtain ⟨c0, c1, c2, c3, c4⟩ := polC_at (P := P) HL.out.1.b0
    go_wp2_with fail
    go_loopw [6, 7, 8, 22] (fun _ _ _ iv wr => ∃ (k : Nat) (rv av : Value) (prs : List (RuleP × Value)) (us : List Value), iv = .int .i64 k ∧ k ≤ P.rules.length ∧ us.length = k ∧ prs.length = k ∧ Hid (prs.map Prod.fst = P.rules.take k) ∧ Hid (LndB w wr (polC (.slice rp P.rules.length rc) (.slice sp P.schemes.length sc) (.slice dp P.drop.length dc) P) ∧ LndG w wr b5 rv av sv dv P.rules (P.schemes ++ ms) (P.drop ++ ms) ms prs us)) (fun _ _ _ iv _ => P.rules.length - (RowKit.intOf iv).toNat)
    case atStart => exact ⟨0, _, _, [], [], rfl, Nat.zero_le _, rfl, rfl, hid rfl, HL⟩
    case round =>
      obtain ⟨k, rv, av, prs, us, rfl, hk, hus, hprs, HPF, HX⟩ := hrel
      clear HL c0 c1 c2 c3 c4
      obtain ⟨c0, c1, c2, c3, c4⟩ := polC_at (P := P) HX.out.1.b0
      by_cases hkl : k < P.rules.length
      · obtain ⟨q, hq⟩ : ∃ q, P.rules[k]? = some q := ⟨_, List.getElem?_eq_getElem hkl⟩
        obtain ⟨b, o, u, rfl, d1, d2, hwu⟩ := HR3.out k q hq
        replace d1 := cell_low d1 HX.out.1.be (cell_block d1)
        replace d2 := cell_low d2 HX.out.1.be (cell_block d2)
        have hat := HF.out.attrs q (List.mem_of_getElem? hq)
        have hlt := longTexts_any u (.slice mp ms.length mc) q.2 ms wr (hwu.below HX.out.1.be) (HM.out.below HX.out.1.be) (by omega) (by omega)
        obtain ⟨up, uc, rfl, _⟩ := hwu.len
        have HLT := hid hlt
        have HQ := hid hq
        clear hlt hq hwu c1 c2 c3 c4
        go_wp2_with fail
        refine HLT.out.mono ?_
        rintro e w2 ⟨u', rfl, r1, b8⟩
        have hB2 := HX.out.1.below b8
        have hG2 := HX.out.2.below b8
        have r2 := row_low r1 HX.out.1.be.size
        have hsz2 := hB2.be.size
        obtain ⟨ap, ac, rfl⟩ := row_shape hG2.a
        obtain ⟨up', uc', hu'⟩ := row_shape r2
        subst hu'
        obtain ⟨_, _, e2, hle2⟩ := (Words.row (by exact r2)).len
        cases e2
        rw [List.length_append] at r2 hle2
        have HX2 := hid (And.intro hB2 (And.intro hG2 r2))
        obtain ⟨z0, z1, z2, z3, z4, z5, z6, z7, z8, y0, y1, y2, y3, y4, y5, y6, y7, y8⟩ := lp_cells hG2.bx
        obtain ⟨i0, hi, hz0, hz1, hz2⟩ := info_parts info_words
        have hown := hG2.a
        rw [hus] at hown
        clear r1 b8 hB2 hG2 r2 HX HLT c0 d1 d2 z0 z1 z2 z3 z4 z5 z7 z8 y0 y1 y2 y3 y4 y5 y6 y7 y8
        rw [List.length_append]
        go_wp2_with (at_builtin; refine wpList_append_own _ rfl (.tmp 41) (.tmp 43) 28 rfl w.heap.size 23 i0 (.slice none 0 0) 1 24 Tryz.underlying28 hi hz0 hz1 hz2 rfl (by decide) _ _ _ rfl (hown.alloc _) ⟨_, 0, none⟩ 1 1 [.slice up' (q.2.length + ms.length) uc'] rfl rfl (cells_newV _ _ _) (by simp [Value.oneCell']) (by unfold maxLen; omega) (by omega) (by simp; omega) ?_)
        intro v' W2 hown2 hgrow2 _
        obtain ⟨vp, vc, rfl⟩ := row_shape hown2
        have hbx2 := HX2.out.2.1.bx_grown (.cells #[.slice up' (q.2.length + ms.length) uc'] 23) hgrow2 (row_ne hown HX2.out.2.1.bx (by decide))
        have hG3 := HX2.out.2.1.attr (q := q) (v' := .slice vp (k + 1) vc) HX2.out.1 (by rw [List.length_append]; exact HX2.out.2.2) (by rw [hus]; exact HQ.out) (by rw [hus]; exact hgrow2) (by rw [List.length_append, hus]; exact hown2)
        have HG3 := hid hG3
        obtain ⟨z0, z1, z2, z3, z4, z5, z6, z7, z8, y0, y1, y2, y3, y4, y5, y6, y7, y8⟩ := lp_cells hbx2
        clear hbx2 hG3 z0 z1 z2 z3 z4 z5 z7 z8 y0 y1 y2 y3 y4 y5 y7 y8 hown2 hgrow2 hown HX2
        go_upto_region 8 with fail
        obtain ⟨W3, hW3⟩ : ∃ W3, (W2.setCell ⟨b5, 6, none⟩ (.slice vp (k + 1) vc)) = W3 := ⟨_, rfl⟩
        simp only [hW3] at HG3 ⊢
        clear hW3 z6 y6
        have hG3 := HG3.out
        have hbs3 := hG3.1.be.size
        obtain ⟨rp', rc', rfl⟩ := row_shape hG3.2.r
        have hr3w := hG3.2.r
        rw [hprs] at hr3w
        have hne3 := row_ne hr3w hG3.2.bx (by decide)
        obtain ⟨c0, -, -, -, -⟩ := polC_at (P := P) hG3.1.b0
        obtain ⟨b', o', u'', e3, d1, -, -⟩ := HR3.out k q HQ.out
        cases e3
        replace d1 := cell_low d1 hG3.1.be (cell_block d1)
        obtain ⟨z0, z1, z2, z3, z4, z5, z6, z7, z8, y0, y1, y2, y3, y4, y5, y6, y7, y8⟩ := lp_cells hG3.2.bx
        rw [hprs] at z5
        obtain ⟨j0, hj, hj0, hj1, hj2⟩ := info_parts info_rule
        have hle3 : q.2.length ≤ uc' := by omega
        have hl5 := block_lt hG3.2.bx
        have hl0 := block_lt hG3.1.b0
        have hlb := cell_block d1
        clear hG3 z0 z1 z2 z3 z4 z6 z7 z8 y0 y1 y2 y3 y4 y6 y7 y8
        have HX5 : Hid ((us ++ [Value.slice up' (q.2.length + ms.length) uc'])[prs.length]? = some (Value.slice up' (q.2.length + ms.length) uc') ∧ P.rules[prs.length]? = some q ∧ us.length = k ∧ prs.length = k) :=
          hid ⟨by rw [List.getElem?_append_right (by omega), show prs.length - us.length = 0 by omega]; rfl, by rw [hprs]; exact HQ.out, hus, hprs⟩
        go_region_law (refine step_append_lies _ rfl (.tmp 47) (.tmp 58) 22 rfl w.heap.size 53 j0 (.agg #[.string ⟨#[]⟩, .slice none 0 0]) 2 40 Tryz.underlying22 hj hj0 hj1 hj2 rfl (by decide) (.slice rp' k rc') k (rcells prs) (by simp [Act.eval]) (by exact hr3w.alloc _) ⟨_, 0, none⟩ 1 1 [.string (bs q.1), .slice up' q.2.length uc'] (by simp [Act.eval]) rfl (cells_newV _ _ _) (by simp [Value.oneCell']) (by omega) (by unfold maxLen; omega) (by omega) (by simp; omega) _ rfl ?_; rintro g cap w10 hrow10 hgrow10 - -; have hb10 := HG3.out.2.drew.bx_grown (.cells #[.string (bs q.1), .slice up' q.2.length uc'] 53) (by exact hgrow10) hne3; have ce10 := cell_at (j := 5) hb10 rfl; have fe10 := free_at hb10 5)
        all_goals
          have hG4 := HG3.out.2.drew.rule (x := (q, .slice up' q.2.length uc')) (v' := .slice (some ⟨g, 0, none⟩) (k + 1) cap) HG3.out.1.drew (.inr ⟨_, HX5.out.1, HX5.out.2.1, rfl⟩) (by rw [HX5.out.2.2.2]; exact hgrow10) (by rw [rcells_app, List.length_append, HX5.out.2.2.2]; exact hrow10)
          have HG4 := hid hG4
          clear hG4 hb10 ce10 fe10 hrow10 hgrow10
          have HU := hid (fun (_ : True) => And.intro HX5.out.2.2.1 HX5.out.2.2.2)
          go_wp2
          go_roundw
          case rel => exact ⟨k + 1, _, _, prs ++ [(q, .slice up' q.2.length uc')], us ++ [.slice up' (q.2.length + ms.length) uc'], rfl, by omega, by rw [List.length_append, (HU.out trivial).1]; rfl, by rw [List.length_append, (HU.out trivial).2]; rfl, hid (by rw [List.map_append, HPF.out, List.take_add_one, HQ.out]; rfl), HG4⟩
          case measure => simp [RowKit.intOf]; omega
      · obtain rfl : k = P.rules.length := by omega
        rw [List.take_length] at HPF
        clear c0 c1 c2 c3 c4 hkl hk
        go_wp2_with fail
        go_loopw [9, 64] (fun _ iv wr => ∃ (m : Nat) (rv : Value) (prs : List (RuleP × Value)), iv = .int .i64 m ∧ m ≤ ms.length ∧ prs.length = P.rules.length + m ∧ Hid (prs.map Prod.fst = P.rules ++ (ms.take m).map fun s => (s, [])) ∧ Hid (LndB w wr (polC (.slice rp P.rules.length rc) (.slice sp P.schemes.length sc) (.slice dp P.drop.length dc) P) ∧ LndG w wr b5 rv av sv dv P.rules (P.schemes ++ ms) (P.drop ++ ms) ms prs us)) (fun _ iv _ => ms.length - (RowKit.intOf iv).toNat)
        case atStart => exact ⟨0, _, prs, rfl, Nat.zero_le _, by rw [hprs]; rfl, hid (by rw [HPF.out]; exact (List.append_nil _).symm), HX⟩
        case round =>
          clear HX HPF hprs
          obtain ⟨m, rv, prs, rfl, hm', hprs, HPF, HX⟩ := hrel
          by_cases hml : m < ms.length
          · obtain ⟨q, hq⟩ : ∃ q, ms[m]? = some q := ⟨_, List.getElem?_eq_getElem hml⟩
            have hG3 := HX.out
            have hbs3 := hG3.1.be.size
            obtain ⟨rp', rc', rfl⟩ := row_shape hG3.2.r
            have hr3w := hG3.2.r
            rw [hprs] at hr3w
            have hne3 := row_ne hr3w hG3.2.bx (by decide)
            obtain ⟨p', c', e3, _, _, h3, _⟩ := HM.out.below HX.out.1.be
            cases e3
            obtain ⟨b', o', rfl, d1⟩ := h3 m q hq
            clear h3
            obtain ⟨z0, z1, z2, z3, z4, z5, z6, z7, z8, y0, y1, y2, y3, y4, y5, y6, y7, y8⟩ := lp_cells hG3.2.bx
            rw [hprs] at z5
            obtain ⟨j0, hj, hj0, hj1, hj2⟩ := info_parts info_rule
            have hl5 := block_lt hG3.2.bx
            have hl0 := block_lt hG3.1.b0
            have hlb := cell_block d1
            have HPR := hid hprs
            have HQ := hid hq
            clear hG3 z0 z1 z2 z3 z4 z6 z7 z8 y0 y1 y2 y3 y4 y6 y7 y8 hprs hq
            go_wp2_with fail
            go_region_law (refine step_append_lies _ rfl (.tmp 68) (.tmp 74) 22 rfl w.heap.size 53 j0 (.agg #[.string ⟨#[]⟩, .slice none 0 0]) 2 40 Tryz.underlying22 hj hj0 hj1 hj2 rfl (by decide) (.slice rp' (P.rules.length + m) rc') (P.rules.length + m) (rcells prs) (by simp [Act.eval]) (by exact hr3w.alloc _) ⟨_, 0, none⟩ 1 1 [.string (bs q), .slice none 0 0] (by simp [Act.eval]) rfl (cells_newV _ _ _) (by simp [Value.oneCell']) (by omega) (by unfold maxLen; omega) (by omega) (by simp; omega) _ rfl ?_; rintro g cap w10 hrow10 hgrow10 - -; have hb10 := HX.out.2.drew.bx_grown (.cells #[.string (bs q), .slice none 0 0] 53) (by exact hgrow10) hne3; have ce10 := cell_at (j := 5) hb10 rfl; have fe10 := free_at hb10 5)
            all_goals
              have hG4 := HX.out.2.drew.rule (x := ((q, []), .slice none 0 0)) (v' := .slice (some ⟨g, 0, none⟩) (P.rules.length + m + 1) cap) HX.out.1.drew (.inl ⟨rfl, rfl⟩) (by rw [HPR.out]; exact hgrow10) (by rw [rcells_app, List.length_append, HPR.out]; exact hrow10)
              have HG4 := hid hG4
              clear hG4 hb10 ce10 fe10 hrow10 hgrow10
              go_wp2
              go_roundw
              case rel => exact ⟨m + 1, _, prs ++ [((q, []), .slice none 0 0)], rfl, by omega, by rw [List.length_append, HPR.out]; rfl, hid (by rw [List.map_append, HPF.out, List.take_add_one, HQ.out, List.map_append, List.append_assoc]; rfl), HG4⟩
              case measure => simp [RowKit.intOf]; omega
          · obtain rfl : m = ms.length := by omega
            obtain ⟨rp', rc', rfl⟩ := row_shape HX.out.2.r
            obtain ⟨sp', sc', rfl⟩ := row_shape HX.out.2.s
            obtain ⟨dp', dc', rfl⟩ := row_shape HX.out.2.d
            obtain ⟨ap, ac, rfl⟩ := row_shape HX.out.2.a
            have hcr := (row_cap HX.out.2.r).2
            have hcs := (row_cap HX.out.2.s).2
            have hcd := (row_cap HX.out.2.d).2
            have HPR := hid hprs
            have hlo := HX.out.2.lo
            obtain ⟨c0, c1, c2, c3, c4⟩ := polC_at (P := P) HX.out.1.b0
            obtain ⟨z0, z1, z2, z3, z4, z5, z6, z7, z8, y0, y1, y2, y3, y4, y5, y6, y7, y8⟩ := lp_cells HX.out.2.bx
            rw [List.length_append] at hcs hcd z7 z8
            rw [hprs] at hcr z5
            replace hcr : P.rules.length ≤ rc' := by omega
            replace hcs : P.schemes.length ≤ sc' := by omega
            replace hcd : P.drop.length ≤ dc' := by omega
            clear hprs
            go_upto_region 16 with fail
            have hj5 := five_just (p0 := .slice none 0 0) (p1 := .slice none 0 0) (p2 := .slice none 0 0) (p3 := .int .i64 P.depth) (p4 := .int .i64 P.window) HX.out.2.bx
            obtain ⟨W5, hW5⟩ : ∃ W5, (((((wr.setCell ⟨b5, 0, none⟩ (.slice none 0 0)).setCell ⟨b5, 1, none⟩ (.slice none 0 0)).setCell ⟨b5, 2, none⟩ (.slice none 0 0)).setCell ⟨b5, 3, none⟩ (.int .i64 P.depth)).setCell ⟨b5, 4, none⟩ (.int .i64 P.window)) = W5 := ⟨_, rfl⟩
            rw [hW5] at hj5
            simp only [hW5]
            clear hW5 c0 c1 c2 c3 c4 z0 z1 z2 z3 z4 z5 z6 z7 z8 y0 y1 y2 y3 y4 y5 y6 y7 y8
            obtain ⟨c0, c1, c2, -, -⟩ := polC_at (P := P) ((hj5.other _ (by omega)).trans HX.out.1.b0)
            obtain ⟨z0, z1, z2, z3, z4, z5, z6, z7, z8, y0, y1, y2, y3, y4, y5, y6, y7, y8⟩ := lp_cells hj5.at_
            have HJ5 := hid hj5
            rw [HPR.out] at z5
            rw [List.length_append] at z7 z8
            clear hj5 z3 z4 z6 y3 y4 y5 y6 y7 y8
            go_upto_region 19 with fail
            have hj8 := HJ5.out.andThen (three_just (p0 := .slice rp' P.rules.length rc') (p1 := .slice sp' P.schemes.length sc') (p2 := .slice dp' P.drop.length dc') HJ5.out.at_)
            obtain ⟨W8, hW8⟩ : ∃ W8, ((W5.setCell ⟨b5, 0, none⟩ (.slice rp' P.rules.length rc')).setCell ⟨b5, 1, none⟩ (.slice sp' P.schemes.length sc')).setCell ⟨b5, 2, none⟩ (.slice dp' P.drop.length dc') = W8 := ⟨_, rfl⟩
            rw [hW8] at hj8
            simp only [hW8]
            clear hW8 c0 c1 c2 z0 z1 z2 z5 z7 z8 y0 y1 y2 HJ5
            have hb18 := (hj8.other (w.heap.size + 1) (by omega)).trans HX.out.1.b1
            obtain ⟨z0, z1, z2, z3, z4, z5, z6, z7, z8, -⟩ := lp_cells hj8.at_
            obtain ⟨x0, x1, x2, x3, x4, x5, x6, x7, x8, y0, y1, y2, y3, y4, y5, y6, y7, y8⟩ := lp_cells hb18
            have hj9 := nine_just (p0 := .slice rp' P.rules.length rc') (p1 := .slice sp' P.schemes.length sc') (p2 := .slice dp' P.drop.length dc') (p3 := .int .i64 P.depth) (p4 := .int .i64 P.window) (p5 := .slice rp' (P.rules.length + ms.length) rc') (p6 := .slice ap P.rules.length ac) (p7 := .slice sp' (P.schemes.length + ms.length) sc') (p8 := .slice dp' (P.drop.length + ms.length) dc') hb18
            have HJ8 := hid hj8
            have HJ9 := hid hj9
            rw [HPR.out] at z5
            rw [List.take_length] at HPF
            have hR9 := (HX.out.2.rows.just HX.out.2.bx hj8).just hb18 hj9
            rw [HPR.out, hus, List.length_append, List.length_append] at hR9
            have HR9 := hid (And.intro (hR9.lent HPF.out hus) ((HX.out.1.be.trans (just_low hj8 (by omega))).trans (just_low hj9 (by omega))))
            clear hj8 hj9 hb18 hR9
            go_wp2_with fail
            have HQ9 := HJ9.out.at_
            obtain ⟨W9, hW9⟩ : ∃ W9, ((((((((W8.setCell ⟨w.heap.size + 1, 0, none⟩ (.slice rp' P.rules.length rc')).setCell ⟨w.heap.size + 1, 1, none⟩ (.slice sp' P.schemes.length sc')).setCell ⟨w.heap.size + 1, 2, none⟩ (.slice dp' P.drop.length dc')).setCell ⟨w.heap.size + 1, 3, none⟩ (.int .i64 P.depth)).setCell ⟨w.heap.size + 1, 4, none⟩ (.int .i64 P.window)).setCell ⟨w.heap.size + 1, 5, none⟩ (.slice rp' (P.rules.length + ms.length) rc')).setCell ⟨w.heap.size + 1, 6, none⟩ (.slice ap P.rules.length ac)).setCell ⟨w.heap.size + 1, 7, none⟩ (.slice sp' (P.schemes.length + ms.length) sc')).setCell ⟨w.heap.size + 1, 8, none⟩ (.slice dp' (P.drop.length + ms.length) dc') = W9 := ⟨_, rfl⟩
            simp only [hW9] at HQ9 HR9 ⊢
            clear hW9 HJ9
            refine bodyPost_ret (v := .agg #[.slice rp' P.rules.length rc', .slice sp' P.schemes.length sc', .slice dp' P.drop.length dc', .int .i64 P.depth, .int .i64 P.window, .slice rp' (P.rules.length + ms.length) rc', .slice ap P.rules.length ac, .slice sp' (P.schemes.length + ms.length) sc', .slice dp' (P.drop.length + ms.length) dc']) ?_ rfl ⟨_, rfl, HR9.out.1, HR9.out.2⟩
            exact results_cell_row rfl _ _ _ _ _ _ _ rfl HQ9 Tryz.underlying30 rfl (by kernel_rfl)
end Go.Proofs.YtkcgmimldjeaiaaGreatDoor

/-
  The statements' keptPolicy: its walk, at a policy that is as it was lent.
-/
namespace Go.Proofs.YtkcgmimldjeaiaaGreatDoor
open Go.RowKit Go.Lib Own

theorem RulesR.shape {W : World} {v : Value} {rs : List RuleP} (h : RulesR W v rs) : ∃ p n c, v = .slice p n c := by
  obtain ⟨p, c, e, _⟩ := h
  exact ⟨p, _, c, e⟩
theorem Words.shape {W : World} {v : Value} {ss : List (List UInt8)} (h : Words W v ss) : ∃ p n c, v = .slice p n c := by
  obtain ⟨p, c, e, _⟩ := h
  exact ⟨p, _, c, e⟩

set_option maxHeartbeats 4000000 in
set_option maxRecDepth 100000 in
theorem keptPolicy_any (v vr vs vd mv : Value) (P : PolP) (ms : List (List UInt8)) (w : World) (hl : LentR w v P ms) (h : PolR w vr vs vd P) (hF : P.Few) (hM : Words w mv ms) (hm : ms.length ≤ 2000000) :
    Calls Tryz.prog 9 #[v, .agg (polC vr vs vd P), mv] w fun e w' => e = .returned (.bool true) ∧ Below w.heap.size w w' := by
  obtain ⟨ar, as_, ad, aR, aA, aS, aD, rfl, l1, l2, l3, l4, l5⟩ := hl
  obtain ⟨aAp, aAc, rfl, _, _, l6⟩ := l3
  obtain ⟨aR1, aR2, aR3, rfl⟩ := l2.shape
  obtain ⟨aS1, aS2, aS3, rfl⟩ := l4.shape
  obtain ⟨aD1, aD2, aD3, rfl⟩ := l5.shape
  rw [List.length_map]
  obtain ⟨W0, hW0⟩ : ∃ W0, ((w.alloc (.cells #[ar, as_, ad, .int .i64 P.depth, .int .i64 P.window, .slice aR1 aR2 aR3, .slice aAp P.rules.length aAc, .slice aS1 aS2 aS3, .slice aD1 aD2 aD3] 30)).alloc (.cells (polC vr vs vd P) 25)) = W0 := ⟨_, rfl⟩
  have hB : Below w.heap.size w W0 := by
    rw [← hW0]
    exact ((Below.refl w.heap.size w).alloc (Nat.le_refl _) _).alloc (by simp) _
  have b0 : W0.heap[w.heap.size]? = some (.cells #[ar, as_, ad, .int .i64 P.depth, .int .i64 P.window, .slice aR1 aR2 aR3, .slice aAp P.rules.length aAc, .slice aS1 aS2 aS3, .slice aD1 aD2 aD3] 30 (0, 0)) := by
    rw [← hW0]
    exact (Go.Lib.alloc_old _ _ _ (by simp)).trans (heap_alloc_new w _)
  have b1 : W0.heap[w.heap.size + 1]? = some (.cells (polC vr vs vd P) 25 (0, 0)) := by
    rw [← hW0]
    exact heap_two_new w _ _ _
  have hfr := hF.rules
  have hlend := lendPolicy_any vr vs vd mv P ms W0 (h.below hB) hF (hM.below hB) hm
  have HL := hid hlend
  have HB := hid (And.intro hB b0)
  have HM := hid (And.intro l2 (And.intro l6 (And.intro l4 l5)))
  obtain ⟨c0, c1, c2, c3, c4⟩ := polC_at (P := P) b1
  obtain ⟨mp, mc, rfl, _⟩ := hM.len
  clear hlend h hF hM l1 l2 l6 l4 l5 hB b0 b1
  unfold polC at hW0 HL ⊢
  go_enter Tryz.func9, Tryz.ntmps9
  go_upto_region 1 with fail
  clear hW0
  go_wp2_with fail
  refine HL.out.mono ?_
  rintro e w1 ⟨v', rfl, hl', hb1⟩
  obtain ⟨br, bs_, bd, bR, bA, bS, bD, rfl, l1, l2, l3, l4, l5⟩ := hl'
  obtain ⟨bAp, bAc, rfl, _, _, l6⟩ := l3
  obtain ⟨bR1, bR2, bR3, rfl⟩ := l2.shape
  obtain ⟨bS1, bS2, bS3, rfl⟩ := l4.shape
  obtain ⟨bD1, bD2, bD3, rfl⟩ := l5.shape
  obtain ⟨b01, b02, b03, rfl⟩ := l1.rules.shape
  obtain ⟨b11, b12, b13, rfl⟩ := l1.schemes.shape
  obtain ⟨b21, b22, b23, rfl⟩ := l1.drop.shape
  have HL2 := hid (And.intro l2 (And.intro l6 (And.intro l4 l5)))
  clear l1 l2 l6 l4 l5
  rw [List.length_map]
  go_upto_region 2 with fail
  have hB0 := HB.out.1
  have hb2 : Below w.heap.size w (w1.alloc (.cells #[.slice b01 b02 b03, .slice b11 b12 b13, .slice b21 b22 b23, .int .i64 P.depth, .int .i64 P.window, .slice bR1 bR2 bR3, .slice bAp P.rules.length bAc, .slice bS1 bS2 bS3, .slice bD1 bD2 bD3] 30)) := (hB0.trans (hb1.mono hB0.size)).alloc (Nat.le_trans hB0.size hb1.size) _
  have ha2 := (Go.Lib.alloc_old w1 (.cells #[.slice b01 b02 b03, .slice b11 b12 b13, .slice b21 b22 b23, .int .i64 P.depth, .int .i64 P.window, .slice bR1 bR2 bR3, .slice bAp P.rules.length bAc, .slice bS1 bS2 bS3, .slice bD1 bD2 bD3] 30) w.heap.size (Nat.lt_of_lt_of_le (block_lt HB.out.2) hb1.size)).trans ((hb1.block _ (block_lt HB.out.2)).trans HB.out.2)
  have hc2 := heap_alloc_new w1 (.cells #[.slice b01 b02 b03, .slice b11 b12 b13, .slice b21 b22 b23, .int .i64 P.depth, .int .i64 P.window, .slice bR1 bR2 bR3, .slice bAp P.rules.length bAc, .slice bS1 bS2 bS3, .slice bD1 bD2 bD3] 30)
  have hu2 : Below w1.heap.size w1 (w1.alloc (.cells #[.slice b01 b02 b03, .slice b11 b12 b13, .slice b21 b22 b23, .int .i64 P.depth, .int .i64 P.window, .slice bR1 bR2 bR3, .slice bAp P.rules.length bAc, .slice bS1 bS2 bS3, .slice bD1 bD2 bD3] 30)) := (Below.refl _ _).alloc (Nat.le_refl _) _
  have HB2 := hid hb2
  have HU2 := hid hu2
  obtain ⟨W2, hW2⟩ : ∃ W2, w1.alloc (.cells #[.slice b01 b02 b03, .slice b11 b12 b13, .slice b21 b22 b23, .int .i64 P.depth, .int .i64 P.window, .slice bR1 bR2 bR3, .slice bAp P.rules.length bAc, .slice bS1 bS2 bS3, .slice bD1 bD2 bD3] 30) = W2 := ⟨_, rfl⟩
  simp only [hW2] at HB2 HU2 ha2 hc2 ⊢
  obtain ⟨z0, z1, z2, z3, z4, z5, z6, z7, z8, -⟩ := lp_cells ha2
  obtain ⟨x0, x1, x2, x3, x4, x5, x6, x7, x8, -⟩ := lp_cells hc2
  have HC := hid (fun (_ : True) => And.intro z5 (And.intro z6 (And.intro z7 (And.intro z8 (And.intro x5 (And.intro x6 (And.intro x7 x8)))))))
  clear hB0 hb2 ha2 hc2 hu2 hW2 hb1 HB HL z0 z1 z2 z3 z4 z5 z7 z8 x0 x1 x2 x3 x4 x5 x6 x7 x8
  go_wp2
  clear z6
  go_loopw [8, 16] (fun _ iv wr => ∃ k : Nat, iv = .int .i64 k ∧ k ≤ P.rules.length ∧ Hid (True → ∃ n, wr = W2.drewN n)) (fun _ iv _ => P.rules.length - (RowKit.intOf iv).toNat)
  case atStart => exact ⟨0, rfl, Nat.zero_le _, hid fun _ => ⟨0, rfl⟩⟩
  case round =>
    obtain ⟨k, rfl, hk, HQ⟩ := hrel
    obtain ⟨z5, z6, z7, z8, x5, x6, x7, x8⟩ := HC.out trivial
    replace z5 := cell_drewT HQ z5
    replace z6 := cell_drewT HQ z6
    replace z7 := cell_drewT HQ z7
    replace z8 := cell_drewT HQ z8
    replace x5 := cell_drewT HQ x5
    replace x6 := cell_drewT HQ x6
    replace x7 := cell_drewT HQ x7
    replace x8 := cell_drewT HQ x8
    by_cases hkl : k < P.rules.length
    · obtain ⟨r, hr⟩ : ∃ r, P.rules[k]? = some r := ⟨_, List.getElem?_eq_getElem hkl⟩
      obtain ⟨b, o, u, rfl, e1, e3⟩ := HM.out.2.1 k (r.2 ++ ms) (by rw [List.getElem?_map, hr]; rfl)
      obtain ⟨b', o', u', rfl, f1, f3⟩ := HL2.out.2.1 k (r.2 ++ ms) (by rw [List.getElem?_map, hr]; rfl)
      obtain ⟨p3, n3, m3, rfl⟩ := e3.shape
      obtain ⟨p4, n4, m4, rfl⟩ := f3.shape
      have hsame := fun n => sameTexts_any (.slice p3 n3 m3) (.slice p4 n4 m4) (r.2 ++ ms) (wr.drewN n) (by obtain ⟨n', rfl⟩ := HQ.out trivial; exact ((e3.below HB2.out).drewN _).drewN _) (by obtain ⟨n', rfl⟩ := HQ.out trivial; exact ((f3.below HU2.out).drewN _).drewN _)
      have HS := hid hsame
      replace e1 := cell_drewT HQ (cell_kept e1 HB2.out)
      replace f1 := cell_drewT HQ (cell_kept f1 HU2.out)
      clear hsame hr e3 f3 z5 z7 z8 x5 x7 x8
      go_wp2_with fail
      go_quiet (first | (go_at_call 24; refine Calls.quiet_of (HS.out _)))
      go_wp2
      go_roundw
      case rel =>
        obtain ⟨n, hn⟩ := HQ.out trivial
        exact ⟨k + 1, rfl, by omega, hid (fun _ => ⟨n + nq, by rw [hn]; simp⟩)⟩
      case measure => simp [RowKit.intOf]; omega
    · have hxl := cell_block x5
      have hzl := cell_block z5
      have hsame := fun W (hW : Below W2.heap.size W2 W) => samePolicy_any (.slice aR1 aR2 aR3) (.slice aS1 aS2 aS3) (.slice aD1 aD2 aD3) (.slice bR1 bR2 bR3) (.slice bS1 bS2 bS3) (.slice bD1 bD2 bD3) ⟨P.rules ++ ms.map fun s => (s, []), P.schemes ++ ms, P.drop ++ ms, 0, 0⟩ W ⟨(HM.out.1.below HB2.out).below hW, (HM.out.2.2.1.below HB2.out).below hW, (HM.out.2.2.2.below HB2.out).below hW⟩ ⟨(HL2.out.1.below HU2.out).below hW, (HL2.out.2.2.1.below HU2.out).below hW, (HL2.out.2.2.2.below HU2.out).below hW⟩
      have HS := hid hsame
      clear hsame z6 x6
      go_wp2_with fail
      have hW : Below W2.heap.size W2 (wr.alloc (.cells #[.slice aR1 aR2 aR3, .slice aS1 aS2 aS3, .slice aD1 aD2 aD3, .int .i64 0, .int .i64 0] 25)) := by
        obtain ⟨n, rfl⟩ := HQ.out trivial
        have h0 : Below W2.heap.size W2 (W2.drewN n) := ⟨rfl, rfl, rfl, Nat.le_refl _, fun _ _ => rfl⟩
        exact h0.alloc (Nat.le_refl _) _
      refine (HS.out _ hW).mono ?_
      rintro e w9 ⟨rfl, hb9⟩
      have HB9 := hid (HB2.out.trans ((hW.trans (hb9.mono (by exact hW.size))).mono HB2.out.size))
      clear hW hb9
      go_wp2_with fail
      go_ret
      exact ⟨rfl, HB9.out⟩
end Go.Proofs.YtkcgmimldjeaiaaGreatDoor

/-
  Appending to a row that a call owns: where it grows into a new block, the old blocks stay as they were.
-/
namespace Go.Proofs.YtkcgmimldjeaiaaGreatDoor
open Go.RowKit Go.Lib

theorem ok_inj {P : Program} {m : Sem Value} {w : World} {v v' : Value} {w1 w2 : World} (h : m.run P w = .ok v w1) (h' : m.run P w = .ok v' w2) : v = v' ∧ w1 = w2 := by
  rw [h] at h'
  cases h'
  exact ⟨rfl, rfl⟩
theorem run_append_two {P : Program} (w : World) (t ty : TypeId) (base : Nat) (e : TypeId) (i : TypeInfo) (z : Value) (size bytes : Nat) (ht : P.underlying t = some (.slice e)) (hi : P.info? e = some i) (hz : i.zero = some z)
    (hsize : i.size = size) (hby : i.bytes = bytes) (hzs : z.cells.size = size) (hsz : 0 < size)
    (v : Value) (n : Nat) (xs : List Value) (hown : w.ownsRow base e size v n xs)
    (ad : Addr) (m c : Nat) (news : List Value) (hl : news.length = m * size) (hnews : ∀ j u, news[j]? = some u → w.cell? (ad.add j) = some u) (h1 : ∀ u ∈ news, u.oneCell' = true)
    (hm : 0 < m) (h63 : n + m ≤ maxLen) (hbytes : (n + m) * bytes ≤ 140737488355328) (hbase : base ≤ w.heap.size) :
    ∃ g cap w', (Builtin.append_ #[t, t] ty #[v, .slice (some ad) m c]).run P w = .ok (.slice (some ⟨g, 0, none⟩) (n + m) cap) w' ∧ w'.ownsRow base e size (.slice (some ⟨g, 0, none⟩) (n + m) cap) (n + m) (xs ++ news) ∧ w.grownBy w' v.ownBlock ∧
      (v.ownBlock = some g ∨ g = w.heap.size ∧ ∀ k, k < w.heap.size → w'.heap[k]? = w.heap[k]?) := by
  obtain ⟨v', w', hr, h2, h3, _, _⟩ := run_append_own_at (P := P) w base t ty e i z size bytes ht hi hz hsize hby hzs hsz v n xs hown ad m c news hl hnews h1 h63 hbytes hbase
  have hsmall : n + m ≤ 9223372036854775807 := by simp only [maxLen] at h63; omega
  have hold : ∀ (o : Obj) (k : Nat), k < w.heap.size → (w.drew.alloc o).heap[k]? = w.heap[k]? := fun o k hk => Go.Lib.alloc_old w.drew o k hk
  subst hsize hby
  rcases hown.2 with ⟨rfl, rfl⟩ | ⟨g, cap, cur, rfl, hbg, hg, hnc, hcm, hcs, htake⟩
  · have hr2 := run_append_nil (P := P) w t ty e i z ht hi hz ad m c news hl hnews (by omega) (by omega) (by have hb := hbytes; simp only [Nat.zero_add] at hb; omega)
    obtain ⟨rfl, rfl⟩ := ok_inj hr hr2
    rw [Nat.zero_add] at h2 ⊢
    exact ⟨_, _, _, hr2, h2, h3, .inr ⟨rfl, hold _⟩⟩
  · by_cases hroom : n + m ≤ cap
    · obtain ⟨w2, hr2, _⟩ := run_append_fits (P := P) w base t ty e i i.size ht hi rfl g n cap xs hown ad m c news hl hnews h1 hroom
      obtain ⟨rfl, rfl⟩ := ok_inj hr hr2
      exact ⟨_, _, _, hr2, h2, h3, .inl rfl⟩
    · have holds : ∀ j u, xs[j]? = some u → w.cell? ((⟨g, 0, none⟩ : Addr).add j) = some u := hown.cells (g := g) rfl
      have hr2 := run_append_grow (P := P) w t ty e i z ht hi hz ⟨g, 0, none⟩ n cap xs hown.1 holds ad m c news hl hnews (by omega) (by omega) (growslice_fits (by omega) hbytes)
      obtain ⟨rfl, rfl⟩ := ok_inj hr hr2
      exact ⟨_, _, _, hr2, h2, h3, .inr ⟨rfl, hold _⟩⟩
theorem wpList_append_two {P : Program} (w : World) {ops : Array Oper} {rest : List Oper} {o : Oper} {a : Act} {Q : Exit → Act → World → Prop} (hgd : o.guard = none) (s x : Operand) (t : TypeId)
    (ho : o.op = .call { callee := .builtin .append, args := #[s, x], argTypes := #[t, t] })
    (base : Nat) (e : TypeId) (i : TypeInfo) (z : Value) (size bytes : Nat) (ht : P.underlying t = some (.slice e)) (hi : P.info? e = some i) (hz : i.zero = some z)
    (hsize : i.size = size) (hby : i.bytes = bytes) (hzs : z.cells.size = size) (hsz : 0 < size)
    (v : Value) (n : Nat) (xs : List Value) (hs : a.eval s = v) (hown : w.ownsRow base e size v n xs)
    (ad : Addr) (m c : Nat) (news : List Value) (hx : a.eval x = .slice (some ad) m c) (hl : news.length = m * size) (hnews : ∀ j u, news[j]? = some u → w.cell? (ad.add j) = some u) (h1 : ∀ u ∈ news, u.oneCell' = true)
    (hm : 0 < m) (h63 : n + m ≤ maxLen) (hbytes : (n + m) * bytes ≤ 140737488355328) (hbase : base ≤ w.heap.size)
    (h : ∀ g cap w', w'.ownsRow base e size (.slice (some ⟨g, 0, none⟩) (n + m) cap) (n + m) (xs ++ news) → w.grownBy w' v.ownBlock → (v.ownBlock = some g ∨ g = w.heap.size ∧ ∀ k, k < w.heap.size → w'.heap[k]? = w.heap[k]?) → wpList P ops Q rest (a.put o.dst (.slice (some ⟨g, 0, none⟩) (n + m) cap)) w') :
    wpList P ops Q (o :: rest) a w := by
  refine wpList_plain hgd fun K hK => ?_
  obtain ⟨g, cap, w', hr, h2, h3, h4⟩ := run_append_two (P := P) w t o.type base e i z size bytes ht hi hz hsize hby hzs hsz v n xs hown ad m c news hl hnews h1 hm h63 hbytes hbase
  unfold Oper.wp execOp
  simp only [ho, resolve, invoke, builtin, Sem.run_bind, Sem.run_pure, Result.andThen_ok, List.map_toArray, List.map_cons, List.map_nil, hs, hx, hr]
  exact hK _ _ (h g cap w' h2 h3 h4)
end Go.Proofs.YtkcgmimldjeaiaaGreatDoor

/-
  strings.IndexAny at the four marks of a link, at every text: its walk.
-/
namespace Go.Proofs.YtkcgmimldjeaiaaGreatDoor
open Go.RowKit Go.Lib Own

/-- where the first mark lies; -1: nowhere -/
def markN (L : List UInt8) : Nat := (L.takeWhile fun c => !markT.contains c).length
def markIx (L : List UInt8) : Int := if markN L < L.length then (markN L : Int) else -1
theorem markN_is {L : List UInt8} {k : Nat} (h : ∀ j c, j < k → L[j]? = some c → markT.contains c = false) (h2 : ∀ c, L[k]? = some c → markT.contains c = true) (hk : k ≤ L.length) : markN L = k := by
  induction L generalizing k with
  | nil => simp at hk; subst hk; rfl
  | cons c r ih =>
    unfold markN
    cases k with
    | zero =>
      have := h2 c rfl
      rw [List.takeWhile_cons, this]
      rfl
    | succ k =>
      have := h 0 c (by omega) rfl
      rw [List.takeWhile_cons, this]
      simp only [Bool.not_false, if_true, List.length_cons]
      have := ih (k := k) (fun j d hj hd => h (j + 1) d (by omega) (by rw [List.getElem?_cons_succ]; exact hd)) (fun d hd => h2 d (by rw [List.getElem?_cons_succ]; exact hd)) (by simpa using hk)
      unfold markN at this
      rw [this]
theorem markIx_hit {L : List UInt8} {k : Nat} {c : UInt8} (h : ∀ j c, j < k → L[j]? = some c → markT.contains c = false) (hc : L[k]? = some c) (h2 : markT.contains c = true) : markIx L = k := by
  have hl := (List.getElem?_eq_some_iff.1 hc).1
  have hn := markN_is h (fun d hd => by obtain rfl := Option.some.inj (hc.symm.trans hd); exact h2) (by omega)
  unfold markIx
  rw [hn, if_pos hl]
theorem markIx_none {L : List UInt8} (h : ∀ j c, j < L.length → L[j]? = some c → markT.contains c = false) : markIx L = -1 := by
  have hn := markN_is (k := L.length) h (fun d hd => by have := (List.getElem?_eq_some_iff.1 hd).1; omega) (Nat.le_refl _)
  unfold markIx
  rw [hn, if_neg (by omega)]
theorem markN_all (L : List UInt8) : ∀ j c, j < markN L → L[j]? = some c → markT.contains c = false := by
  induction L with
  | nil => intro j c _ h; simp at h
  | cons d r ih =>
    intro j c hj hc
    unfold markN at hj
    rw [List.takeWhile_cons] at hj
    cases hd : markT.contains d with
    | true => rw [hd] at hj; simp at hj
    | false =>
      rw [hd] at hj
      simp only [Bool.not_false, if_true, List.length_cons] at hj
      cases j with
      | zero =>
        simp only [List.getElem?_cons_zero, Option.some.injEq] at hc
        rw [← hc]; exact hd
      | succ j =>
        rw [List.getElem?_cons_succ] at hc
        exact ih j c (by unfold markN; omega) hc
theorem markN_at (L : List UInt8) (c : UInt8) (h : L[markN L]? = some c) : markT.contains c = true := by
  induction L with
  | nil => simp at h
  | cons d r ih =>
    unfold markN at h
    rw [List.takeWhile_cons] at h
    cases hd : markT.contains d with
    | true =>
      rw [hd] at h
      simp only [Bool.not_true, Bool.false_eq_true, if_false, List.length_nil, List.getElem?_cons_zero, Option.some.injEq] at h
      rw [← h]; exact hd
    | false =>
      rw [hd] at h
      simp only [Bool.not_false, if_true, List.length_cons, List.getElem?_cons_succ] at h
      exact ih h
theorem markN_le (L : List UInt8) : markN L ≤ L.length := (List.takeWhile_prefix (p := fun c => !markT.contains c) (l := L)).length_le
theorem indexAny_mark (L : List UInt8) : Lib.indexAny L marksB.data.toList = markIx L := by
  show Lib.indexAny L markT = _
  unfold markIx
  split
  · rename_i h
    obtain ⟨c, hc⟩ : ∃ c, L[markN L]? = some c := ⟨_, List.getElem?_eq_getElem h⟩
    exact Lib.indexAny_hit (fun j b hj hb => markN_all L j b hj hb) hc (markN_at L c hc)
  · rename_i h
    have hl := markN_le L
    refine Lib.indexAny_none (fun j b hj hb => markN_all L j b (by omega) hb)

theorem iterAt_at {W : World} {k : Nat} {o : Obj} (h : W.heap[k]? = some o) {s : ByteArray} (p : Nat) : (W.iterAt k s p).heap[k]? = some (.stringIter s p) := by
  have := block_lt h
  simp [World.iterAt, this]
theorem iterAt_below {w W : World} {k : Nat} (h : Below k w W) (s : ByteArray) (p : Nat) : Below k w (W.iterAt k s p) := by
  refine ⟨h.os, h.tape, h.output, by simpa [World.iterAt] using h.size, fun j hj => ?_⟩
  rw [← h.block j hj]
  have : k ≠ j := by omega
  simp [World.iterAt, this]

set_option maxHeartbeats 4000000 in
set_option maxRecDepth 100000 in
theorem idxAny_short (s : ByteArray) (w : World) (hs : s.size ≤ 8) :
    Calls Tryz.prog 114 #[.string s, .string marksB] w fun e w' => e = .returned (.int .i64 (markIx s.data.toList)) ∧ Below w.heap.size w w' := by
  have hz := size_eq s
  have h8z : ¬ ((s.size : Int) > 8) := by omega
  have hsu : ∀ W, Calls Tryz.prog 131 #[.int .i64 (s.size : Int)] W fun e w' => e = .returned (.bool false) ∧ w' = W := fun W => by
    have h8 : decide ((8 : Int) < (s.size : Int)) = false := decide_eq_false (by omega)
    clear hz
    go_enter Tryz.func131, Tryz.ntmps131
    go_wp2_with fail
    go_ret
    exact ⟨rfl, rfl⟩
  have HSU := hid hsu
  have HZ := hid hz
  clear hsu hz h8z
  have hB0 := (Below.refl w.heap.size w)
  unfold marksB
  go_enter Tryz.func114, Tryz.ntmps114
  go_wp2_with fail
  refine (HSU.out _).mono ?_
  rintro e w1 ⟨rfl, rfl⟩
  go_wp2_with fail
  go_loopg [4, 9, 10] s.size (fun g _ _ _ wx => ∃ i : Nat, i ≤ s.size ∧ s.size ≤ i + g ∧ Hid (Below w1.heap.size w1 wx ∧ wx.heap[w1.heap.size]? = some (.stringIter s i)) ∧ Hid (∀ j c, j < i → s.data.toList[j]? = some c → markT.contains c = false))
  case atStart => exact ⟨0, Nat.zero_le _, by omega, ⟨(Below.refl _ w1).alloc (Nat.le_refl _) _, heap_alloc_new w1 _⟩, fun j c h => absurd h (Nat.not_lt_zero _)⟩
  case round =>
    obtain ⟨i, hi, hg, HX, HK⟩ := hrel
    by_cases hil : i < s.size
    · obtain ⟨x, hx⟩ : ∃ x, s[i]'hil = x := ⟨_, rfl⟩
      have hxl := getElem_list hil hx
      by_cases h128 : x.toNat < 128
      · have hnx := fun ty => Lib.run_next_ascii_at (P := Tryz.prog) wr w1.heap.size s i ty HX.out.2 hil (by rw [hx]; exact h128)
        rw [hx] at hnx
        have hri := fun W => Tryz.strings_IndexRune_ascii marksB (x.toNat : Int) W (by omega) (by omega)
        have hback : ((x.toNat : Int)).toNat.toUInt8 = x := by simp
        rw [hback] at hri
        have hcon := Lib.contains_iff_indexByte markT x
        rw [show marksB.data.toList = markT from rfl] at hri
        have hit : (wr.iterAt w1.heap.size s (i + 1)).heap[w1.heap.size]? = some (.stringIter s (i + 1)) := iterAt_at HX.out.2 _
        have hbi : Below w1.heap.size w1 (wr.iterAt w1.heap.size s (i + 1)) := iterAt_below HX.out.1 s (i + 1)
        have HI := hid (And.intro hbi hit)
        have hmk : ∀ b, markT.contains x = b → (b = true → markIx s.data.toList = i) ∧ (b = false → ∀ j c, j < i + 1 → s.data.toList[j]? = some c → markT.contains c = false) := fun b hb => ⟨fun h => markIx_hit HK.out hxl (hb.trans h), fun h j c hj hc => by
          by_cases e : j = i
          · subst e
            obtain rfl := Option.some.inj (hxl.symm.trans hc)
            exact hb.trans h
          · exact HK.out j c (by omega) hc⟩
        have HMK := hid (hmk _ rfl)
        generalize markT.contains x = b at hcon HMK
        generalize Lib.indexByte markT x = z at hri hcon
        unfold marksB at hri
        have HRI := hid hri
        clear hri hback hmk hbi hit hxl HX HK
        cases b
        · have hz : ¬ (0 : Int) ≤ z := of_decide_eq_false hcon.symm
          have HN := hid (HMK.out.2 rfl)
          clear hcon HMK
          go_wp2_with (go_at_call 130; refine (HRI.out _).mono ?_; rintro e w' ⟨rfl, rfl⟩)
          go_roundg (gk - 1)
          case measure => omega
          case rel => exact ⟨i + 1, by omega, by omega, HI, HN⟩
        · have hz : (0 : Int) ≤ z := of_decide_eq_true hcon.symm
          have hR := HMK.out.1 rfl
          clear hcon HMK
          go_wp2_with (go_at_call 130; refine (HRI.out _).mono ?_; rintro e w' ⟨rfl, rfl⟩)
          go_ret
          exact ⟨ret_i64 hR.symm, HI.out.1⟩
      · obtain ⟨n, hn⟩ : ∃ n, (Utf8.decode s i).2 = n := ⟨_, rfl⟩
        obtain ⟨c, hc⟩ : ∃ c, (Utf8.decode s i).1 = c := ⟨_, rfl⟩
        have hnx := fun ty => Lib.run_next_any_at (P := Tryz.prog) wr w1.heap.size s i ty HX.out.2 hil
        have hd := decode_high s i hil (by rw [hx]; omega)
        have hdc := decode_cont s i hil (by rw [hx]; omega)
        have hle := Lib.rune_le s i
        have hvr : ¬ (55296 ≤ c ∧ c ≤ 57343) := by
          have h1 := Lib.rune_valid (s.extract i s.size)
          rw [Lib.tail_decode, Nat.add_zero, hc] at h1
          unfold Lib.validRune at h1
          have := of_decide_eq_true h1
          omega
        rw [hc] at hd hle
        rw [hn] at hd hdc
        rw [hn, hc] at hnx
        obtain ⟨hlast, _⟩ := hdc (n - 1) (by omega)
        have hno : ∀ j c, j < i + n → s.data.toList[j]? = some c → markT.contains c = false := fun j d hj hdd => by
          by_cases e : j < i
          · exact HK.out j d e hdd
          · obtain ⟨hk2, hge⟩ := hdc (j - i) (by omega)
            have hjs : j < s.size := by omega
            have h3 := getElem_list hjs rfl
            obtain rfl := Option.some.inj (h3.symm.trans hdd)
            have hge2 : 128 ≤ (s[j]'hjs).toNat := by
              have e2 : i + (j - i) = j := by omega
              simp only [e2] at hge
              exact hge
            rw [Bool.eq_false_iff]
            intro h4
            have h5 := List.contains_iff_mem.1 h4
            simp only [markT, List.mem_cons, List.not_mem_nil, or_false] at h5
            rcases h5 with h5 | h5 | h5 | h5 <;> rw [h5] at hge2 <;> exact absurd hge2 (by decide)
        have hit : (wr.iterAt w1.heap.size s (i + n)).heap[w1.heap.size]? = some (.stringIter s (i + n)) := iterAt_at HX.out.2 _
        have hbi : Below w1.heap.size w1 (wr.iterAt w1.heap.size s (i + n)) := iterAt_below HX.out.1 s (i + n)
        have HI := hid (And.intro hbi hit)
        have hri : ∀ W, Calls Tryz.prog 130 #[.string marksB, .int .i32 (c : Int)] W fun e w' => e = .returned (.int .i64 (-1)) ∧ Below W.heap.size W w' := fun W => by
          by_cases h3 : c = 65533
          · subst h3; exact idxRune_bad W
          · exact idxRune_high (c : Int) W (by omega) (by omega) (by omega) (by omega)
        unfold marksB at hri
        have HRI := hid hri
        have HN := hid hno
        clear hri hno hdc hbi hit hxl HX HK hvr hn hc
        go_wp2_with (go_at_call 130; refine (HRI.out _).mono ?_; rintro e w5 ⟨rfl, b5⟩)
        have HZ2 := hid (And.intro (HI.out.1.trans (b5.mono HI.out.1.size)) ((b5.block _ (block_lt HI.out.2)).trans HI.out.2))
        clear b5 HI HRI
        go_roundg (gk - 1)
        case measure => omega
        case rel => exact ⟨i + n, by omega, by omega, HZ2, HN⟩
    · have hR := markIx_none (L := s.data.toList) (fun j c hj hc => HK.out j c (by rw [← HZ.out] at hj; omega) hc)
      have hnx := fun ty => Lib.run_next_end_at (P := Tryz.prog) wr w1.heap.size s i ty HX.out.2 hil
      have HB := hid HX.out.1
      clear HX HK HZ
      go_wp2_with fail
      go_ret
      exact ⟨ret_i64 hR.symm, HB.out⟩
end Go.Proofs.YtkcgmimldjeaiaaGreatDoor

/-
  Package written: the Writer: its walks.
-/
namespace Go.Proofs.YtkcgmimldjeaiaaGreatDoor
open Go.RowKit Go.Lib Own

theorem ret_txt {a b : ByteArray} (h : a = b) : Ending.returned (.string a) = .returned (.string b) := by rw [h]
/-- a text as it is written, and whether a newline is still to be guarded -/
def textW (eat : Bool) (t : List UInt8) : Bool × List UInt8 :=
  if t = [] then (eat, []) else (false, (if eat = true ∧ t.head? = some 10 then [10] else []) ++ escL false t)
def takeW (eat : Bool) (e : EvP) : Bool × List UInt8 :=
  if e.k = 1 then (eatsL e.n, openL e.n e.a) else if e.k = 2 then (false, etagL e.n) else if e.k = 3 then textW eat e.t else (eat, [])
def writeW (eat : Bool) : List EvP → List UInt8
  | [] => []
  | e :: r => (takeW eat e).2 ++ writeW (takeW eat e).1 r

theorem grown_below {w w' : World} (h : Below w.heap.size w w') (row : Option Nat) : w.grownBy w' row := ⟨h.os, h.tape, h.output, h.size, fun k hk _ => h.block k hk⟩
theorem just_grown {w w' : World} {b : Nat} {cs : Array Value} {T : TypeId} (h : Just w w' b cs T) : w.grownBy w' (some b) := ⟨h.os, h.tape, h.output, by rw [h.size]; exact Nat.le_refl _, fun k _ hk => h.other k (fun e => hk (by rw [e]))⟩
theorem cell_grown {w w' : World} {b o k : Nat} {v : Value} (h : w.cell? ⟨b, o, none⟩ = some v) (hg : w.grownBy w' (some k)) (hb : b ≠ k) : w'.cell? ⟨b, o, none⟩ = some v := by
  have := hg.block b (cell_block h) (fun e => hb (Option.some.inj e))
  unfold World.cell? at h ⊢
  rw [this]
  exact h

/-- the flag of a Writer that lies at cell o of block b -/
structure EatAt (w : World) (b o : Nat) (cs : Array Value) (T : TypeId) (eat : Bool) : Prop where
  at_ : w.heap[b]? = some (.cells cs T (0, 0))
  c : cs[o]? = some (.bool eat)

end Go.Proofs.YtkcgmimldjeaiaaGreatDoor

/-
  From what a row says of the tables of words to what lies in memory.
-/
namespace Go.Proofs.YtkcgmimldjeaiaaGreatDoor
open Go.RowKit Go.Lib Go.ChangeShapes Go.Deep

theorem range_ofK {P : Program} {w : World} {n : String} {g : Nat} {cs : Array Value} {L : List Value} (hg : P.globalNamed n = some g) (hvar : w.var? P n = some cs) (h : ∀ (j : Nat) (v : Value), L[j]? = some v → cs.toList[j]? = some v) : w.rangeAt g 0 L := by
  intro j v hv
  rw [Nat.zero_add, World.var?_cell hg hvar j, ← Array.getElem?_toList]
  exact h j v hv
theorem one_atK {α : Type} {l : List α} {j : Nat} {x : α} (h : (l.drop j).take 1 = [x]) : l[j]? = some x := by
  have := congrArg (·[0]?) h
  simpa using this
theorem strs_ofK {P : Program} {w : World} {n : String} {g t e m : Nat} {T : List (List UInt8)} (hg : P.globalNamed n = some g) (ht : (P.globals[g]?).map (·.type) = some t)
    (hu : P.underlying t = some (.array m e)) (he : P.underlying e = some .string) (hce : P.cellsOf e = 1) (hm : T.length = m) (h : VarReads P w n (.agg (T.map fun x => .lit (.string x)))) : w.rangeAt g 0 (T.map fun s => .string (bs s)) := by
  obtain ⟨g', t', cs, fuel, p, hg', hty, hvar, hd⟩ := h
  obtain rfl := Option.some.inj (hg.symm.trans hg')
  obtain rfl := Option.some.inj (ht.symm.trans hty)
  refine range_ofK hg hvar (fun j v hv => ?_)
  rw [List.getElem?_map] at hv
  obtain ⟨x, hx, rfl⟩ := Option.map_eq_some_iff.1 hv
  obtain ⟨fuel', d, q, hdi, hel⟩ := array_elem hu hd j (by rw [← hm]; exact (List.getElem?_eq_some_iff.1 hx).1)
  rw [List.getElem?_map, hx] at hdi
  simp only [Option.map_some, Option.some.injEq] at hdi
  subst hdi
  rw [hce, Nat.mul_one] at hel
  obtain ⟨s, hs, hx2, _⟩ := DataW.trod_string he hel
  simp only [Prod.mk.injEq, DataW.lit.injEq, Lit.string.injEq] at hx2
  rw [one_atK hs, hx2.1]
  rfl

theorem list3 {l : List Value} {a b c : Value} (hl : l.length = 3) (h0 : (l.drop 0).take 1 = [a]) (h1 : (l.drop 1).take 1 = [b]) (h2 : (l.drop 2).take 1 = [c]) : l = [a, b, c] := by
  match l, hl with
  | [x, y, z], _ =>
    simp only [List.drop_zero, List.take_succ_cons, List.take_zero, List.drop_succ_cons, List.cons.injEq, and_true] at h0 h1 h2
    rw [h0, h1, h2]
theorem add_noneK (b o : Nat) (n : Nat) : (⟨b, o, none⟩ : Addr).add n = ⟨b, o + n, none⟩ := by unfold Addr.add; split <;> simp_all
set_option maxRecDepth 100000 in
theorem kinds_of {w : World} (h : VarReads Tryz.prog w "scrub/vocabulary.kinds" (.agg (kindT.map fun x => .agg [.slice (x.1.map fun s => .lit (.string s)) [], .lit (.int .i64 x.2.1), .lit (.int .i64 x.2.2)]))) : KindsTab w := by
  obtain ⟨g', t', cs, fuel, p, hg', hty, hvar, hd⟩ := h
  obtain rfl := Option.some.inj ((show Tryz.prog.globalNamed "scrub/vocabulary.kinds" = some 0 by kernel_rfl).symm.trans hg')
  obtain rfl := Option.some.inj ((show (Tryz.prog.globals[0]?).map (·.type) = some 109 by kernel_rfl).symm.trans hty)
  obtain ⟨_, _, _, _, hlen, _⟩ := DataW.trod_array Tryz.underlying109 hd
  have k36 : Tryz.prog.cellsOf 109 = 36 := by kernel_rfl
  have k3 : Tryz.prog.cellsOf 108 = 3 := by kernel_rfl
  have k1 : Tryz.prog.cellsOf 23 = 1 := by kernel_rfl
  have ki : Tryz.prog.cellsOf 3 = 1 := by kernel_rfl
  refine ⟨cs.toList, by rw [← k36]; exact hlen, range_ofK (by kernel_rfl) hvar (fun j v hv => hv), fun k x hx => ?_⟩
  obtain ⟨fuel', d, q, hdi, hel⟩ := array_elem Tryz.underlying109 hd k (by have := (List.getElem?_eq_some_iff.1 hx).1; exact this)
  rw [List.getElem?_map, hx] at hdi
  simp only [Option.map_some, Option.some.injEq] at hdi
  subst hdi
  rw [k3] at hel
  obtain ⟨y0, y1, y2, n, hy, hl3, g0, g1, g2⟩ := trod_struct3 Tryz.underlying108 hel
  simp only [Prod.mk.injEq, DataW.agg.injEq, List.cons.injEq, and_true] at hy
  obtain ⟨⟨hy0, hy1, hy2⟩, _⟩ := hy
  have kc : Tryz.prog.cellsOf 92 = 1 := by kernel_rfl
  have km : Tryz.prog.cellsOf 93 = 1 := by kernel_rfl
  dsimp only at g0 g1 g2
  rw [k1] at g0
  rw [kc] at g1
  rw [km] at g2
  obtain ⟨n1, c1, e1, _⟩ := DataW.trod_int (k := .i64) (by kernel_rfl) g1
  obtain ⟨n2, c2, e2, _⟩ := DataW.trod_int (k := .i64) (by kernel_rfl) g2
  rw [e1] at hy1
  rw [e2] at hy2
  simp only [DataW.lit.injEq, Lit.int.injEq, true_and] at hy1 hy2
  rcases open_strings Tryz.underlying23 Tryz.underlying9 (by kernel_rfl) g0 with ⟨hcs, hx0⟩ | ⟨a, len, cap, ss, hcs, _, hl, hm9, hz, hx0, hcell, _⟩
  · rw [hx0] at hy0
    cases hy0
  · rw [hx0] at hy0
    simp only [DataW.slice.injEq] at hy0
    simp only [if_true] at hz
    refine ⟨.slice (some a) len cap, ?_, some a, cap, ?_, ?_, ?_, fun j s hj => ?_, fun h => by cases h⟩
    · rw [hy1, hy2]
      exact list3 (hl3.trans k3) hcs c1 c2
    all_goals have hxl := congrArg List.length hy0.1
    all_goals have hdl := congrArg List.length hy0.2
    all_goals unfold strs at hxl hdl
    all_goals simp only [List.length_map, List.length_take, List.length_drop, List.length_nil] at hxl hdl
    · rw [hxl]
      congr 1
      omega
    · omega
    · unfold maxLen at hm9
      omega
    · have hjl := (List.getElem?_eq_some_iff.1 hj).1
      have hc0 := hcell 0 (by omega)
      have hc := hcell j (by omega)
      obtain ⟨b, o, sp⟩ := a
      rw [show (⟨b, o, sp⟩ : Addr).add 0 = ⟨b, o, sp⟩ by simp [Addr.add]] at hc0
      obtain rfl := cell_spot hc0
      rw [add_noneK] at hc
      refine ⟨b, o, rfl, ?_⟩
      have he := congrArg (·[j]?) hy0.1
      unfold strs at he
      simp only [List.getElem?_map, hj, Option.map_some, List.getElem?_take_of_lt (show j < len by omega)] at he
      obtain ⟨s0, hs0, he0⟩ := Option.map_eq_some_iff.1 he.symm
      simp only [DataW.lit.injEq, Lit.string.injEq] at he0
      rw [hc, List.getD_eq_getElem?_getD, hs0, ← he0]
      rfl
end Go.Proofs.YtkcgmimldjeaiaaGreatDoor

/-
  From what a row says of a policy and of words to what lies in memory.
-/
namespace Go.Proofs.YtkcgmimldjeaiaaGreatDoor
open Go.RowKit Go.Lib Go.ChangeShapes Go.WideShapes Go.Joins Go.Deep Go.ChangeAt

section
variable {H : Type} {enc : TypeId × Value → H} {W : World}

theorem bulk_pos (d : DataW H) : 1 ≤ Rows.uptoBulk d := by
  cases d with
  | lit l => cases l <;> simp [Rows.uptoBulk]
  | _ => simp [Rows.uptoBulk]
theorem bulkAll_mem : ∀ (l : List (DataW H)) (d : DataW H), d ∈ l → Rows.uptoBulk d ≤ Rows.uptoBulkAll l
  | [], d, h => by simp at h
  | x :: r, d, h => by
    simp only [Rows.uptoBulkAll]
    rcases List.mem_cons.1 h with rfl | h1
    · omega
    · have := bulkAll_mem r d h1
      omega
theorem bulkAll_len : ∀ l : List (DataW H), l.length ≤ Rows.uptoBulkAll l
  | [] => by simp
  | x :: r => by
    have h1 := bulkAll_len r
    have h2 := bulk_pos x
    simp only [Rows.uptoBulkAll, List.length_cons]
    omega
theorem add_none (b o : Nat) (n : Nat) : (⟨b, o, none⟩ : Addr).add n = ⟨b, o + n, none⟩ := by unfold Addr.add; split <;> simp_all
theorem add_zero' (a : Addr) : a.add 0 = a := by simp [Addr.add]

/-- a []string that is read -/
theorem words_of {held : Bool} {fuel : Nat} {v : Value} {x : DataW H × List MemPlace} (h : DataW.trod enc Tryz.prog W 0 (fun _ => true) held fuel 23 [v] = some x) (hb : Rows.uptoBulk x.1 ≤ 1048576) :
    ∃ ss, Words W v ss ∧ ss.length ≤ 1048576 ∧ ∀ s ∈ ss, s.length ≤ 1048576 := by
  rcases open_strings Tryz.underlying23 Tryz.underlying9 (by kernel_rfl) h with ⟨hcs, hx⟩ | ⟨a, len, cap, ss, hcs, _, hl, hm9, hz, hx, hcell, hsz⟩
  · obtain rfl := (List.cons.inj hcs).1
    exact ⟨[], Words.nil W, by simp, fun s hs => by simp at hs⟩
  · obtain rfl := (List.cons.inj hcs).1
    subst hx
    simp only [if_true] at hz
    have hlen : ((ss.take len).map fun s => s.data.toList).length = len := by rw [List.length_map, List.length_take]; omega
    simp only [Rows.uptoBulk] at hb
    have hb1 := bulkAll_len (H := H) (strs (ss.take len))
    have hsl : (strs (H := H) (ss.take len)).length = len := by unfold strs; rw [List.length_map, List.length_take]; omega
    rw [hsl] at hb1
    refine ⟨(ss.take len).map fun s => s.data.toList, ⟨some a, cap, by rw [hlen], by rw [hlen]; exact hl, by unfold maxLen at hm9; omega, fun j s hj => ?_, fun h => by cases h⟩, by omega, fun s hs => ?_⟩
    · have hjl : j < len := by rw [← hlen]; exact (List.getElem?_eq_some_iff.1 hj).1
      rw [List.getElem?_map] at hj
      obtain ⟨s0, hs0, rfl⟩ := Option.map_eq_some_iff.1 hj
      rw [List.getElem?_take_of_lt hjl] at hs0
      have hc0 := hcell 0 (by omega)
      have hc := hcell j (by omega)
      obtain ⟨b, o, sp⟩ := a
      rw [add_zero'] at hc0
      obtain rfl := cell_spot hc0
      rw [add_none] at hc
      refine ⟨b, o, rfl, ?_⟩
      rw [hc, List.getD_eq_getElem?_getD, hs0]
      rfl
    · obtain ⟨s0, hs0, rfl⟩ := List.mem_map.1 hs
      have hm := bulkAll_mem (H := H) (strs (ss.take len)) (.lit (.string s0.data.toList)) (List.mem_map.2 ⟨s0, hs0, rfl⟩)
      simp only [Rows.uptoBulk] at hm
      omega
/-- a []Rule that is read -/
theorem rules_of {held : Bool} {fuel : Nat} {v : Value} {x : DataW H × List MemPlace} (h : DataW.trod enc Tryz.prog W 0 (fun _ => true) held fuel 22 [v] = some x) (hb : Rows.uptoBulk x.1 ≤ 1048576) :
    ∃ rs, RulesR W v rs ∧ rs.length ≤ 1048576 ∧ ∀ r ∈ rs, r.2.length ≤ 1048576 ∧ r.1.length ≤ 1048576 ∧ ∀ a ∈ r.2, a.length ≤ 1048576 := by
  rcases open_slice_pairs Tryz.underlying22 Tryz.underlying53 (by kernel_rfl) rfl rfl (by kernel_rfl) (by kernel_rfl) h with ⟨hcs, hx⟩ | ⟨a, len, cap, m, n, V0, V1, D0, D1, P0, P1, hcs, _, hl, hm9, hm, hx, hall⟩
  · obtain rfl := (List.cons.inj hcs).1
    exact ⟨[], ⟨none, 0, rfl, Nat.le_refl _, by omega, fun j r hj => by simp at hj⟩, by simp, fun r hr => by simp at hr⟩
  · obtain rfl := (List.cons.inj hcs).1
    subst hx
    simp only [if_true] at hm
    subst hm
    simp only [Rows.uptoBulk] at hb
    have hb1 := bulkAll_len (H := H) ((List.range len).map fun i => .agg [D0 i, D1 i])
    rw [List.length_map, List.length_range] at hb1
    have each : ∀ i, i < len → ∃ q : RuleP, V0 i = .string (bs q.1) ∧ Words W (V1 i) q.2 ∧ q.2.length ≤ 1048576 ∧ q.1.length ≤ 1048576 ∧ ∀ a ∈ q.2, a.length ≤ 1048576 := fun i hi => by
      obtain ⟨_, _, h0, h1⟩ := hall i (by omega)
      have hbi := bulkAll_mem (H := H) ((List.range len).map fun i => .agg [D0 i, D1 i]) (.agg [D0 i, D1 i]) (List.mem_map.2 ⟨i, by simpa using hi, rfl⟩)
      simp only [Rows.uptoBulk, Rows.uptoBulkAll] at hbi
      obtain ⟨s, e0, e1, _⟩ := DataW.trod_string Tryz.underlying9 h0
      obtain ⟨ss, w1, w2, w3⟩ := words_of h1 (by show Rows.uptoBulk (D1 i) ≤ _; omega)
      simp only [Prod.mk.injEq] at e1
      rw [e1.1] at hbi
      simp only [Rows.uptoBulk] at hbi
      exact ⟨(s.data.toList, ss), (List.cons.inj e0).1, w1, w2, by show s.data.toList.length ≤ _; omega, w3⟩
    obtain ⟨Q, hQ⟩ := choose_lt each
    have hlen : ((List.range len).map Q).length = len := by simp
    refine ⟨(List.range len).map Q, ⟨some a, m, by rw [hlen], by rw [hlen]; exact hl, by unfold maxLen at hm9; omega, fun j r hj => ?_⟩, by rw [hlen]; omega, fun r hr => ?_⟩
    · have hjl : j < len := by rw [← hlen]; exact (List.getElem?_eq_some_iff.1 hj).1
      rw [List.getElem?_map, List.getElem?_range hjl] at hj
      obtain rfl := Option.some.inj hj
      obtain ⟨hc0, _, _, _⟩ := hall 0 (by omega)
      obtain ⟨k0, k1, _, _⟩ := hall j (by omega)
      obtain ⟨q0, q1, _⟩ := hQ j hjl
      obtain ⟨b, o, sp⟩ := a
      rw [Nat.zero_mul, add_zero'] at hc0
      obtain rfl := cell_spot hc0
      rw [add_none] at k0 k1
      exact ⟨b, o, V1 j, rfl, by rw [k0, q0], by rw [Nat.add_assoc]; exact k1, q1⟩
    · obtain ⟨i, hi, rfl⟩ := List.mem_map.1 hr
      obtain ⟨_, _, q2, q3, q4⟩ := hQ i (by simpa using hi)
      exact ⟨q2, q3, q4⟩
theorem i64_wf {n : Int} (h : (Lit.int .i64 n).wf = true) : -9223372036854775808 ≤ n ∧ n ≤ 9223372036854775807 := by
  simp only [Lit.wf, Bool.and_eq_true, decide_eq_true_eq] at h
  first | exact h | simpa [IntKind.min, IntKind.max] using h
theorem array5 {α : Type} {cs : Array α} (h : cs.size = 5) : ∃ c0 c1 c2 c3 c4, cs = #[c0, c1, c2, c3, c4] := by
  obtain ⟨l⟩ := cs
  match l, h with
  | [c0, c1, c2, c3, c4], _ => exact ⟨c0, c1, c2, c3, c4, rfl⟩
set_option maxRecDepth 100000 in
/-- a policy that is read -/
theorem policy_of {r : Reach} {b0 : Nat} {held : Bool} {v : Value} {d : DataW H} {p : List MemPlace} (hv : Value.okWide Tryz.prog W r b0 25 v) (h : DataW.Trod enc Tryz.prog W 0 (fun _ => true) held 25 v d p) (hb : Rows.uptoBulk d ≤ 1048576) :
    ∃ (vr vs vd : Value) (P : PolP), v = .agg (polC vr vs vd P) ∧ PolR W vr vs vd P ∧ P.Few := by
  obtain ⟨cs, rfl, hsz⟩ := okWide_struct Tryz.underlying25 hv
  obtain ⟨c0, c1, c2, c3, c4, rfl⟩ := array5 (hsz.trans (by kernel_rfl))
  obtain ⟨fuel, hf⟩ := h
  obtain ⟨xs, n, _, hx, hl, hlen, hfs⟩ := DataW.trod_struct Tryz.underlying25 hf
  match xs, hlen with
  | [y0, y1, y2, y3, y4], _ =>
    have k22 : Tryz.prog.cellsOf 22 = 1 := by kernel_rfl
    have k23 : Tryz.prog.cellsOf 23 = 1 := by kernel_rfl
    have k3 : Tryz.prog.cellsOf 3 = 1 := by kernel_rfl
    have g0 : DataW.trod enc Tryz.prog W 0 (fun _ => true) held n 22 [c0] = some y0 := by
      have := hfs 0 _ rfl
      simpa [Value.cells, k22] using this
    have g1 : DataW.trod enc Tryz.prog W 0 (fun _ => true) held n 23 [c1] = some y1 := by
      have := hfs 1 _ rfl
      simpa [Value.cells, k23] using this
    have g2 : DataW.trod enc Tryz.prog W 0 (fun _ => true) held n 23 [c2] = some y2 := by
      have := hfs 2 _ rfl
      simpa [Value.cells, k23] using this
    have g3 : DataW.trod enc Tryz.prog W 0 (fun _ => true) held n 3 [c3] = some y3 := by
      have := hfs 3 _ rfl
      simpa [Value.cells, k3] using this
    have g4 : DataW.trod enc Tryz.prog W 0 (fun _ => true) held n 3 [c4] = some y4 := by
      have := hfs 4 _ rfl
      simpa [Value.cells, k3] using this
    simp only [Prod.mk.injEq, List.map_cons, List.map_nil] at hx
    rw [hx.1] at hb
    simp only [Rows.uptoBulk, Rows.uptoBulkAll] at hb
    obtain ⟨rs, r1, r2, r3⟩ := rules_of g0 (by omega)
    obtain ⟨ss, s1, s2, s3⟩ := words_of g1 (by omega)
    obtain ⟨ds, d1, d2, d3⟩ := words_of g2 (by omega)
    obtain ⟨z3, e3, _, h3⟩ := DataW.trod_int Tryz.underlying3 g3
    obtain ⟨z4, e4, _, h4⟩ := DataW.trod_int Tryz.underlying3 g4
    obtain rfl := (List.cons.inj e3).1
    obtain rfl := (List.cons.inj e4).1
    refine ⟨c0, c1, c2, ⟨rs, ss, ds, z3, z4⟩, rfl, ⟨r1, s1, d1⟩, ?_⟩
    exact ⟨Nat.le_trans r2 (by omega), Nat.le_trans s2 (by omega), Nat.le_trans d2 (by omega), fun r hr => Nat.le_trans (r3 r hr).1 (by omega), fun r hr => ⟨Nat.le_trans (r3 r hr).2.1 (by omega), fun a ha => Nat.le_trans ((r3 r hr).2.2 a ha) (by omega)⟩, fun x hx => Nat.le_trans (s3 x hx) (by omega), fun x hx => Nat.le_trans (d3 x hx) (by omega), (i64_wf h3).1, (i64_wf h3).2, (i64_wf h4).1, (i64_wf h4).2⟩
end
end Go.Proofs.YtkcgmimldjeaiaaGreatDoor

/-
  From what a row says of events, of nodes and of their attributes to what lies in memory.
-/
namespace Go.Proofs.YtkcgmimldjeaiaaGreatDoor
open Go.RowKit Go.Lib Go.ChangeShapes Go.WideShapes Go.Joins Go.Deep Go.ChangeAt

section
variable {H : Type} {enc : TypeId × Value → H} {W : World}

theorem sum_bulk {D : Nat → DataW H} {f : Nat → Nat} : ∀ l : List Nat, (∀ i ∈ l, f i ≤ Rows.uptoBulk (D i)) → (l.map f).sum ≤ Rows.uptoBulkAll (l.map D)
  | [], _ => by simp
  | i :: l, h => by
    have h1 := sum_bulk l (fun j hj => h j (List.mem_cons_of_mem _ hj))
    have h2 := h i (List.mem_cons_self ..)
    simp only [List.map_cons, List.sum_cons, Rows.uptoBulkAll]
    omega
/-- a []Attr that is read -/
theorem attrs_of {held : Bool} {fuel : Nat} {v : Value} {x : DataW H × List MemPlace} (h : DataW.trod enc Tryz.prog W 0 (fun _ => true) held fuel 42 [v] = some x) : ∃ al, AttrsR W v al ∧ bulkA al ≤ Rows.uptoBulk x.1 := by
  rcases open_slice_pairs Tryz.underlying42 Tryz.underlying66 (by kernel_rfl) rfl rfl (by kernel_rfl) (by kernel_rfl) h with ⟨hcs, hx⟩ | ⟨a, len, cap, m, n, V0, V1, D0, D1, P0, P1, hcs, _, hl, hm9, hm, hx, hall⟩
  · obtain rfl := (List.cons.inj hcs).1
    exact ⟨[], AttrsR.nil W, Nat.zero_le _⟩
  · obtain rfl := (List.cons.inj hcs).1
    subst hx
    simp only [if_true] at hm
    subst hm
    have each : ∀ i, i < len → ∃ q : AttrP, V0 i = .string (bs q.1) ∧ V1 i = .string (bs q.2) ∧ q.1.length + q.2.length + 1 ≤ Rows.uptoBulk (.agg [D0 i, D1 i]) := fun i hi => by
      obtain ⟨_, _, h0, h1⟩ := hall i (by omega)
      obtain ⟨s, e0, e1, _⟩ := DataW.trod_string Tryz.underlying9 h0
      obtain ⟨s', e0', e1', _⟩ := DataW.trod_string Tryz.underlying9 h1
      simp only [Prod.mk.injEq] at e1 e1'
      refine ⟨(s.data.toList, s'.data.toList), (List.cons.inj e0).1, (List.cons.inj e0').1, ?_⟩
      rw [e1.1, e1'.1]
      simp only [Rows.uptoBulk, Rows.uptoBulkAll]
      omega
    obtain ⟨Q, hQ⟩ := choose_lt each
    have hlen : ((List.range len).map Q).length = len := by simp
    refine ⟨(List.range len).map Q, ⟨some a, m, by rw [hlen], by rw [hlen]; exact hl, by unfold maxLen at hm9; omega, fun j r hj => ?_, fun e => by cases e⟩, ?_⟩
    · have hjl : j < len := by rw [← hlen]; exact (List.getElem?_eq_some_iff.1 hj).1
      rw [List.getElem?_map, List.getElem?_range hjl] at hj
      obtain rfl := Option.some.inj hj
      obtain ⟨hc0, _, _, _⟩ := hall 0 (by omega)
      obtain ⟨k0, k1, _, _⟩ := hall j (by omega)
      obtain ⟨q0, q1, _⟩ := hQ j hjl
      obtain ⟨b, o, sp⟩ := a
      rw [Nat.zero_mul, add_zero'] at hc0
      obtain rfl := cell_spot hc0
      rw [add_none] at k0 k1
      exact ⟨b, o, rfl, by rw [k0, q0], by rw [Nat.add_assoc, k1, q1]⟩
    · have h1 := sum_bulk (D := fun i => .agg [D0 i, D1 i]) (f := fun i => (Q i).1.length + (Q i).2.length + 1) (List.range len) (fun i hi => (hQ i (by simpa using hi)).2.2)
      unfold bulkA
      rw [List.map_map]
      simp only [Rows.uptoBulk]
      exact Nat.le_trans h1 (by omega)
instance : Inhabited EvP := ⟨⟨0, [], [], []⟩⟩
set_option maxRecDepth 100000 in
/-- a slice of structs of a number, a name, attributes and a text -/
theorem recs_of {t e : TypeId} {f0 f1 f2 f3 : Field} (ht : Tryz.prog.underlying t = some (.slice e)) (he : Tryz.prog.underlying e = some (.struct #[f0, f1, f2, f3])) (ce : Tryz.prog.cellsOf e = 4) (o : f0.offset = 0 ∧ f1.offset = 1 ∧ f2.offset = 2 ∧ f3.offset = 3)
    (g : f0.type = 3 ∧ f1.type = 9 ∧ f2.type = 42 ∧ f3.type = 9)
    {held : Bool} {fuel : Nat} {v : Value} {x : DataW H × List MemPlace} (h : DataW.trod enc Tryz.prog W 0 (fun _ => true) held fuel t [v] = some x) : ∃ es, EvsR W v es ∧ bulkE es ≤ Rows.uptoBulk x.1 ∧ ∀ e ∈ es, -9223372036854775808 ≤ e.k ∧ e.k ≤ 9223372036854775807 := by
  rcases open_slice ht h with ⟨hcs, hx⟩ | ⟨a, len, cap, m, n, D, Pl, hcs, _, hl, hm9, hm, hx, hall⟩
  · obtain rfl := (List.cons.inj hcs).1
    exact ⟨[], EvsR.nil W, Nat.zero_le _, fun e h => by cases h⟩
  · obtain rfl := (List.cons.inj hcs).1
    subst hx
    simp only [if_true] at hm
    subst hm
    have ci : Tryz.prog.cellsOf 3 = 1 := by kernel_rfl
    have cs1 : Tryz.prog.cellsOf 9 = 1 := by kernel_rfl
    have ca : Tryz.prog.cellsOf 42 = 1 := by kernel_rfl
    obtain ⟨o0, o1, o2, o3⟩ := o
    obtain ⟨g0, g1, g2, g3⟩ := g
    have each : ∀ i, i < len → ∃ q : EvP × Value, W.cell? (a.add (i * 4)) = some (.int .i64 q.1.k) ∧ W.cell? (a.add (i * 4 + 1)) = some (.string (bs q.1.n)) ∧ W.cell? (a.add (i * 4 + 2)) = some q.2 ∧ W.cell? (a.add (i * 4 + 3)) = some (.string (bs q.1.t)) ∧ AttrsR W q.2 q.1.a ∧
        q.1.n.length + q.1.t.length + bulkA q.1.a + 1 ≤ Rows.uptoBulk (D i) ∧ (-9223372036854775808 ≤ q.1.k ∧ q.1.k ≤ 9223372036854775807) := by
      intro i hi
      obtain ⟨cs', h1, h2⟩ := hall i (by omega)
      rw [ce] at h1
      obtain ⟨_, hlen, hcell⟩ := World.cells?_some h1
      obtain ⟨xs, k, hk, hxy, _, hxl, hf⟩ := DataW.trod_struct he h2
      match xs, hxl, cs', hlen with
      | [y0, y1, y2, y3], _, [v0, v1, v2, v3], _ =>
        have q0 := hf 0 f0 rfl
        have q1 := hf 1 f1 rfl
        have q2 := hf 2 f2 rfl
        have q3 := hf 3 f3 rfl
        simp [o0, o1, o2, o3, g0, g1, g2, g3, ci, cs1, ca] at q0 q1 q2 q3
        have e0 := hcell 0 (by omega)
        have e1 := hcell 1 (by omega)
        have e2 := hcell 2 (by omega)
        have e3 := hcell 3 (by omega)
        rw [add_add] at e0 e1 e2 e3
        simp only [Prod.mk.injEq] at hxy
        obtain ⟨z, w0, w1, wf⟩ := DataW.trod_int Tryz.underlying3 q0
        obtain ⟨s, s0, s1, _⟩ := DataW.trod_string Tryz.underlying9 q1
        obtain ⟨al, al1, al2⟩ := attrs_of q2
        obtain ⟨t', t0, t1, _⟩ := DataW.trod_string Tryz.underlying9 q3
        obtain rfl := (List.cons.inj w0).1
        obtain rfl := (List.cons.inj s0).1
        obtain rfl := (List.cons.inj t0).1
        refine ⟨(⟨z, s.data.toList, al, t'.data.toList⟩, v2), by simpa using e0, by rw [bs_of]; simpa using e1, by simpa using e2, by rw [bs_of]; simpa using e3, al1, ?_, i64_wf wf⟩
        rw [hxy.1]
        simp only [List.map_cons, List.map_nil, Rows.uptoBulk, Rows.uptoBulkAll, w1, s1, t1]
        omega
    obtain ⟨Q, hQ⟩ := choose_lt each
    have hlen : ((List.range len).map fun i => (Q i).1).length = len := by simp
    refine ⟨(List.range len).map fun i => (Q i).1, ⟨some a, m, by rw [hlen], by rw [hlen]; exact hl, by unfold maxLen at hm9; omega, fun j r hj => ?_⟩, ?_, fun e he => ?_⟩
    · have hjl : j < len := by rw [← hlen]; exact (List.getElem?_eq_some_iff.1 hj).1
      rw [List.getElem?_map, List.getElem?_range hjl] at hj
      obtain rfl := Option.some.inj hj
      obtain ⟨q0, q1, q2, q3, q4, _⟩ := hQ j hjl
      obtain ⟨b, o, sp⟩ := a
      have hc0 := (hQ 0 (by omega)).1
      rw [Nat.zero_mul, add_zero'] at hc0
      obtain rfl := cell_spot hc0
      rw [add_none] at q0 q1 q2 q3
      exact ⟨b, o, (Q j).2, rfl, q0, by rw [Nat.add_assoc]; exact q1, by rw [Nat.add_assoc]; exact q2, by rw [Nat.add_assoc]; exact q3, q4⟩
    · have h1 := sum_bulk (D := D) (f := fun i => (Q i).1.n.length + (Q i).1.t.length + bulkA (Q i).1.a + 1) (List.range len) (fun i hi => (hQ i (by simpa using hi)).2.2.2.2.2.1)
      unfold bulkE
      rw [List.map_map]
      simp only [Rows.uptoBulk]
      exact Nat.le_trans h1 (by omega)
    · obtain ⟨i, hi, rfl⟩ := List.mem_map.1 he
      exact (hQ i (by simpa using hi)).2.2.2.2.2.2
theorem events_of {held : Bool} {fuel : Nat} {v : Value} {x : DataW H × List MemPlace} (h : DataW.trod enc Tryz.prog W 0 (fun _ => true) held fuel 26 [v] = some x) : ∃ es, EvsR W v es ∧ bulkE es ≤ Rows.uptoBulk x.1 ∧ ∀ e ∈ es, -9223372036854775808 ≤ e.k ∧ e.k ≤ 9223372036854775807 :=
  recs_of Tryz.underlying26 Tryz.underlying44 (by kernel_rfl) ⟨rfl, rfl, rfl, rfl⟩ ⟨rfl, rfl, rfl, rfl⟩ h
end
end Go.Proofs.YtkcgmimldjeaiaaGreatDoor
