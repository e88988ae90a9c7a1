/-
  Parts of the walk, joined: EvGet, SameEv, PolLend, PolLendA, PolSame, PolLendB, PolKept, AppendTwo, SkipTag, StepB, ApartA, WrTag, FiltL, DropL, OrdM, OrdW, WithinG, OrdN, LinkIx, LinkAny, LinkCode, WrTake, PolCodeD, StepTag, StepRef, StepMk, StepC, StepAll, Within, TabsK, PolOpen, EvOpen.
-/
import Derived.Test.YtkcgmimldjeaiaaDoorGen
import Derived.Test.YtkcgmimldjeaiaaDoorJoinA
import Derived.BigQuiet
import Derived.Test.YtkcgmimldjeaiaaDoorPolRefC
import Derived.Laws.AppendOwnNone
import Derived.Deep.Cut
import Derived.Deep.RegionWith
import Derived.Deep.AppendLies
import Derived.Laws.Rows
import Derived.Maps.AppendAt
import Derived.Test.YtkcgmimldjeaiaaDoorLexFind
import Derived.Test.YtkcgmimldjeaiaaDoorUnref
import Derived.Deep.RegionLaw
import Derived.Laws.RangeAny
import Derived.Laws.RangeString
import Derived.Lib.OthersKept
import Derived.Lib.QuoteLoop
import Derived.Lib.TrimU
import Derived.Shelf.Strings.IndexAny
import Derived.WalkMore
import Derived.Deep.QuietTactic
import Derived.BigCall
import Derived.Lib.RuneCountTail
import Derived.Shelf.Strings.IndexAnyAll
import Derived.Test.YtkcgmimldjeaiaaDoorSlW
import Derived.Test.YtkcgmimldjeaiaaDoorLower
import Derived.Test.YtkcgmimldjeaiaaDoorLex
import Derived.Test.YtkcgmimldjeaiaaDoorRows
import Derived.Test.YtkcgmimldjeaiaaDoorVoc
import Derived.Test.YtkcgmimldjeaiaaDoorPolRefB
import Derived.SliceStrings
import Derived.Deep.Strs
import Derived.Lib.LaidU8T
import Derived.Lib.LaidTab
import Derived.Lib.LaidU8
import Derived.OpenShut
import Derived.ChangeSame
import Derived.ChangeArms
import Derived.Lib.SmallJoins
import Derived.Deep.SlicePairs
import Derived.ChangeMaps5
/-
  The cells of one event among a list's.
-/
namespace Go.Proofs.YtkcgmimldjeaiaaDoor
open Go.RowKit Go.Lib Own

def evK : Ev → Nat
  | .text _ => 3
  | .start _ _ => 1
  | .stop _ => 2
def evN : Ev → List UInt8
  | .text _ => []
  | .start n _ => n
  | .stop n => n
def evA : Ev → List (List UInt8 × List UInt8)
  | .start _ a => a
  | _ => []
def evT : Ev → List UInt8
  | .text b => b
  | _ => []
theorem strV_nil : strV [] = .string ⟨#[]⟩ := rfl
theorem evs_get {W : World} {base : Nat} : ∀ (xs : List Value) (l : List Ev) (k : Nat) (e : Ev), EvsAt W base xs l → l[k]? = some e →
    ∃ a, xs[k * 4]? = some (.int .i64 (evK e : Nat)) ∧ xs[k * 4 + 1]? = some (strV (evN e)) ∧ xs[k * 4 + 2]? = some a ∧ xs[k * 4 + 3]? = some (strV (evT e)) ∧ W.ownsRow base 101 2 a (evA e).length (attrsV (evA e)) ∧ EvsAt W base [.int .i64 (evK e : Nat), strV (evN e), a, strV (evT e)] [e]
  | [], [], k, e, _, h => by simp at h
  | k' :: n :: a :: t :: r, e' :: l, 0, e, ⟨h1, h2⟩, h => by
    simp only [List.getElem?_cons_zero, Option.some.injEq] at h
    subst h
    cases e' with
    | text b =>
      obtain ⟨rfl, rfl, rfl, rfl⟩ := h1
      exact ⟨_, rfl, rfl, rfl, rfl, World.ownsRow_nil _ _ _ _, ⟨⟨rfl, rfl, rfl, rfl⟩, trivial⟩⟩
    | start m at_ =>
      obtain ⟨rfl, rfl, h3, rfl⟩ := h1
      exact ⟨_, rfl, rfl, rfl, rfl, h3, ⟨⟨rfl, rfl, h3, rfl⟩, trivial⟩⟩
    | stop m =>
      obtain ⟨rfl, rfl, rfl, rfl⟩ := h1
      exact ⟨_, rfl, rfl, rfl, rfl, World.ownsRow_nil _ _ _ _, ⟨⟨rfl, rfl, rfl, rfl⟩, trivial⟩⟩
  | k' :: n :: a :: t :: r, e' :: l, k + 1, e, ⟨h1, h2⟩, h => by
    rw [List.getElem?_cons_succ] at h
    obtain ⟨a', g1, g2, g3, g4, g5⟩ := evs_get r l k e h2 h
    refine ⟨a', ?_, ?_, ?_, ?_, g5⟩
    · rw [show (k + 1) * 4 = k * 4 + 4 by omega]; exact g1
    · rw [show (k + 1) * 4 + 1 = k * 4 + 1 + 4 by omega]; exact g2
    · rw [show (k + 1) * 4 + 2 = k * 4 + 2 + 4 by omega]; exact g3
    · rw [show (k + 1) * 4 + 3 = k * 4 + 3 + 4 by omega]; exact g4
  | [], _ :: _, _, _, h, _ => h.elim
  | [_], _, _, _, h, _ => by cases ‹List Ev› <;> exact h.elim
  | [_, _], _, _, _, h, _ => by cases ‹List Ev› <;> exact h.elim
  | [_, _, _], _, _, _, h, _ => by cases ‹List Ev› <;> exact h.elim
  | _ :: _ :: _ :: _ :: _, [], _, _, h, _ => h.elim
theorem evs_len {W : World} {base : Nat} : ∀ (xs : List Value) (l : List Ev), EvsAt W base xs l → xs.length = l.length * 4
  | [], [], _ => rfl
  | k' :: n :: a :: t :: r, e' :: l, ⟨h1, h2⟩ => by
    have := evs_len r l h2
    simp only [List.length_cons]
    omega
  | [], _ :: _, h => h.elim
  | [_], _, h => by cases ‹List Ev› <;> exact h.elim
  | [_, _], _, h => by cases ‹List Ev› <;> exact h.elim
  | [_, _, _], _, h => by cases ‹List Ev› <;> exact h.elim
  | _ :: _ :: _ :: _ :: _, [], h => h.elim
theorem evs_app {W : World} {base : Nat} : ∀ (xs : List Value) (l : List Ev) (ys : List Value) (m : List Ev), EvsAt W base xs l → EvsAt W base ys m → EvsAt W base (xs ++ ys) (l ++ m)
  | [], [], _, _, _, h => h
  | k' :: n :: a :: t :: r, e' :: l, ys, m, ⟨h1, h2⟩, h => ⟨h1, evs_app r l ys m h2 h⟩
  | [], _ :: _, _, _, h, _ => h.elim
  | [_], _, _, _, h, _ => by cases ‹List Ev› <;> exact h.elim
  | [_, _], _, _, _, h, _ => by cases ‹List Ev› <;> exact h.elim
  | [_, _, _], _, _, _, h, _ => by cases ‹List Ev› <;> exact h.elim
  | _ :: _ :: _ :: _ :: _, [], _, _, h, _ => h.elim
end Go.Proofs.YtkcgmimldjeaiaaDoor

/-
  The statement's comparing of events: its walk, where both hold the same.
-/
namespace Go.Proofs.YtkcgmimldjeaiaaDoor
open Go.RowKit Go.Lib Own

theorem attrs_at (l : List (List UInt8 × List UInt8)) (k : Nat) (a : List UInt8 × List UInt8) (h : l[k]? = some a) : (attrsV l)[k * 2]? = some (strV a.1) ∧ (attrsV l)[k * 2 + 1]? = some (strV a.2) := by
  induction l generalizing k with
  | nil => simp at h
  | cons b l ih =>
    cases k with
    | zero =>
      simp only [List.getElem?_cons_zero, Option.some.injEq] at h
      subst h
      exact ⟨rfl, rfl⟩
    | succ k =>
      rw [List.getElem?_cons_succ] at h
      obtain ⟨h1, h2⟩ := ih k h
      refine ⟨?_, ?_⟩
      · rw [show (k + 1) * 2 = k * 2 + 1 + 1 by omega]; exact h1
      · rw [show (k + 1) * 2 + 1 = k * 2 + 1 + 1 + 1 by omega]; exact h2
set_option maxHeartbeats 2000000 in
set_option maxRecDepth 10000 in
theorem sameAttrs_any (B1 B2 : Nat) (v1 v2 : Value) (l : List (List UInt8 × List UInt8)) (w : World) (h1 : w.ownsRow B1 101 2 v1 l.length (attrsV l)) (h2 : w.ownsRow B2 101 2 v2 l.length (attrsV l)) :
    Calls Tryd.prog 32 #[v1, v2] w fun e w' => e = .returned (.bool true) ∧ ∃ n, w' = w.drewN n := by
  have hl := row_max h1
  obtain ⟨p1, k1, rfl⟩ := row_shape h1
  obtain ⟨p2, k2, rfl⟩ := row_shape h2
  have hlen : (attrsV l).length = l.length * 2 := attrsV_len l
  have H1 := hid h1
  have H2 := hid h2
  clear h1 h2
  go_enter Tryd.func32, Tryd.ntmps32
  have q0 : ((l.length : Int) != (l.length : Int)) = false := by simp
  go_wp2
  go_loopw [13] (fun iv wr => ∃ k n : Nat, iv = .int .i64 k ∧ k ≤ l.length ∧ wr = w.drewN n) (fun iv _ => l.length - (RowKit.intOf iv).toNat)
  case atStart => exact ⟨0, 0, rfl, Nat.zero_le _, rfl⟩
  case round =>
    obtain ⟨k, n, rfl, hk, rfl⟩ := hrel
    by_cases hkl : k < l.length
    · obtain ⟨g1, ca1, e1, _, _, hc1⟩ := row_at H1.out (by omega)
      obtain ⟨g2, ca2, e2, _, _, hc2⟩ := row_at H2.out (by omega)
      cases e1
      cases e2
      obtain ⟨x1, x2⟩ := attrs_at l k l[k] (List.getElem?_eq_getElem hkl)
      have a1 := (hc1 (k * 2) (by omega)).trans x1
      have a2 := (hc1 (k * 2 + 1) (by omega)).trans x2
      have b1 := (hc2 (k * 2) (by omega)).trans x1
      have b2 := (hc2 (k * 2 + 1) (by omega)).trans x2
      obtain ⟨u1, hu1⟩ : ∃ u1, (⟨l[k].1.toArray⟩ : ByteArray) = u1 := ⟨_, rfl⟩
      obtain ⟨u2, hu2⟩ : ∃ u2, (⟨l[k].2.toArray⟩ : ByteArray) = u2 := ⟨_, rfl⟩
      unfold strV at a1 a2 b1 b2
      rw [hu1] at a1 b1
      rw [hu2] at a2 b2
      clear hc1 hc2 x1 x2 hu1 hu2 H1 H2
      go_wp2_with fail
      go_quiet (fail)
      go_wp2
      go_roundw
      case rel => exact ⟨k + 1, n + nq, rfl, by omega, by first | rfl | simp⟩
      case measure => simp [RowKit.intOf]; omega
    · go_wp2
      go_ret
      exact ⟨rfl, n, rfl⟩

/-- the four cells of an event in a row -/
theorem ev_cells {W : World} {base : Nat} {v : Value} {xs : List Value} {l : List Ev} (h : W.ownsRow base 39 4 v l.length xs) (he : EvsAt W base xs l) (k : Nat) (hk : k < l.length) :
    ∃ g cap a, v = .slice (some ⟨g, 0, none⟩) l.length cap ∧ base ≤ g ∧ g < W.heap.size ∧ W.cell? ⟨g, k * 4, none⟩ = some (.int .i64 (evK l[k] : Nat)) ∧ W.cell? ⟨g, k * 4 + 1, none⟩ = some (strV (evN l[k])) ∧ W.cell? ⟨g, k * 4 + 2, none⟩ = some a ∧
      W.cell? ⟨g, k * 4 + 3, none⟩ = some (strV (evT l[k])) ∧ W.ownsRow base 101 2 a (evA l[k]).length (attrsV (evA l[k])) ∧ EvsAt W base [.int .i64 (evK l[k] : Nat), strV (evN l[k]), a, strV (evT l[k])] [l[k]] := by
  obtain ⟨g, cap, hv, hg1, hg2, hc⟩ := row_at h (by omega)
  obtain ⟨a, a0, a1, a2, a3, a4, a5⟩ := evs_get xs l k l[k] he (List.getElem?_eq_getElem hk)
  exact ⟨g, cap, a, hv, hg1, hg2, (hc _ (by omega)).trans a0, (hc _ (by omega)).trans a1, (hc _ (by omega)).trans a2, (hc _ (by omega)).trans a3, a4, a5⟩

set_option maxHeartbeats 4000000 in
set_option maxRecDepth 10000 in
theorem sameEvents_any (B1 B2 : Nat) (v1 v2 : Value) (xs1 xs2 : List Value) (l : List Ev) (w : World) (h1 : w.ownsRow B1 39 4 v1 l.length xs1) (e1 : EvsAt w B1 xs1 l) (h2 : w.ownsRow B2 39 4 v2 l.length xs2) (e2 : EvsAt w B2 xs2 l) :
    Calls Tryd.prog 11 #[v1, v2] w fun e w' => e = .returned (.bool true) ∧ ∃ n, w' = w.drewN n := by
  have hl := row_max h1
  obtain ⟨p1, k1, rfl⟩ := row_shape h1
  obtain ⟨p2, k2, rfl⟩ := row_shape h2
  have H1 := hid (And.intro h1 e1)
  have H2 := hid (And.intro h2 e2)
  clear h1 h2 e1 e2
  go_enter Tryd.func11, Tryd.ntmps11
  have q0 : ((l.length : Int) != (l.length : Int)) = false := by simp
  go_wp2
  go_loopw [13] (fun iv wr => ∃ k : Nat, iv = .int .i64 k ∧ k ≤ l.length ∧ Hid (True → ∃ n, wr = w.drewN n)) (fun iv _ => l.length - (RowKit.intOf iv).toNat)
  case atStart => exact ⟨0, rfl, Nat.zero_le _, hid (fun _ => ⟨0, rfl⟩)⟩
  case round =>
    obtain ⟨k, rfl, hk, HQ⟩ := hrel
    by_cases hkl : k < l.length
    · obtain ⟨g1, ca1, a1, ex1, _, _, b0, b1, b2, b3, b4, _⟩ := ev_cells H1.out.1 H1.out.2 k hkl
      obtain ⟨g2, ca2, a2, ex2, _, _, d0, d1, d2, d3, d4, _⟩ := ev_cells H2.out.1 H2.out.2 k hkl
      cases ex1
      cases ex2
      obtain ⟨sp1, sc1, rfl⟩ := row_shape b4
      obtain ⟨sp2, sc2, rfl⟩ := row_shape d4
      have hq := HQ.out trivial
      replace b0 := cell_drew hq b0
      replace b1 := cell_drew hq b1
      replace b2 := cell_drew hq b2
      replace b3 := cell_drew hq b3
      replace d0 := cell_drew hq d0
      replace d1 := cell_drew hq d1
      replace d2 := cell_drew hq d2
      replace d3 := cell_drew hq d3
      have hsame := fun n => sameAttrs_any B1 B2 _ _ (evA l[k]) (wr.drewN n) (by obtain ⟨n', rfl⟩ := hq; exact b4) (by obtain ⟨n', rfl⟩ := hq; exact d4)
      have HS := hid hsame
      clear hsame b4 d4 hq H1 H2
      obtain ⟨u1, hu1⟩ : ∃ u1, (⟨(evN l[k]).toArray⟩ : ByteArray) = u1 := ⟨_, rfl⟩
      obtain ⟨u2, hu2⟩ : ∃ u2, (⟨(evT l[k]).toArray⟩ : ByteArray) = u2 := ⟨_, rfl⟩
      unfold strV at b1 b3 d1 d3
      rw [hu1] at b1 d1
      rw [hu2] at b3 d3
      have q1 : (((evK l[k] : Nat) : Int) != ((evK l[k] : Nat) : Int)) = false := by simp
      generalize ((evK l[k] : Nat) : Int) = z at *
      clear hu1 hu2
      go_wp2_with fail
      go_quiet (first | (go_at_call 32; refine Calls.quiet_of (HS.out _)))
      go_wp2
      go_roundw
      case rel =>
        obtain ⟨n, hn⟩ := HQ.out trivial
        exact ⟨k + 1, rfl, by omega, hid (fun _ => ⟨n + nq, by rw [hn]; simp⟩)⟩
      case measure => simp [RowKit.intOf]; omega
    · go_wp2
      go_ret
      exact ⟨rfl, HQ.out trivial⟩
end Go.Proofs.YtkcgmimldjeaiaaDoor

/-
  The statements' sameTexts, longTexts: their walks.
-/
namespace Go.Proofs.YtkcgmimldjeaiaaDoor
open Go.RowKit Go.Lib Own

/-- the cells of words -/
def wordsV (ss : List (List UInt8)) : List Value := ss.map fun s => .string (bs s)
theorem wordsV_app (a b : List (List UInt8)) : wordsV (a ++ b) = wordsV a ++ wordsV b := List.map_append
theorem wordsV_len (a : List (List UInt8)) : (wordsV a).length = a.length * 1 := by simp [wordsV]
theorem wordsV_one (a : List (List UInt8)) : ∀ u ∈ wordsV a, u.oneCell' = true := by
  intro u hu
  unfold wordsV at hu
  obtain ⟨s, _, rfl⟩ := List.mem_map.1 hu
  rfl
/-- words appended to a row of words that the call owns -/
theorem wpList_append_words {w : World} {ops : Array Oper} {rest : List Oper} {o : Oper} {a : Act} {Q : Exit → Act → World → Prop} (hgd : o.guard = none) (s x : Operand)
    (ho : o.op = .call { callee := .builtin .append, args := #[s, x], argTypes := #[23, 23] }) (base : Nat) (v vx : Value) (l m : List (List UInt8)) (hs : a.eval s = v) (hx : a.eval x = vx)
    (hown : w.ownsRow base 9 1 v l.length (wordsV l)) (hw : Words w vx m) (hbase : base ≤ w.heap.size) (hsz : l.length + m.length ≤ 1000000000)
    (h : ∀ v' w', w'.ownsRow base 9 1 v' (l ++ m).length (wordsV (l ++ m)) → w.grownBy w' v.ownBlock → wpList Tryd.prog ops Q rest (a.put o.dst v') w') : wpList Tryd.prog ops Q (o :: rest) a w := by
  obtain ⟨i0, hi, hz0, hz1, hz2⟩ := info_parts info_str
  obtain ⟨p, c, rfl, hc, hm, hcell, hnone⟩ := hw
  cases p with
  | none =>
    obtain rfl : c = 0 := hnone rfl
    obtain rfl : m = [] := List.length_eq_zero_iff.1 (by omega)
    refine wpList_append_own_none hgd s x 23 ho base 9 i0 1 Tryd.underlying23 hi v l.length (wordsV l) hs hown hx ?_
    exact h v w (by rw [List.append_nil]; exact hown) ⟨rfl, rfl, rfl, Nat.le_refl _, fun _ _ _ => rfl⟩
  | some ad =>
    refine wpList_append_own w hgd s x 23 ho base 9 i0 (.string ⟨#[]⟩) 1 16 Tryd.underlying23 hi hz0 hz1 hz2 rfl (by decide) v l.length (wordsV l) hs hown ad m.length c (wordsV m) hx (wordsV_len m) ?_ (wordsV_one m) (by unfold maxLen; omega) (by omega) hbase ?_
    · intro j u hj
      unfold wordsV at hj
      rw [List.getElem?_map] at hj
      obtain ⟨t, ht, rfl⟩ := Option.map_eq_some_iff.1 hj
      obtain ⟨b, o', e, hd⟩ := hcell j t ht
      cases e
      have hadd : (⟨b, o', none⟩ : Addr).add j = ⟨b, o' + j, none⟩ := by unfold Addr.add; split <;> simp_all
      rw [hadd]
      exact hd
    · intro v' w' h2 h3 _
      exact h v' w' (by rw [List.length_append, wordsV_app]; exact h2) h3

end Go.Proofs.YtkcgmimldjeaiaaDoor

/-
  The statements' lendPolicy: what its memory holds.
-/
namespace Go.Proofs.YtkcgmimldjeaiaaDoor
open Go.RowKit Go.Lib Own

def zeroP : List Value := [.slice none 0 0, .slice none 0 0, .slice none 0 0, .int .i64 0, .int .i64 0]
def zeroL : Array Value := #[.slice none 0 0, .slice none 0 0, .slice none 0 0, .int .i64 0, .int .i64 0, .slice none 0 0, .slice none 0 0, .slice none 0 0, .slice none 0 0]
theorem row_cap {W : World} {base : Nat} {e : TypeId} {size n m c : Nat} {p : Option Addr} {xs : List Value} (h : W.ownsRow base e size (.slice p m c) n xs) : m = n ∧ n ≤ c := by
  rcases h.2 with ⟨e, rfl⟩ | ⟨g, cap, cur, e, _, _, hle, _⟩
  · cases e
    exact ⟨rfl, Nat.le_refl _⟩
  · cases e
    exact ⟨rfl, hle⟩
theorem alloc_lt (W : World) (X : Obj) : W.heap.size < (W.alloc X).heap.size := by simp
/-- a rule's cells: its name and the front of its words -/
def frontV : Value → Nat → Value
  | .slice p _ c, n => .slice p n c
  | v, _ => v
def rcells (prs : List (RuleP × Value)) : List Value := prs.flatMap fun x => [.string (bs x.1.1), x.2]
theorem rcells_app (a b : List (RuleP × Value)) : rcells (a ++ b) = rcells a ++ rcells b := List.flatMap_append
theorem rcells_len : ∀ a : List (RuleP × Value), (rcells a).length = a.length * 2
  | [] => rfl
  | x :: r => by
    have := rcells_len r
    show (_ :: _ :: rcells r).length = _
    simp only [List.length_cons, this]
    omega
theorem rcells_at : ∀ (a : List (RuleP × Value)) (k : Nat) (x : RuleP × Value), a[k]? = some x → (rcells a)[k * 2]? = some (.string (bs x.1.1)) ∧ (rcells a)[k * 2 + 1]? = some x.2
  | [], k, x, h => by simp at h
  | y :: r, 0, x, h => by
    simp only [List.getElem?_cons_zero, Option.some.injEq] at h
    subst h
    exact ⟨rfl, rfl⟩
  | y :: r, k + 1, x, h => by
    rw [List.getElem?_cons_succ] at h
    obtain ⟨h1, h2⟩ := rcells_at r k x h
    exact ⟨by rw [show (k + 1) * 2 = k * 2 + 1 + 1 by omega]; exact h1, by rw [show (k + 1) * 2 + 1 = k * 2 + 1 + 1 + 1 by omega]; exact h2⟩
theorem Just.andThen {W W1 W2 : World} {b : Nat} {cs cs2 : Array Value} {T : TypeId} (h : Just W W1 b cs T) (h2 : Just W1 W2 b cs2 T) : Just W W2 b cs2 T :=
  ⟨h2.os.trans h.os, h2.tape.trans h.tape, h2.output.trans h.output, h2.size.trans h.size, h2.at_, fun k hk => (h2.other k hk).trans (h.other k hk)⟩
theorem just_put {W : World} {b j : Nat} {cs cs2 : Array Value} {T : TypeId} (h : W.heap[b]? = some (.cells cs T (0, 0))) (v : Value) (e : cs.setIfInBounds j v = cs2) : Just W (W.setCell ⟨b, j, none⟩ v) b cs2 T := by
  subst e
  exact just_set h v
theorem nine_other (W : World) (b : Nat) (sv dv : Value) (k : Nat) (hk : k ≠ b) : (((((((((W.setCell ⟨b, 0, none⟩ (.slice none 0 0)).setCell ⟨b, 1, none⟩ (.slice none 0 0)).setCell ⟨b, 2, none⟩ (.slice none 0 0)).setCell ⟨b, 3, none⟩ (.int .i64 0)).setCell ⟨b, 4, none⟩ (.int .i64 0)).setCell ⟨b, 5, none⟩ (.slice none 0 0)).setCell ⟨b, 6, none⟩ (.slice none 0 0)).setCell ⟨b, 7, none⟩ (sv)).setCell ⟨b, 8, none⟩ (dv)).heap[k]? = W.heap[k]? := by
  rw [heap_setCell_other _ _ _ _ hk, heap_setCell_other _ _ _ _ hk, heap_setCell_other _ _ _ _ hk, heap_setCell_other _ _ _ _ hk, heap_setCell_other _ _ _ _ hk, heap_setCell_other _ _ _ _ hk, heap_setCell_other _ _ _ _ hk, heap_setCell_other _ _ _ _ hk, heap_setCell_other _ _ _ _ hk]
theorem nine_below {B : Nat} {w W : World} (h : Below B w W) {b : Nat} (hb : B ≤ b) (sv dv : Value) : Below B w (((((((((W.setCell ⟨b, 0, none⟩ (.slice none 0 0)).setCell ⟨b, 1, none⟩ (.slice none 0 0)).setCell ⟨b, 2, none⟩ (.slice none 0 0)).setCell ⟨b, 3, none⟩ (.int .i64 0)).setCell ⟨b, 4, none⟩ (.int .i64 0)).setCell ⟨b, 5, none⟩ (.slice none 0 0)).setCell ⟨b, 6, none⟩ (.slice none 0 0)).setCell ⟨b, 7, none⟩ (sv)).setCell ⟨b, 8, none⟩ (dv)) :=
  ((((((((h.setCell hb _).setCell hb _).setCell hb _).setCell hb _).setCell hb _).setCell hb _).setCell hb _).setCell hb _).setCell hb _
theorem just_low {W W' : World} {b : Nat} {cs : Array Value} {T : TypeId} (h : Just W W' b cs T) {base : Nat} (hb : base ≤ b) : Below base W W' :=
  ⟨h.os, h.tape, h.output, by rw [h.size]; exact Nat.le_refl _, fun k hk => h.other k (by omega)⟩
theorem grown_at {W W2 : World} {v : Value} (hg : W.grownBy W2 v.ownBlock) {b : Nat} {o : Obj} (h : W.heap[b]? = some o) (hne : v.ownBlock ≠ some b) : W2.heap[b]? = some o := (hg.block b (block_lt h) (fun e => hne e.symm)).trans h
theorem info_rule : (Tryd.prog.info? 73).map (fun i => (i.zero, i.size, i.bytes)) = some (some (.agg #[.string ⟨#[]⟩, .slice none 0 0]), 2, 40) := by kernel_rfl
theorem info_words : (Tryd.prog.info? 23).map (fun i => (i.zero, i.size, i.bytes)) = some (some (.slice none 0 0), 1, 24) := by kernel_rfl


/-- a list of lists of words -/
def ListsR (W : World) (v : Value) (ls : List (List (List UInt8))) : Prop :=
  ∃ p c, v = .slice p ls.length c ∧ ls.length ≤ c ∧ c ≤ 9223372036854775807 ∧ ∀ j l, ls[j]? = some l → ∃ b o u, p = some ⟨b, o, none⟩ ∧ W.cell? ⟨b, o + j, none⟩ = some u ∧ Words W u l
theorem ListsR.below {W W' : World} {v : Value} {ls : List (List (List UInt8))} (h : ListsR W v ls) (hb : Below W.heap.size W W') : ListsR W' v ls := by
  obtain ⟨p, c, rfl, h1, h2, h3⟩ := h
  refine ⟨p, c, rfl, h1, h2, fun j r hj => ?_⟩
  obtain ⟨b, o, u, rfl, hc, hw⟩ := h3 j r hj
  exact ⟨b, o, u, rfl, cell_kept hc hb, hw.below hb⟩
/-- a policy that was lent -/
def LentR (W : World) (v : Value) (P : PolP) (ms : List (List UInt8)) : Prop :=
  ∃ vr vs vd vR va vS vD, v = .agg #[vr, vs, vd, .int .i64 P.depth, .int .i64 P.window, vR, va, vS, vD] ∧ PolR W vr vs vd P ∧ RulesR W vR (P.rules ++ ms.map fun s => (s, [])) ∧ ListsR W va (P.rules.map fun q => q.2 ++ ms) ∧ Words W vS (P.schemes ++ ms) ∧ Words W vD (P.drop ++ ms)
theorem LentR.below {W W' : World} {v : Value} {P : PolP} {ms : List (List UInt8)} (h : LentR W v P ms) (hb : Below W.heap.size W W') : LentR W' v P ms := by
  obtain ⟨vr, vs, vd, vR, va, vS, vD, e, h1, h2, h3, h4, h5⟩ := h
  exact ⟨vr, vs, vd, vR, va, vS, vD, e, h1.below hb, h2.below hb, h3.below hb, h4.below hb, h5.below hb⟩
theorem RulesR.front {W : World} {p : Option Addr} {n c : Nat} {a b : List RuleP} (h : RulesR W (.slice p n c) (a ++ b)) : RulesR W (.slice p a.length c) a := by
  obtain ⟨p', c', e, h1, h2, h3⟩ := h
  cases e
  rw [List.length_append] at h1
  refine ⟨p, c, rfl, by omega, h2, fun j r hj => h3 j r ?_⟩
  rw [List.getElem?_append_left (List.getElem?_eq_some_iff.1 hj).1]
  exact hj
theorem row_bound {W : World} {base : Nat} {e : TypeId} {size n m c : Nat} {p : Option Addr} {xs : List Value} (h : W.ownsRow base e size (.slice p m c) n xs) : c ≤ 9223372036854775807 := by
  rcases h.2 with ⟨e, _⟩ | ⟨g, cap, cur, e, _, _, _, hle, _⟩
  · cases e
    omega
  · cases e
    unfold maxLen at hle
    omega
/-- the lists alone -/
structure LndR (w W : World) (rv av sv dv : Value) (R : List RuleP) (S D ms : List (List UInt8)) (prs : List (RuleP × Value)) (us : List Value) : Prop where
  s : W.ownsRow w.heap.size 9 1 sv S.length (wordsV S)
  d : W.ownsRow w.heap.size 9 1 dv D.length (wordsV D)
  a : W.ownsRow w.heap.size 23 1 av us.length us
  r : W.ownsRow w.heap.size 73 2 rv prs.length (rcells prs)
  u : ∀ (k : Nat) (v : Value) (q : RuleP), us[k]? = some v → R[k]? = some q → W.ownsRow w.heap.size 9 1 v (q.2 ++ ms).length (wordsV (q.2 ++ ms))
  rw : ∀ (k : Nat) (x : RuleP × Value), prs[k]? = some x → (x.1.2 = [] ∧ x.2 = .slice none 0 0) ∨ ∃ v, us[k]? = some v ∧ R[k]? = some x.1 ∧ x.2 = frontV v x.1.2.length
theorem LndR.lent {w W : World} {rp sp dp ap : Option Addr} {rn rc sn sc dn dc an ac : Nat} {P : PolP} {ms : List (List UInt8)} {prs : List (RuleP × Value)} {us : List Value}
    (h : LndR w W (.slice rp rn rc) (.slice ap an ac) (.slice sp sn sc) (.slice dp dn dc) P.rules (P.schemes ++ ms) (P.drop ++ ms) ms prs us)
    (hp : prs.map Prod.fst = P.rules ++ ms.map fun s => (s, [])) (hu : us.length = P.rules.length) :
    LentR W (.agg #[.slice rp P.rules.length rc, .slice sp P.schemes.length sc, .slice dp P.drop.length dc, .int .i64 P.depth, .int .i64 P.window, .slice rp rn rc, .slice ap an ac, .slice sp sn sc, .slice dp dn dc]) P ms := by
  have hpl : prs.length = (P.rules ++ ms.map fun s => (s, [])).length := by rw [← hp, List.length_map]
  have hS : Words W (.slice sp sn sc) (P.schemes ++ ms) := Words.row h.s
  have hD : Words W (.slice dp dn dc) (P.drop ++ ms) := Words.row h.d
  have hRR : RulesR W (.slice rp rn rc) (P.rules ++ ms.map fun s => (s, [])) := by
    obtain ⟨e1, e2⟩ := row_cap h.r
    subst e1
    refine ⟨rp, rc, by rw [← hpl], by rw [← hpl]; exact e2, row_bound h.r, fun j q hj => ?_⟩
    rw [← hp, List.getElem?_map] at hj
    obtain ⟨x, hx, rfl⟩ := Option.map_eq_some_iff.1 hj
    have hlt := (List.getElem?_eq_some_iff.1 hx).1
    obtain ⟨g, cap, e3, _, _, hcell⟩ := row_at h.r (by omega)
    cases e3
    obtain ⟨a1, a2⟩ := rcells_at prs j x hx
    refine ⟨g, 0, x.2, rfl, by rw [Nat.zero_add, hcell _ (by omega), a1], by rw [Nat.zero_add, hcell _ (by omega), a2], ?_⟩
    rcases h.rw j x hx with ⟨h1, h2⟩ | ⟨v, h1, h2, h3⟩
    · rw [h1, h2]
      exact Words.nil W
    · have hw := Words.row (h.u j v x.1 h1 h2)
      obtain ⟨p, c, rfl, _⟩ := hw.len
      have := hw.front x.1.2.length (by rw [List.length_append]; omega)
      rw [List.take_left] at this
      rw [h3]
      exact this
  have hA : ListsR W (.slice ap an ac) (P.rules.map fun q => q.2 ++ ms) := by
    obtain ⟨e1, e2⟩ := row_cap h.a
    subst e1
    refine ⟨ap, ac, by rw [List.length_map, hu], by rw [List.length_map, ← hu]; exact e2, row_bound h.a, fun j l hj => ?_⟩
    rw [List.getElem?_map] at hj
    obtain ⟨q, hq, rfl⟩ := Option.map_eq_some_iff.1 hj
    have hlt := (List.getElem?_eq_some_iff.1 hq).1
    obtain ⟨g, cap, e3, _, _, hcell⟩ := row_at h.a (by omega)
    cases e3
    obtain ⟨v, hv⟩ : ∃ v, us[j]? = some v := ⟨_, List.getElem?_eq_getElem (by omega)⟩
    exact ⟨g, 0, v, rfl, by rw [Nat.zero_add, hcell _ (by omega), hv], Words.row (h.u j v q hv hq)⟩
  refine ⟨_, _, _, _, _, _, _, rfl, ⟨hRR.front, ?_, ?_⟩, hRR, hA, hS, hD⟩
  · have := hS.front P.schemes.length (by rw [List.length_append]; omega)
    rwa [List.take_left] at this
  · have := hD.front P.drop.length (by rw [List.length_append]; omega)
    rwa [List.take_left] at this
end Go.Proofs.YtkcgmimldjeaiaaDoor

/-
  The statements' samePolicy: its walk, at policies that are the same.
-/
namespace Go.Proofs.YtkcgmimldjeaiaaDoor
open Go.RowKit Go.Lib Own

theorem cell_drewT {W0 wr : World} (hq : Hid (True → ∃ n, wr = W0.drewN n)) {b o : Nat} {v : Value} (h : W0.cell? ⟨b, o, none⟩ = some v) : wr.cell? ⟨b, o, none⟩ = some v := by
  obtain ⟨n, rfl⟩ := hq.out trivial
  exact h

theorem heap_two_new (W : World) (X : Obj) (cs : Array Value) (t : TypeId) : ((W.alloc X).alloc (.cells cs t)).heap[W.heap.size + 1]? = some (.cells cs t (0, 0)) := by
  have := heap_alloc_new (W.alloc X) (.cells cs t)
  simpa using this

end Go.Proofs.YtkcgmimldjeaiaaDoor

/-
  The statements' lendPolicy: its walk.
-/
namespace Go.Proofs.YtkcgmimldjeaiaaDoor
open Go.RowKit Go.Lib Own

end Go.Proofs.YtkcgmimldjeaiaaDoor

/-
  The statements' keptPolicy: its walk, at a policy that is as it was lent.
-/
namespace Go.Proofs.YtkcgmimldjeaiaaDoor
open Go.RowKit Go.Lib Own

theorem RulesR.shape {W : World} {v : Value} {rs : List RuleP} (h : RulesR W v rs) : ∃ p n c, v = .slice p n c := by
  obtain ⟨p, c, e, _⟩ := h
  exact ⟨p, _, c, e⟩
theorem Words.shape {W : World} {v : Value} {ss : List (List UInt8)} (h : Words W v ss) : ∃ p n c, v = .slice p n c := by
  obtain ⟨p, c, e, _⟩ := h
  exact ⟨p, _, c, e⟩

end Go.Proofs.YtkcgmimldjeaiaaDoor

/-
  Appending to a row that a call owns: where it grows into a new block, the old blocks stay as they were.
-/
namespace Go.Proofs.YtkcgmimldjeaiaaDoor
open Go.RowKit Go.Lib

theorem ok_inj {P : Program} {m : Sem Value} {w : World} {v v' : Value} {w1 w2 : World} (h : m.run P w = .ok v w1) (h' : m.run P w = .ok v' w2) : v = v' ∧ w1 = w2 := by
  rw [h] at h'
  cases h'
  exact ⟨rfl, rfl⟩
theorem run_append_two {P : Program} (w : World) (t ty : TypeId) (base : Nat) (e : TypeId) (i : TypeInfo) (z : Value) (size bytes : Nat) (ht : P.underlying t = some (.slice e)) (hi : P.info? e = some i) (hz : i.zero = some z)
    (hsize : i.size = size) (hby : i.bytes = bytes) (hzs : z.cells.size = size) (hsz : 0 < size)
    (v : Value) (n : Nat) (xs : List Value) (hown : w.ownsRow base e size v n xs)
    (ad : Addr) (m c : Nat) (news : List Value) (hl : news.length = m * size) (hnews : ∀ j u, news[j]? = some u → w.cell? (ad.add j) = some u) (h1 : ∀ u ∈ news, u.oneCell' = true)
    (hm : 0 < m) (h63 : n + m ≤ maxLen) (hbytes : (n + m) * bytes ≤ 140737488355328) (hbase : base ≤ w.heap.size) :
    ∃ g cap w', (Builtin.append_ #[t, t] ty #[v, .slice (some ad) m c]).run P w = .ok (.slice (some ⟨g, 0, none⟩) (n + m) cap) w' ∧ w'.ownsRow base e size (.slice (some ⟨g, 0, none⟩) (n + m) cap) (n + m) (xs ++ news) ∧ w.grownBy w' v.ownBlock ∧
      (v.ownBlock = some g ∨ g = w.heap.size ∧ ∀ k, k < w.heap.size → w'.heap[k]? = w.heap[k]?) := by
  obtain ⟨v', w', hr, h2, h3, _, _⟩ := run_append_own_at (P := P) w base t ty e i z size bytes ht hi hz hsize hby hzs hsz v n xs hown ad m c news hl hnews h1 h63 hbytes hbase
  have hsmall : n + m ≤ 9223372036854775807 := by simp only [maxLen] at h63; omega
  have hold : ∀ (o : Obj) (k : Nat), k < w.heap.size → (w.drew.alloc o).heap[k]? = w.heap[k]? := fun o k hk => Go.Lib.alloc_old w.drew o k hk
  subst hsize hby
  rcases hown.2 with ⟨rfl, rfl⟩ | ⟨g, cap, cur, rfl, hbg, hg, hnc, hcm, hcs, htake⟩
  · have hr2 := run_append_nil (P := P) w t ty e i z ht hi hz ad m c news hl hnews (by omega) (by omega) (by have hb := hbytes; simp only [Nat.zero_add] at hb; omega)
    obtain ⟨rfl, rfl⟩ := ok_inj hr hr2
    rw [Nat.zero_add] at h2 ⊢
    exact ⟨_, _, _, hr2, h2, h3, .inr ⟨rfl, hold _⟩⟩
  · by_cases hroom : n + m ≤ cap
    · obtain ⟨w2, hr2, _⟩ := run_append_fits (P := P) w base t ty e i i.size ht hi rfl g n cap xs hown ad m c news hl hnews h1 hroom
      obtain ⟨rfl, rfl⟩ := ok_inj hr hr2
      exact ⟨_, _, _, hr2, h2, h3, .inl rfl⟩
    · have holds : ∀ j u, xs[j]? = some u → w.cell? ((⟨g, 0, none⟩ : Addr).add j) = some u := hown.cells (g := g) rfl
      have hr2 := run_append_grow (P := P) w t ty e i z ht hi hz ⟨g, 0, none⟩ n cap xs hown.1 holds ad m c news hl hnews (by omega) (by omega) (growslice_fits (by omega) hbytes)
      obtain ⟨rfl, rfl⟩ := ok_inj hr hr2
      exact ⟨_, _, _, hr2, h2, h3, .inr ⟨rfl, hold _⟩⟩
theorem wpList_append_two {P : Program} (w : World) {ops : Array Oper} {rest : List Oper} {o : Oper} {a : Act} {Q : Exit → Act → World → Prop} (hgd : o.guard = none) (s x : Operand) (t : TypeId)
    (ho : o.op = .call { callee := .builtin .append, args := #[s, x], argTypes := #[t, t] })
    (base : Nat) (e : TypeId) (i : TypeInfo) (z : Value) (size bytes : Nat) (ht : P.underlying t = some (.slice e)) (hi : P.info? e = some i) (hz : i.zero = some z)
    (hsize : i.size = size) (hby : i.bytes = bytes) (hzs : z.cells.size = size) (hsz : 0 < size)
    (v : Value) (n : Nat) (xs : List Value) (hs : a.eval s = v) (hown : w.ownsRow base e size v n xs)
    (ad : Addr) (m c : Nat) (news : List Value) (hx : a.eval x = .slice (some ad) m c) (hl : news.length = m * size) (hnews : ∀ j u, news[j]? = some u → w.cell? (ad.add j) = some u) (h1 : ∀ u ∈ news, u.oneCell' = true)
    (hm : 0 < m) (h63 : n + m ≤ maxLen) (hbytes : (n + m) * bytes ≤ 140737488355328) (hbase : base ≤ w.heap.size)
    (h : ∀ g cap w', w'.ownsRow base e size (.slice (some ⟨g, 0, none⟩) (n + m) cap) (n + m) (xs ++ news) → w.grownBy w' v.ownBlock → (v.ownBlock = some g ∨ g = w.heap.size ∧ ∀ k, k < w.heap.size → w'.heap[k]? = w.heap[k]?) → wpList P ops Q rest (a.put o.dst (.slice (some ⟨g, 0, none⟩) (n + m) cap)) w') :
    wpList P ops Q (o :: rest) a w := by
  refine wpList_plain hgd fun K hK => ?_
  obtain ⟨g, cap, w', hr, h2, h3, h4⟩ := run_append_two (P := P) w t o.type base e i z size bytes ht hi hz hsize hby hzs hsz v n xs hown ad m c news hl hnews h1 hm h63 hbytes hbase
  unfold Oper.wp execOp
  simp only [ho, resolve, invoke, builtin, Sem.run_bind, Sem.run_pure, Result.andThen_ok, List.map_toArray, List.map_cons, List.map_nil, hs, hx, hr]
  exact hK _ _ (h g cap w' h2 h3 h4)
end Go.Proofs.YtkcgmimldjeaiaaDoor

/-
  The reader's skipTag, beginSkip: their walks.
-/
namespace Go.Proofs.YtkcgmimldjeaiaaDoor
open Go.RowKit Go.Lib Own

end Go.Proofs.YtkcgmimldjeaiaaDoor

/-
  A step of the reader, in the plain lexer's words; skipBogus, skipComment: their walks.
-/
namespace Go.Proofs.YtkcgmimldjeaiaaDoor
open Go.RowKit Go.Lib Own

theorem StreamAt.below {W W' : World} {base b o : Nat} {cs : Array Value} {T : TypeId} {evs : List Ev} {pend : List UInt8} (h : StreamAt W base b o cs T evs pend) (hb : Below W.heap.size W W') : StreamAt W' base b o cs T evs pend := by
  obtain ⟨ev, p, v, xs, hev, hin, hrow, hevs, hap⟩ := h.it
  have hg : W.grownBy W' none := ⟨hb.os, hb.tape, hb.output, hb.size, fun k hk _ => hb.block k hk⟩
  exact ⟨ev, p, v, xs, hev, ⟨(hb.block b (Array.getElem?_eq_some_iff.1 hin.at_).1).trans hin.at_, hin.lo, hin.cp, hin.cv, hin.hp, hin.own.kept hg (by cases hv : v.ownBlock <;> simp), hin.ne⟩, hrow.kept hg (Classical.em _), evs_mono (fun a n ys hr => hr.kept hg (Classical.em _)) xs evs hevs, hap⟩
theorem below_low {A B : Nat} {w w' : World} (h : Below B w w') (hAB : A ≤ B) : Below A w w' := Below.mono h hAB

end Go.Proofs.YtkcgmimldjeaiaaDoor

/-
  The statements' appended and allNamed: their walks.
-/
namespace Go.Proofs.YtkcgmimldjeaiaaDoor
open Go.RowKit Go.Lib Own

/-- attributes of one name -/
def namedV (nm : ByteArray) (ws : List ByteArray) : List Value := ws.flatMap fun x => [.string nm, .string x]
theorem namedV_len (nm : ByteArray) : ∀ ws : List ByteArray, (namedV nm ws).length = ws.length * 2
  | [] => rfl
  | x :: ws => by
    have := namedV_len nm ws
    unfold namedV at this ⊢
    simp only [List.flatMap_cons, List.length_append, List.length_cons, List.length_nil, this]
    omega
theorem namedV_app (nm : ByteArray) (a b : List ByteArray) : namedV nm (a ++ b) = namedV nm a ++ namedV nm b := by
  unfold namedV
  rw [List.flatMap_append]
theorem namedV_at (nm : ByteArray) : ∀ (ws : List ByteArray) (j : Nat), j < ws.length → (namedV nm ws)[j * 2]? = some (.string nm)
  | [], j, h => by simp at h
  | x :: ws, 0, _ => rfl
  | x :: ws, j + 1, h => by
    have := namedV_at nm ws j (by simpa using h)
    rw [show (j + 1) * 2 = j * 2 + 1 + 1 by omega]
    exact this
/-- a list of attributes that can be read, all of one name -/
def NamedR (W : World) (v : Value) (n : Nat) (nm : ByteArray) : Prop := n ≤ 9223372036854775807 ∧ ∃ p c, v = .slice p n c ∧ ∀ j, j < n → ∃ g, p = some ⟨g, 0, none⟩ ∧ W.cell? ⟨g, j * 2, none⟩ = some (.string nm) ∧ ∃ cs, W.heap[g]? = some (.cells cs 101 (0, 0))
theorem NamedR.of {W : World} {base n : Nat} {v : Value} {nm : ByteArray} {ws : List ByteArray} (h : W.ownsRow base 101 2 v n (namedV nm ws)) : NamedR W v n nm := by
  have hl : ws.length = n := by have := h.1; rw [namedV_len] at this; omega
  refine ⟨row_max h, ?_⟩
  obtain ⟨p, c, rfl⟩ := row_shape h
  refine ⟨p, c, rfl, fun j hj => ?_⟩
  obtain ⟨g, cap, e, _, _, hc⟩ := row_at h (by omega)
  cases e
  refine ⟨g, rfl, (hc _ (by omega)).trans (namedV_at nm ws j (by omega)), ?_⟩
  rcases h.2 with ⟨e2, _⟩ | ⟨g2, cap2, cur, e2, _, hh, _⟩
  · cases e2
  · cases e2
    exact ⟨cur, hh⟩
theorem NamedR.kept {W W' : World} {n : Nat} {v : Value} {nm : ByteArray} (h : NamedR W v n nm) (hk : 0 < n → ∀ k, v.ownBlock = some k → W'.heap[k]? = W.heap[k]?) : NamedR W' v n nm := by
  obtain ⟨h0, p, c, rfl, h1⟩ := h
  refine ⟨h0, p, c, rfl, fun j hj => ?_⟩
  obtain ⟨g, rfl, h2, cs, h3⟩ := h1 j hj
  have := hk (by omega) g rfl
  refine ⟨g, rfl, ?_, cs, by rw [this]; exact h3⟩
  unfold World.cell? at h2 ⊢
  rw [this]
  exact h2
theorem NamedR.own {W : World} {n : Nat} {v : Value} {nm : ByteArray} (h : NamedR W v n nm) (hn : 0 < n) : ∃ g, v.ownBlock = some g ∧ g < W.heap.size := by
  obtain ⟨h0, p, c, rfl, h1⟩ := h
  obtain ⟨g, rfl, h2, _⟩ := h1 0 hn
  exact ⟨g, rfl, cell_block h2⟩

set_option maxHeartbeats 2000000 in
set_option maxRecDepth 10000 in
theorem allNamed_any (v : Value) (n : Nat) (nm : ByteArray) (w : World) (h : NamedR w v n nm) :
    Calls Tryd.prog 60 #[v, .string nm] w fun e w' => e = .returned (.bool true) ∧ w' = w := by
  obtain ⟨h0, p, c, rfl, h1⟩ := h
  have H1 := hid h1
  clear h1
  go_enter Tryd.func60, Tryd.ntmps60
  go_wp2
  go_loopw [8] (fun iv wr => ∃ k : Nat, iv = .int .i64 k ∧ k ≤ n ∧ wr = w) (fun iv _ => n - (RowKit.intOf iv).toNat)
  case atStart => exact ⟨0, rfl, Nat.zero_le _, rfl⟩
  case round =>
    obtain ⟨k, rfl, hk, rfl⟩ := hrel
    by_cases hkl : k < n
    · obtain ⟨g, rfl, hc, _⟩ := H1.out k hkl
      clear H1
      go_wp2
      go_roundw
      case rel => exact ⟨k + 1, rfl, by omega, by first | rfl | trivial⟩
      case measure => simp [RowKit.intOf]; omega
    · go_wp2
      go_ret
      exact ⟨rfl, by first | rfl | trivial⟩

/-- a list of words that came in -/
structure WordsAt (W : World) (base : Nat) (a : Option Addr) (ss : List ByteArray) : Prop where
  at_ : ∀ j, j < ss.length → ∃ b o, a = some ⟨b, o, none⟩ ∧ b < base ∧ W.cell? ⟨b, o + j, none⟩ = some (.string (ss.getD j ByteArray.empty))
theorem WordsAt.below {W W' : World} {base : Nat} {a : Option Addr} {ss : List ByteArray} (h : WordsAt W base a ss) (hb : Below base W W') : WordsAt W' base a ss :=
  ⟨fun j hj => by
    obtain ⟨b, o, h1, h2, h3⟩ := h.at_ j hj
    exact ⟨b, o, h1, h2, cell_low h3 hb h2⟩⟩
theorem WordsAt.up {W : World} {base base2 : Nat} {a : Option Addr} {ss : List ByteArray} (h : WordsAt W base a ss) (hb : base ≤ base2) : WordsAt W base2 a ss :=
  ⟨fun j hj => by
    obtain ⟨b, o, h1, h2, h3⟩ := h.at_ j hj
    exact ⟨b, o, h1, by omega, h3⟩⟩

/-- a list that grows out of another one -/
structure Grows (w wr : World) (base : Nat) (v : Value) (n : Nat) (nm : ByteArray) (cv : Value) (K : Nat) (ws : List ByteArray) : Prop where
  own : wr.ownsRow base 101 2 cv K (namedV nm ws)
  le : n ≤ K
  low : base ≤ w.heap.size
  size : w.heap.size ≤ wr.heap.size
  fr : ∀ k, k < w.heap.size → v.ownBlock ≠ some k → wr.heap[k]? = w.heap[k]?
  bl : cv.ownBlock = v.ownBlock ∨ ∀ g, cv.ownBlock = some g → w.heap.size ≤ g
  be : Below base w wr
  nr : NamedR wr v n nm
theorem Grows.next {w wr w2 : World} {base : Nat} {v cv : Value} {n K g cap : Nat} {nm x : ByteArray} {ws : List ByteArray} {X : Obj} (h : Grows w wr base v n nm cv K ws)
    (h2 : w2.ownsRow base 101 2 (.slice (some ⟨g, 0, none⟩) (K + 1) cap) (K + 1) (namedV nm ws ++ [.string nm, .string x])) (h3 : (wr.alloc X).grownBy w2 cv.ownBlock)
    (h4 : cv.ownBlock = some g ∨ g = wr.heap.size + 1 ∧ ∀ k, k < wr.heap.size + 1 → w2.heap[k]? = (wr.alloc X).heap[k]?) : Grows w w2 base v n nm (.slice (some ⟨g, 0, none⟩) (K + 1) cap) (K + 1) (ws ++ [x]) := by
  have hown2 : w2.ownsRow base 101 2 (.slice (some ⟨g, 0, none⟩) (K + 1) cap) (K + 1) (namedV nm (ws ++ [x])) := by rw [namedV_app]; exact h2
  have hsz1 : (wr.alloc X).heap.size = wr.heap.size + 1 := by simp
  have hold : ∀ k, k < wr.heap.size → (wr.alloc X).heap[k]? = wr.heap[k]? := fun k hk => Go.Lib.alloc_old wr X k hk
  have hbs := h.size
  have hb3 : Below base wr w2 := ((Below.refl base wr).alloc (Nat.le_trans h.low hbs) X).grown h3 (by rw [hsz1]; have := h.low; omega) (fun k hk => (h.own.lt k hk).1)
  refine ⟨hown2, by have := h.le; omega, h.low, Nat.le_trans hbs hb3.size, fun k hk hv => ?_, ?_, h.be.trans hb3, ?_⟩
  · have hcv : cv.ownBlock ≠ some k := by
      rcases h.bl with e | e
      · rw [e]; exact hv
      · intro e2
        have := e k e2
        omega
    rw [h3.block k (by omega) (fun e => hcv e.symm), hold k (by omega)]
    exact h.fr k hk hv
  · rcases h4 with e | ⟨e, _⟩
    · rcases h.bl with e2 | e2
      · left
        show some g = _
        rw [← e2, e]
      · right
        intro g' hg'
        exact e2 g' (by rw [e]; exact hg')
    · right
      intro g' hg'
      have : g = g' := Option.some.inj hg'
      omega
  · -- what stood there can be read still
    by_cases hn : n = 0
    · obtain ⟨h0, p, c, rfl, h1⟩ := h.nr
      exact ⟨h0, p, c, rfl, fun j hj => by omega⟩
    · obtain ⟨g0, hg0, hlt⟩ := h.nr.own (by omega)
      by_cases hc : cv.ownBlock = some g0
      · rcases h4 with e | ⟨e, hk⟩
        · have hgg : g = g0 := by rw [hc] at e; exact (Option.some.inj e).symm
          subst hgg
          obtain ⟨h0, p, c, rfl, h1⟩ := h.nr
          obtain ⟨_, p2, c2, e2, h5⟩ := NamedR.of hown2
          cases e2
          refine ⟨h0, p, c, rfl, fun j hj => ?_⟩
          obtain ⟨g1, rfl, _⟩ := h1 j hj
          obtain ⟨g2, e3, h6, cs, h7⟩ := h5 j (by have := h.le; omega)
          have e4 : g2 = g := by cases e3; rfl
          have e5 : g1 = g := Option.some.inj hg0
          exact ⟨g1, rfl, by rw [e5]; rw [e4] at h6; exact h6, cs, by rw [e5]; rw [e4] at h7; exact h7⟩
        · exact h.nr.kept (fun _ k hk2 => by
            have : k = g0 := by rw [hg0] at hk2; exact (Option.some.inj hk2).symm
            subst this
            rw [hk k (by omega), hold k hlt])
      · exact h.nr.kept (fun _ k hk2 => by
          have : k = g0 := by rw [hg0] at hk2; exact (Option.some.inj hk2).symm
          subst this
          rw [h3.block k (by omega) (fun e => hc e.symm), hold k hlt])
theorem Grows.start {w : World} {base : Nat} {v : Value} {n : Nat} {nm : ByteArray} {ws : List ByteArray} (h : w.ownsRow base 101 2 v n (namedV nm ws)) (hb : base ≤ w.heap.size) : Grows w w base v n nm v n ws :=
  ⟨h, Nat.le_refl _, hb, Nat.le_refl _, fun _ _ _ => rfl, .inl rfl, Below.refl _ _, NamedR.of h⟩

set_option maxHeartbeats 4000000 in
set_option maxRecDepth 100000 in
theorem appended_any (base : Nat) (v : Value) (n : Nat) (nm : ByteArray) (ws : List ByteArray) (a : Option Addr) (mc : Nat) (ss : List ByteArray) (w : World) (h : w.ownsRow base 101 2 v n (namedV nm ws)) (hb : base ≤ w.heap.size) (hn : n ≤ 100000000) (hs : ss.length ≤ 100000000) (hw : WordsAt w base a ss) :
    Calls Tryd.prog 59 #[v, .string nm, .slice a ss.length mc] w fun e w' => ∃ u ws2, e = .returned u ∧ Grows w w' base v n nm u (n + 1 + ss.length) ws2 := by
  obtain ⟨i0, hii, hz0, hz1, hz2⟩ := info_parts info_attr
  obtain ⟨p, c, rfl⟩ := row_shape h
  have HG0 := hid (Grows.start h hb)
  have HW := hid hw
  clear hw
  go_enter Tryd.func59, Tryd.ntmps59
  go_wp2_with (at_builtin; refine wpList_append_two _ rfl (.tmp 8) (.tmp 11) 37 rfl base 101 i0 (.agg #[.string ⟨#[]⟩, .string ⟨#[]⟩]) 2 32 Tryd.underlying37 hii hz0 hz1 hz2 rfl (by decide) _ _ _ rfl (h.alloc _) ⟨_, 0, none⟩ 1 1 [.string nm, .string ⟨#[]⟩] rfl rfl (cells_newV _ _ _) (by simp [Value.oneCell']) (by decide) (by unfold maxLen; omega) (by omega) (by simp; omega) ?_)
  intro g cap w2 hown2 hgrow htwo
  have HG1 := hid (HG0.out.next hown2 hgrow htwo)
  clear hown2 hgrow htwo HG0 h
  go_wp2
  go_loopw [0, 15] (fun cv iv wr => ∃ (k : Nat) (ws2 : List ByteArray), iv = .int .i64 k ∧ k ≤ ss.length ∧ Grows w wr base (.slice p n c) n nm cv (n + 1 + k) ws2) (fun _ iv _ => ss.length - (RowKit.intOf iv).toNat)
  case atStart => exact ⟨0, _, rfl, Nat.zero_le _, HG1.out⟩
  case round =>
    obtain ⟨k, ws2, rfl, hk, hG⟩ := hrel
    by_cases hkl : k < ss.length
    · obtain ⟨b, o, rfl, hb2, hc⟩ := HW.out.at_ k hkl
      have hc2 := cell_low hc hG.be hb2
      obtain ⟨x, hx⟩ : ∃ x, ss.getD k ByteArray.empty = x := ⟨_, rfl⟩
      rw [hx] at hc2
      clear hc hx
      have hsz := hG.size
      have HG2 := hid hG
      obtain ⟨cp, cc, rfl⟩ := row_shape hG.own
      go_wp2_with (at_builtin; refine wpList_append_two _ rfl (.tmp 18) (.tmp 25) 37 rfl base 101 i0 (.agg #[.string ⟨#[]⟩, .string ⟨#[]⟩]) 2 32 Tryd.underlying37 hii hz0 hz1 hz2 rfl (by decide) _ _ _ rfl (HG2.out.own.alloc _) ⟨_, 0, none⟩ 1 1 [.string nm, .string x] rfl rfl (cells_newV _ _ _) (by simp [Value.oneCell']) (by decide) (by unfold maxLen; omega) (by omega) (by simp; omega) ?_)
      intro g3 cap3 w3 hown3 hgrow3 htwo3
      have HG3 := hid (HG2.out.next hown3 hgrow3 htwo3)
      clear hown3 hgrow3 htwo3 HG2 hG
      go_wp2
      go_roundw
      case rel => first | exact ⟨k + 1, _, rfl, by omega, HG3.out⟩ | ((repeat apply Exists.intro); exact ⟨⟨k + 1, _, rfl, by omega, HG3.out⟩, rfl⟩)
      case measure => simp [RowKit.intOf]; omega
    · obtain rfl : k = ss.length := by omega
      go_wp2
      go_ret
      exact ⟨_, ws2, rfl, hG⟩
end Go.Proofs.YtkcgmimldjeaiaaDoor

/-
  Package written: a start tag: its walk.
-/
namespace Go.Proofs.YtkcgmimldjeaiaaDoor
open Go.RowKit Go.Lib Own

def attrL (a : AttrP) : List UInt8 := [32] ++ a.1 ++ [61, 34] ++ escL true a.2 ++ [34]
def openL (n : List UInt8) (al : List AttrP) : List UInt8 := [60] ++ n ++ al.flatMap attrL ++ [62]
theorem attrs_len : ∀ al : List AttrP, (al.flatMap attrL).length ≤ 6 * bulkA al
  | [] => by simp
  | a :: r => by
    have := attrs_len r
    have h2 := esc_len true _ a.2 (Nat.le_refl _)
    rw [List.flatMap_cons, List.length_append, bulkA_cons]
    have h3 : (attrL a).length = 4 + a.1.length + (escL true a.2).length := by
      unfold attrL
      simp only [List.length_append, List.length_cons, List.length_nil]
      omega
    omega
theorem attr_str (a : AttrP) (b : ByteArray) : (⟨#[32]⟩ : ByteArray) ++ b ++ ⟨#[61, 34]⟩ ++ bs (escL true a.2) ++ ⟨#[34]⟩ = bs ([32] ++ b.data.toList ++ [61, 34] ++ escL true a.2 ++ [34]) := by
  rw [show (⟨#[32]⟩ : ByteArray) = bs [32] from rfl, show (⟨#[61, 34]⟩ : ByteArray) = bs [61, 34] from rfl, show (⟨#[34]⟩ : ByteArray) = bs [34] from rfl, cat_bs, bs_cat, bs_cat, bs_cat]
theorem value_eq (s : List UInt8) : replaceAll (escL false s) [34] quotE = escL true s := by
  rw [← valueE_eq]
  unfold valueE
  rw [textE_eq _ s (Nat.le_refl _)]

set_option maxHeartbeats 4000000 in
set_option maxRecDepth 100000 in
theorem startTag_any (n : ByteArray) (u : Value) (al : List AttrP) (m : Int) (w : World) (hn : n.size ≤ 100000000) (h : AttrsR w u al) (hb : bulkA al ≤ 100000000) (hm : w.cell? ⟨10, 0, none⟩ = some (.int .i64 m)) :
    Calls Tryd.prog 110 #[.string n, u] w fun e w' => e = .returned (.string (bs (openL n.data.toList al))) ∧ Below w.heap.size w w' := by
  obtain ⟨p, c, rfl, hl, hcm, hcell, _⟩ := h
  have hnz := size_eq n
  have hlen := attrs_len al
  have hal := bulkA_len al
  obtain ⟨R, hR⟩ : ∃ R, [60] ++ n.data.toList ++ al.flatMap attrL = R := ⟨_, rfl⟩
  have hRl : R.length ≤ 700000001 := by rw [← hR]; simp only [List.length_append, List.length_cons, List.length_nil]; omega
  have ho : openL n.data.toList al = R ++ [62] := by unfold openL; rw [hR]
  rw [ho]
  have HR := hid (fun (_ : True) => hR)
  have HC := hid hcell
  have HM := hid hm
  have HB := hid hb
  have hstr : (⟨#[60]⟩ : ByteArray) ++ n = bs ([60] ++ n.data.toList) := cat_bs [60] n
  have HS := hid (fun (_ : True) => hstr)
  have HRL := hid hRl
  clear hcell hR ho hm hb hlen hstr hnz hal hRl
  go_enter Tryd.func110, Tryd.ntmps110
  go_wp2_with fail
  rw [HS.out trivial]
  refine (Tryd.Builder_WriteString_k w.heap.size w.heap.size (Lib.byteCells []) (bs ([60] ++ n.data.toList)) _ (builder_new w _ _) (by rw [bs_size]; simp only [List.length_append, List.length_cons, List.length_nil, Lib.byteCells_length]; rw [← size_eq]; omega) (by simp)).mono ?_
  rintro e W1 ⟨rfl, g1, g2, g3⟩
  have H1 : Hid (Lib.IsBuilderF 59 5 w.heap.size w.heap.size (Lib.byteCells ([60] ++ n.data.toList)) W1 ∧ Below w.heap.size w W1 ∧ w.heap.size < W1.heap.size) :=
    ⟨by rw [← List.nil_append ([60] ++ n.data.toList), Lib.byteCells_append, ← bs_data ([60] ++ n.data.toList), ← strCells_byte]; exact Or.inr g1, Below.trans (b := w.alloc (.cells #[.pointer none, .slice none 0 0] 59)) ((Below.refl _ w).alloc (Nat.le_refl _) _) g2, by have := g2.size; simp at this; omega⟩
  clear g1 g2 g3 HS
  go_wp2_with fail
  go_loopw [14] (fun iv wr => ∃ (k : Nat) (acc : List UInt8), iv = .int .i64 k ∧ k ≤ al.length ∧ Hid (Lib.IsBuilderF 59 5 w.heap.size w.heap.size (Lib.byteCells acc) wr ∧ Below w.heap.size w wr ∧ w.heap.size < wr.heap.size) ∧ Hid (True → acc ++ (al.drop k).flatMap attrL = R)) (fun iv _ => al.length - (RowKit.intOf iv).toNat)
  case atStart => exact ⟨0, [60] ++ n.data.toList, rfl, Nat.zero_le _, H1, HR⟩
  case round =>
    obtain ⟨k, acc, rfl, hk, HX, HK⟩ := hrel
    by_cases hkl : k < al.length
    · obtain ⟨a, ha⟩ : ∃ a, al[k]? = some a := ⟨_, List.getElem?_eq_getElem hkl⟩
      obtain ⟨b, o, rfl, hc1, hc2⟩ := HC.out k a ha
      replace hc1 := cell_low hc1 HX.out.2.1 (cell_block hc1)
      replace hc2 := cell_low hc2 HX.out.2.1 (cell_block hc2)
      have hab := bulkA_get ha
      have hd := HK.out trivial
      rw [drop_at ha, List.flatMap_cons] at hd
      have hdl := congrArg List.length hd
      have hRl := HRL.out
      have hBl := HB.out
      simp only [List.length_append] at hdl
      have hp : (attrL a).length = 4 + a.1.length + (escL true a.2).length := by
        unfold attrL
        simp only [List.length_append, List.length_cons, List.length_nil]
        omega
      have hal : acc.length + (attrL a).length ≤ 700000001 := by omega
      have ct := fun W hW => wrText_any (bs a.2) m W (by rw [bs_size]; omega) hW
      have cq := fun W hW => repl_any (bs (escL false a.2)) [34] quotE m W (by rw [bs_size]; have := esc_len false _ a.2 (Nat.le_refl _); omega) hW (by decide) (by decide)
      rw [bs_data] at ct cq
      rw [value_eq] at cq
      obtain ⟨E1, hE1⟩ : ∃ E1, bs (escL false a.2) = E1 := ⟨_, rfl⟩
      obtain ⟨E2, hE2⟩ : ∃ E2, bs (escL true a.2) = E2 := ⟨_, rfl⟩
      obtain ⟨S1, hS1⟩ : ∃ S, bs a.1 = S := ⟨_, rfl⟩
      obtain ⟨S2, hS2⟩ : ∃ S, bs a.2 = S := ⟨_, rfl⟩
      have hst := attr_str a S1
      rw [hE1] at ct cq
      rw [hE2] at cq hst
      rw [hS2] at ct hc2
      rw [hS1] at hc1
      have hs1 : S1.data.toList = a.1 := by rw [← hS1]; rfl
      rw [hs1] at hst
      have hz1 : S1.size ≤ 100000000 := by rw [size_eq, hs1]; omega
      have hz2 : E2.size ≤ 1000000000 := by rw [← hE2, bs_size]; omega
      have HST := hid (fun (_ : True) => hst)
      have CT := hid ct
      have CQ := hid cq
      unfold bs quotE at CQ
      have HAL := hid hal
      have HD := hid (fun (_ : True) => hd)
      have HM1 := hid (cell_low HM.out HX.out.2.1 (cell_block HM.out))
      clear ct cq hst hE1 hE2 hS1 hS2 hs1 hd hdl hRl hBl hp hal hab ha HK HC
      have hB1 := (Below.refl wr.heap.size wr).alloc (Nat.le_refl _) (.cells #[.string S1, .string S2] 101)
      have HB1 := hid (And.intro hB1 (heap_alloc_new wr (.cells #[.string S1, .string S2] 101)))
      clear hB1
      go_wp2_with fail
      refine (CT.out _ (cell_low HM1.out HB1.out.1 (cell_block HM1.out))).mono ?_
      rintro e W2 ⟨rfl, b2⟩
      have hat2 := (b2.block _ (block_lt HB1.out.2)).trans HB1.out.2
      have m2 := cell_low (cell_low HM1.out HB1.out.1 (cell_block HM1.out)) b2 (by have := cell_block HM1.out; simp; omega)
      have hbw2 := HB1.out.1.trans (b2.mono HB1.out.1.size)
      clear b2
      go_wp2_with fail
      refine (CQ.out _ m2).mono ?_
      rintro e W3 ⟨rfl, b3⟩
      have hat3 := (b3.block _ (block_lt hat2)).trans hat2
      have c3 := cell_at hat3 (j := 0) rfl
      have hbw3 := hbw2.trans (b3.mono hbw2.size)
      have I3 := hid (And.intro (builder_below HX.out.1 hbw3) (And.intro (HX.out.2.1.trans (hbw3.mono HX.out.2.1.size)) (Nat.lt_of_lt_of_le HX.out.2.2 hbw3.size)))
      clear b3 hat2 m2 hbw2 hat3 hbw3 HX HB1
      go_wp2_with fail
      rw [HST.out trivial]
      refine (Tryd.Builder_WriteString_k w.heap.size w.heap.size (Lib.byteCells acc) (bs (attrL a)) _ I3.out.1 (by rw [Lib.byteCells_length, bs_size]; have := HAL.out; omega) (by have := I3.out.2.2; omega)).mono ?_
      rintro e W4 ⟨rfl, g1, g2, g3⟩
      have HZ : Hid (Lib.IsBuilderF 59 5 w.heap.size w.heap.size (Lib.byteCells (acc ++ attrL a)) W4 ∧ Below w.heap.size w W4 ∧ w.heap.size < W4.heap.size) :=
        ⟨by rw [Lib.byteCells_append, ← bs_data (attrL a), ← strCells_byte]; exact Or.inr g1, I3.out.2.1.trans g2, by have := g2.size; have := I3.out.2.2; omega⟩
      have HE := hid (fun (_ : True) => (by have := HD.out trivial; rwa [← List.append_assoc] at this : (acc ++ attrL a) ++ (al.drop (k + 1)).flatMap attrL = R))
      clear g1 g2 g3 I3 HST HD HAL c3 CT CQ
      go_wp2_with fail
      go_roundw
      case rel => first | exact ⟨k + 1, _, rfl, by omega, HZ, HE⟩ | ((repeat apply Exists.intro); exact ⟨⟨k + 1, _, rfl, by omega, HZ, HE⟩, rfl⟩)
      case measure => simp [RowKit.intOf]; omega
    · obtain rfl : acc = R := by
        have := HK.out trivial
        rwa [List.drop_of_length_le (by omega), List.flatMap_nil, List.append_nil] at this
      have HRL2 := HRL
      clear HK HC H1
      go_wp2_with fail
      refine (Tryd.Builder_WriteString_k w.heap.size w.heap.size (Lib.byteCells acc) (bs [62]) _ HX.out.1 (by rw [Lib.byteCells_length, bs_size]; have := HRL.out; simp; omega) (by have := HX.out.2.2; omega)).mono ?_
      rintro e W4 ⟨rfl, g1, g2, g3⟩
      have HZ : Hid (Lib.IsBuilderF 59 5 w.heap.size w.heap.size (Lib.byteCells (acc ++ [62])) W4 ∧ Below w.heap.size w W4 ∧ w.heap.size < W4.heap.size) :=
        ⟨by rw [Lib.byteCells_append, ← bs_data [62], ← strCells_byte]; exact Or.inr g1, HX.out.2.1.trans g2, by have := g2.size; have := HX.out.2.2; omega⟩
      clear g1 g2 g3 HX
      go_wp2_with fail
      refine (Tryd.Builder_String_any_k w.heap.size w.heap.size (acc ++ [62]) _ HZ.out.1 (by have := HZ.out.2.2; omega)).mono ?_
      rintro e W5 ⟨rfl, _, g2, _⟩
      have HY := hid (HZ.out.2.1.trans g2)
      clear g2 HZ
      go_wp2_with fail
      go_ret
      exact ⟨rfl, HY.out⟩
end Go.Proofs.YtkcgmimldjeaiaaDoor

/-
  Filter as a plain function on events: one event at a time, a skip that is counted.
-/
namespace Go.Proofs.YtkcgmimldjeaiaaDoor
open Go.RowKit Go.Lib Own

def isLinkL (n : List UInt8) : Bool := n == [99, 105, 116, 101] || (n == [104, 114, 101, 102] || n == [115, 114, 99])
/-- the attributes that stay, behind those whose names were seen -/
def keptA (schemes listed : List (List UInt8)) : List (List UInt8) → List AttrP → List AttrP
  | _, [] => []
  | seen, a :: r => if listed.contains a.1 = false ∨ seen.contains a.1 = true then keptA schemes listed seen r else
    if isLinkL a.1 = true then (if (linkL schemes a.2).2 = true then (a.1, (linkL schemes a.2).1) :: keptA schemes listed (seen ++ [a.1]) r else keptA schemes listed (seen ++ [a.1]) r)
    else a :: keptA schemes listed (seen ++ [a.1]) r
/-- the attributes that the first rule of this name lists -/
def ruleL : List RuleP → List UInt8 → Option (List (List UInt8))
  | [], _ => none
  | r :: rs, n => if r.1 = n then some r.2 else ruleL rs n
/-- a Start that has a rule -/
def startF (P : PolP) (e : EvP) (listed : List (List UInt8)) : Option Ev :=
  if ((openL e.n (keptA P.schemes listed [] e.a)).length : Int) ≤ P.window then some (.start e.n (keptA P.schemes listed [] e.a)) else none
/-- a Start, by the rule of its name -/
def ruledF (P : PolP) (e : EvP) : Option Ev := match ruleL P.rules e.n with | none => none | some l => startF P e l
theorem ruledF_none {P : PolP} {e : EvP} (h : ruleL P.rules e.n = none) : ruledF P e = none := by unfold ruledF; rw [h]
theorem ruledF_some {P : PolP} {e : EvP} {l : List (List UInt8)} (h : ruleL P.rules e.n = some l) : ruledF P e = startF P e l := by unfold ruledF; rw [h]
/-- within a skip -/
def skipF (s : List UInt8 × Nat) (e : EvP) : Nat := if e.n = s.1 ∧ e.k = 1 then s.2 + 1 else if e.n = s.1 ∧ e.k = 2 then s.2 - 1 else s.2
/-- what is left of one event outside of a skip -/
def outL (P : PolP) (e : EvP) : Option Ev :=
  if e.k = 1 then ruledF P e
  else if e.k = 2 then (if (ruleL P.rules e.n).isSome = true then some (.stop e.n) else none)
  else if e.k = 3 then (if e.t = [] then none else some (.text e.t)) else none
def sieveL (P : PolP) (s : List UInt8 × Nat) (e : EvP) : (List UInt8 × Nat) × Option Ev :=
  if 0 < s.2 then ((s.1, skipF s e), none) else if e.k = 1 ∧ P.drop.contains e.n = true then ((e.n, 1), none) else (s, outL P e)
def filtL (P : PolP) : List UInt8 × Nat → List EvP → List Ev
  | _, [] => []
  | s, e :: r => (sieveL P s e).2.toList ++ filtL P (sieveL P s e).1 r
/-- how many events a skip takes -/
def dropN (n : List UInt8) : Nat → List EvP → Nat
  | _, [] => 0
  | c, e :: r => if c = 0 then 0 else 1 + dropN n (skipF (n, c) e) r
theorem dropN_le (n : List UInt8) : ∀ (es : List EvP) (c : Nat), dropN n c es ≤ es.length
  | [], _ => Nat.le_refl _
  | e :: r, c => by
    unfold dropN
    have := dropN_le n r (skipF (n, c) e)
    split
    · omega
    · simp only [List.length_cons]; omega
theorem filt_step (P : PolP) (s : List UInt8 × Nat) (e : EvP) (r : List EvP) : filtL P s (e :: r) = (sieveL P s e).2.toList ++ filtL P (sieveL P s e).1 r := rfl
theorem filt_zero (P : PolP) (n x : List UInt8) : ∀ es : List EvP, filtL P (n, 0) es = filtL P (x, 0) es
  | [] => rfl
  | e :: r => by
    rw [filt_step, filt_step]
    unfold sieveL
    rw [if_neg (Nat.lt_irrefl 0), if_neg (Nat.lt_irrefl 0)]
    split
    · rfl
    · rw [filt_zero P n x r]
theorem filt_skip (P : PolP) (n x : List UInt8) : ∀ (es : List EvP) (c : Nat), filtL P (n, c) es = filtL P (x, 0) (es.drop (dropN n c es))
  | [], c => by cases c <;> simp [filtL, dropN]
  | e :: r, 0 => by
    show _ = filtL P (x, 0) ((e :: r).drop 0)
    exact filt_zero P n x (e :: r)
  | e :: r, c + 1 => by
    rw [filt_step]
    unfold sieveL dropN
    rw [if_pos (Nat.succ_pos c), if_neg (Nat.succ_ne_zero c), Nat.add_comm 1, List.drop_succ_cons]
    exact filt_skip P n x r _
/-- Filter's answer -/
def filterP (P : PolP) (es : List EvP) : List Ev := filtL P ([], 0) es

/-! ## how long things are -/

theorem stripL_len (v : List UInt8) : (stripL v).length ≤ v.length := by
  unfold stripL rtrim
  have h1 := List.length_filter_le seenB v
  generalize v.filter seenB = f at h1
  have h2 : ∀ l : List UInt8, (l.dropWhile fun c => c == 32).length ≤ l.length := fun l => (List.dropWhile_sublist _).length_le
  have h3 := h2 ((f.drop (f.takeWhile [32].contains).length).reverse)
  rw [List.length_reverse] at h3 ⊢
  rw [List.length_drop] at h3
  omega
theorem linkL_len (schemes : List (List UInt8)) (v : List UInt8) : (linkL schemes v).1.length ≤ v.length := by
  unfold linkL
  split
  · simp
  · exact stripL_len v
theorem keptA_bulk (schemes listed : List (List UInt8)) : ∀ (al : List AttrP) (seen : List (List UInt8)), bulkA (keptA schemes listed seen al) ≤ bulkA al ∧ (keptA schemes listed seen al).length ≤ al.length
  | [], _ => ⟨Nat.le_refl _, Nat.le_refl _⟩
  | a :: r, seen => by
    have h1 := keptA_bulk schemes listed r seen
    have h2 := keptA_bulk schemes listed r (seen ++ [a.1])
    have h3 := linkL_len schemes a.2
    rw [bulkA_cons]
    unfold keptA
    simp only [List.length_cons]
    split
    · omega
    · split
      · split
        · rw [bulkA_cons]; simp only [List.length_cons]; omega
        · omega
      · rw [bulkA_cons]; simp only [List.length_cons]; omega
theorem sieve_opt (P : PolP) (s : List UInt8 × Nat) (e : EvP) : (sieveL P s e).2.toList.length ≤ 1 := by
  cases h : (sieveL P s e).2 <;> simp
theorem filt_len (P : PolP) : ∀ (es : List EvP) (s : List UInt8 × Nat), (filtL P s es).length ≤ es.length
  | [], _ => Nat.le_refl _
  | e :: r, s => by
    have h1 := filt_len P r (sieveL P s e).1
    have h2 := sieve_opt P s e
    rw [filt_step, List.length_append, List.length_cons]
    omega
theorem out_evA (P : PolP) (e : EvP) (v : Ev) (h : outL P e = some v) : (evA v).length ≤ e.a.length := by
  unfold outL at h
  split at h
  · unfold ruledF at h
    split at h
    · cases h
    · unfold startF at h
      split at h
      · cases h; exact (keptA_bulk _ _ _ _).2
      · cases h
  · split at h
    · split at h
      · cases h; exact Nat.zero_le _
      · cases h
    · split at h
      · split at h
        · cases h
        · cases h; exact Nat.zero_le _
      · cases h
theorem filt_evA (P : PolP) (N : Nat) : ∀ (es : List EvP) (s : List UInt8 × Nat), (∀ e ∈ es, e.a.length ≤ N) → ∀ v ∈ filtL P s es, (evA v).length ≤ N
  | [], _, _, v, hv => by cases hv
  | e :: r, s, h, v, hv => by
    rw [filt_step] at hv
    rcases List.mem_append.1 hv with hv | hv
    · have h2 : (sieveL P s e).2 = some v := by simpa using hv
      unfold sieveL at h2
      split at h2
      · cases h2
      · split at h2
        · cases h2
        · exact Nat.le_trans (out_evA P e v h2) (h e (List.mem_cons_self ..))
    · exact filt_evA P N r _ (fun x hx => h x (List.mem_cons_of_mem _ hx)) v hv
end Go.Proofs.YtkcgmimldjeaiaaDoor

/-
  What LawDrop says of Filter, on plain events.
-/
namespace Go.Proofs.YtkcgmimldjeaiaaDoor
open Go.RowKit Go.Lib Own

def svgL : List UInt8 := [115, 118, 103]
def svgS : EvP := ⟨1, svgL, [], []⟩
def svgE : EvP := ⟨2, svgL, [], []⟩
/-- the events that do not name svg -/
def withoutL (es : List EvP) : List EvP := es.filter fun e => e.n != svgL
theorem without_ne {es : List EvP} : ∀ e ∈ withoutL es, e.n ≠ svgL := fun e he => by
  have := (List.mem_filter.1 he).2
  simpa using this
/-- events of which none begins a skip -/
theorem filt_plain {P : PolP} {x : List UInt8} : ∀ (a b : List EvP), (∀ e ∈ a, P.drop.contains e.n = false) → filtL P (x, 0) (a ++ b) = filtL P (x, 0) a ++ filtL P (x, 0) b
  | [], b, _ => rfl
  | e :: a, b, h => by
    have h1 : sieveL P (x, 0) e = ((x, 0), outL P e) := by
      unfold sieveL
      rw [if_neg (Nat.lt_irrefl 0), if_neg (fun q => by rw [h e (List.mem_cons_self ..)] at q; cases q.2)]
    rw [List.cons_append, filt_step, filt_step, h1, filt_plain a b (fun e he => h e (List.mem_cons_of_mem _ he)), List.append_assoc]
/-- events in a skip that do not name what is skipped -/
theorem filt_in {P : PolP} {n : List UInt8} {c : Nat} (hc : 0 < c) : ∀ (a b : List EvP), (∀ e ∈ a, e.n ≠ n) → filtL P (n, c) (a ++ b) = filtL P (n, c) b
  | [], b, _ => rfl
  | e :: a, b, h => by
    have hne := h e (List.mem_cons_self ..)
    have h1 : sieveL P (n, c) e = ((n, c), none) := by
      unfold sieveL skipF
      rw [if_pos hc, if_neg (fun q => hne q.1), if_neg (fun q => hne q.1)]
    rw [List.cons_append, filt_step, h1]
    exact filt_in hc a b (fun e he => h e (List.mem_cons_of_mem _ he))
theorem filt_deeper (P : PolP) (n : List UInt8) (c : Nat) (hc : 0 < c) (r : List EvP) : filtL P (n, c) (⟨1, n, [], []⟩ :: r) = filtL P (n, c + 1) r := by
  rw [filt_step]
  have h1 : sieveL P (n, c) ⟨1, n, [], []⟩ = ((n, c + 1), none) := by unfold sieveL skipF; rw [if_pos hc, if_pos ⟨rfl, rfl⟩]
  rw [h1]; rfl
theorem filt_less (P : PolP) (n : List UInt8) (c : Nat) (hc : 0 < c) (r : List EvP) : filtL P (n, c) (⟨2, n, [], []⟩ :: r) = filtL P (n, c - 1) r := by
  rw [filt_step]
  have h1 : sieveL P (n, c) ⟨2, n, [], []⟩ = ((n, c - 1), none) := by
    unfold sieveL skipF
    rw [if_pos hc, if_neg (fun q => absurd (show (2 : Int) = 1 from q.2) (by decide)), if_pos ⟨rfl, rfl⟩]
  rw [h1]; rfl
/-- the list with the two svg in it -/
def dropFullL (front inner back : List EvP) : List EvP := front ++ (svgS :: svgS :: (inner ++ (svgE :: (inner ++ (svgE :: back)))))
/-- an element in Drop goes with all that it holds, and nothing else goes -/
theorem drop_goes (P : PolP) (front inner back : List EvP) (hd : P.drop = [svgL]) (h1 : ∀ e ∈ front, e.n ≠ svgL) (h2 : ∀ e ∈ inner, e.n ≠ svgL) : filterP P (dropFullL front inner back) = filterP P (front ++ back) := by
  have hc : ∀ e : EvP, e.n ≠ svgL → P.drop.contains e.n = false := fun e he => by rw [hd]; simpa using he
  have hs : sieveL P ([], 0) svgS = ((svgL, 1), none) := by
    unfold sieveL
    rw [if_neg (Nat.lt_irrefl 0), if_pos ⟨rfl, by rw [hd]; rfl⟩]
    rfl
  unfold filterP dropFullL
  rw [filt_plain front _ (fun e he => hc e (h1 e he)), filt_plain front back (fun e he => hc e (h1 e he)), filt_step, hs]
  show filtL P ([], 0) front ++ ([] ++ filtL P (svgL, 1) (⟨1, svgL, [], []⟩ :: _)) = _
  rw [filt_deeper P svgL 1 (by omega), filt_in (by omega) inner _ h2]
  show filtL P ([], 0) front ++ ([] ++ filtL P (svgL, 2) (⟨2, svgL, [], []⟩ :: _)) = _
  rw [filt_less P svgL 2 (by omega), filt_in (by omega) inner _ h2]
  show filtL P ([], 0) front ++ ([] ++ filtL P (svgL, 1) (⟨2, svgL, [], []⟩ :: _)) = _
  rw [filt_less P svgL 1 (by omega), filt_zero P svgL []]
  rfl
/-- of one that is merely not allowed the content stays -/
theorem tag_goes (P : PolP) (front inner back : List EvP) (hd : P.drop = []) (hr : ruleL P.rules svgL = none) : filterP P (dropFullL front inner back) = filterP P (front ++ (inner ++ (inner ++ back))) := by
  have hc : ∀ e : EvP, P.drop.contains e.n = false := fun e => by rw [hd]; rfl
  have ho : ∀ e ∈ [svgS, svgE], ∀ r, filtL P ([], 0) (e :: r) = filtL P ([], 0) r := fun e he r => by
    have h1 : sieveL P ([], 0) e = (([], 0), outL P e) := by
      unfold sieveL
      rw [if_neg (Nat.lt_irrefl 0), if_neg (fun q => by rw [hc e] at q; cases q.2)]
    have h2 : outL P e = none := by
      simp only [List.mem_cons, List.not_mem_nil, or_false] at he
      rcases he with rfl | rfl
      · unfold outL
        rw [if_pos (show svgS.k = 1 from rfl)]
        exact ruledF_none hr
      · unfold outL
        rw [if_neg (show ¬ svgE.k = 1 by decide), if_pos (show svgE.k = 2 from rfl), show ruleL P.rules svgE.n = none from hr]
        rfl
    rw [filt_step, h1, h2]
    rfl
  have hS := ho svgS (by simp)
  have hE := ho svgE (by simp)
  unfold filterP dropFullL
  rw [filt_plain front _ (fun e _ => hc e), filt_plain front _ (fun e _ => hc e), hS, hS, filt_plain inner _ (fun e _ => hc e), filt_plain inner _ (fun e _ => hc e), hE, filt_plain inner _ (fun e _ => hc e), filt_plain inner _ (fun e _ => hc e), hE]
end Go.Proofs.YtkcgmimldjeaiaaDoor

/-
  The statements' ordered: what its memory holds while a list of the policy grows.
-/
namespace Go.Proofs.YtkcgmimldjeaiaaDoor
open Go.RowKit Go.Lib Own

theorem rulesR_row {W : World} {base : Nat} {v : Value} {prs : List (RuleP × Value)} (h : W.ownsRow base 73 2 v prs.length (rcells prs)) (hw : ∀ x ∈ prs, Words W x.2 x.1.2) : RulesR W v (prs.map Prod.fst) := by
  obtain ⟨p, c, rfl⟩ := row_shape h
  obtain ⟨_, e2⟩ := row_cap h
  refine ⟨p, c, by rw [List.length_map], by rw [List.length_map]; exact e2, row_bound h, fun j q hj => ?_⟩
  rw [List.getElem?_map] at hj
  obtain ⟨x, hx, rfl⟩ := Option.map_eq_some_iff.1 hj
  have hlt := (List.getElem?_eq_some_iff.1 hx).1
  obtain ⟨g, cap, e3, _, _, hcell⟩ := row_at h (by omega)
  cases e3
  obtain ⟨a1, a2⟩ := rcells_at prs j x hx
  exact ⟨g, 0, x.2, rfl, by rw [Nat.zero_add, hcell _ (by omega), a1], by rw [Nat.zero_add, hcell _ (by omega), a2], hw x (List.mem_of_getElem? hx)⟩
/-- all that lay there stays, but for the box -/
structure ButBox (q : Nat) (W W' : World) : Prop where
  os : W'.os = W.os
  tape : W'.tape = W.tape
  output : W'.output = W.output
  size : W.heap.size ≤ W'.heap.size
  other : ∀ k, k < W.heap.size → k ≠ q → W'.heap[k]? = W.heap[k]?
theorem ButBox.refl (q : Nat) (W : World) : ButBox q W W := ⟨rfl, rfl, rfl, Nat.le_refl _, fun _ _ _ => rfl⟩
theorem ButBox.below {q : Nat} {W W' W2 : World} (h : ButBox q W W') (hb : Below W'.heap.size W' W2) : ButBox q W W2 :=
  ⟨hb.os.trans h.os, hb.tape.trans h.tape, hb.output.trans h.output, Nat.le_trans h.size hb.size, fun k hk hq => (hb.block k (Nat.lt_of_lt_of_le hk h.size)).trans (h.other k hk hq)⟩
theorem ButBox.whole {q B : Nat} {W W' : World} (h : ButBox q W W') (hB : B ≤ W.heap.size) (hq : B ≤ q) : Below B W W' :=
  ⟨h.os, h.tape, h.output, h.size, fun k hk => h.other k (by omega) (by omega)⟩
theorem ButBox.row {q : Nat} {W W' : World} (h : ButBox q W W') {cs : Array Value} (hb : W.heap[q]? = some (.cells cs 35 (0, 0))) {base : Nat} {e : TypeId} {size n : Nat} {v : Value} {xs : List Value} (hr : W.ownsRow base e size v n xs) (hT : 35 ≠ e) : W'.ownsRow base e size v n xs :=
  row_of_block hr (fun g hg => h.other g (hr.lt g hg).2 (fun e => row_ne hr hb hT (by rw [hg, e])))
/-- a list of the policy grows in a row of its own -/
structure Phase (q i : Nat) (T : TypeId) (size : Nat) (W1 W : World) (cs : Array Value) (v : Value) (n : Nat) (xs : List Value) : Prop where
  but : ButBox q W1 W
  bx : W.heap[q]? = some (.cells cs 35 (0, 0))
  row : W.ownsRow W1.heap.size T size v n xs
section
variable {q i : Nat} {T : TypeId} {size : Nat} {W1 W W2 : World} {cs : Array Value} {v v' : Value} {n n' : Nat} {xs xs' : List Value}
theorem Phase.below (h : Phase q i T size W1 W cs v n xs) (hb : Below W.heap.size W W2) : Phase q i T size W1 W2 cs v n xs :=
  ⟨h.but.below hb, (hb.block _ (block_lt h.bx)).trans h.bx, row_below h.row hb⟩
theorem Phase.grown {X : Obj} (h : Phase q i T size W1 W cs v n xs) (hT : 35 ≠ T) (hg : (W.alloc X).grownBy W2 v.ownBlock) : W2.heap[q]? = some (.cells cs 35 (0, 0)) :=
  grown_at hg ((Go.Lib.alloc_old _ _ _ (block_lt h.bx)).trans h.bx) (row_ne h.row h.bx hT)
/-- one more: the row grows, the box takes it -/
theorem Phase.more {X : Obj} {cs' : Array Value} (h : Phase q i T size W1 W cs v n xs) (hT : 35 ≠ T) (hg : (W.alloc X).grownBy W2 v.ownBlock) (hv : W2.ownsRow W1.heap.size T size v' n' xs') (hc : cs.setIfInBounds i v' = cs') :
    Phase q i T size W1 (W2.setCell ⟨q, i, none⟩ v') cs' v' n' xs' := by
  have bx2 := h.grown hT hg
  have j := just_put (j := i) bx2 v' hc
  refine ⟨⟨?_, ?_, ?_, ?_, fun k hk hq => ?_⟩, j.at_, row_just hv bx2 hT j.other⟩
  · exact j.os.trans (hg.os.trans h.but.os)
  · exact j.tape.trans (hg.tape.trans h.but.tape)
  · exact j.output.trans (hg.output.trans h.but.output)
  · have h1 := hg.size
    have h2 := h.but.size
    rw [j.size]
    have h3 := alloc_lt W X
    omega
  · have hkW : k < W.heap.size := Nat.lt_of_lt_of_le hk h.but.size
    rw [j.other k hq, hg.block k (by simp; omega) (fun e => ?_), Go.Lib.alloc_old _ _ _ hkW]
    · exact h.but.other k hk hq
    · have := (h.row.lt k (by rw [← e])).1
      omega
/-- a row of another type, or from ahead of the phase, stays through it -/
theorem Phase.keeps {X : Obj} {base : Nat} {e : TypeId} {z m : Nat} {u : Value} {ys : List Value} (h : Phase q i T size W1 W cs v n xs) (hT : 35 ≠ T) (hg : (W.alloc X).grownBy W2 v.ownBlock)
    (hu : W.ownsRow base e z u m ys) (he : e ≠ T) (hP : 35 ≠ e) : (W2.setCell ⟨q, i, none⟩ v').ownsRow base e z u m ys := by
  have bx2 := h.grown hT hg
  have h1 : W2.ownsRow base e z u m ys := (hu.alloc X).kept hg (by
    rcases ho : u.ownBlock with _ | g
    · exact .inl rfl
    · exact .inr (fun e2 => rows_ne2 hu h.row he g ho e2.symm))
  exact row_just h1 bx2 hP (just_set (j := i) bx2 v').other
end
/-- the attributes of a rule are listed, in a row of their own -/
structure RuleAt (b : Nat) (W1 W : World) (nm : List UInt8) (v : Value) (ss : List (List UInt8)) : Prop where
  be : Below W1.heap.size W1 W
  lo : W1.heap.size ≤ b
  bx : W.heap[b]? = some (.cells #[.string (bs nm), v] 73 (0, 0))
  row : W.ownsRow W1.heap.size 9 1 v ss.length (wordsV ss)
section
variable {b : Nat} {W1 W W2 : World} {nm : List UInt8} {v v' : Value} {ss : List (List UInt8)}
theorem RuleAt.below (h : RuleAt b W1 W nm v ss) (hb : Below W.heap.size W W2) : RuleAt b W1 W2 nm v ss :=
  ⟨h.be.trans (hb.mono h.be.size), h.lo, (hb.block _ (block_lt h.bx)).trans h.bx, row_below h.row hb⟩
theorem RuleAt.grown {X : Obj} (h : RuleAt b W1 W nm v ss) (hg : (W.alloc X).grownBy W2 v.ownBlock) : W2.heap[b]? = some (.cells #[.string (bs nm), v] 73 (0, 0)) :=
  grown_at hg ((Go.Lib.alloc_old _ _ _ (block_lt h.bx)).trans h.bx) (row_ne h.row h.bx (by decide))
theorem RuleAt.more {X : Obj} {s : List UInt8} (h : RuleAt b W1 W nm v ss) (hg : (W.alloc X).grownBy W2 v.ownBlock) (hv : W2.ownsRow W1.heap.size 9 1 v' (ss ++ [s]).length (wordsV (ss ++ [s]))) :
    RuleAt b W1 (W2.setCell ⟨b, 1, none⟩ v') nm v' (ss ++ [s]) := by
  have bx2 := h.grown hg
  have j := just_put (j := 1) (cs2 := #[.string (bs nm), v']) bx2 v' (by simp)
  exact ⟨((h.be.alloc h.be.size _).grown hg (by have := h.be.size; simp; omega) (fun k hk => (h.row.lt k hk).1)).trans (just_low j h.lo), h.lo, j.at_, row_just hv bx2 (by decide) j.other⟩
end
theorem filter_take_next {p : List UInt8 → Bool} {l : List (List UInt8)} {k : Nat} {x : List UInt8} (h : l[k]? = some x) : (l.take (k + 1)).filter p = (l.take k).filter p ++ (if p x = true then [x] else []) := by
  rw [List.take_add_one, h, List.filter_append]
  by_cases hx : p x = true
  · simp [hx]
  · simp [hx]
theorem ordR_next {rs : List RuleP} {k : Nat} {x : List UInt8} (h : ordE[k]? = some x) : (ordE.take (k + 1)).filterMap (ordR rs) = (ordE.take k).filterMap (ordR rs) ++ (ordR rs x).toList := by
  rw [List.take_add_one, h, List.filterMap_append]
  cases hx : ordR rs x <;> simp [hx]
end Go.Proofs.YtkcgmimldjeaiaaDoor

/-
  The statements' listed and wanted: their walks.
-/
namespace Go.Proofs.YtkcgmimldjeaiaaDoor
open Go.RowKit Go.Lib Own

set_option maxHeartbeats 1000000 in
theorem listed_any (v : Value) (ss : List (List UInt8)) (x : ByteArray) (w : World) (h : Words w v ss) :
    Calls Tryd.prog 35 #[v, .string x] w fun e w' => e = .returned (.bool (ss.contains x.toList)) ∧ w' = w := by
  obtain ⟨p, c, rfl, hc, hm, hcell, _⟩ := h
  obtain ⟨R, hR⟩ : ∃ R, ss.contains x.toList = R := ⟨_, rfl⟩
  have HR := hid (fun (_ : True) => hR)
  have H := hid hcell
  rw [hR]
  clear hcell hR
  go_enter Tryd.func35, Tryd.ntmps35
  go_wp2
  go_loopw [8] (fun iv wr => ∃ k : Nat, iv = .int .i64 k ∧ k ≤ ss.length ∧ wr = w ∧ Hid (True → (ss.drop k).contains x.toList = R)) (fun iv _ => ss.length - (RowKit.intOf iv).toNat)
  case atStart => exact ⟨0, rfl, Nat.zero_le _, rfl, HR.out⟩
  case round =>
    obtain ⟨k, rfl, hk, rfl, HK⟩ := hrel
    by_cases hkl : k < ss.length
    · obtain ⟨s, hs⟩ : ∃ s, ss[k]? = some s := ⟨_, List.getElem?_eq_getElem hkl⟩
      obtain ⟨b, o, rfl, hc1⟩ := H.out k s hs
      have hd := HK.out trivial
      rw [drop_at hs, List.contains_cons] at hd
      have hbt := bs_toList s
      obtain ⟨S, hS⟩ : ∃ S, bs s = S := ⟨_, rfl⟩
      rw [hS] at hbt hc1
      by_cases q : (x.toList == s) = true
      · have q2 : (S.toList == x.toList) = true := by rw [hbt]; rw [beq_iff_eq] at q ⊢; exact q.symm
        rw [q, Bool.true_or] at hd
        subst hd
        clear hs hbt q H HK HR
        go_wp2
        go_ret
        exact ⟨rfl, rfl⟩
      · have q2 : (S.toList == x.toList) = false := by rw [hbt]; rw [Bool.not_eq_true] at q; rw [← q, Bool.eq_iff_iff, beq_iff_eq, beq_iff_eq]; exact eq_comm
        rw [Bool.not_eq_true] at q
        rw [q, Bool.false_or] at hd
        have HD := hid (fun (_ : True) => hd)
        clear hs hbt q H HK HR hd
        go_wp2
        go_roundw
        case rel => exact ⟨k + 1, rfl, by omega, by first | rfl | trivial, HD⟩
        case measure => simp [RowKit.intOf]; omega
    · have hd := HK.out trivial
      rw [List.drop_of_length_le (by omega)] at hd
      have : R = false := by rw [← hd]; rfl
      subst this
      clear hd HK HR H
      go_wp2
      go_ret
      exact ⟨rfl, rfl⟩
/-- how many words all rules list -/
def attrsM (rs : List RuleP) : Nat := (rs.map fun r => r.2.length).sum
theorem attrsM_app (a b : List RuleP) : attrsM (a ++ b) = attrsM a + attrsM b := by unfold attrsM; rw [List.map_append, List.sum_append]
theorem wantedL_len (n : List UInt8) : ∀ rs : List RuleP, (wantedL rs n).1.length ≤ attrsM rs
  | [] => Nat.le_refl _
  | r :: rs => by
    have h := wantedL_len n rs
    have h2 : attrsM (r :: rs) = r.2.length + attrsM rs := rfl
    unfold wantedL at h ⊢
    rw [h2]
    by_cases q : (r.1 == n) = true
    · rw [List.filter_cons_of_pos (by exact q), List.flatMap_cons, List.length_append]
      exact Nat.add_le_add_left h _
    · rw [List.filter_cons_of_neg (by exact q)]
      exact Nat.le_trans h (Nat.le_add_left _ _)
theorem wanted_yes {rs : List RuleP} {k : Nat} {r : RuleP} {n : List UInt8} (h : rs[k]? = some r) (hn : r.1 = n) : wantedL (rs.take (k + 1)) n = ((wantedL (rs.take k) n).1 ++ r.2, true) := by
  subst hn
  unfold wantedL
  rw [List.take_add_one, h]
  simp
theorem wanted_no {rs : List RuleP} {k : Nat} {r : RuleP} {n : List UInt8} (h : rs[k]? = some r) (hn : r.1 ≠ n) : wantedL (rs.take (k + 1)) n = wantedL (rs.take k) n := by
  have hb : (r.1 == n) = false := by simpa using hn
  unfold wantedL
  rw [List.take_add_one, h]
  simp [hb]
theorem attrsM_take (rs : List RuleP) (k : Nat) : attrsM (rs.take k) ≤ attrsM rs := by
  have h := attrsM_app (rs.take k) (rs.drop k)
  rw [List.take_append_drop] at h
  omega
theorem attrsM_next {rs : List RuleP} {k : Nat} {r : RuleP} (h : rs[k]? = some r) : attrsM (rs.take k) + r.2.length ≤ attrsM rs := by
  have h1 := attrsM_take rs (k + 1)
  rw [List.take_add_one, h, attrsM_app] at h1
  have h2 : attrsM (some r).toList = r.2.length := by simp [attrsM]
  omega

/-- what wanted has gathered -/
def WantAt (w wr : World) (C : Array Value) (av : Value) (acc : List (List UInt8)) : Prop :=
  Below w.heap.size w wr ∧ wr.heap[w.heap.size]? = some (.cells C 35 (0, 0)) ∧ wr.ownsRow w.heap.size 9 1 av acc.length (wordsV acc)

set_option maxHeartbeats 4000000 in
set_option maxRecDepth 100000 in
theorem wanted_any (vr vs vd : Value) (P : PolP) (x : ByteArray) (w : World) (h : RulesR w vr P.rules) (hs : attrsM P.rules ≤ 100000000) :
    Calls Tryd.prog 34 #[.agg (polC vr vs vd P), .string x] w fun e w' => ∃ v, e = .returned (.tuple #[v, .bool (wantedL P.rules x.toList).2]) ∧ w'.ownsRow w.heap.size 9 1 v (wantedL P.rules x.toList).1.length (wordsV (wantedL P.rules x.toList).1) ∧ Below w.heap.size w w' := by
  obtain ⟨rp, rc, rfl, hr1, hr2, hr3⟩ := h
  have HR := hid hr3
  have HS := hid hs
  have h0 : WantAt w (w.alloc (.cells (polC (.slice rp P.rules.length rc) vs vd P) 35)) (polC (.slice rp P.rules.length rc) vs vd P) (.slice none 0 0) [] :=
    ⟨(Below.refl w.heap.size w).alloc (Nat.le_refl _) _, heap_alloc_new w _, World.ownsRow_nil _ _ _ _⟩
  have H0 := hid h0
  clear hr3 h0 hs
  unfold polC at H0 ⊢
  go_enter Tryd.func34, Tryd.ntmps34
  go_wp2
  go_loopw [6, 7, 12] (fun av fv iv wr => ∃ (k : Nat) (acc : List (List UInt8)) (fb : Bool), iv = .int .i64 k ∧ k ≤ P.rules.length ∧ fv = .bool fb ∧ Hid (wantedL (P.rules.take k) x.toList = (acc, fb)) ∧ Hid (WantAt w wr #[.slice rp P.rules.length rc, vs, vd, .int .i64 P.depth, .int .i64 P.window] av acc)) (fun _ _ iv _ => P.rules.length - (RowKit.intOf iv).toNat)
  case atStart => exact ⟨0, [], false, rfl, Nat.zero_le _, rfl, hid rfl, H0⟩
  case round =>
    clear H0
    obtain ⟨k, acc, fb, rfl, hk, rfl, HW, HX⟩ := hrel
    obtain ⟨np, nc, rfl⟩ := row_shape HX.out.2.2
    have c0 := (polC_at (P := P) HX.out.2.1).1
    by_cases hkl : k < P.rules.length
    · obtain ⟨r, hr⟩ : ∃ r, P.rules[k]? = some r := ⟨_, List.getElem?_eq_getElem hkl⟩
      obtain ⟨b, o, u, rfl, hc1, hc2, hw⟩ := HR.out k r hr
      replace hc1 := cell_low hc1 HX.out.1 (cell_block hc1)
      replace hc2 := cell_low hc2 HX.out.1 (cell_block hc2)
      replace hw := hw.below HX.out.1
      obtain ⟨S, hS⟩ : ∃ S, bs r.1 = S := ⟨_, rfl⟩
      rw [hS] at hc1
      have hbt : S.toList = r.1 := by rw [← hS]; exact bs_toList r.1
      have hsz := attrsM_next hr
      have hsz2 : acc.length ≤ attrsM (P.rules.take k) := by
        have h := wantedL_len x.toList (P.rules.take k)
        rw [HW.out] at h
        exact h
      have hs0 := HS.out
      obtain ⟨up, uc, rfl, _⟩ := hw.len
      by_cases q : r.1 = x.toList
      · have q2 : (S.toList == x.toList) = true := by rw [hbt, beq_iff_eq]; exact q
        have hnx := wanted_yes hr q
        rw [HW.out] at hnx
        have HN := hid hnx
        have HU := hid hw
        clear hr hbt q hS hnx hw HW
        go_wp2_with (at_builtin; refine wpList_append_words rfl (.tmp 23) (.tmp 29) rfl w.heap.size _ _ acc r.2 rfl rfl (by exact HX.out.2.2) (by exact HU.out) HX.out.1.size (by omega) ?_)
        intro v3 w3 hown3 hgrow3
        have hz : WantAt w w3 _ v3 (acc ++ r.2) :=
          ⟨HX.out.1.grown hgrow3 HX.out.1.size (fun k hk => (HX.out.2.2.lt k hk).1), (grown_at hgrow3 HX.out.2.1 (row_ne HX.out.2.2 HX.out.2.1 (by decide))), by rw [List.length_append]; exact hown3⟩
        have HZ := hid hz
        clear hz hown3 hgrow3 HX c0 hc1 hc2
        go_wp2
        go_roundw
        case rel => exact ⟨k + 1, acc ++ r.2, true, rfl, by omega, rfl, HN, HZ⟩
        case measure => simp [RowKit.intOf]; omega
      · have q2 : (S.toList == x.toList) = false := by rw [hbt, Bool.eq_false_iff]; intro h; rw [beq_iff_eq] at h; exact q h
        have hnx := wanted_no hr q
        rw [HW.out] at hnx
        have HN := hid hnx
        clear hr hbt q hS hnx hw HW
        go_wp2
        go_roundw
        case rel => exact ⟨k + 1, acc, fb, rfl, by omega, rfl, HN, HX⟩
        case measure => simp [RowKit.intOf]; omega
    · obtain rfl : k = P.rules.length := by omega
      have hw := HW.out
      rw [List.take_length] at hw
      have HV := hid hw
      clear hw HW c0
      go_wp2
      go_ret2
      rw [HV.out]
      exact ⟨_, rfl, HX.out.2.2, HX.out.1⟩
end Go.Proofs.YtkcgmimldjeaiaaDoor

/-
  The statements' within at any bounds: its walk.
-/
namespace Go.Proofs.YtkcgmimldjeaiaaDoor
open Go.RowKit Go.Lib Own

theorem withinP_in {n lo hi : Int} (h : lo ≤ n ∧ n ≤ hi) : withinP n lo hi = n := if_pos h
theorem withinP_neg {n lo hi : Int} (h : ¬ (lo ≤ n ∧ n ≤ hi)) (h2 : Int.tmod n (hi - lo + 1) < 0) : withinP n lo hi = lo + (Int.tmod n (hi - lo + 1) + (hi - lo + 1)) := by unfold withinP; rw [if_neg h, if_pos h2]
theorem withinP_pos {n lo hi : Int} (h : ¬ (lo ≤ n ∧ n ≤ hi)) (h2 : ¬ Int.tmod n (hi - lo + 1) < 0) : withinP n lo hi = lo + Int.tmod n (hi - lo + 1) := by unfold withinP; rw [if_neg h, if_neg h2]

set_option maxHeartbeats 2000000 in
theorem withinG_any (n lo hi : Int) (h0 : -9223372036854775808 ≤ n) (h1 : n ≤ 9223372036854775807) (b0 : 0 ≤ lo) (b1 : lo ≤ hi) (b2 : hi ≤ 1000000000000) (w : World) :
    Calls Tryd.prog 33 #[.int .i64 n, .int .i64 lo, .int .i64 hi] w fun e w' => e = .returned (.int .i64 (withinP n lo hi)) ∧ w' = w := by
  obtain ⟨S, hS⟩ : ∃ S, hi - lo + 1 = S := ⟨_, rfl⟩
  have hs : IntKind.i64.wrap (hi - lo) = hi - lo := by rw [IntKind.wrap_i64]; omega
  have hs2 : IntKind.i64.wrap (hi - lo + 1) = S := by rw [IntKind.wrap_i64]; omega
  have hz : (S == 0) = false := by rw [Bool.eq_false_iff]; intro h; rw [beq_iff_eq] at h; omega
  have hz2 : ¬ S = 0 := by omega
  by_cases hin : lo ≤ n ∧ n ≤ hi
  · rw [withinP_in hin]
    obtain ⟨a, b⟩ := hin
    go_enter Tryd.func33, Tryd.ntmps33
    go_wp2
    all_goals go_ret
    all_goals exact ⟨rfl, rfl⟩
  · have hm : n.tmod S < S := Int.tmod_lt_of_pos n (show (0 : Int) < S by omega)
    have hm2 : -S < n.tmod S := by
      have h3 := Int.tmod_lt_of_pos (-n) (show (0 : Int) < S by omega)
      rw [Int.neg_tmod] at h3
      omega
    have hin2 : (lo ≤ n ∧ ¬ n ≤ hi) ∨ ¬ lo ≤ n := by omega
    have e1 := fun h2 => withinP_neg hin (hi := hi) h2
    have e2 := fun h2 => withinP_pos hin (hi := hi) h2
    rw [hS] at e1 e2
    generalize hr : n.tmod S = r at hm hm2 e1 e2
    have hor : r < 0 ∨ ¬ r < 0 := by omega
    have hw1 : IntKind.i64.wrap (r + S) = r + S := by rw [IntKind.wrap_i64]; omega
    rcases hor with h | h
    · rw [e1 h]
      have hw3 : IntKind.i64.wrap (lo + (r + S)) = lo + (r + S) := by rw [IntKind.wrap_i64]; omega
      clear e1 e2
      rcases hin2 with ⟨i1, i2⟩ | i1
      all_goals
        go_enter Tryd.func33, Tryd.ntmps33
        go_wp2
        all_goals go_ret
        all_goals exact ⟨rfl, rfl⟩
    · rw [e2 h]
      have hw2 : IntKind.i64.wrap (lo + r) = lo + r := by rw [IntKind.wrap_i64]; omega
      clear e1 e2
      rcases hin2 with ⟨i1, i2⟩ | i1
      all_goals
        go_enter Tryd.func33, Tryd.ntmps33
        go_wp2
        all_goals go_ret
        all_goals exact ⟨rfl, rfl⟩
end Go.Proofs.YtkcgmimldjeaiaaDoor

/-
  The statements' ordered: its tables, its boxes.
-/
namespace Go.Proofs.YtkcgmimldjeaiaaDoor
open Go.RowKit Go.Lib Own

structure OrdTabs (w : World) : Prop where
  e : w.rangeAt 0 0 (ordE.map fun s => .string (bs s))
  a : w.rangeAt 1 0 (ordA.map fun s => .string (bs s))
  s : w.rangeAt 2 0 (ordS.map fun s => .string (bs s))
  d : w.rangeAt 3 0 (ordD.map fun s => .string (bs s))
theorem OrdTabs.below {w w' : World} (h : OrdTabs w) (hb : Below w.heap.size w w') : OrdTabs w' := ⟨rangeAt_below h.e hb, rangeAt_below h.a hb, rangeAt_below h.s hb, rangeAt_below h.d hb⟩
theorem index_ordE (k : Nat) (s : List UInt8) (h : ordE[k]? = some s) (W : World) :
    (Instr.index 71 (.agg (ordE.map fun s => Value.string (bs s)).toArray) (.int .i64 (k : Int))).run Tryd.prog W = .ok (.string (bs s)) W := by
  have h15 : k < 37 := (List.getElem?_eq_some_iff.1 h).1
  have hn : (0 ≤ (k : Int) ∧ (k : Int) < 37) := by omega
  simp [Instr.index, run_underlying Tryd.underlying71, asIntOf, h15, go_sem, h]
theorem index_ordA (k : Nat) (s : List UInt8) (h : ordA[k]? = some s) (W : World) :
    (Instr.index 74 (.agg (ordA.map fun s => Value.string (bs s)).toArray) (.int .i64 (k : Int))).run Tryd.prog W = .ok (.string (bs s)) W := by
  have h15 : k < 15 := (List.getElem?_eq_some_iff.1 h).1
  have hn : (0 ≤ (k : Int) ∧ (k : Int) < 15) := by omega
  simp [Instr.index, run_underlying Tryd.underlying74, asIntOf, h15, go_sem, h]
theorem index_ordS (k : Nat) (s : List UInt8) (h : ordS[k]? = some s) (W : World) :
    (Instr.index 76 (.agg (ordS.map fun s => Value.string (bs s)).toArray) (.int .i64 (k : Int))).run Tryd.prog W = .ok (.string (bs s)) W := by
  have h15 : k < 6 := (List.getElem?_eq_some_iff.1 h).1
  have hn : (0 ≤ (k : Int) ∧ (k : Int) < 6) := by omega
  simp [Instr.index, run_underlying Tryd.underlying76, asIntOf, h15, go_sem, h]
theorem index_ordD (k : Nat) (s : List UInt8) (h : ordD[k]? = some s) (W : World) :
    (Instr.index 77 (.agg (ordD.map fun s => Value.string (bs s)).toArray) (.int .i64 (k : Int))).run Tryd.prog W = .ok (.string (bs s)) W := by
  have h15 : k < 8 := (List.getElem?_eq_some_iff.1 h).1
  have hn : (0 ≤ (k : Int) ∧ (k : Int) < 8) := by omega
  simp [Instr.index, run_underlying Tryd.underlying77, asIntOf, h15, go_sem, h]
/-- the boxes that stand: the argument's, the answer's, the policy's that is being made -/
structure OrdB (w W : World) (C D : Array Value) (q : Nat) : Prop where
  be : Below w.heap.size w W
  b0 : W.heap[w.heap.size]? = some (.cells C 35 (0, 0))
  b1 : W.heap[w.heap.size + 1]? = some (.cells #[.slice none 0 0, .slice none 0 0, .slice none 0 0, .int .i64 0, .int .i64 0] 35 (0, 0))
  lo : w.heap.size + 2 ≤ q
  bx : W.heap[q]? = some (.cells D 35 (0, 0))
theorem OrdB.below {w W W' : World} {C D : Array Value} {q : Nat} (h : OrdB w W C D q) (hb : Below W.heap.size W W') : OrdB w W' C D q :=
  ⟨h.be.trans (hb.mono h.be.size), (hb.block _ (block_lt h.b0)).trans h.b0, (hb.block _ (block_lt h.b1)).trans h.b1, h.lo, (hb.block _ (block_lt h.bx)).trans h.bx⟩
theorem OrdB.but {w W W' : World} {C D D' : Array Value} {q : Nat} (h : OrdB w W C D q) (hb : ButBox q W W') (hx : W'.heap[q]? = some (.cells D' 35 (0, 0))) : OrdB w W' C D' q :=
  ⟨h.be.trans (hb.whole h.be.size (by have := h.lo; omega)), (hb.other _ (block_lt h.b0) (by have := h.lo; omega)).trans h.b0, (hb.other _ (block_lt h.b1) (by have := h.lo; omega)).trans h.b1, h.lo, hx⟩
theorem po_cells {W : World} {b : Nat} {a0 a1 a2 a3 a4 : Value} (h : W.heap[b]? = some (.cells #[a0, a1, a2, a3, a4] 35 (0, 0))) :
    W.cell? ⟨b, 0, none⟩ = some a0 ∧ W.cell? ⟨b, 1, none⟩ = some a1 ∧ W.cell? ⟨b, 2, none⟩ = some a2 ∧ W.cell? ⟨b, 3, none⟩ = some a3 ∧ W.cell? ⟨b, 4, none⟩ = some a4 ∧ W.frozen? ⟨b, 0, none⟩ = false ∧ W.frozen? ⟨b, 1, none⟩ = false ∧ W.frozen? ⟨b, 2, none⟩ = false ∧ W.frozen? ⟨b, 3, none⟩ = false ∧ W.frozen? ⟨b, 4, none⟩ = false :=
  ⟨cell_at h rfl, cell_at h rfl, cell_at h rfl, cell_at h rfl, cell_at h rfl, free_at h 0, free_at h 1, free_at h 2, free_at h 3, free_at h 4⟩
theorem five_put {W : World} {b : Nat} {a0 a1 a2 a3 a4 p0 p1 p2 p3 p4 : Value} (h : W.heap[b]? = some (.cells #[a0, a1, a2, a3, a4] 35 (0, 0))) :
    Just W (((((W.setCell ⟨b, 0, none⟩ p0).setCell ⟨b, 1, none⟩ p1).setCell ⟨b, 2, none⟩ p2).setCell ⟨b, 3, none⟩ p3).setCell ⟨b, 4, none⟩ p4) b #[p0, p1, p2, p3, p4] 35 := by
  have h0 := just_put (j := 0) (cs2 := #[p0, a1, a2, a3, a4]) h p0 (by simp)
  have h1 := just_put (j := 1) (cs2 := #[p0, p1, a2, a3, a4]) h0.at_ p1 (by simp)
  have h2 := just_put (j := 2) (cs2 := #[p0, p1, p2, a3, a4]) h1.at_ p2 (by simp)
  have h3 := just_put (j := 3) (cs2 := #[p0, p1, p2, p3, a4]) h2.at_ p3 (by simp)
  have h4 := just_put (j := 4) (cs2 := #[p0, p1, p2, p3, p4]) h3.at_ p4 (by simp)
  exact (((h0.andThen h1).andThen h2).andThen h3).andThen h4
/-- the boxes of the beginning -/
structure OrdA (w W : World) (C : Array Value) : Prop where
  be : Below w.heap.size w W
  b0 : W.heap[w.heap.size]? = some (.cells C 35 (0, 0))
  b1 : W.heap[w.heap.size + 1]? = some (.cells #[.slice none 0 0, .slice none 0 0, .slice none 0 0, .int .i64 0, .int .i64 0] 35 (0, 0))
theorem OrdA.below {w W W' : World} {C : Array Value} (h : OrdA w W C) (hb : Below W.heap.size W W') : OrdA w W' C :=
  ⟨h.be.trans (hb.mono h.be.size), (hb.block _ (block_lt h.b0)).trans h.b0, (hb.block _ (block_lt h.b1)).trans h.b1⟩
theorem OrdA.alloc {w W : World} {C : Array Value} (h : OrdA w W C) (X : Obj) : OrdA w (W.alloc X) C := h.below ((Below.refl W.heap.size W).alloc (Nat.le_refl _) X)
theorem OrdA.drew {w W : World} {C : Array Value} (h : OrdA w W C) : OrdA w W.drew C := ⟨⟨h.be.os, h.be.tape, h.be.output, h.be.size, h.be.block⟩, h.b0, h.b1⟩
theorem OrdA.start (w : World) (C : Array Value) : OrdA w ((w.alloc (.cells C 35)).alloc (.cells #[.slice none 0 0, .slice none 0 0, .slice none 0 0, .int .i64 0, .int .i64 0] 35)) C :=
  ⟨((Below.refl w.heap.size w).alloc (Nat.le_refl _) _).alloc (by simp) _, (Go.Lib.alloc_old _ _ _ (by simp)).trans (heap_alloc_new w _), by have := heap_alloc_new (w.alloc (.cells C 35)) (.cells #[.slice none 0 0, .slice none 0 0, .slice none 0 0, .int .i64 0, .int .i64 0] 35); simpa using this⟩
theorem OrdB.new {w W : World} {C D : Array Value} (h : OrdA w W C) : OrdB w (W.alloc (.cells D 35)) C D W.heap.size :=
  ⟨h.be.alloc h.be.size _, (Go.Lib.alloc_old _ _ _ (block_lt h.b0)).trans h.b0, (Go.Lib.alloc_old _ _ _ (block_lt h.b1)).trans h.b1, by have := block_lt h.b1; omega, heap_alloc_new W _⟩
theorem OrdB.set {w W : World} {C : Array Value} {a0 a1 a2 a3 a4 p0 p1 p2 p3 p4 : Value} {q : Nat} (h : OrdA w W C) (hx : W.heap[q]? = some (.cells #[a0, a1, a2, a3, a4] 35 (0, 0))) (hlo : w.heap.size + 2 ≤ q) :
    OrdB w (((((W.setCell ⟨q, 0, none⟩ p0).setCell ⟨q, 1, none⟩ p1).setCell ⟨q, 2, none⟩ p2).setCell ⟨q, 3, none⟩ p3).setCell ⟨q, 4, none⟩ p4) C #[p0, p1, p2, p3, p4] q := by
  have j := five_put (p0 := p0) (p1 := p1) (p2 := p2) (p3 := p3) (p4 := p4) hx
  exact ⟨h.be.trans (just_low j (by omega)), (j.other _ (by omega)).trans h.b0, (j.other _ (by omega)).trans h.b1, hlo, j.at_⟩
theorem OrdB.drew {w W : World} {C D : Array Value} {q : Nat} (h : OrdB w W C D q) : OrdB w W.drew C D q := ⟨⟨h.be.os, h.be.tape, h.be.output, h.be.size, h.be.block⟩, h.b0, h.b1, h.lo, h.bx⟩
end Go.Proofs.YtkcgmimldjeaiaaDoor

/-
  strings.IndexRune and IndexAny, of the four marks of a link: their walks at every text.
-/
namespace Go.Proofs.YtkcgmimldjeaiaaDoor
open Go.RowKit Go.Lib Own

theorem decode_cont (s : ByteArray) (pos : Nat) (h : pos < s.size) (ha : 128 ≤ (s[pos]'h).toNat) : ∀ k, k < (Utf8.decode s pos).2 → ∃ hk : pos + k < s.size, 128 ≤ (s[pos + k]'hk).toNat := by
  have hg : ∀ j (hj : j < s.size), s.get! j = s[j]'hj := fun j hj => by
    show s.data[j]! = s.data[j]
    simp [getElem!_pos, hj]
  have zero : ∃ hk : pos + 0 < s.size, 128 ≤ (s[pos + 0]'hk).toNat := ⟨h, ha⟩
  have cont : ∀ k, (decide (pos + k < s.size) && ((s.get! (pos + k)).toNat / 64 == 2)) = true → ∃ hk : pos + k < s.size, 128 ≤ (s[pos + k]'hk).toNat := fun k hc => by
    rw [Bool.and_eq_true, decide_eq_true_eq, beq_iff_eq] at hc
    refine ⟨hc.1, ?_⟩
    rw [← hg _ hc.1]
    omega
  intro k hk
  have one : (k < 1) → ∃ hk : pos + k < s.size, 128 ≤ (s[pos + k]'hk).toNat := fun h1 => by
    obtain rfl : k = 0 := by omega
    exact zero
  unfold Utf8.decode at hk
  simp only [Nat.add_zero] at hk
  split at hk
  · exact one hk
  · split at hk
    · rename_i _ h2
      simp only [Bool.and_eq_true] at h2
      split at hk
      · simp only at hk
        match k, hk with
        | 0, _ => exact zero
        | 1, _ => exact cont 1 (by simpa using h2.2)
        | k + 2, hk => omega
      · exact one hk
    · split at hk
      · rename_i _ _ h3
        simp only [Bool.and_eq_true] at h3
        split at hk
        · simp only at hk
          match k, hk with
          | 0, _ => exact zero
          | 1, _ => exact cont 1 (by simpa using h3.1.2)
          | 2, _ => exact cont 2 (by simpa using h3.2)
          | k + 3, hk => omega
        · exact one hk
      · split at hk
        · rename_i _ _ _ h4
          simp only [Bool.and_eq_true] at h4
          split at hk
          · simp only at hk
            match k, hk with
            | 0, _ => exact zero
            | 1, _ => exact cont 1 (by simpa using h4.1.1.2)
            | 2, _ => exact cont 2 (by simpa using h4.1.2)
            | 3, _ => exact cont 3 (by simpa using h4.2)
            | k + 4, hk => omega
          · exact one hk
        · exact one hk

/-- a rune as it is encoded: two bytes to four, the last of 128 on -/
theorem enc_high (r : Int) (h : 128 ≤ r) (h1 : r ≤ 1114111) (h2 : ¬ (55296 ≤ r ∧ r ≤ 57343)) : ∃ l, (l = 1 ∨ l = 2 ∨ l = 3) ∧ (Utf8.encode r).size = l + 1 ∧ ∃ (hl : l < (Utf8.encode r).size), 128 ≤ ((Utf8.encode r)[l]'hl).toNat := by
  have hv : Utf8.valid r = true := by
    unfold Utf8.valid
    simp
    omega
  have h8 : ∀ n : Nat, (UInt8.ofNat (128 + n % 64)).toNat = 128 + n % 64 := fun n => by
    rw [UInt8.toNat_ofNat']
    omega
  obtain ⟨n, rfl⟩ : ∃ n : Nat, r = n := ⟨r.toNat, by omega⟩
  unfold Utf8.encode
  rw [hv]
  simp only [if_true, Int.toNat_natCast]
  split
  · omega
  · split
    · exact ⟨1, .inl rfl, rfl, Nat.lt_succ_self _, by show 128 ≤ (UInt8.ofNat (128 + n % 64)).toNat; rw [h8]; omega⟩
    · split
      · exact ⟨2, .inr (.inl rfl), rfl, Nat.lt_succ_self _, by show 128 ≤ (UInt8.ofNat (128 + n % 64)).toNat; rw [h8]; omega⟩
      · exact ⟨3, .inr (.inr rfl), rfl, Nat.lt_succ_self _, by show 128 ≤ (UInt8.ofNat (128 + n % 64)).toNat; rw [h8]; omega⟩
def marksB : ByteArray := ⟨#[58, 47, 63, 35]⟩
set_option maxHeartbeats 2000000 in
set_option maxRecDepth 100000 in
theorem idxRune_high (r : Int) (w : World) (h0 : 128 ≤ r) (h1 : r ≤ 1114111) (h2 : ¬ (55296 ≤ r ∧ r ≤ 57343)) (h3 : r ≠ 65533) :
    Calls Tryd.prog 173 #[.string marksB, .int .i32 r] w fun e w' => e = .returned (.int .i64 (-1)) ∧ Below w.heap.size w w' := by
  have q1 : ¬ r < 128 := by omega
  have q2 : (0 : Int) ≤ r := by omega
  have q3 : (r == 65533) = false := beq_eq_false_iff_ne.2 h3
  have hvr : ∀ W, Calls Tryd.prog 183 #[.int .i32 r] W fun e w' => e = .returned (.bool true) ∧ w' = W := by
    intro W
    by_cases h4 : r < 55296
    · clear h2 h3 q3
      go_enter Tryd.func183, Tryd.ntmps183
      go_wp2_with fail
      go_ret
      exact ⟨rfl, rfl⟩
    · have h5 : 57343 < r := by omega
      clear h2 h3 q3
      go_enter Tryd.func183, Tryd.ntmps183
      go_wp2_with fail
      go_ret
      exact ⟨rfl, rfl⟩
  have HVR := hid hvr
  obtain ⟨l, hl, hsz, hlt, hb⟩ := enc_high r h0 h1 h2
  obtain ⟨E, hE⟩ : ∃ E, Utf8.encode r = E := ⟨_, rfl⟩
  have hbE : ∃ (hl : l < E.size), 128 ≤ (E[l]'hl).toNat := by subst hE; exact ⟨hlt, hb⟩
  have hszE : E.size = l + 1 := by rw [← hE]; exact hsz
  clear hvr h2 h3 hsz hb hlt
  obtain ⟨hlt, hb⟩ := hbE
  obtain ⟨c, hc⟩ : ∃ c, E[l]'hlt = c := ⟨_, rfl⟩
  rw [hc] at hb
  have hcu := UInt8.toNat_lt c
  have d1 : ((((⟨#[58, 47, 63, 35]⟩ : ByteArray)[1]'(by decide)).toNat : Int) != (c.toNat : Int)) = true := bne_iff_ne.2 (by show (47 : Int) ≠ _; omega)
  have d2 : ((((⟨#[58, 47, 63, 35]⟩ : ByteArray)[2]'(by decide)).toNat : Int) != (c.toNat : Int)) = true := bne_iff_ne.2 (by show (63 : Int) ≠ _; omega)
  have d3 : ((((⟨#[58, 47, 63, 35]⟩ : ByteArray)[3]'(by decide)).toNat : Int) != (c.toNat : Int)) = true := bne_iff_ne.2 (by show (35 : Int) ≠ _; omega)
  have hib : ∀ s W, 128 ≤ c.toNat → s.data.toList.contains c = false → Calls Tryd.prog 138 #[.string s, .int .u8 (c.toNat : Int)] W fun e w' => e = .returned (.int .i64 (-1)) ∧ w' = W := by
    intro s W _ h
    have h1 := Tryd.strings_IndexByte s (c.toNat : Int) W
    have hback : ((c.toNat : Int)).toNat.toUInt8 = c := by simp
    rw [hback] at h1
    have h2 := Lib.contains_iff_indexByte s.data.toList c
    rw [h] at h2
    have h3 := Lib.indexByte_ge s.data.toList c
    have h4 : Lib.indexByte s.data.toList c = -1 := by have := of_decide_eq_false h2.symm; omega
    rw [h4] at h1
    exact h1
  have hno : ∀ L : List UInt8, (∀ x ∈ L, x.toNat < 128) → L.contains c = false := fun L h => by
    rw [Bool.eq_false_iff]
    intro h2
    have := h c (List.contains_iff_mem.1 h2)
    omega
  have HIB := hid hib
  have HNO := hid hno
  have y2 : IntKind.i64.wrap 2 = 2 := by decide
  have y3 : IntKind.i64.wrap 3 = 3 := by decide
  have y4 : IntKind.i64.wrap 4 = 4 := by decide
  clear hib hno
  unfold marksB
  rcases hl with rfl | rfl | rfl
  · go_enter Tryd.func173, Tryd.ntmps173
    go_wp2_with fail
    refine (HVR.out _).mono ?_
    rintro e w1 ⟨rfl, rfl⟩
    go_wp2_with fail
    go_step3
    go_wp2_with fail
    go_loopw [4, 9, 10, 11, 12] (fun _ a _ _ _ wr => a = .int .i64 1 ∧ wr = w1) (fun _ _ _ _ _ _ => 0)
    case atStart => exact ⟨rfl, rfl⟩
    case round =>
      obtain ⟨rfl, rfl⟩ := hrel
      go_wp2_with fail
      go_step3
      go_wp2_with fail
      go_quiet (fail)
      go_wp2_with fail
      obtain ⟨w5, hw5⟩ : ∃ W, wr.drewN nq = W := ⟨_, rfl⟩
      have hb5 : Below wr.heap.size wr w5 := by rw [← hw5]; exact below_drewN (Below.refl _ _) nq
      simp only [hw5]
      clear hw5
      go_quiet (first | (go_at_call 138; refine Calls.quiet_of_same (HIB.out _ _ hb (HNO.out _ ?_)); decide +kernel))
      go_wp2_with fail
      simp (config := { zetaDelta := true }) only [Exit.noGoto_ret, Exit.inBlock, Exit.then]
      go_ret
      exact ⟨rfl, below_drewN hb5 _⟩
  · go_enter Tryd.func173, Tryd.ntmps173
    go_wp2_with fail
    refine (HVR.out _).mono ?_
    rintro e w1 ⟨rfl, rfl⟩
    go_wp2_with fail
    go_step3
    go_wp2_with fail
    go_loopw [4, 9, 10, 11, 12] (fun _ a _ _ _ wr => a = .int .i64 2 ∧ wr = w1) (fun _ _ _ _ _ _ => 0)
    case atStart => exact ⟨rfl, rfl⟩
    case round =>
      obtain ⟨rfl, rfl⟩ := hrel
      go_wp2_with fail
      go_step3
      go_wp2_with fail
      go_quiet (fail)
      go_wp2_with fail
      obtain ⟨w5, hw5⟩ : ∃ W, wr.drewN nq = W := ⟨_, rfl⟩
      have hb5 : Below wr.heap.size wr w5 := by rw [← hw5]; exact below_drewN (Below.refl _ _) nq
      simp only [hw5]
      clear hw5
      go_quiet (first | (go_at_call 138; refine Calls.quiet_of_same (HIB.out _ _ hb (HNO.out _ ?_)); decide +kernel))
      go_wp2_with fail
      simp (config := { zetaDelta := true }) only [Exit.noGoto_ret, Exit.inBlock, Exit.then]
      go_ret
      exact ⟨rfl, below_drewN hb5 _⟩
  · go_enter Tryd.func173, Tryd.ntmps173
    go_wp2_with fail
    refine (HVR.out _).mono ?_
    rintro e w1 ⟨rfl, rfl⟩
    go_wp2_with fail
    go_step3
    go_wp2_with fail
    go_loopw [4, 9, 10, 11, 12] (fun _ a _ _ _ wr => a = .int .i64 3 ∧ wr = w1) (fun _ _ _ _ _ _ => 0)
    case atStart => exact ⟨rfl, rfl⟩
    case round =>
      obtain ⟨rfl, rfl⟩ := hrel
      go_wp2_with fail
      go_step3
      go_wp2_with fail
      go_quiet (fail)
      go_wp2_with fail
      obtain ⟨w5, hw5⟩ : ∃ W, wr.drewN nq = W := ⟨_, rfl⟩
      have hb5 : Below wr.heap.size wr w5 := by rw [← hw5]; exact below_drewN (Below.refl _ _) nq
      simp only [hw5]
      clear hw5
      go_quiet (first | (go_at_call 138; refine Calls.quiet_of_same (HIB.out _ _ hb (HNO.out _ ?_)); decide +kernel))
      go_wp2_with fail
      simp (config := { zetaDelta := true }) only [Exit.noGoto_ret, Exit.inBlock, Exit.then]
      go_ret
      exact ⟨rfl, below_drewN hb5 _⟩
set_option maxHeartbeats 2000000 in
set_option maxRecDepth 100000 in
theorem idxRune_bad (w : World) :
    Calls Tryd.prog 173 #[.string marksB, .int .i32 65533] w fun e w' => e = .returned (.int .i64 (-1)) ∧ Below w.heap.size w w' := by
  unfold marksB
  have y2 : IntKind.i64.wrap 2 = 2 := by decide
  go_enter Tryd.func173, Tryd.ntmps173
  go_wp2_with fail
  go_loopg [4, 5, 6] 4 (fun g _ _ _ wx => ∃ i : Nat, i + g = 4 ∧ wx = w.iter ⟨#[58, 47, 63, 35]⟩ i)
  case atStart => exact ⟨0, rfl, rfl⟩
  case round =>
    obtain ⟨i, hig, rfl⟩ := hrel
    cases gk with
    | zero =>
      obtain rfl : i = 4 := by omega
      have hnx := run_next_end (P := Tryd.prog) w ⟨#[58, 47, 63, 35]⟩ 4
      go_wp2
      go_ret
      exact ⟨rfl, (Below.refl _ w).alloc (Nat.le_refl _) _⟩
    | succ g =>
      have hi : i < (⟨#[58, 47, 63, 35]⟩ : ByteArray).size := by show i < 4; omega
      have h128 : ((⟨#[58, 47, 63, 35]⟩ : ByteArray)[i]'hi).toNat < 128 := by
        match i, hi with
        | 0, _ => show (58 : Nat) < 128; decide
        | 1, _ => show (47 : Nat) < 128; decide
        | 2, _ => show (63 : Nat) < 128; decide
        | 3, _ => show (35 : Nat) < 128; decide
        | k + 4, h => exact absurd h (by show ¬ k + 4 < 4; omega)
      have hnx := fun ty => run_next_ascii (P := Tryd.prog) w ⟨#[58, 47, 63, 35]⟩ i ty hi h128
      obtain ⟨x, hx⟩ : ∃ x : Nat, ((⟨#[58, 47, 63, 35]⟩ : ByteArray)[i]'hi).toNat = x := ⟨_, rfl⟩
      rw [hx] at hnx h128
      have q : ((x : Int) == 65533) = false := beq_eq_false_iff_ne.2 (by omega)
      clear hx
      go_wp2
      go_roundg g
      case measure => omega
      case rel => exact ⟨i + 1, by omega, rfl⟩
end Go.Proofs.YtkcgmimldjeaiaaDoor

/-
  strings.IndexAny at the four marks of a link, at every text: its walk.
-/
namespace Go.Proofs.YtkcgmimldjeaiaaDoor
open Go.RowKit Go.Lib Own

/-- where the first mark lies; -1: nowhere -/
def markN (L : List UInt8) : Nat := (L.takeWhile fun c => !markT.contains c).length
def markIx (L : List UInt8) : Int := if markN L < L.length then (markN L : Int) else -1
theorem markN_is {L : List UInt8} {k : Nat} (h : ∀ j c, j < k → L[j]? = some c → markT.contains c = false) (h2 : ∀ c, L[k]? = some c → markT.contains c = true) (hk : k ≤ L.length) : markN L = k := by
  induction L generalizing k with
  | nil => simp at hk; subst hk; rfl
  | cons c r ih =>
    unfold markN
    cases k with
    | zero =>
      have := h2 c rfl
      rw [List.takeWhile_cons, this]
      rfl
    | succ k =>
      have := h 0 c (by omega) rfl
      rw [List.takeWhile_cons, this]
      simp only [Bool.not_false, if_true, List.length_cons]
      have := ih (k := k) (fun j d hj hd => h (j + 1) d (by omega) (by rw [List.getElem?_cons_succ]; exact hd)) (fun d hd => h2 d (by rw [List.getElem?_cons_succ]; exact hd)) (by simpa using hk)
      unfold markN at this
      rw [this]
theorem markIx_hit {L : List UInt8} {k : Nat} {c : UInt8} (h : ∀ j c, j < k → L[j]? = some c → markT.contains c = false) (hc : L[k]? = some c) (h2 : markT.contains c = true) : markIx L = k := by
  have hl := (List.getElem?_eq_some_iff.1 hc).1
  have hn := markN_is h (fun d hd => by obtain rfl := Option.some.inj (hc.symm.trans hd); exact h2) (by omega)
  unfold markIx
  rw [hn, if_pos hl]
theorem markIx_none {L : List UInt8} (h : ∀ j c, j < L.length → L[j]? = some c → markT.contains c = false) : markIx L = -1 := by
  have hn := markN_is (k := L.length) h (fun d hd => by have := (List.getElem?_eq_some_iff.1 hd).1; omega) (Nat.le_refl _)
  unfold markIx
  rw [hn, if_neg (by omega)]
theorem markN_all (L : List UInt8) : ∀ j c, j < markN L → L[j]? = some c → markT.contains c = false := by
  induction L with
  | nil => intro j c _ h; simp at h
  | cons d r ih =>
    intro j c hj hc
    unfold markN at hj
    rw [List.takeWhile_cons] at hj
    cases hd : markT.contains d with
    | true => rw [hd] at hj; simp at hj
    | false =>
      rw [hd] at hj
      simp only [Bool.not_false, if_true, List.length_cons] at hj
      cases j with
      | zero =>
        simp only [List.getElem?_cons_zero, Option.some.injEq] at hc
        rw [← hc]; exact hd
      | succ j =>
        rw [List.getElem?_cons_succ] at hc
        exact ih j c (by unfold markN; omega) hc
theorem markN_at (L : List UInt8) (c : UInt8) (h : L[markN L]? = some c) : markT.contains c = true := by
  induction L with
  | nil => simp at h
  | cons d r ih =>
    unfold markN at h
    rw [List.takeWhile_cons] at h
    cases hd : markT.contains d with
    | true =>
      rw [hd] at h
      simp only [Bool.not_true, Bool.false_eq_true, if_false, List.length_nil, List.getElem?_cons_zero, Option.some.injEq] at h
      rw [← h]; exact hd
    | false =>
      rw [hd] at h
      simp only [Bool.not_false, if_true, List.length_cons, List.getElem?_cons_succ] at h
      exact ih h
theorem markN_le (L : List UInt8) : markN L ≤ L.length := (List.takeWhile_prefix (p := fun c => !markT.contains c) (l := L)).length_le
theorem indexAny_mark (L : List UInt8) : Lib.indexAny L marksB.data.toList = markIx L := by
  show Lib.indexAny L markT = _
  unfold markIx
  split
  · rename_i h
    obtain ⟨c, hc⟩ : ∃ c, L[markN L]? = some c := ⟨_, List.getElem?_eq_getElem h⟩
    exact Lib.indexAny_hit (fun j b hj hb => markN_all L j b hj hb) hc (markN_at L c hc)
  · rename_i h
    have hl := markN_le L
    refine Lib.indexAny_none (fun j b hj hb => markN_all L j b (by omega) hb)

theorem iterAt_at {W : World} {k : Nat} {o : Obj} (h : W.heap[k]? = some o) {s : ByteArray} (p : Nat) : (W.iterAt k s p).heap[k]? = some (.stringIter s p) := by
  have := block_lt h
  simp [World.iterAt, this]
theorem iterAt_below {w W : World} {k : Nat} (h : Below k w W) (s : ByteArray) (p : Nat) : Below k w (W.iterAt k s p) := by
  refine ⟨h.os, h.tape, h.output, by simpa [World.iterAt] using h.size, fun j hj => ?_⟩
  rw [← h.block j hj]
  have : k ≠ j := by omega
  simp [World.iterAt, this]

set_option maxHeartbeats 4000000 in
set_option maxRecDepth 100000 in
theorem idxAny_short (s : ByteArray) (w : World) (hs : s.size ≤ 8) :
    Calls Tryd.prog 159 #[.string s, .string marksB] w fun e w' => e = .returned (.int .i64 (markIx s.data.toList)) ∧ Below w.heap.size w w' := by
  have hz := size_eq s
  have h8z : ¬ ((s.size : Int) > 8) := by omega
  have hsu : ∀ W, Calls Tryd.prog 174 #[.int .i64 (s.size : Int)] W fun e w' => e = .returned (.bool false) ∧ w' = W := fun W => by
    have h8 : decide ((8 : Int) < (s.size : Int)) = false := decide_eq_false (by omega)
    clear hz
    go_enter Tryd.func174, Tryd.ntmps174
    go_wp2_with fail
    go_ret
    exact ⟨rfl, rfl⟩
  have HSU := hid hsu
  have HZ := hid hz
  clear hsu hz h8z
  have hB0 := (Below.refl w.heap.size w)
  unfold marksB
  go_enter Tryd.func159, Tryd.ntmps159
  go_wp2_with fail
  refine (HSU.out _).mono ?_
  rintro e w1 ⟨rfl, rfl⟩
  go_wp2_with fail
  go_loopg [4, 9, 10] s.size (fun g _ _ _ wx => ∃ i : Nat, i ≤ s.size ∧ s.size ≤ i + g ∧ Hid (Below w1.heap.size w1 wx ∧ wx.heap[w1.heap.size]? = some (.stringIter s i)) ∧ Hid (∀ j c, j < i → s.data.toList[j]? = some c → markT.contains c = false))
  case atStart => exact ⟨0, Nat.zero_le _, by omega, ⟨(Below.refl _ w1).alloc (Nat.le_refl _) _, heap_alloc_new w1 _⟩, fun j c h => absurd h (Nat.not_lt_zero _)⟩
  case round =>
    obtain ⟨i, hi, hg, HX, HK⟩ := hrel
    by_cases hil : i < s.size
    · obtain ⟨x, hx⟩ : ∃ x, s[i]'hil = x := ⟨_, rfl⟩
      have hxl := getElem_list hil hx
      by_cases h128 : x.toNat < 128
      · have hnx := fun ty => Lib.run_next_ascii_at (P := Tryd.prog) wr w1.heap.size s i ty HX.out.2 hil (by rw [hx]; exact h128)
        rw [hx] at hnx
        have hri := fun W => Tryd.strings_IndexRune_ascii marksB (x.toNat : Int) W (by omega) (by omega)
        have hback : ((x.toNat : Int)).toNat.toUInt8 = x := by simp
        rw [hback] at hri
        have hcon := Lib.contains_iff_indexByte markT x
        rw [show marksB.data.toList = markT from rfl] at hri
        have hit : (wr.iterAt w1.heap.size s (i + 1)).heap[w1.heap.size]? = some (.stringIter s (i + 1)) := iterAt_at HX.out.2 _
        have hbi : Below w1.heap.size w1 (wr.iterAt w1.heap.size s (i + 1)) := iterAt_below HX.out.1 s (i + 1)
        have HI := hid (And.intro hbi hit)
        have hmk : ∀ b, markT.contains x = b → (b = true → markIx s.data.toList = i) ∧ (b = false → ∀ j c, j < i + 1 → s.data.toList[j]? = some c → markT.contains c = false) := fun b hb => ⟨fun h => markIx_hit HK.out hxl (hb.trans h), fun h j c hj hc => by
          by_cases e : j = i
          · subst e
            obtain rfl := Option.some.inj (hxl.symm.trans hc)
            exact hb.trans h
          · exact HK.out j c (by omega) hc⟩
        have HMK := hid (hmk _ rfl)
        generalize markT.contains x = b at hcon HMK
        generalize Lib.indexByte markT x = z at hri hcon
        unfold marksB at hri
        have HRI := hid hri
        clear hri hback hmk hbi hit hxl HX HK
        cases b
        · have hz : ¬ (0 : Int) ≤ z := of_decide_eq_false hcon.symm
          have HN := hid (HMK.out.2 rfl)
          clear hcon HMK
          go_wp2_with (go_at_call 173; refine (HRI.out _).mono ?_; rintro e w' ⟨rfl, rfl⟩)
          go_roundg (gk - 1)
          case measure => omega
          case rel => exact ⟨i + 1, by omega, by omega, HI, HN⟩
        · have hz : (0 : Int) ≤ z := of_decide_eq_true hcon.symm
          have hR := HMK.out.1 rfl
          clear hcon HMK
          go_wp2_with (go_at_call 173; refine (HRI.out _).mono ?_; rintro e w' ⟨rfl, rfl⟩)
          go_ret
          exact ⟨ret_i64 hR.symm, HI.out.1⟩
      · obtain ⟨n, hn⟩ : ∃ n, (Utf8.decode s i).2 = n := ⟨_, rfl⟩
        obtain ⟨c, hc⟩ : ∃ c, (Utf8.decode s i).1 = c := ⟨_, rfl⟩
        have hnx := fun ty => Lib.run_next_any_at (P := Tryd.prog) wr w1.heap.size s i ty HX.out.2 hil
        have hd := decode_high s i hil (by rw [hx]; omega)
        have hdc := decode_cont s i hil (by rw [hx]; omega)
        have hle := Lib.rune_le s i
        have hvr : ¬ (55296 ≤ c ∧ c ≤ 57343) := by
          have h1 := Lib.rune_valid (s.extract i s.size)
          rw [Lib.tail_decode, Nat.add_zero, hc] at h1
          unfold Lib.validRune at h1
          have := of_decide_eq_true h1
          omega
        rw [hc] at hd hle
        rw [hn] at hd hdc
        rw [hn, hc] at hnx
        obtain ⟨hlast, _⟩ := hdc (n - 1) (by omega)
        have hno : ∀ j c, j < i + n → s.data.toList[j]? = some c → markT.contains c = false := fun j d hj hdd => by
          by_cases e : j < i
          · exact HK.out j d e hdd
          · obtain ⟨hk2, hge⟩ := hdc (j - i) (by omega)
            have hjs : j < s.size := by omega
            have h3 := getElem_list hjs rfl
            obtain rfl := Option.some.inj (h3.symm.trans hdd)
            have hge2 : 128 ≤ (s[j]'hjs).toNat := by
              have e2 : i + (j - i) = j := by omega
              simp only [e2] at hge
              exact hge
            rw [Bool.eq_false_iff]
            intro h4
            have h5 := List.contains_iff_mem.1 h4
            simp only [markT, List.mem_cons, List.not_mem_nil, or_false] at h5
            rcases h5 with h5 | h5 | h5 | h5 <;> rw [h5] at hge2 <;> exact absurd hge2 (by decide)
        have hit : (wr.iterAt w1.heap.size s (i + n)).heap[w1.heap.size]? = some (.stringIter s (i + n)) := iterAt_at HX.out.2 _
        have hbi : Below w1.heap.size w1 (wr.iterAt w1.heap.size s (i + n)) := iterAt_below HX.out.1 s (i + n)
        have HI := hid (And.intro hbi hit)
        have hri : ∀ W, Calls Tryd.prog 173 #[.string marksB, .int .i32 (c : Int)] W fun e w' => e = .returned (.int .i64 (-1)) ∧ Below W.heap.size W w' := fun W => by
          by_cases h3 : c = 65533
          · subst h3; exact idxRune_bad W
          · exact idxRune_high (c : Int) W (by omega) (by omega) (by omega) (by omega)
        unfold marksB at hri
        have HRI := hid hri
        have HN := hid hno
        clear hri hno hdc hbi hit hxl HX HK hvr hn hc
        go_wp2_with (go_at_call 173; refine (HRI.out _).mono ?_; rintro e w5 ⟨rfl, b5⟩)
        have HZ2 := hid (And.intro (HI.out.1.trans (b5.mono HI.out.1.size)) ((b5.block _ (block_lt HI.out.2)).trans HI.out.2))
        clear b5 HI HRI
        go_roundg (gk - 1)
        case measure => omega
        case rel => exact ⟨i + n, by omega, by omega, HZ2, HN⟩
    · have hR := markIx_none (L := s.data.toList) (fun j c hj hc => HK.out j c (by rw [← HZ.out] at hj; omega) hc)
      have hnx := fun ty => Lib.run_next_end_at (P := Tryd.prog) wr w1.heap.size s i ty HX.out.2 hil
      have HB := hid HX.out.1
      clear HX HK HZ
      go_wp2_with fail
      go_ret
      exact ⟨ret_i64 hR.symm, HB.out⟩
end Go.Proofs.YtkcgmimldjeaiaaDoor

/-
  sieve.CleanURL: its walk.
-/
namespace Go.Proofs.YtkcgmimldjeaiaaDoor
open Go.RowKit Go.Lib Own

set_option maxRecDepth 100000 in
theorem idxAny_any (s : ByteArray) (w : World) (hs : s.size ≤ 1000000000) :
    Calls Tryd.prog 159 #[.string s, .string marksB] w fun e w' => e = .returned (.int .i64 (markIx s.data.toList)) ∧ Below w.heap.size w w' := by
  by_cases h8 : s.size ≤ 8
  · exact idxAny_short s w h8
  · have h116 : (Tryd.prog.info? 201).map (fun i => (i.zero, i.size)) = some (some (.agg (Array.replicate 256 (.bool false))), 256) := by kernel_rfl
    refine (Tryd.strings_IndexAny_long (zero_of_info h116).1 s marksB w (by decide) (by omega) (by omega) (by decide) (fun j b hb => ?_)).mono ?_
    · have := List.mem_of_getElem? hb
      rw [show marksB.data.toList = [58, 47, 63, 35] from rfl] at this
      simp only [List.mem_cons, List.not_mem_nil, or_false] at this
      rcases this with rfl | rfl | rfl | rfl <;> decide
    · rintro e w' ⟨rfl, rfl⟩
      rw [indexAny_mark]
      exact ⟨rfl, ((Below.refl _ w).alloc (Nat.le_refl _) _).alloc (by simp) _⟩

/-! ## stripped -/

theorem rtrim_cons (c : UInt8) (r : List UInt8) : rtrim (c :: r) = if c = 32 ∧ rtrim r = [] then [] else c :: rtrim r := by
  unfold rtrim
  rw [List.reverse_cons, List.dropWhile_append]
  by_cases h : (r.reverse.dropWhile fun c => c == 32) = []
  · rw [h]
    simp only [List.isEmpty_nil, if_true, List.reverse_nil, and_true]
    by_cases hc : c = 32
    · subst hc; simp
    · rw [if_neg hc, List.dropWhile_cons, if_neg (by simpa using hc)]
      simp
  · rw [if_neg (by simpa using h), if_neg (by rintro ⟨_, h2⟩; exact h (by simpa using h2))]
    simp
theorem trim_comm : ∀ L : List UInt8, (rtrim L).dropWhile (fun c => c == 32) = rtrim (L.dropWhile fun c => c == 32)
  | [] => rfl
  | c :: r => by
    have ih := trim_comm r
    by_cases hc : c = 32
    · subst hc
      have e1 : (32 :: r).dropWhile (fun c => c == 32) = r.dropWhile (fun c => c == 32) := rfl
      have e2 : (32 :: rtrim r).dropWhile (fun c => c == 32) = (rtrim r).dropWhile (fun c => c == 32) := rfl
      rw [e1, ← ih, rtrim_cons]
      by_cases hr : rtrim r = []
      · rw [if_pos ⟨rfl, hr⟩, hr]
      · rw [if_neg (fun h => hr h.2), e2]
    · have e1 : (c == 32) = false := beq_eq_false_iff_ne.2 hc
      have e2 : ∀ l : List UInt8, (c :: l).dropWhile (fun c => c == 32) = c :: l := fun l => by
        rw [List.dropWhile_cons, e1]
        rfl
      rw [e2, rtrim_cons, if_neg (fun h => hc h.1), e2]
theorem drop_while : ∀ L : List UInt8, L.drop (L.takeWhile [32].contains).length = L.dropWhile fun c => c == 32
  | [] => rfl
  | c :: r => by
    have ih := drop_while r
    rw [List.takeWhile_cons, List.dropWhile_cons]
    have e : [32].contains c = (c == 32) := by
      rw [List.contains_cons, List.contains_nil, Bool.or_false]
    rw [e]
    cases h : (c == 32) with
    | true =>
      simp only [if_true, List.length_cons, List.drop_succ_cons]
      exact ih
    | false => simp
theorem strip_trim (v : List UInt8) : Lib.trimB (v.filter seenB) 32 = stripL v := by
  unfold Lib.trimB Lib.trimLeftB Lib.trimRightB stripL
  rw [drop_while]
  exact trim_comm _

set_option maxHeartbeats 2000000 in
set_option maxRecDepth 100000 in
theorem strip_any (v : ByteArray) (w : World) (hv : v.size ≤ 1000000000) :
    Calls Tryd.prog 148 #[.string v] w fun e w' => e = .returned (.string (bs (stripL v.data.toList))) ∧ Below w.heap.size w w' := by
  have hz := size_eq v
  have HZ := hid hz
  have H0 : Hid (Lib.IsBuilderF 59 5 w.heap.size w.heap.size (Lib.byteCells []) (w.alloc (.cells #[.pointer none, .slice none 0 0] 59)) ∧ Below w.heap.size w (w.alloc (.cells #[.pointer none, .slice none 0 0] 59)) ∧ w.heap.size < (w.alloc (.cells #[.pointer none, .slice none 0 0] 59)).heap.size) :=
    ⟨Lib.IsBuilderF.of (Or.inl ⟨Nat.le_refl _, .slice none 0 0, heap_alloc_new w _, World.ownsRow_nil _ _ _ _, by simp [Value.ownBlock]⟩), (Below.refl _ w).alloc (Nat.le_refl _) _, by simp⟩
  clear hz
  go_enter Tryd.func148, Tryd.ntmps148
  go_wp2_with fail
  go_loopw [4, 5, 8] (fun _ _ iv wr => ∃ k : Nat, iv = .int .i64 k ∧ k ≤ v.size ∧ Hid (Lib.IsBuilderF 59 5 w.heap.size w.heap.size (Lib.byteCells ((v.data.toList.take k).filter seenB)) wr ∧ Below w.heap.size w wr ∧ w.heap.size < wr.heap.size)) (fun _ _ iv _ => v.size - (RowKit.intOf iv).toNat)
  case atStart => exact ⟨0, rfl, Nat.zero_le _, H0⟩
  case round =>
    obtain ⟨k, rfl, hk, HX⟩ := hrel
    by_cases hkl : k < v.size
    · obtain ⟨c, hc⟩ : ∃ c, v[k]'hkl = c := ⟨_, rfl⟩
      have hcl := getElem_list hkl hc
      have hst := filter_step (p := seenB) hcl
      have hln : ((v.data.toList.take k).filter seenB).length ≤ k := Nat.le_trans (List.length_filter_le _ _) (by rw [List.length_take]; omega)
      have hu := UInt8.toNat_lt c
      have hsb : seenB c = (decide (32 ≤ (c.toNat : Int)) && ((c.toNat : Int) != 127)) := by
        unfold seenB
        rw [decide_eq_decide.2 (show (31 < (c.toNat : Int)) ↔ (32 ≤ (c.toNat : Int)) by omega)]
      rw [hsb] at hst
      have HST := hid (fun (_ : True) => hst)
      have HLN := hid hln
      clear hcl hst hsb hln
      by_cases z1 : (32 : Int) ≤ (c.toNat : Int)
      · by_cases z2 : (c.toNat : Int) = 127
        · have q2 : ((c.toNat : Int) != 127) = false := by rw [z2]; rfl
          have HE := hid (fun (_ : True) => (by have := HST.out trivial; rwa [q2, Bool.and_false, if_neg (by simp), List.append_nil] at this : (v.data.toList.take (k + 1)).filter seenB = (v.data.toList.take k).filter seenB))
          clear z2 HST
          go_wp2_with fail
          go_roundw
          case rel => exact ⟨k + 1, rfl, by omega, by rw [HE.out trivial]; exact HX⟩
          case measure => simp [RowKit.intOf]; omega
        · have q2 : ((c.toNat : Int) != 127) = true := bne_iff_ne.2 z2
          have HE := hid (fun (_ : True) => (by have := HST.out trivial; rwa [q2, decide_eq_true z1, Bool.and_self, if_pos rfl] at this : (v.data.toList.take (k + 1)).filter seenB = (v.data.toList.take k).filter seenB ++ [c]))
          clear z2 HST
          go_wp2_with fail
          refine (Tryd.Builder_WriteByte_k w.heap.size w.heap.size (Lib.byteCells ((v.data.toList.take k).filter seenB)) (c.toNat : Int) _ HX.out.1 (by rw [Lib.byteCells_length]; have := HLN.out; omega) (by have := HX.out.2.2; omega)).mono ?_
          rintro e w2 ⟨rfl, g1, g2, g3⟩
          have HZ2 : Hid (Lib.IsBuilderF 59 5 w.heap.size w.heap.size (Lib.byteCells ((v.data.toList.take (k + 1)).filter seenB)) w2 ∧ Below w.heap.size w w2 ∧ w.heap.size < w2.heap.size) :=
            ⟨by rw [HE.out trivial, Lib.byteCells_append]; exact Or.inr g1, HX.out.2.1.trans g2, by have := g2.size; have := HX.out.2.2; omega⟩
          clear g1 g2 g3 HX HE HLN
          go_wp2_with fail
          go_roundw
          case rel => exact ⟨k + 1, rfl, by omega, HZ2⟩
          case measure => simp [RowKit.intOf]; omega
      · have HE := hid (fun (_ : True) => (by have := HST.out trivial; rwa [decide_eq_false z1, Bool.false_and, if_neg (by simp), List.append_nil] at this : (v.data.toList.take (k + 1)).filter seenB = (v.data.toList.take k).filter seenB))
        clear HST
        go_wp2_with fail
        go_roundw
        case rel => exact ⟨k + 1, rfl, by omega, by rw [HE.out trivial]; exact HX⟩
        case measure => simp [RowKit.intOf]; omega
    · have hall : (v.data.toList.take k).filter seenB = v.data.toList.filter seenB := by rw [List.take_of_length_le (by rw [← HZ.out]; omega)]
      have HX2 := HX.out
      rw [hall] at HX2
      obtain ⟨F, hF⟩ : ∃ F, v.data.toList.filter seenB = F := ⟨_, rfl⟩
      have hFl : F.length ≤ 1000000000 := by rw [← hF]; exact Nat.le_trans (List.length_filter_le _ _) (by rw [← HZ.out]; omega)
      have hst := strip_trim v.data.toList
      rw [hF] at HX2 hst
      have hrw : bs (stripL v.data.toList) = bs (Lib.trimB F 32) := by rw [hst]
      have HRW := hid (fun (_ : True) => hrw)
      have HY := hid HX2
      have htr := fun W => Tryd.strings_Trim_one (bs F) 32 (by decide) W (by rw [bs_size]; omega)
      rw [bs_data] at htr
      unfold bs at htr
      have HTR := hid htr
      clear HX HX2 hall hF hst hrw HZ htr H0
      go_wp2_with fail
      refine (Tryd.Builder_String_any_k w.heap.size w.heap.size F _ HY.out.1 (by have := HY.out.2.2; omega)).mono ?_
      rintro e w2 ⟨rfl, _, g2, _⟩
      go_wp2_with fail
      refine (HTR.out _).mono ?_
      rintro e w3 ⟨rfl, h3⟩
      have hb3 : Below w.heap.size w w3 := by
        have := HY.out.2.1.trans g2
        rcases h3 with h3 | h3 <;> rw [h3]
        · exact this
        · exact this.drew
      clear g2 h3
      go_wp2_with fail
      go_ret
      exact ⟨by rw [HRW.out trivial]; rfl, hb3⟩
/-- the scheme of a link in lower case, if it has one -/
def schemeP (L : List UInt8) : List UInt8 × Bool := if L[markN L]? = some 58 then ((L.take (markN L)).map lowC, true) else ([], false)
theorem link_eq (schemes : List (List UInt8)) (v : List UInt8) : linkL schemes v = if (stripL v)[markN (stripL v)]? = some 58 ∧ schemes.contains (((stripL v).take (markN (stripL v))).map lowC) = false then ([], false) else (stripL v, true) := rfl
theorem link_scheme (schemes : List (List UInt8)) (v : List UInt8) : linkL schemes v = if (schemeP (stripL v)).2 = true ∧ schemes.contains (schemeP (stripL v)).1 = false then ([], false) else (stripL v, true) := by
  rw [link_eq]
  unfold schemeP
  by_cases h : (stripL v)[markN (stripL v)]? = some 58
  · rw [if_pos h]
    simp only [h, true_and]
  · rw [if_neg h, if_neg (fun h2 => h h2.1), if_neg (fun h2 => by simp at h2)]

set_option maxHeartbeats 2000000 in
set_option maxRecDepth 100000 in
theorem schemeOf_any (s : ByteArray) (w : World) (hs : s.size ≤ 10000000) :
    Calls Tryd.prog 149 #[.string s] w fun e w' => e = .returned (.tuple #[.string (bs (schemeP s.data.toList).1), .bool (schemeP s.data.toList).2]) ∧ Below w.heap.size w w' := by
  have hz := size_eq s
  have hix := idxAny_any s w (by omega)
  have hml := markN_le s.data.toList
  rw [← hz] at hml
  unfold marksB at hix
  unfold markIx at hix
  rw [← hz] at hix
  unfold schemeP
  by_cases hlt : markN s.data.toList < s.size
  · rw [if_pos hlt] at hix
    obtain ⟨n, hn⟩ : ∃ n, markN s.data.toList = n := ⟨_, rfl⟩
    rw [hn] at hix hlt ⊢
    obtain ⟨c, hc⟩ : ∃ c, s[n]'hlt = c := ⟨_, rfl⟩
    have hcl := getElem_list hlt hc
    have q0 : ¬ (n : Int) < 0 := by omega
    rw [hcl]
    have HIX := hid hix
    by_cases h58 : c = 58
    · subst h58
      rw [if_pos rfl]
      have q2 : (((58 : UInt8).toNat : Int) != 58) = false := rfl
      have hlo := fun W => lower_any (s.extract 0 n) W (by rw [size_eq, extract_list]; simp; omega)
      rw [show (s.extract 0 n).data.toList = s.data.toList.take n from by rw [extract_list]; simp] at hlo
      obtain ⟨X, hX⟩ : ∃ X, bs ((s.data.toList.take n).map lowC) = X := ⟨_, rfl⟩
      simp only
      rw [hX]
      have HLO : Hid (∀ W, Calls Tryd.prog 160 #[.string (s.extract 0 n)] W fun e w' => e = .returned (.string X) ∧ Below W.heap.size W w') := by rw [← hX]; exact hlo
      clear hix hcl hlo hml hn hz hX
      go_enter Tryd.func149, Tryd.ntmps149
      go_wp2_with (first | (go_at_call 159; refine HIX.out.mono ?_; rintro e w1 ⟨rfl, b1⟩) | (go_at_call 160; refine (HLO.out _).mono ?_; rintro e w2 ⟨rfl, b2⟩))
      go_ret2
      exact ⟨rfl, b1.trans (b2.mono b1.size)⟩
    · rw [if_neg (by simpa using h58)]
      have hne : c.toNat ≠ 58 := fun e => h58 (UInt8.toNat_inj.1 (e.trans rfl))
      have q2 : ((c.toNat : Int) != 58) = true := bne_iff_ne.2 (by omega)
      clear hix hcl hml hn hz h58 hne
      go_enter Tryd.func149, Tryd.ntmps149
      go_wp2_with (go_at_call 159; refine HIX.out.mono ?_; rintro e w1 ⟨rfl, b1⟩)
      go_ret2
      exact ⟨rfl, b1⟩
  · rw [if_neg hlt] at hix
    rw [if_neg (fun h => hlt (by have := (List.getElem?_eq_some_iff.1 h).1; rw [hz]; exact this))]
    have HIX := hid hix
    clear hix hml hz
    go_enter Tryd.func149, Tryd.ntmps149
    go_wp2_with (go_at_call 159; refine HIX.out.mono ?_; rintro e w1 ⟨rfl, b1⟩)
    go_ret2
    exact ⟨rfl, b1⟩

set_option maxHeartbeats 2000000 in
set_option maxRecDepth 100000 in
theorem cleanURL_any (sv : Value) (schemes : List (List UInt8)) (v : ByteArray) (w : World) (h : Words w sv schemes) (hv : v.size ≤ 10000000) :
    Calls Tryd.prog 140 #[sv, .string v] w fun e w' => e = .returned (.tuple #[.string (bs (linkL schemes v.data.toList).1), .bool (linkL schemes v.data.toList).2]) ∧ Below w.heap.size w w' := by
  have hsl : (stripL v.data.toList).length ≤ v.size := by
    rw [← strip_trim, size_eq]
    unfold Lib.trimB Lib.trimLeftB Lib.trimRightB
    have h1 : ∀ (p : UInt8 → Bool) (l : List UInt8), (l.dropWhile p).length ≤ l.length := fun p l => (List.dropWhile_suffix p).length_le
    have h2 := h1 (fun c => c == 32) ((List.filter seenB v.data.toList).reverse.dropWhile fun c => c == 32).reverse
    have h3 := h1 (fun c => c == 32) (List.filter seenB v.data.toList).reverse
    have h4 := List.length_filter_le seenB v.data.toList
    rw [List.length_reverse] at h2
    rw [List.length_reverse] at h3
    omega
  have hst := strip_any v w (by omega)
  have hsc := fun W => schemeOf_any (bs (stripL v.data.toList)) W (by rw [bs_size]; omega)
  rw [bs_data] at hsc
  rw [link_scheme]
  generalize stripL v.data.toList = L at hsl hst hsc ⊢
  obtain ⟨S, hS⟩ : ∃ S, bs L = S := ⟨_, rfl⟩
  have hz : L.length ≤ 10000000 := by omega
  obtain ⟨q, hq⟩ : ∃ q, schemeP L = q := ⟨_, rfl⟩
  obtain ⟨sch, fnd⟩ := q
  rw [hq] at hsc ⊢
  rw [hS] at hst hsc
  simp only at hsc ⊢
  obtain ⟨X, hX⟩ : ∃ X, bs sch = X := ⟨_, rfl⟩
  rw [hX] at hsc
  have hct := fun W hW => slContains_any sv schemes X W hW
  rw [← hX, bs_toList, hX] at hct
  have HW := hid h
  obtain ⟨sp, sc, rfl, _⟩ := h.len
  have HST := hid hst
  have HSC := hid hsc
  clear hst hsc hsl hq h hX
  cases fnd
  · rw [if_neg (fun h => by simp at h), hS]
    clear hct hS
    go_enter Tryd.func140, Tryd.ntmps140
    go_wp2_with (first | (go_at_call 148; refine HST.out.mono ?_; rintro e w1 ⟨rfl, b1⟩) | (go_at_call 149; refine (HSC.out _).mono ?_; rintro e w2 ⟨rfl, b2⟩))
    go_ret2
    exact ⟨rfl, b1.trans (b2.mono b1.size)⟩
  · obtain ⟨B, hB⟩ : ∃ B, schemes.contains sch = B := ⟨_, rfl⟩
    rw [hB] at hct ⊢
    have HCT := hid hct
    clear hct hB
    cases B
    · rw [if_pos ⟨rfl, rfl⟩]
      clear hS
      go_enter Tryd.func140, Tryd.ntmps140
      go_wp2_with (first | (go_at_call 148; refine HST.out.mono ?_; rintro e w1 ⟨rfl, b1⟩) | (go_at_call 149; refine (HSC.out _).mono ?_; rintro e w2 ⟨rfl, b2⟩; have HB := hid (b1.trans (b2.mono b1.size)); clear b1 b2) | (go_at_call 102; refine (HCT.out _ (HW.out.below HB.out)).mono ?_; rintro e w3 ⟨rfl, rfl⟩))
      go_ret2
      exact ⟨rfl, HB.out⟩
    · rw [if_neg (fun h => by simp at h), hS]
      clear hS
      go_enter Tryd.func140, Tryd.ntmps140
      go_wp2_with (first | (go_at_call 148; refine HST.out.mono ?_; rintro e w1 ⟨rfl, b1⟩) | (go_at_call 149; refine (HSC.out _).mono ?_; rintro e w2 ⟨rfl, b2⟩; have HB := hid (b1.trans (b2.mono b1.size)); clear b1 b2) | (go_at_call 102; refine (HCT.out _ (HW.out.below HB.out)).mono ?_; rintro e w3 ⟨rfl, rfl⟩))
      go_ret2
      exact ⟨rfl, HB.out⟩
end Go.Proofs.YtkcgmimldjeaiaaDoor

/-
  Package written: the Writer: its walks.
-/
namespace Go.Proofs.YtkcgmimldjeaiaaDoor
open Go.RowKit Go.Lib Own

theorem ret_txt {a b : ByteArray} (h : a = b) : Ending.returned (.string a) = .returned (.string b) := by rw [h]
theorem eatsNl_any (x : ByteArray) (w : World) : Calls Tryd.prog 113 #[.string x] w fun e w' => e = .returned (.bool (eatsL x.toList)) ∧ w' = w := by
  unfold eatsL
  by_cases h1 : (x.toList == [112, 114, 101]) = true
  · rw [h1, Bool.true_or]
    go_enter Tryd.func113, Tryd.ntmps113
    go_wp2
    go_ret
    exact ⟨rfl, rfl⟩
  · rw [Bool.not_eq_true] at h1
    rw [h1, Bool.false_or]
    obtain ⟨R, hR⟩ : ∃ R, (x.toList == [116, 101, 120, 116, 97, 114, 101, 97]) = R := ⟨_, rfl⟩
    rw [hR]
    go_enter Tryd.func113, Tryd.ntmps113
    go_wp2
    go_ret
    exact ⟨rfl, rfl⟩

/-- a text as it is written, and whether a newline is still to be guarded -/
def textW (eat : Bool) (t : List UInt8) : Bool × List UInt8 :=
  if t = [] then (eat, []) else (false, (if eat = true ∧ t.head? = some 10 then [10] else []) ++ escL false t)
def takeW (eat : Bool) (e : EvP) : Bool × List UInt8 :=
  if e.k = 1 then (eatsL e.n, openL e.n e.a) else if e.k = 2 then (false, etagL e.n) else if e.k = 3 then textW eat e.t else (eat, [])
def writeW (eat : Bool) : List EvP → List UInt8
  | [] => []
  | e :: r => (takeW eat e).2 ++ writeW (takeW eat e).1 r

theorem grown_below {w w' : World} (h : Below w.heap.size w w') (row : Option Nat) : w.grownBy w' row := ⟨h.os, h.tape, h.output, h.size, fun k hk _ => h.block k hk⟩
theorem just_grown {w w' : World} {b : Nat} {cs : Array Value} {T : TypeId} (h : Just w w' b cs T) : w.grownBy w' (some b) := ⟨h.os, h.tape, h.output, by rw [h.size]; exact Nat.le_refl _, fun k _ hk => h.other k (fun e => hk (by rw [e]))⟩
theorem cell_grown {w w' : World} {b o k : Nat} {v : Value} (h : w.cell? ⟨b, o, none⟩ = some v) (hg : w.grownBy w' (some k)) (hb : b ≠ k) : w'.cell? ⟨b, o, none⟩ = some v := by
  have := hg.block b (cell_block h) (fun e => hb (Option.some.inj e))
  unfold World.cell? at h ⊢
  rw [this]
  exact h

/-- the flag of a Writer that lies at cell o of block b -/
structure EatAt (w : World) (b o : Nat) (cs : Array Value) (T : TypeId) (eat : Bool) : Prop where
  at_ : w.heap[b]? = some (.cells cs T (0, 0))
  c : cs[o]? = some (.bool eat)

set_option maxHeartbeats 2000000 in
set_option maxRecDepth 100000 in
theorem wText_any (b o : Nat) (cs : Array Value) (T : TypeId) (eat : Bool) (t : ByteArray) (m : Int) (w : World) (h : EatAt w b o cs T eat) (ht : t.size ≤ 100000000) (hm : w.cell? ⟨10, 0, none⟩ = some (.int .i64 m)) (hmb : 10 ≠ b) :
    Calls Tryd.prog 115 #[.pointer (some ⟨b, o, none⟩), .string t] w fun e w' => e = .returned (.string (bs (textW eat t.data.toList).2)) ∧ w'.heap[b]? = some (.cells (cs.setIfInBounds o (.bool (textW eat t.data.toList).1)) T (0, 0)) ∧ w.grownBy w' (some b) := by
  have hc := cell_at h.at_ h.c
  have hz := size_eq t
  by_cases h0 : t.data.toList = []
  · have q : (t.toList == []) = true := by rw [Lib.toList_data, h0]; rfl
    have hcs : cs.setIfInBounds o (.bool eat) = cs := set_same h.c
    unfold textW
    rw [if_pos h0]
    simp only
    rw [hcs]
    clear hz hm ht
    go_enter Tryd.func115, Tryd.ntmps115
    go_wp2
    go_ret
    exact ⟨rfl, h.at_, World.grownBy.refl _ _⟩
  · have q : (t.toList == []) = false := by rw [Lib.toList_data]; exact beq_eq_false_iff_ne.2 h0
    have hp : 0 < t.size := by rw [hz]; exact List.length_pos_iff.2 h0
    obtain ⟨c, hcc⟩ : ∃ c, t[0]'hp = c := ⟨_, rfl⟩
    have hl := getElem_list hp hcc
    have hhd : t.data.toList.head? = some c := by rw [List.head?_eq_getElem?]; exact hl
    have j1 := just_set (j := o) h.at_ (.bool false)
    have hm1 := cell_grown hm (just_grown j1) hmb
    have ct := wrText_any t m _ ht hm1
    have e1 : (textW eat t.data.toList).1 = false := by unfold textW; rw [if_neg h0]
    have e2 : (textW eat t.data.toList).2 = (if eat = true ∧ c = 10 then [10] else []) ++ escL false t.data.toList := by
      unfold textW
      rw [if_neg h0, hhd]
      simp only [Option.some.injEq]
    rw [e1, e2]
    obtain ⟨E, hE⟩ : ∃ E, escL false t.data.toList = E := ⟨_, rfl⟩
    have hEl : (bs E).size ≤ 1000000000 := by rw [bs_size, ← hE]; have := esc_len false _ t.data.toList (Nat.le_refl _); omega
    rw [hE] at ct ⊢
    obtain ⟨S, hS⟩ : ∃ S, bs E = S := ⟨_, rfl⟩
    have HS := hid (fun (_ : True) => hS)
    rw [hS] at ct hEl
    have CT := hid ct
    have HJ := hid j1
    have hfz := free_at h.at_ o
    clear ct j1 hm1 hm hz hl hhd e1 e2 hE hS h h0 ht
    have fin : ∀ W3, Below (w.setCell ⟨b, o, none⟩ (.bool false)).heap.size (w.setCell ⟨b, o, none⟩ (.bool false)) W3 → W3.heap[b]? = some (.cells (cs.setIfInBounds o (.bool false)) T (0, 0)) ∧ w.grownBy W3 (some b) := fun W3 hb3 =>
      ⟨(hb3.block b (block_lt HJ.out.at_)).trans HJ.out.at_, (just_grown HJ.out).trans (grown_below hb3 _)⟩
    have FIN := hid fin
    clear fin
    by_cases hg : eat = true ∧ c = 10
    · rw [if_pos hg]
      obtain ⟨rfl, rfl⟩ := hg
      obtain ⟨R, hR⟩ : ∃ R, bs ([10] ++ E) = R := ⟨_, rfl⟩
      have hR2 : (⟨#[10]⟩ : ByteArray) ++ S = R := by
        rw [← hR, ← bs_cat, HS.out trivial]
        rfl
      rw [hR]
      have HR := hid (fun (_ : True) => hR2)
      clear hR hR2 HS
      go_enter Tryd.func115, Tryd.ntmps115
      go_wp2_with (go_at_call 131; refine CT.out.mono ?_; rintro e W3 ⟨rfl, b3⟩)
      go_ret
      exact ⟨ret_txt (HR.out trivial), FIN.out W3 b3⟩
    · rw [if_neg hg]
      obtain ⟨R, hR⟩ : ∃ R, bs ([] ++ E) = R := ⟨_, rfl⟩
      have hR2 : (⟨#[]⟩ : ByteArray) ++ S = R := by
        rw [← hR, ← bs_cat, HS.out trivial]
        rfl
      rw [hR]
      have HR := hid (fun (_ : True) => hR2)
      clear hR hR2 HS
      cases eat
      · clear hg
        go_enter Tryd.func115, Tryd.ntmps115
        go_wp2_with (go_at_call 131; refine CT.out.mono ?_; rintro e W3 ⟨rfl, b3⟩)
        go_ret
        exact ⟨ret_txt (HR.out trivial), FIN.out W3 b3⟩
      · have hc10 : c ≠ 10 := fun e => hg ⟨rfl, e⟩
        have hn10 : c.toNat ≠ 10 := fun e => hc10 (UInt8.toNat_inj.1 (e.trans rfl))
        have q11 : ((c.toNat : Int) == 10) = false := beq_eq_false_iff_ne.2 (by omega)
        clear hg hc10 hn10
        go_enter Tryd.func115, Tryd.ntmps115
        go_wp2_with (go_at_call 131; refine CT.out.mono ?_; rintro e W3 ⟨rfl, b3⟩)
        go_ret
        exact ⟨ret_txt (HR.out trivial), FIN.out W3 b3⟩

set_option maxHeartbeats 4000000 in
set_option maxRecDepth 100000 in
theorem wTake_any (b o : Nat) (cs : Array Value) (T : TypeId) (eat : Bool) (e : EvP) (u : Value) (m : Int) (w0 w : World) (h : EatAt w b o cs T eat) (hu0 : AttrsR w0 u e.a) (hb0 : Below w0.heap.size w0 w) (hlo : w0.heap.size ≤ b) (hs : e.n.length + e.t.length + bulkA e.a ≤ 100000000)
    (hm0 : w0.cell? ⟨10, 0, none⟩ = some (.int .i64 m)) :
    Calls Tryd.prog 77 #[.pointer (some ⟨b, o, none⟩), .agg (evC e u)] w fun r w' => r = .returned (.string (bs (takeW eat e).2)) ∧ w'.heap[b]? = some (.cells (cs.setIfInBounds o (.bool (takeW eat e).1)) T (0, 0)) ∧ w.grownBy w' (some b) := by
  obtain ⟨p, c, rfl⟩ := hu0.len
  have hmb : 10 ≠ b := by have := cell_block hm0; omega
  have hm := cell_low hm0 hb0 (cell_block hm0)
  have hu := hu0.below hb0
  have hbs := block_lt h.at_
  have hB := (Below.refl w.heap.size w).alloc (Nat.le_refl _) (.cells (evC e (.slice p e.a.length c)) 39)
  have hn := heap_alloc_new w (.cells (evC e (.slice p e.a.length c)) 39)
  obtain ⟨W1, hW1⟩ : ∃ W1, w.alloc (.cells (evC e (.slice p e.a.length c)) 39) = W1 := ⟨_, rfl⟩
  have hsz1 : W1.heap.size = w.heap.size + 1 := by rw [← hW1]; simp
  rw [hW1] at hB hn
  have h1 : EatAt W1 b o cs T eat := ⟨(hB.block b hbs).trans h.at_, h.c⟩
  have hm1 := cell_low hm hB (cell_block hm)
  have hu1 := hu.below hB
  obtain ⟨c0, c1, c2, c3⟩ := evC_at hn
  have hg1 := grown_below hB (some b)
  have hbe := cell_at h1.at_ h1.c
  have hfz := free_at h1.at_ o
  unfold evC at hW1 ⊢
  have HG := hid hg1
  have HB1 := hid (hb0.trans (hB.mono hb0.size))
  clear hB hg1 hu hm h
  have hj : ∀ v, Hid (Just W1 (W1.setCell ⟨b, o, none⟩ (.bool v)) b (cs.setIfInBounds o (.bool v)) T) := fun v => just_set (j := o) h1.at_ (.bool v)
  have fin : ∀ v W3, Below (W1.setCell ⟨b, o, none⟩ (.bool v)).heap.size (W1.setCell ⟨b, o, none⟩ (.bool v)) W3 → W3.heap[b]? = some (.cells (cs.setIfInBounds o (.bool v)) T (0, 0)) ∧ w.grownBy W3 (some b) := fun v W3 hb3 =>
    ⟨(hb3.block b (block_lt (hj v).out.at_)).trans (hj v).out.at_, (HG.out.trans (just_grown (hj v).out)).trans (grown_below hb3 _)⟩
  have FIN := hid fin
  have hm2 : ∀ v, (W1.setCell ⟨b, o, none⟩ (.bool v)).cell? ⟨10, 0, none⟩ = some (.int .i64 m) := fun v => cell_grown hm1 (just_grown (hj v).out) hmb
  clear fin
  by_cases k1 : e.k = 1
  · have e1 : takeW eat e = (eatsL e.n, openL e.n e.a) := by unfold takeW; rw [if_pos k1]
    rw [e1, k1]
    simp only
    rw [k1] at c0 hW1
    have hst := startTag_any (bs e.n) (.slice p e.a.length c) e.a m (W1.setCell ⟨b, o, none⟩ (.bool (eatsL e.n))) (by rw [bs_size]; omega) (hu0.below (HB1.out.setCell hlo _)) (by omega) (hm2 _)
    have het := fun W => eatsNl_any (bs e.n) W
    rw [bs_data] at hst
    rw [bs_toList] at het
    have fin2 := FIN.out (eatsL e.n)
    obtain ⟨v, hv⟩ : ∃ v, eatsL e.n = v := ⟨_, rfl⟩
    rw [hv] at het hst fin2 ⊢
    have HST := hid hst
    have HET := hid het
    have HF := hid fin2
    clear hst het fin2 hv hm2 hj FIN e1 k1 hs hn
    go_enter Tryd.func77, Tryd.ntmps77
    go_wp2_with (go_at_call 113; refine (HET.out _).mono ?_; rintro r W2 ⟨rfl, rfl⟩)
    refine HST.out.mono ?_
    rintro r W3 ⟨rfl, b3⟩
    go_wp2_with fail
    go_ret
    exact ⟨rfl, HF.out _ b3⟩
  · have q1 : (e.k == 1) = false := beq_eq_false_iff_ne.2 k1
    by_cases k2 : e.k = 2
    · have e1 : takeW eat e = (false, etagL e.n) := by unfold takeW; rw [if_neg k1, if_pos k2]
      rw [e1, k2]
      simp only
      rw [k2] at c0 hW1 q1
      have hen := fun W => wrEnd_any (bs e.n) W (by rw [bs_size]; omega)
      rw [bs_data] at hen
      have HEN := hid hen
      have HF := hid (FIN.out false)
      clear hen FIN hm2 hj e1 k1 k2 hs hn
      go_enter Tryd.func77, Tryd.ntmps77
      go_wp2_with (go_at_call 114; refine (HEN.out _).mono ?_; rintro r W3 ⟨rfl, rfl⟩)
      go_ret
      exact ⟨rfl, HF.out _ (Below.refl _ _)⟩
    · have q2 : (e.k == 2) = false := beq_eq_false_iff_ne.2 k2
      by_cases k3 : e.k = 3
      · have e1 : takeW eat e = textW eat e.t := by unfold takeW; rw [if_neg k1, if_neg k2, if_pos k3]
        rw [e1, k3]
        rw [k3] at c0 hW1 q1 q2
        have htx := wText_any b o cs T eat (bs e.t) m W1 h1 (by rw [bs_size]; omega) hm1 hmb
        rw [bs_data] at htx
        generalize textW eat e.t = tw at htx ⊢
        obtain ⟨t1, t2⟩ := tw
        simp only at htx ⊢
        have HTX := hid htx
        clear htx FIN hm2 hj e1 k1 k2 k3 hs hn
        go_enter Tryd.func77, Tryd.ntmps77
        go_wp2_with (go_at_call 115; refine HTX.out.mono ?_; rintro r W3 ⟨rfl, a3, g3⟩)
        go_ret
        exact ⟨rfl, a3, HG.out.trans g3⟩
      · have q3 : (e.k == 3) = false := beq_eq_false_iff_ne.2 k3
        have e1 : takeW eat e = (eat, []) := by unfold takeW; rw [if_neg k1, if_neg k2, if_neg k3]
        have hcs : cs.setIfInBounds o (.bool eat) = cs := set_same h1.c
        rw [e1]
        simp only
        rw [hcs]
        have h1a := hid h1.at_
        clear FIN hm2 hj e1 k1 k2 k3 hs hn hcs
        go_enter Tryd.func77, Tryd.ntmps77
        go_wp2
        go_ret
        exact ⟨rfl, h1a.out, HG.out⟩
end Go.Proofs.YtkcgmimldjeaiaaDoor

/-
  policy.Check: names and drops: their walks.
-/
namespace Go.Proofs.YtkcgmimldjeaiaaDoor
open Go.RowKit Go.Lib Own

set_option maxHeartbeats 2000000 in
set_option maxRecDepth 100000 in
theorem ruleNames_any (vr : Value) (rs : List RuleP) (w : World) (h : RulesR w vr rs) (hn : rs.length ≤ 2000000) :
    Calls Tryd.prog 61 #[vr] w fun e w' => ∃ v, e = .returned v ∧ Words w' v (rs.map Prod.fst) ∧ Below w.heap.size w w' := by
  obtain ⟨i0, hi, hz0, hz1, hz2⟩ := info_parts info_str
  obtain ⟨rp, rc, rfl, hr1, hr2, hr3⟩ := h
  have HR := hid hr3
  have H0 : Hid (Below w.heap.size w w ∧ w.ownsRow w.heap.size 9 1 (.slice none 0 0) 0 (((rs.take 0).map Prod.fst).map fun s => .string (bs s))) := ⟨Below.refl _ _, World.ownsRow_nil _ _ _ _⟩
  clear hr3
  go_enter Tryd.func61, Tryd.ntmps61
  go_wp2_with fail
  go_loopw [3, 5, 8] (fun nv _ iv wr => ∃ k : Nat, iv = .int .i64 k ∧ k ≤ rs.length ∧ Hid (Below w.heap.size w wr ∧ wr.ownsRow w.heap.size 9 1 nv k (((rs.take k).map Prod.fst).map fun s => .string (bs s)))) (fun _ _ iv _ => rs.length - (RowKit.intOf iv).toNat)
  case atStart => exact ⟨0, rfl, Nat.zero_le _, H0⟩
  case round =>
    obtain ⟨k, rfl, hk, HX⟩ := hrel
    obtain ⟨np, nc, rfl⟩ := row_shape HX.out.2
    by_cases hkl : k < rs.length
    · obtain ⟨r, hr⟩ : ∃ r, rs[k]? = some r := ⟨_, List.getElem?_eq_getElem hkl⟩
      obtain ⟨b, o, u, rfl, hc1, hc3, hwu⟩ := HR.out k r hr
      have hc2 := cell_low hc1 HX.out.1 (cell_block hc1)
      replace hc3 := cell_low hc3 HX.out.1 (cell_block hc3)
      obtain ⟨up, uc, rfl, _⟩ := hwu.len
      obtain ⟨S, hS⟩ : ∃ S, bs r.1 = S := ⟨_, rfl⟩
      rw [hS] at hc2
      have hown := HX.out.2
      have hbs := HX.out.1.size
      have hst : ((rs.take (k + 1)).map Prod.fst).map (fun s => Value.string (bs s)) = ((rs.take k).map Prod.fst).map (fun s => Value.string (bs s)) ++ [.string S] := by
        rw [List.take_add_one, hr, ← hS]
        simp
      obtain ⟨LK, hLK⟩ : ∃ LK, ((rs.take k).map Prod.fst).map (fun s => Value.string (bs s)) = LK := ⟨_, rfl⟩
      rw [hLK] at hst hown
      have HST := hid (fun (_ : True) => hst)
      clear hr hc1 hS hst H0 hLK hwu
      have hcn : ∀ j u, [Value.string S][j]? = some u → ((wr.alloc (.cells #[.string S, .slice up r.2.length uc] 73)).alloc (.cells #[.string S] 9)).cell? ((⟨wr.heap.size + 1, 0, none⟩ : Addr).add j) = some u := by
        have := cells_newV [.string S] 9 (wr.alloc (.cells #[.string S, .slice up r.2.length uc] 73))
        simpa using this
      have HCN := hid hcn
      clear hcn
      go_wp2_with (at_builtin; refine wpList_append_own _ rfl (.tmp 12) (.tmp 15) 23 rfl w.heap.size 9 i0 (.string ⟨#[]⟩) 1 16 Tryd.underlying23 hi hz0 hz1 hz2 rfl (by decide) _ _ _ rfl ((hown.alloc _).alloc _) ⟨_, 0, none⟩ 1 1 [.string S] rfl rfl HCN.out (by simp [Value.oneCell']) (by unfold maxLen; omega) (by omega) (by simp; omega) ?_)
      intro v' w2 hown2 hgrow2 _
      have hbel2 : Below w.heap.size w w2 := ((HX.out.1.alloc hbs _).alloc (by simp; omega) _).grown hgrow2 (by simp; omega) (fun k hk => (hown.lt k hk).1)
      rw [← HST.out trivial] at hown2
      have HZ := hid (And.intro hbel2 hown2)
      clear hbel2 hown2 hgrow2 hown HX hc2 hc3 HCN
      go_wp2_with fail
      go_roundw
      case rel => first | exact ⟨k + 1, rfl, by omega, HZ⟩ | ((repeat apply Exists.intro); exact ⟨⟨k + 1, rfl, by omega, HZ⟩, rfl⟩)
      case measure => simp [RowKit.intOf]; omega
    · obtain rfl : k = rs.length := by omega
      have hw : Words wr (.slice np rs.length nc) (rs.map Prod.fst) := by
        have := HX.out.2
        rw [List.take_length] at this
        exact Words.row (by rw [List.length_map]; exact this)
      have HW := hid (And.intro hw HX.out.1)
      clear hw HX H0
      go_wp2_with fail
      go_ret
      exact ⟨_, rfl, HW.out.1, HW.out.2⟩

set_option maxHeartbeats 2000000 in
set_option maxRecDepth 100000 in
theorem hasBadDrop_any (vd vn : Value) (ds names : List (List UInt8)) (w : World) (h : Words w vd ds) (hn : Words w vn names) (hs : ∀ s ∈ ds, s.length ≤ 1000000000) (hl : ds.length ≤ 2000000) :
    Calls Tryd.prog 69 #[vd, vn] w fun e w' => e = .returned (.bool ((decide (64 < ds.length) || twiceL ds) || ds.any (wrongDropP names))) ∧ Below w.heap.size w w' := by
  have hb := (Below.refl w.heap.size w).alloc (Nat.le_refl _) (.cells #[vn] 23)
  have hw := heap_alloc_new w (.cells #[vn] 23)
  have htw := hasTwice_any vd ds _ (h.below hb)
  have hcf := slContainsFunc_any 106 #[.pointer (some ⟨w.heap.size, 0, none⟩)] (enters_of Tryd.func106 (by kernel_rfl) rfl) _ vd ds _ (h.below hb) (predDrop _ ds w.heap.size vn names hs (cell_at hw rfl) (hn.below hb))
  obtain ⟨dp, dc, rfl, _⟩ := h.len
  obtain ⟨np, nc, rfl, _⟩ := hn.len
  generalize twiceL ds = b1 at htw ⊢
  generalize ds.any (wrongDropP names) = b2 at hcf ⊢
  have HT := hid htw
  have HC := hid hcf
  have HB := hid hb
  have hmf : ∀ (fn : Fn) (first cap : Array Value) (w : World), (Instr.makeFunc fn first cap).run Tryd.prog w = .ok (.func fn first cap) w := fun _ _ _ _ => rfl
  clear htw hcf h hn hw hb
  by_cases h64 : 64 < ds.length
  · rw [decide_eq_true h64]
    have z : (ds.length : Int) > 64 := by omega
    go_enter Tryd.func69, Tryd.ntmps69
    go_wp2_with fail
    go_ret
    exact ⟨rfl, HB.out⟩
  · rw [decide_eq_false h64]
    have z : ¬ ((ds.length : Int) > 64) := by omega
    cases b1
    · go_enter Tryd.func69, Tryd.ntmps69
      go_wp2_with (first | (go_at_call 64; refine HT.out.mono ?_; rintro e w1 ⟨rfl, rfl⟩) | (go_at_call 62; refine HC.out.mono ?_; rintro e w1 ⟨rfl, b1⟩))
      go_ret
      exact ⟨rfl, HB.out.trans (b1.mono HB.out.size)⟩
    · go_enter Tryd.func69, Tryd.ntmps69
      go_wp2_with (go_at_call 64; refine HT.out.mono ?_; rintro e w1 ⟨rfl, rfl⟩)
      go_ret
      exact ⟨rfl, HB.out⟩
end Go.Proofs.YtkcgmimldjeaiaaDoor

/-
  The reader's readTag: its walk.
-/
namespace Go.Proofs.YtkcgmimldjeaiaaDoor
open Go.RowKit Go.Lib Own

theorem pass_le (L : List UInt8) (s : Nat) : (passL s L).1 ≤ L.length := by
  rcases pass_append L [] s with ⟨_, h, _⟩ | ⟨_, h, _⟩
  · exact h
  · omega
theorem pass_take (L : List UInt8) (s : Nat) : (passL s (L.take (passL s L).1)).1 = (L.take (passL s L).1).length := by
  have hle := pass_le L s
  have hlen : (L.take (passL s L).1).length = (passL s L).1 := by rw [List.length_take]; omega
  rcases pass_append (L.take (passL s L).1) (L.drop (passL s L).1) s with ⟨_, h1, h2⟩ | ⟨_, h1, _⟩
  · rw [List.take_append_drop] at h2
    rw [← h2, hlen]
  · exact h1
end Go.Proofs.YtkcgmimldjeaiaaDoor

/-
  The reader's readReference: its walk.
-/
namespace Go.Proofs.YtkcgmimldjeaiaaDoor
open Go.RowKit Go.Lib Own

theorem let_C (c : UInt8) : isLetZ (c.toNat : Int) = letterC c := by
  have := u8_all (p := fun c => isLetZ (c.toNat : Int) == letterC c) (by decide +kernel) c
  exact beq_iff_eq.1 this
theorem dig_C (c : UInt8) : isDigZ (c.toNat : Int) = digD c := by
  have := u8_all (p := fun c => isDigZ (c.toNat : Int) == digD c) (by decide +kernel) c
  exact beq_iff_eq.1 this
/-- the run of a reference, from its byte k on -/
def RunAt (L : List UInt8) (k R : Nat) : Prop := k + (((L.drop k).take (32 - k)).takeWhile alnumC).length = R
theorem run_more' {L : List UInt8} {k R : Nat} {x : UInt8} (h : RunAt L k R) (hk : k < 32) (hx : L[k]? = some x) (ha : alnumC x = true) : RunAt L (k + 1) R := by
  unfold RunAt at h ⊢
  obtain ⟨h1, h2⟩ := List.getElem?_eq_some_iff.1 hx
  rw [List.drop_eq_getElem_cons h1, h2, show 32 - k = (32 - (k + 1)) + 1 by omega, List.take_succ_cons, List.takeWhile_cons, if_pos ha, List.length_cons] at h
  omega
theorem run_stop {L : List UInt8} {k R : Nat} (h : RunAt L k R) (hx : 32 ≤ k ∨ L.length ≤ k ∨ ∃ x, L[k]? = some x ∧ alnumC x = false) : k = R := by
  unfold RunAt at h
  rcases hx with hk | hk | ⟨x, hx, ha⟩
  · rw [show 32 - k = 0 by omega] at h
    simpa using h
  · rw [List.drop_of_length_le hk] at h
    simpa using h
  · obtain ⟨h1, h2⟩ := List.getElem?_eq_some_iff.1 hx
    by_cases hk : k < 32
    · rw [List.drop_eq_getElem_cons h1, h2, show 32 - k = (32 - (k + 1)) + 1 by omega, List.take_succ_cons, List.takeWhile_cons, if_neg (by rw [ha]; simp)] at h
      simpa using h
    · rw [show 32 - k = 0 by omega] at h
      simpa using h
theorem put_unit (E : List Ev) (P : List UInt8) (st : LS) (u : List UInt8) : putAll (E, P) (unitL2 st u) = (E, if st.eat = true ∧ u = [10] then P else P ++ u) := by
  unfold unitL2
  split <;> rfl
end Go.Proofs.YtkcgmimldjeaiaaDoor

/-
  The reader's readMarkup: its walk.
-/
namespace Go.Proofs.YtkcgmimldjeaiaaDoor
open Go.RowKit Go.Lib Own

theorem prefix_of (L X : List UInt8) : Lib.hasPrefix L X = decide (X <+: L) := by
  rw [Bool.eq_iff_iff, decide_eq_true_iff]
  exact List.isPrefixOf_iff_prefix

end Go.Proofs.YtkcgmimldjeaiaaDoor

/-
  The reader's skipComment: its walk.
-/
namespace Go.Proofs.YtkcgmimldjeaiaaDoor
open Go.RowKit Go.Lib Own

theorem suffix_of (L X : List UInt8) : Lib.hasSuffix L X = decide (X <:+ L) := by
  rw [Bool.eq_iff_iff, decide_eq_true_iff]
  exact List.isSuffixOf_iff_suffix
theorem dash_cases (L : List UInt8) : ([45, 45] <:+ L ∧ dashes L = 2) ∨ (¬ [45, 45] <:+ L ∧ [45] <:+ L ∧ dashes L = 1) ∨ (¬ [45, 45] <:+ L ∧ ¬ [45] <:+ L ∧ dashes L = 0) := by
  unfold dashes
  by_cases h : [45, 45] <:+ L
  · exact .inl ⟨h, by rw [if_pos h]⟩
  · by_cases h2 : [45] <:+ L
    · exact .inr (.inl ⟨h, h2, by rw [if_neg h, if_pos h2]⟩)
    · exact .inr (.inr ⟨h, h2, by rw [if_neg h, if_neg h2]⟩)
theorem dash_len (L : List UInt8) : dashes L ≤ L.length := by
  rcases dash_cases L with ⟨h, e⟩ | ⟨_, h, e⟩ | ⟨_, _, e⟩
  · rw [e]; exact h.length_le
  · rw [e]; exact h.length_le
  · rw [e]; exact Nat.zero_le _

end Go.Proofs.YtkcgmimldjeaiaaDoor

/-
  The reader's readData, readTextarea, skipRaw, step: their walks.
-/
namespace Go.Proofs.YtkcgmimldjeaiaaDoor
open Go.RowKit Go.Lib Own

theorem head_at {L : List UInt8} {pos : Nat} {x : UInt8} (h : L[pos]? = some x) : (L.drop pos).getD 0 0 = x := by
  rw [List.getD_eq_getElem?_getD, List.getElem?_drop, Nat.add_zero, h]
  rfl

end Go.Proofs.YtkcgmimldjeaiaaDoor

/-
  The statement's within and begun, the reader's making, its state, isAllowed: their walks.
-/
namespace Go.Proofs.YtkcgmimldjeaiaaDoor
open Go.RowKit Go.Lib Own

set_option maxHeartbeats 2000000 in
theorem within_any (n : Int) (h0 : -9223372036854775808 ≤ n) (h1 : n ≤ 9223372036854775807) (w : World) :
    Calls Tryd.prog 33 #[.int .i64 n, .int .i64 32, .int .i64 4096] w fun e w' => ∃ k : Nat, e = .returned (.int .i64 (k : Int)) ∧ 32 ≤ k ∧ k ≤ 4096 ∧ w' = w := by
  have hs : IntKind.i64.wrap ((4096 : Int) - 32) = 4064 := by rw [IntKind.wrap_i64]; omega
  have hs2 : IntKind.i64.wrap ((4064 : Int) + 1) = 4065 := by rw [IntKind.wrap_i64]; omega
  by_cases hin : 32 ≤ n ∧ n ≤ 4096
  · obtain ⟨a, b⟩ := hin
    go_enter Tryd.func33, Tryd.ntmps33
    go_wp2
    all_goals go_ret
    all_goals exact ⟨n.toNat, ret_i64 (by omega), by omega, by omega, rfl⟩
  · have hm : n.tmod 4065 < 4065 := by have := Int.tmod_lt_of_pos n (show (0 : Int) < 4065 by omega); exact this
    have hm2 : -4065 < n.tmod 4065 := by
      have h3 := Int.tmod_lt_of_pos (-n) (show (0 : Int) < 4065 by omega)
      rw [Int.neg_tmod] at h3
      omega
    generalize hr : n.tmod 4065 = r at hm hm2
    have hin2 : (32 ≤ n ∧ ¬ n ≤ 4096) ∨ ¬ 32 ≤ n := by omega
    have hor : r < 0 ∨ ¬ r < 0 := by omega
    have hw1 : IntKind.i64.wrap (r + 4065) = r + 4065 := by rw [IntKind.wrap_i64]; omega
    have hw2 : IntKind.i64.wrap (32 + r) = 32 + r := by rw [IntKind.wrap_i64]; omega
    rcases hor with h | h
    · have hw3 : IntKind.i64.wrap (32 + (r + 4065)) = 32 + (r + 4065) := by rw [IntKind.wrap_i64]; omega
      rcases hin2 with ⟨i1, i2⟩ | i1
      all_goals
        go_enter Tryd.func33, Tryd.ntmps33
        go_wp2
        all_goals go_ret
        all_goals exact ⟨(32 + (r + 4065)).toNat, ret_i64 (by omega), by omega, by omega, rfl⟩
    · rcases hin2 with ⟨i1, i2⟩ | i1
      all_goals
        go_enter Tryd.func33, Tryd.ntmps33
        go_wp2
        all_goals go_ret
        all_goals exact ⟨(32 + r).toNat, ret_i64 (by omega), by omega, by omega, rfl⟩
set_option maxHeartbeats 2000000 in
theorem begun_any (s : ByteArray) (r : List UInt8) (hs : s.data.toList = 120 :: r) (w : World) :
    Calls Tryd.prog 15 #[.string s] w fun e w' => e = .returned (.bool true) ∧ w' = w := by
  have hz : 0 < s.size := by rw [size_eq, hs]; simp
  obtain ⟨x, hx⟩ : ∃ x, s[0]'hz = x := ⟨_, rfl⟩
  have hl := getElem_list hz hx
  rw [hs] at hl
  simp only [List.getElem?_cons_zero, Option.some.injEq] at hl
  have q : ((x.toNat : Int) == 120) = true := by rw [← hl]; rfl
  clear hl hs
  go_enter Tryd.func15, Tryd.ntmps15
  go_wp2
  go_ret
  exact ⟨rfl, rfl⟩
end Go.Proofs.YtkcgmimldjeaiaaDoor

/-
  From what a row says of the tables of words to what lies in memory.
-/
namespace Go.Proofs.YtkcgmimldjeaiaaDoor
open Go.RowKit Go.Lib Go.ChangeShapes Go.Deep

theorem range_ofK {P : Program} {w : World} {n : String} {g : Nat} {cs : Array Value} {L : List Value} (hg : P.globalNamed n = some g) (hvar : w.var? P n = some cs) (h : ∀ (j : Nat) (v : Value), L[j]? = some v → cs.toList[j]? = some v) : w.rangeAt g 0 L := by
  intro j v hv
  rw [Nat.zero_add, World.var?_cell hg hvar j, ← Array.getElem?_toList]
  exact h j v hv
theorem one_atK {α : Type} {l : List α} {j : Nat} {x : α} (h : (l.drop j).take 1 = [x]) : l[j]? = some x := by
  have := congrArg (·[0]?) h
  simpa using this
theorem strs_ofK {P : Program} {w : World} {n : String} {g t e m : Nat} {T : List (List UInt8)} (hg : P.globalNamed n = some g) (ht : (P.globals[g]?).map (·.type) = some t)
    (hu : P.underlying t = some (.array m e)) (he : P.underlying e = some .string) (hce : P.cellsOf e = 1) (hm : T.length = m) (h : VarReads P w n (.agg (T.map fun x => .lit (.string x)))) : w.rangeAt g 0 (T.map fun s => .string (bs s)) := by
  obtain ⟨g', t', cs, fuel, p, hg', hty, hvar, hd⟩ := h
  obtain rfl := Option.some.inj (hg.symm.trans hg')
  obtain rfl := Option.some.inj (ht.symm.trans hty)
  refine range_ofK hg hvar (fun j v hv => ?_)
  rw [List.getElem?_map] at hv
  obtain ⟨x, hx, rfl⟩ := Option.map_eq_some_iff.1 hv
  obtain ⟨fuel', d, q, hdi, hel⟩ := array_elem hu hd j (by rw [← hm]; exact (List.getElem?_eq_some_iff.1 hx).1)
  rw [List.getElem?_map, hx] at hdi
  simp only [Option.map_some, Option.some.injEq] at hdi
  subst hdi
  rw [hce, Nat.mul_one] at hel
  obtain ⟨s, hs, hx2, _⟩ := DataW.trod_string he hel
  simp only [Prod.mk.injEq, DataW.lit.injEq, Lit.string.injEq] at hx2
  rw [one_atK hs, hx2.1]
  rfl

theorem list3 {l : List Value} {a b c : Value} (hl : l.length = 3) (h0 : (l.drop 0).take 1 = [a]) (h1 : (l.drop 1).take 1 = [b]) (h2 : (l.drop 2).take 1 = [c]) : l = [a, b, c] := by
  match l, hl with
  | [x, y, z], _ =>
    simp only [List.drop_zero, List.take_succ_cons, List.take_zero, List.drop_succ_cons, List.cons.injEq, and_true] at h0 h1 h2
    rw [h0, h1, h2]
theorem add_noneK (b o : Nat) (n : Nat) : (⟨b, o, none⟩ : Addr).add n = ⟨b, o + n, none⟩ := by unfold Addr.add; split <;> simp_all
set_option maxRecDepth 100000 in
theorem kinds_of {w : World} (h : VarReads Tryd.prog w "scrub/vocabulary.kinds" (.agg (kindT.map fun x => .agg [.slice (x.1.map fun s => .lit (.string s)) [], .lit (.int .i64 x.2.1), .lit (.int .i64 x.2.2)]))) : KindsTab w := by
  obtain ⟨g', t', cs, fuel, p, hg', hty, hvar, hd⟩ := h
  obtain rfl := Option.some.inj ((show Tryd.prog.globalNamed "scrub/vocabulary.kinds" = some 4 by kernel_rfl).symm.trans hg')
  obtain rfl := Option.some.inj ((show (Tryd.prog.globals[4]?).map (·.type) = some 163 by kernel_rfl).symm.trans hty)
  obtain ⟨_, _, _, _, hlen, _⟩ := DataW.trod_array Tryd.underlying163 hd
  have k36 : Tryd.prog.cellsOf 163 = 36 := by kernel_rfl
  have k3 : Tryd.prog.cellsOf 162 = 3 := by kernel_rfl
  have k1 : Tryd.prog.cellsOf 23 = 1 := by kernel_rfl
  have ki : Tryd.prog.cellsOf 3 = 1 := by kernel_rfl
  refine ⟨cs.toList, by rw [← k36]; exact hlen, range_ofK (by kernel_rfl) hvar (fun j v hv => hv), fun k x hx => ?_⟩
  obtain ⟨fuel', d, q, hdi, hel⟩ := array_elem Tryd.underlying163 hd k (by have := (List.getElem?_eq_some_iff.1 hx).1; exact this)
  rw [List.getElem?_map, hx] at hdi
  simp only [Option.map_some, Option.some.injEq] at hdi
  subst hdi
  rw [k3] at hel
  obtain ⟨y0, y1, y2, n, hy, hl3, g0, g1, g2⟩ := trod_struct3 Tryd.underlying162 hel
  simp only [Prod.mk.injEq, DataW.agg.injEq, List.cons.injEq, and_true] at hy
  obtain ⟨⟨hy0, hy1, hy2⟩, _⟩ := hy
  have kc : Tryd.prog.cellsOf 137 = 1 := by kernel_rfl
  have km : Tryd.prog.cellsOf 138 = 1 := by kernel_rfl
  dsimp only at g0 g1 g2
  rw [k1] at g0
  rw [kc] at g1
  rw [km] at g2
  obtain ⟨n1, c1, e1, _⟩ := DataW.trod_int (k := .i64) (by kernel_rfl) g1
  obtain ⟨n2, c2, e2, _⟩ := DataW.trod_int (k := .i64) (by kernel_rfl) g2
  rw [e1] at hy1
  rw [e2] at hy2
  simp only [DataW.lit.injEq, Lit.int.injEq, true_and] at hy1 hy2
  rcases open_strings Tryd.underlying23 Tryd.underlying9 (by kernel_rfl) g0 with ⟨hcs, hx0⟩ | ⟨a, len, cap, ss, hcs, _, hl, hm9, hz, hx0, hcell, _⟩
  · rw [hx0] at hy0
    cases hy0
  · rw [hx0] at hy0
    simp only [DataW.slice.injEq] at hy0
    simp only [if_true] at hz
    refine ⟨.slice (some a) len cap, ?_, some a, cap, ?_, ?_, ?_, fun j s hj => ?_, fun h => by cases h⟩
    · rw [hy1, hy2]
      exact list3 (hl3.trans k3) hcs c1 c2
    all_goals have hxl := congrArg List.length hy0.1
    all_goals have hdl := congrArg List.length hy0.2
    all_goals unfold strs at hxl hdl
    all_goals simp only [List.length_map, List.length_take, List.length_drop, List.length_nil] at hxl hdl
    · rw [hxl]
      congr 1
      omega
    · omega
    · unfold maxLen at hm9
      omega
    · have hjl := (List.getElem?_eq_some_iff.1 hj).1
      have hc0 := hcell 0 (by omega)
      have hc := hcell j (by omega)
      obtain ⟨b, o, sp⟩ := a
      rw [show (⟨b, o, sp⟩ : Addr).add 0 = ⟨b, o, sp⟩ by simp [Addr.add]] at hc0
      obtain rfl := cell_spot hc0
      rw [add_noneK] at hc
      refine ⟨b, o, rfl, ?_⟩
      have he := congrArg (·[j]?) hy0.1
      unfold strs at he
      simp only [List.getElem?_map, hj, Option.map_some, List.getElem?_take_of_lt (show j < len by omega)] at he
      obtain ⟨s0, hs0, he0⟩ := Option.map_eq_some_iff.1 he.symm
      simp only [DataW.lit.injEq, Lit.string.injEq] at he0
      rw [hc, List.getD_eq_getElem?_getD, hs0, ← he0]
      rfl
end Go.Proofs.YtkcgmimldjeaiaaDoor

/-
  From what a row says of a policy and of words to what lies in memory.
-/
namespace Go.Proofs.YtkcgmimldjeaiaaDoor
open Go.RowKit Go.Lib Go.ChangeShapes Go.WideShapes Go.Joins Go.Deep Go.ChangeAt

section
variable {H : Type} {enc : TypeId × Value → H} {W : World}

theorem bulk_pos (d : DataW H) : 1 ≤ Rows.uptoBulk d := by
  cases d with
  | lit l => cases l <;> simp [Rows.uptoBulk]
  | _ => simp [Rows.uptoBulk]
theorem bulkAll_mem : ∀ (l : List (DataW H)) (d : DataW H), d ∈ l → Rows.uptoBulk d ≤ Rows.uptoBulkAll l
  | [], d, h => by simp at h
  | x :: r, d, h => by
    simp only [Rows.uptoBulkAll]
    rcases List.mem_cons.1 h with rfl | h1
    · omega
    · have := bulkAll_mem r d h1
      omega
theorem bulkAll_len : ∀ l : List (DataW H), l.length ≤ Rows.uptoBulkAll l
  | [] => by simp
  | x :: r => by
    have h1 := bulkAll_len r
    have h2 := bulk_pos x
    simp only [Rows.uptoBulkAll, List.length_cons]
    omega
theorem add_none (b o : Nat) (n : Nat) : (⟨b, o, none⟩ : Addr).add n = ⟨b, o + n, none⟩ := by unfold Addr.add; split <;> simp_all
theorem add_zero' (a : Addr) : a.add 0 = a := by simp [Addr.add]

/-- a []string that is read -/
theorem words_ofB (B : Nat) {held : Bool} {fuel : Nat} {v : Value} {x : DataW H × List MemPlace} (h : DataW.trod enc Tryd.prog W 0 (fun _ => true) held fuel 23 [v] = some x) (hb : Rows.uptoBulk x.1 ≤ B) :
    ∃ ss, Words W v ss ∧ ss.length ≤ B ∧ ∀ s ∈ ss, s.length ≤ B := by
  rcases open_strings Tryd.underlying23 Tryd.underlying9 (by kernel_rfl) h with ⟨hcs, hx⟩ | ⟨a, len, cap, ss, hcs, _, hl, hm9, hz, hx, hcell, hsz⟩
  · obtain rfl := (List.cons.inj hcs).1
    exact ⟨[], Words.nil W, by simp, fun s hs => by simp at hs⟩
  · obtain rfl := (List.cons.inj hcs).1
    subst hx
    simp only [if_true] at hz
    have hlen : ((ss.take len).map fun s => s.data.toList).length = len := by rw [List.length_map, List.length_take]; omega
    simp only [Rows.uptoBulk] at hb
    have hb1 := bulkAll_len (H := H) (strs (ss.take len))
    have hsl : (strs (H := H) (ss.take len)).length = len := by unfold strs; rw [List.length_map, List.length_take]; omega
    rw [hsl] at hb1
    refine ⟨(ss.take len).map fun s => s.data.toList, ⟨some a, cap, by rw [hlen], by rw [hlen]; exact hl, by unfold maxLen at hm9; omega, fun j s hj => ?_, fun h => by cases h⟩, by omega, fun s hs => ?_⟩
    · have hjl : j < len := by rw [← hlen]; exact (List.getElem?_eq_some_iff.1 hj).1
      rw [List.getElem?_map] at hj
      obtain ⟨s0, hs0, rfl⟩ := Option.map_eq_some_iff.1 hj
      rw [List.getElem?_take_of_lt hjl] at hs0
      have hc0 := hcell 0 (by omega)
      have hc := hcell j (by omega)
      obtain ⟨b, o, sp⟩ := a
      rw [add_zero'] at hc0
      obtain rfl := cell_spot hc0
      rw [add_none] at hc
      refine ⟨b, o, rfl, ?_⟩
      rw [hc, List.getD_eq_getElem?_getD, hs0]
      rfl
    · obtain ⟨s0, hs0, rfl⟩ := List.mem_map.1 hs
      have hm := bulkAll_mem (H := H) (strs (ss.take len)) (.lit (.string s0.data.toList)) (List.mem_map.2 ⟨s0, hs0, rfl⟩)
      simp only [Rows.uptoBulk] at hm
      omega
theorem words_of {held : Bool} {fuel : Nat} {v : Value} {x : DataW H × List MemPlace} (h : DataW.trod enc Tryd.prog W 0 (fun _ => true) held fuel 23 [v] = some x) (hb : Rows.uptoBulk x.1 ≤ 1048576) :
    ∃ ss, Words W v ss ∧ ss.length ≤ 1048576 ∧ ∀ s ∈ ss, s.length ≤ 1048576 := words_ofB 1048576 h hb
theorem sum_bulk {D : Nat → DataW H} {f : Nat → Nat} : ∀ l : List Nat, (∀ i ∈ l, f i ≤ Rows.uptoBulk (D i)) → (l.map f).sum ≤ Rows.uptoBulkAll (l.map D)
  | [], _ => by simp
  | i :: l, h => by
    have h1 := sum_bulk l (fun j hj => h j (List.mem_cons_of_mem _ hj))
    have h2 := h i (List.mem_cons_self ..)
    simp only [List.map_cons, List.sum_cons, Rows.uptoBulkAll]
    omega
/-- how many words all rules list -/
def attrsN (rs : List RuleP) : Nat := (rs.map fun r => r.2.length).sum
/-- a []Rule that is read -/
theorem rules_ofS {held : Bool} {fuel : Nat} {v : Value} {x : DataW H × List MemPlace} (h : DataW.trod enc Tryd.prog W 0 (fun _ => true) held fuel 33 [v] = some x) (hb : Rows.uptoBulk x.1 ≤ 1048576) :
    ∃ rs, RulesR W v rs ∧ rs.length ≤ 1048576 ∧ (∀ r ∈ rs, r.2.length ≤ 1048576 ∧ r.1.length ≤ 1048576 ∧ ∀ a ∈ r.2, a.length ≤ 1048576) ∧ attrsN rs ≤ 1048576 := by
  rcases open_slice_pairs Tryd.underlying33 Tryd.underlying73 (by kernel_rfl) rfl rfl (by kernel_rfl) (by kernel_rfl) h with ⟨hcs, hx⟩ | ⟨a, len, cap, m, n, V0, V1, D0, D1, P0, P1, hcs, _, hl, hm9, hm, hx, hall⟩
  · obtain rfl := (List.cons.inj hcs).1
    exact ⟨[], ⟨none, 0, rfl, Nat.le_refl _, by omega, fun j r hj => by simp at hj⟩, by simp, fun r hr => by simp at hr, by simp [attrsN]⟩
  · obtain rfl := (List.cons.inj hcs).1
    subst hx
    simp only [if_true] at hm
    subst hm
    simp only [Rows.uptoBulk] at hb
    have hb1 := bulkAll_len (H := H) ((List.range len).map fun i => .agg [D0 i, D1 i])
    rw [List.length_map, List.length_range] at hb1
    have each : ∀ i, i < len → ∃ q : RuleP, V0 i = .string (bs q.1) ∧ Words W (V1 i) q.2 ∧ q.2.length ≤ 1048576 ∧ q.1.length ≤ 1048576 ∧ (∀ a ∈ q.2, a.length ≤ 1048576) ∧ q.2.length ≤ Rows.uptoBulk (.agg [D0 i, D1 i]) := fun i hi => by
      obtain ⟨_, _, h0, h1⟩ := hall i (by omega)
      have hbi := bulkAll_mem (H := H) ((List.range len).map fun i => .agg [D0 i, D1 i]) (.agg [D0 i, D1 i]) (List.mem_map.2 ⟨i, by simpa using hi, rfl⟩)
      simp only [Rows.uptoBulk, Rows.uptoBulkAll] at hbi
      obtain ⟨s, e0, e1, _⟩ := DataW.trod_string Tryd.underlying9 h0
      obtain ⟨ss, w1, w2, w3⟩ := words_ofB (Rows.uptoBulk (D1 i)) h1 (Nat.le_refl _)
      simp only [Prod.mk.injEq] at e1
      rw [e1.1] at hbi
      simp only [Rows.uptoBulk] at hbi
      exact ⟨(s.data.toList, ss), (List.cons.inj e0).1, w1, Nat.le_trans w2 (by omega), by show s.data.toList.length ≤ _; omega, fun a ha => Nat.le_trans (w3 a ha) (by omega), by simp only [Rows.uptoBulk, Rows.uptoBulkAll]; show ss.length ≤ _; omega⟩
    obtain ⟨Q, hQ⟩ := choose_lt each
    have hlen : ((List.range len).map Q).length = len := by simp
    refine ⟨(List.range len).map Q, ⟨some a, m, by rw [hlen], by rw [hlen]; exact hl, by unfold maxLen at hm9; omega, fun j r hj => ?_⟩, by rw [hlen]; omega, fun r hr => ?_, ?_⟩
    · have hjl : j < len := by rw [← hlen]; exact (List.getElem?_eq_some_iff.1 hj).1
      rw [List.getElem?_map, List.getElem?_range hjl] at hj
      obtain rfl := Option.some.inj hj
      obtain ⟨hc0, _, _, _⟩ := hall 0 (by omega)
      obtain ⟨k0, k1, _, _⟩ := hall j (by omega)
      obtain ⟨q0, q1, _⟩ := hQ j hjl
      obtain ⟨b, o, sp⟩ := a
      rw [Nat.zero_mul, add_zero'] at hc0
      obtain rfl := cell_spot hc0
      rw [add_none] at k0 k1
      exact ⟨b, o, V1 j, rfl, by rw [k0, q0], by rw [Nat.add_assoc]; exact k1, q1⟩
    · obtain ⟨i, hi, rfl⟩ := List.mem_map.1 hr
      obtain ⟨_, _, q2, q3, q4, _⟩ := hQ i (by simpa using hi)
      exact ⟨q2, q3, q4⟩
    · have h1 := sum_bulk (D := fun i => .agg [D0 i, D1 i]) (f := fun i => (Q i).2.length) (List.range len) (fun i hi => (hQ i (by simpa using hi)).2.2.2.2.2)
      unfold attrsN
      rw [List.map_map]
      exact Nat.le_trans h1 (by omega)
theorem rules_of {held : Bool} {fuel : Nat} {v : Value} {x : DataW H × List MemPlace} (h : DataW.trod enc Tryd.prog W 0 (fun _ => true) held fuel 33 [v] = some x) (hb : Rows.uptoBulk x.1 ≤ 1048576) :
    ∃ rs, RulesR W v rs ∧ rs.length ≤ 1048576 ∧ ∀ r ∈ rs, r.2.length ≤ 1048576 ∧ r.1.length ≤ 1048576 ∧ ∀ a ∈ r.2, a.length ≤ 1048576 := by
  obtain ⟨rs, h1, h2, h3, _⟩ := rules_ofS h hb
  exact ⟨rs, h1, h2, h3⟩
theorem i64_wf {n : Int} (h : (Lit.int .i64 n).wf = true) : -9223372036854775808 ≤ n ∧ n ≤ 9223372036854775807 := by
  simp only [Lit.wf, Bool.and_eq_true, decide_eq_true_eq] at h
  first | exact h | simpa [IntKind.min, IntKind.max] using h
theorem array5 {α : Type} {cs : Array α} (h : cs.size = 5) : ∃ c0 c1 c2 c3 c4, cs = #[c0, c1, c2, c3, c4] := by
  obtain ⟨l⟩ := cs
  match l, h with
  | [c0, c1, c2, c3, c4], _ => exact ⟨c0, c1, c2, c3, c4, rfl⟩
set_option maxRecDepth 100000 in
/-- a policy that is read -/
theorem policy_ofS {r : Reach} {b0 : Nat} {held : Bool} {v : Value} {d : DataW H} {p : List MemPlace} (hv : Value.okWide Tryd.prog W r b0 35 v) (h : DataW.Trod enc Tryd.prog W 0 (fun _ => true) held 35 v d p) (hb : Rows.uptoBulk d ≤ 1048576) :
    ∃ (vr vs vd : Value) (P : PolP), v = .agg (polC vr vs vd P) ∧ PolR W vr vs vd P ∧ P.Few ∧ attrsN P.rules ≤ 1048576 := by
  obtain ⟨cs, rfl, hsz⟩ := okWide_struct Tryd.underlying35 hv
  obtain ⟨c0, c1, c2, c3, c4, rfl⟩ := array5 (hsz.trans (by kernel_rfl))
  obtain ⟨fuel, hf⟩ := h
  obtain ⟨xs, n, _, hx, hl, hlen, hfs⟩ := DataW.trod_struct Tryd.underlying35 hf
  match xs, hlen with
  | [y0, y1, y2, y3, y4], _ =>
    have k22 : Tryd.prog.cellsOf 33 = 1 := by kernel_rfl
    have k23 : Tryd.prog.cellsOf 23 = 1 := by kernel_rfl
    have k3 : Tryd.prog.cellsOf 3 = 1 := by kernel_rfl
    have g0 : DataW.trod enc Tryd.prog W 0 (fun _ => true) held n 33 [c0] = some y0 := by
      have := hfs 0 _ rfl
      simpa [Value.cells, k22] using this
    have g1 : DataW.trod enc Tryd.prog W 0 (fun _ => true) held n 23 [c1] = some y1 := by
      have := hfs 1 _ rfl
      simpa [Value.cells, k23] using this
    have g2 : DataW.trod enc Tryd.prog W 0 (fun _ => true) held n 23 [c2] = some y2 := by
      have := hfs 2 _ rfl
      simpa [Value.cells, k23] using this
    have g3 : DataW.trod enc Tryd.prog W 0 (fun _ => true) held n 3 [c3] = some y3 := by
      have := hfs 3 _ rfl
      simpa [Value.cells, k3] using this
    have g4 : DataW.trod enc Tryd.prog W 0 (fun _ => true) held n 3 [c4] = some y4 := by
      have := hfs 4 _ rfl
      simpa [Value.cells, k3] using this
    simp only [Prod.mk.injEq, List.map_cons, List.map_nil] at hx
    rw [hx.1] at hb
    simp only [Rows.uptoBulk, Rows.uptoBulkAll] at hb
    obtain ⟨rs, r1, r2, r3, r4⟩ := rules_ofS g0 (by omega)
    obtain ⟨ss, s1, s2, s3⟩ := words_of g1 (by omega)
    obtain ⟨ds, d1, d2, d3⟩ := words_of g2 (by omega)
    obtain ⟨z3, e3, _, h3⟩ := DataW.trod_int Tryd.underlying3 g3
    obtain ⟨z4, e4, _, h4⟩ := DataW.trod_int Tryd.underlying3 g4
    obtain rfl := (List.cons.inj e3).1
    obtain rfl := (List.cons.inj e4).1
    refine ⟨c0, c1, c2, ⟨rs, ss, ds, z3, z4⟩, rfl, ⟨r1, s1, d1⟩, ?_, r4⟩
    exact ⟨Nat.le_trans r2 (by omega), Nat.le_trans s2 (by omega), Nat.le_trans d2 (by omega), fun r hr => Nat.le_trans (r3 r hr).1 (by omega), fun r hr => ⟨Nat.le_trans (r3 r hr).2.1 (by omega), fun a ha => Nat.le_trans ((r3 r hr).2.2 a ha) (by omega)⟩, fun x hx => Nat.le_trans (s3 x hx) (by omega), fun x hx => Nat.le_trans (d3 x hx) (by omega), (i64_wf h3).1, (i64_wf h3).2, (i64_wf h4).1, (i64_wf h4).2⟩
set_option maxRecDepth 100000 in
theorem policy_of {r : Reach} {b0 : Nat} {held : Bool} {v : Value} {d : DataW H} {p : List MemPlace} (hv : Value.okWide Tryd.prog W r b0 35 v) (h : DataW.Trod enc Tryd.prog W 0 (fun _ => true) held 35 v d p) (hb : Rows.uptoBulk d ≤ 1048576) :
    ∃ (vr vs vd : Value) (P : PolP), v = .agg (polC vr vs vd P) ∧ PolR W vr vs vd P ∧ P.Few := by
  obtain ⟨vr, vs, vd, P, h1, h2, h3, _⟩ := policy_ofS hv h hb
  exact ⟨vr, vs, vd, P, h1, h2, h3⟩
end
end Go.Proofs.YtkcgmimldjeaiaaDoor

/-
  From what a row says of events, of nodes and of their attributes to what lies in memory.
-/
namespace Go.Proofs.YtkcgmimldjeaiaaDoor
open Go.RowKit Go.Lib Go.ChangeShapes Go.WideShapes Go.Joins Go.Deep Go.ChangeAt

section
variable {H : Type} {enc : TypeId × Value → H} {W : World}

/-- a []Attr that is read -/
theorem attrs_of {held : Bool} {fuel : Nat} {v : Value} {x : DataW H × List MemPlace} (h : DataW.trod enc Tryd.prog W 0 (fun _ => true) held fuel 37 [v] = some x) : ∃ al, AttrsR W v al ∧ bulkA al ≤ Rows.uptoBulk x.1 := by
  rcases open_slice_pairs Tryd.underlying37 Tryd.underlying101 (by kernel_rfl) rfl rfl (by kernel_rfl) (by kernel_rfl) h with ⟨hcs, hx⟩ | ⟨a, len, cap, m, n, V0, V1, D0, D1, P0, P1, hcs, _, hl, hm9, hm, hx, hall⟩
  · obtain rfl := (List.cons.inj hcs).1
    exact ⟨[], AttrsR.nil W, Nat.zero_le _⟩
  · obtain rfl := (List.cons.inj hcs).1
    subst hx
    simp only [if_true] at hm
    subst hm
    have each : ∀ i, i < len → ∃ q : AttrP, V0 i = .string (bs q.1) ∧ V1 i = .string (bs q.2) ∧ q.1.length + q.2.length + 1 ≤ Rows.uptoBulk (.agg [D0 i, D1 i]) := fun i hi => by
      obtain ⟨_, _, h0, h1⟩ := hall i (by omega)
      obtain ⟨s, e0, e1, _⟩ := DataW.trod_string Tryd.underlying9 h0
      obtain ⟨s', e0', e1', _⟩ := DataW.trod_string Tryd.underlying9 h1
      simp only [Prod.mk.injEq] at e1 e1'
      refine ⟨(s.data.toList, s'.data.toList), (List.cons.inj e0).1, (List.cons.inj e0').1, ?_⟩
      rw [e1.1, e1'.1]
      simp only [Rows.uptoBulk, Rows.uptoBulkAll]
      omega
    obtain ⟨Q, hQ⟩ := choose_lt each
    have hlen : ((List.range len).map Q).length = len := by simp
    refine ⟨(List.range len).map Q, ⟨some a, m, by rw [hlen], by rw [hlen]; exact hl, by unfold maxLen at hm9; omega, fun j r hj => ?_, fun e => by cases e⟩, ?_⟩
    · have hjl : j < len := by rw [← hlen]; exact (List.getElem?_eq_some_iff.1 hj).1
      rw [List.getElem?_map, List.getElem?_range hjl] at hj
      obtain rfl := Option.some.inj hj
      obtain ⟨hc0, _, _, _⟩ := hall 0 (by omega)
      obtain ⟨k0, k1, _, _⟩ := hall j (by omega)
      obtain ⟨q0, q1, _⟩ := hQ j hjl
      obtain ⟨b, o, sp⟩ := a
      rw [Nat.zero_mul, add_zero'] at hc0
      obtain rfl := cell_spot hc0
      rw [add_none] at k0 k1
      exact ⟨b, o, rfl, by rw [k0, q0], by rw [Nat.add_assoc, k1, q1]⟩
    · have h1 := sum_bulk (D := fun i => .agg [D0 i, D1 i]) (f := fun i => (Q i).1.length + (Q i).2.length + 1) (List.range len) (fun i hi => (hQ i (by simpa using hi)).2.2)
      unfold bulkA
      rw [List.map_map]
      simp only [Rows.uptoBulk]
      exact Nat.le_trans h1 (by omega)
instance : Inhabited EvP := ⟨⟨0, [], [], []⟩⟩
set_option maxRecDepth 100000 in
/-- a slice of structs of a number, a name, attributes and a text -/
theorem recs_of {t e : TypeId} {f0 f1 f2 f3 : Field} (ht : Tryd.prog.underlying t = some (.slice e)) (he : Tryd.prog.underlying e = some (.struct #[f0, f1, f2, f3])) (ce : Tryd.prog.cellsOf e = 4) (o : f0.offset = 0 ∧ f1.offset = 1 ∧ f2.offset = 2 ∧ f3.offset = 3)
    (g : f0.type = 3 ∧ f1.type = 9 ∧ f2.type = 37 ∧ f3.type = 9)
    {held : Bool} {fuel : Nat} {v : Value} {x : DataW H × List MemPlace} (h : DataW.trod enc Tryd.prog W 0 (fun _ => true) held fuel t [v] = some x) : ∃ es, EvsR W v es ∧ bulkE es ≤ Rows.uptoBulk x.1 ∧ ∀ e ∈ es, -9223372036854775808 ≤ e.k ∧ e.k ≤ 9223372036854775807 := by
  rcases open_slice ht h with ⟨hcs, hx⟩ | ⟨a, len, cap, m, n, D, Pl, hcs, _, hl, hm9, hm, hx, hall⟩
  · obtain rfl := (List.cons.inj hcs).1
    exact ⟨[], EvsR.nil W, Nat.zero_le _, fun e h => by cases h⟩
  · obtain rfl := (List.cons.inj hcs).1
    subst hx
    simp only [if_true] at hm
    subst hm
    have ci : Tryd.prog.cellsOf 3 = 1 := by kernel_rfl
    have cs1 : Tryd.prog.cellsOf 9 = 1 := by kernel_rfl
    have ca : Tryd.prog.cellsOf 37 = 1 := by kernel_rfl
    obtain ⟨o0, o1, o2, o3⟩ := o
    obtain ⟨g0, g1, g2, g3⟩ := g
    have each : ∀ i, i < len → ∃ q : EvP × Value, W.cell? (a.add (i * 4)) = some (.int .i64 q.1.k) ∧ W.cell? (a.add (i * 4 + 1)) = some (.string (bs q.1.n)) ∧ W.cell? (a.add (i * 4 + 2)) = some q.2 ∧ W.cell? (a.add (i * 4 + 3)) = some (.string (bs q.1.t)) ∧ AttrsR W q.2 q.1.a ∧
        q.1.n.length + q.1.t.length + bulkA q.1.a + 1 ≤ Rows.uptoBulk (D i) ∧ (-9223372036854775808 ≤ q.1.k ∧ q.1.k ≤ 9223372036854775807) := by
      intro i hi
      obtain ⟨cs', h1, h2⟩ := hall i (by omega)
      rw [ce] at h1
      obtain ⟨_, hlen, hcell⟩ := World.cells?_some h1
      obtain ⟨xs, k, hk, hxy, _, hxl, hf⟩ := DataW.trod_struct he h2
      match xs, hxl, cs', hlen with
      | [y0, y1, y2, y3], _, [v0, v1, v2, v3], _ =>
        have q0 := hf 0 f0 rfl
        have q1 := hf 1 f1 rfl
        have q2 := hf 2 f2 rfl
        have q3 := hf 3 f3 rfl
        simp [o0, o1, o2, o3, g0, g1, g2, g3, ci, cs1, ca] at q0 q1 q2 q3
        have e0 := hcell 0 (by omega)
        have e1 := hcell 1 (by omega)
        have e2 := hcell 2 (by omega)
        have e3 := hcell 3 (by omega)
        rw [add_add] at e0 e1 e2 e3
        simp only [Prod.mk.injEq] at hxy
        obtain ⟨z, w0, w1, wf⟩ := DataW.trod_int Tryd.underlying3 q0
        obtain ⟨s, s0, s1, _⟩ := DataW.trod_string Tryd.underlying9 q1
        obtain ⟨al, al1, al2⟩ := attrs_of q2
        obtain ⟨t', t0, t1, _⟩ := DataW.trod_string Tryd.underlying9 q3
        obtain rfl := (List.cons.inj w0).1
        obtain rfl := (List.cons.inj s0).1
        obtain rfl := (List.cons.inj t0).1
        refine ⟨(⟨z, s.data.toList, al, t'.data.toList⟩, v2), by simpa using e0, by rw [bs_of]; simpa using e1, by simpa using e2, by rw [bs_of]; simpa using e3, al1, ?_, i64_wf wf⟩
        rw [hxy.1]
        simp only [List.map_cons, List.map_nil, Rows.uptoBulk, Rows.uptoBulkAll, w1, s1, t1]
        omega
    obtain ⟨Q, hQ⟩ := choose_lt each
    have hlen : ((List.range len).map fun i => (Q i).1).length = len := by simp
    refine ⟨(List.range len).map fun i => (Q i).1, ⟨some a, m, by rw [hlen], by rw [hlen]; exact hl, by unfold maxLen at hm9; omega, fun j r hj => ?_⟩, ?_, fun e he => ?_⟩
    · have hjl : j < len := by rw [← hlen]; exact (List.getElem?_eq_some_iff.1 hj).1
      rw [List.getElem?_map, List.getElem?_range hjl] at hj
      obtain rfl := Option.some.inj hj
      obtain ⟨q0, q1, q2, q3, q4, _⟩ := hQ j hjl
      obtain ⟨b, o, sp⟩ := a
      have hc0 := (hQ 0 (by omega)).1
      rw [Nat.zero_mul, add_zero'] at hc0
      obtain rfl := cell_spot hc0
      rw [add_none] at q0 q1 q2 q3
      exact ⟨b, o, (Q j).2, rfl, q0, by rw [Nat.add_assoc]; exact q1, by rw [Nat.add_assoc]; exact q2, by rw [Nat.add_assoc]; exact q3, q4⟩
    · have h1 := sum_bulk (D := D) (f := fun i => (Q i).1.n.length + (Q i).1.t.length + bulkA (Q i).1.a + 1) (List.range len) (fun i hi => (hQ i (by simpa using hi)).2.2.2.2.2.1)
      unfold bulkE
      rw [List.map_map]
      simp only [Rows.uptoBulk]
      exact Nat.le_trans h1 (by omega)
    · obtain ⟨i, hi, rfl⟩ := List.mem_map.1 he
      exact (hQ i (by simpa using hi)).2.2.2.2.2.2
theorem events_of {held : Bool} {fuel : Nat} {v : Value} {x : DataW H × List MemPlace} (h : DataW.trod enc Tryd.prog W 0 (fun _ => true) held fuel 22 [v] = some x) : ∃ es, EvsR W v es ∧ bulkE es ≤ Rows.uptoBulk x.1 ∧ ∀ e ∈ es, -9223372036854775808 ≤ e.k ∧ e.k ≤ 9223372036854775807 :=
  recs_of Tryd.underlying22 Tryd.underlying39 (by kernel_rfl) ⟨rfl, rfl, rfl, rfl⟩ ⟨rfl, rfl, rfl, rfl⟩ h
theorem nodes_of {held : Bool} {fuel : Nat} {v : Value} {x : DataW H × List MemPlace} (h : DataW.trod enc Tryd.prog W 0 (fun _ => true) held fuel 44 [v] = some x) : ∃ es, EvsR W v es ∧ bulkE es ≤ Rows.uptoBulk x.1 ∧ ∀ e ∈ es, -9223372036854775808 ≤ e.k ∧ e.k ≤ 9223372036854775807 :=
  recs_of Tryd.underlying44 Tryd.underlying84 (by kernel_rfl) ⟨rfl, rfl, rfl, rfl⟩ ⟨rfl, rfl, rfl, rfl⟩ h
end
end Go.Proofs.YtkcgmimldjeaiaaDoor
