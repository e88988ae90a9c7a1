/-
  Parts of the walk, joined: PutEv, EvGet, SameEv, PolRefB, PolRefC, PolLend, Reader.
-/
import Derived.Test.YtkcgmimldjeaiaaGreatDoorJoinC
import Derived.Test.YtkcgmimldjeaiaaGreatDoorGen
import Derived.BigQuiet
import Derived.Test.YtkcgmimldjeaiaaGreatDoorJoinB
import Derived.Laws.AppendOwnNone
/-
  The stream's Put: its walk.
-/
namespace Go.Proofs.YtkcgmimldjeaiaaGreatDoor
open Go.RowKit Go.Lib Own

theorem evs_snoc2 {W : World} {base : Nat} {k n a t : Value} {e : Ev} : ∀ (xs : List Value) (l : List Ev), EvsAt W base xs l → EvsAt W base [k, n, a, t] [e] → EvsAt W base (xs ++ [k, n, a, t]) (l ++ [e])
  | [], [], _, h => h
  | k' :: n' :: a' :: t' :: r, e' :: l, ⟨h1, h2⟩, h => ⟨h1, evs_snoc2 r l h2 h⟩
  | [], _ :: _, h, _ => h.elim
  | [_], _, h, _ => by cases ‹List Ev› <;> exact h.elim
  | [_, _], _, h, _ => by cases ‹List Ev› <;> exact h.elim
  | [_, _, _], _, h, _ => by cases ‹List Ev› <;> exact h.elim
  | _ :: _ :: _ :: _ :: _, [], h, _ => h.elim
theorem StreamX.below {W W' : World} {base b o : Nat} {cs : Array Value} {T : TypeId} {evs : List Ev} {pend : List UInt8} {xs : List Value} (h : StreamX W base b o cs T evs pend xs) (hb : Below W.heap.size W W') : StreamX W' base b o cs T evs pend xs := by
  obtain ⟨ev, p, v, hev, hin, hrow, hevs, hap⟩ := h.itx
  have hg : W.grownBy W' none := ⟨hb.os, hb.tape, hb.output, hb.size, fun k hk _ => hb.block k hk⟩
  exact ⟨ev, p, v, hev, ⟨(hb.block b (Array.getElem?_eq_some_iff.1 hin.at_).1).trans hin.at_, hin.lo, hin.cp, hin.cv, hin.hp, hin.own.kept hg (by cases hv : v.ownBlock <;> simp), hin.ne⟩, hrow.kept hg (Classical.em _), evs_mono (fun a n ys hr => hr.kept hg (Classical.em _)) xs evs hevs, hap⟩
theorem StreamX.new {W : World} {base b o g : Nat} {cs : Array Value} {T : TypeId} {evs : List Ev} {pend : List UInt8} {xs : List Value} (h : StreamX W base b o cs T evs pend xs) (hg : W.heap.size ≤ g) : NotIn g xs := by
  obtain ⟨ev, p, v, hev, hin, hrow, hevs, hap⟩ := h.itx
  exact notIn_new hg xs evs hevs
theorem StreamAt.alloc {W : World} {base b o : Nat} {cs : Array Value} {T : TypeId} {evs : List Ev} {pend : List UInt8} (h : StreamAt W base b o cs T evs pend) (X : Obj) : StreamAt (W.alloc X) base b o cs T evs pend := by
  obtain ⟨ev, p, v, xs, hev, hin, hrow, hevs, hap⟩ := h.it
  refine ⟨ev, p, v, xs, hev, ⟨(alloc_old _ _ b (Array.getElem?_eq_some_iff.1 hin.at_).1).trans hin.at_, hin.lo, hin.cp, hin.cv, hin.hp, ?_, hin.ne⟩, hrow.alloc _, evs_mono (fun a n ys hr => hr.alloc _) xs evs hevs, hap⟩
  exact hin.own.kept (World.grownBy_alloc W X none) (by cases hv : v.ownBlock <;> simp)

theorem set_three (cs : Array Value) (o : Nat) (e1 e2 p v : Value) : (((cs.setIfInBounds o e1).setIfInBounds (o + 1) p).setIfInBounds (o + 2) v).setIfInBounds o e2 = ((cs.setIfInBounds o e2).setIfInBounds (o + 1) p).setIfInBounds (o + 2) v := by
  apply Array.ext_getElem?
  intro i
  simp only [Array.getElem?_setIfInBounds, Array.size_setIfInBounds]
  repeat' split
  all_goals first | rfl | omega
theorem rowF_ne {W : World} {base : Nat} {e2 : TypeId} {z2 n1 n2 : Nat} {v1 v2 : Value} {xs1 xs2 : List Value} (h1 : W.ownsRowF base 5 1 v1 n1 xs1) (h2 : W.ownsRow base e2 z2 v2 n2 xs2) (hne : e2 ≠ 5) : v1.ownBlock = none ∨ v1.ownBlock ≠ v2.ownBlock := by
  rcases h1.2 with ⟨rfl, _⟩ | ⟨g, cap, cur, fz, rfl, _, hg, _⟩
  · exact .inl rfl
  · refine .inr (fun h3 => ?_)
    rcases h2.2 with ⟨rfl, _⟩ | ⟨g2, cap2, cur2, rfl, _, hg2, _⟩
    · cases h3
    · simp only [Value.ownBlock, Option.some.injEq] at h3
      subst h3
      rw [hg] at hg2
      simp only [Option.some.injEq, Obj.cells.injEq] at hg2
      exact hne hg2.2.1.symm
end Go.Proofs.YtkcgmimldjeaiaaGreatDoor

/-
  The cells of one event among a list's.
-/
namespace Go.Proofs.YtkcgmimldjeaiaaGreatDoor
open Go.RowKit Go.Lib Own

def evK : Ev → Nat
  | .text _ => 3
  | .start _ _ => 1
  | .stop _ => 2
def evN : Ev → List UInt8
  | .text _ => []
  | .start n _ => n
  | .stop n => n
def evA : Ev → List (List UInt8 × List UInt8)
  | .start _ a => a
  | _ => []
def evT : Ev → List UInt8
  | .text b => b
  | _ => []
theorem strV_nil : strV [] = .string ⟨#[]⟩ := rfl
theorem evs_get {W : World} {base : Nat} : ∀ (xs : List Value) (l : List Ev) (k : Nat) (e : Ev), EvsAt W base xs l → l[k]? = some e →
    ∃ a, xs[k * 4]? = some (.int .i64 (evK e : Nat)) ∧ xs[k * 4 + 1]? = some (strV (evN e)) ∧ xs[k * 4 + 2]? = some a ∧ xs[k * 4 + 3]? = some (strV (evT e)) ∧ W.ownsRow base 66 2 a (evA e).length (attrsV (evA e)) ∧ EvsAt W base [.int .i64 (evK e : Nat), strV (evN e), a, strV (evT e)] [e]
  | [], [], k, e, _, h => by simp at h
  | k' :: n :: a :: t :: r, e' :: l, 0, e, ⟨h1, h2⟩, h => by
    simp only [List.getElem?_cons_zero, Option.some.injEq] at h
    subst h
    cases e' with
    | text b =>
      obtain ⟨rfl, rfl, rfl, rfl⟩ := h1
      exact ⟨_, rfl, rfl, rfl, rfl, World.ownsRow_nil _ _ _ _, ⟨⟨rfl, rfl, rfl, rfl⟩, trivial⟩⟩
    | start m at_ =>
      obtain ⟨rfl, rfl, h3, rfl⟩ := h1
      exact ⟨_, rfl, rfl, rfl, rfl, h3, ⟨⟨rfl, rfl, h3, rfl⟩, trivial⟩⟩
    | stop m =>
      obtain ⟨rfl, rfl, rfl, rfl⟩ := h1
      exact ⟨_, rfl, rfl, rfl, rfl, World.ownsRow_nil _ _ _ _, ⟨⟨rfl, rfl, rfl, rfl⟩, trivial⟩⟩
  | k' :: n :: a :: t :: r, e' :: l, k + 1, e, ⟨h1, h2⟩, h => by
    rw [List.getElem?_cons_succ] at h
    obtain ⟨a', g1, g2, g3, g4, g5⟩ := evs_get r l k e h2 h
    refine ⟨a', ?_, ?_, ?_, ?_, g5⟩
    · rw [show (k + 1) * 4 = k * 4 + 4 by omega]; exact g1
    · rw [show (k + 1) * 4 + 1 = k * 4 + 1 + 4 by omega]; exact g2
    · rw [show (k + 1) * 4 + 2 = k * 4 + 2 + 4 by omega]; exact g3
    · rw [show (k + 1) * 4 + 3 = k * 4 + 3 + 4 by omega]; exact g4
  | [], _ :: _, _, _, h, _ => h.elim
  | [_], _, _, _, h, _ => by cases ‹List Ev› <;> exact h.elim
  | [_, _], _, _, _, h, _ => by cases ‹List Ev› <;> exact h.elim
  | [_, _, _], _, _, _, h, _ => by cases ‹List Ev› <;> exact h.elim
  | _ :: _ :: _ :: _ :: _, [], _, _, h, _ => h.elim
theorem evs_len {W : World} {base : Nat} : ∀ (xs : List Value) (l : List Ev), EvsAt W base xs l → xs.length = l.length * 4
  | [], [], _ => rfl
  | k' :: n :: a :: t :: r, e' :: l, ⟨h1, h2⟩ => by
    have := evs_len r l h2
    simp only [List.length_cons]
    omega
  | [], _ :: _, h => h.elim
  | [_], _, h => by cases ‹List Ev› <;> exact h.elim
  | [_, _], _, h => by cases ‹List Ev› <;> exact h.elim
  | [_, _, _], _, h => by cases ‹List Ev› <;> exact h.elim
  | _ :: _ :: _ :: _ :: _, [], h => h.elim
theorem evs_app {W : World} {base : Nat} : ∀ (xs : List Value) (l : List Ev) (ys : List Value) (m : List Ev), EvsAt W base xs l → EvsAt W base ys m → EvsAt W base (xs ++ ys) (l ++ m)
  | [], [], _, _, _, h => h
  | k' :: n :: a :: t :: r, e' :: l, ys, m, ⟨h1, h2⟩, h => ⟨h1, evs_app r l ys m h2 h⟩
  | [], _ :: _, _, _, h, _ => h.elim
  | [_], _, _, _, h, _ => by cases ‹List Ev› <;> exact h.elim
  | [_, _], _, _, _, h, _ => by cases ‹List Ev› <;> exact h.elim
  | [_, _, _], _, _, _, h, _ => by cases ‹List Ev› <;> exact h.elim
  | _ :: _ :: _ :: _ :: _, [], _, _, h, _ => h.elim
end Go.Proofs.YtkcgmimldjeaiaaGreatDoor

/-
  The statement's comparing of events: its walk, where both hold the same.
-/
namespace Go.Proofs.YtkcgmimldjeaiaaGreatDoor
open Go.RowKit Go.Lib Own

theorem attrs_at (l : List (List UInt8 × List UInt8)) (k : Nat) (a : List UInt8 × List UInt8) (h : l[k]? = some a) : (attrsV l)[k * 2]? = some (strV a.1) ∧ (attrsV l)[k * 2 + 1]? = some (strV a.2) := by
  induction l generalizing k with
  | nil => simp at h
  | cons b l ih =>
    cases k with
    | zero =>
      simp only [List.getElem?_cons_zero, Option.some.injEq] at h
      subst h
      exact ⟨rfl, rfl⟩
    | succ k =>
      rw [List.getElem?_cons_succ] at h
      obtain ⟨h1, h2⟩ := ih k h
      refine ⟨?_, ?_⟩
      · rw [show (k + 1) * 2 = k * 2 + 1 + 1 by omega]; exact h1
      · rw [show (k + 1) * 2 + 1 = k * 2 + 1 + 1 + 1 by omega]; exact h2
set_option maxHeartbeats 2000000 in
set_option maxRecDepth 10000 in
theorem sameAttrs_any (B1 B2 : Nat) (v1 v2 : Value) (l : List (List UInt8 × List UInt8)) (w : World) (h1 : w.ownsRow B1 66 2 v1 l.length (attrsV l)) (h2 : w.ownsRow B2 66 2 v2 l.length (attrsV l)) :
    Calls Tryz.prog 27 #[v1, v2] w fun e w' => e = .returned (.bool true) ∧ ∃ n, w' = w.drewN n := by
  have hl := row_max h1
  obtain ⟨p1, k1, rfl⟩ := row_shape h1
  obtain ⟨p2, k2, rfl⟩ := row_shape h2
  have hlen : (attrsV l).length = l.length * 2 := attrsV_len l
  have H1 := hid h1
  have H2 := hid h2
  clear h1 h2
  go_enter Tryz.func27, Tryz.ntmps27
  have q0 : ((l.length : Int) != (l.length : Int)) = false := by simp
  go_wp2
  go_loopw [13] (fun iv wr => ∃ k n : Nat, iv = .int .i64 k ∧ k ≤ l.length ∧ wr = w.drewN n) (fun iv _ => l.length - (RowKit.intOf iv).toNat)
  case atStart => exact ⟨0, 0, rfl, Nat.zero_le _, rfl⟩
  case round =>
    obtain ⟨k, n, rfl, hk, rfl⟩ := hrel
    by_cases hkl : k < l.length
    · obtain ⟨g1, ca1, e1, _, _, hc1⟩ := row_at H1.out (by omega)
      obtain ⟨g2, ca2, e2, _, _, hc2⟩ := row_at H2.out (by omega)
      cases e1
      cases e2
      obtain ⟨x1, x2⟩ := attrs_at l k l[k] (List.getElem?_eq_getElem hkl)
      have a1 := (hc1 (k * 2) (by omega)).trans x1
      have a2 := (hc1 (k * 2 + 1) (by omega)).trans x2
      have b1 := (hc2 (k * 2) (by omega)).trans x1
      have b2 := (hc2 (k * 2 + 1) (by omega)).trans x2
      obtain ⟨u1, hu1⟩ : ∃ u1, (⟨l[k].1.toArray⟩ : ByteArray) = u1 := ⟨_, rfl⟩
      obtain ⟨u2, hu2⟩ : ∃ u2, (⟨l[k].2.toArray⟩ : ByteArray) = u2 := ⟨_, rfl⟩
      unfold strV at a1 a2 b1 b2
      rw [hu1] at a1 b1
      rw [hu2] at a2 b2
      clear hc1 hc2 x1 x2 hu1 hu2 H1 H2
      go_wp2_with fail
      go_quiet (fail)
      go_wp2
      go_roundw
      case rel => exact ⟨k + 1, n + nq, rfl, by omega, by first | rfl | simp⟩
      case measure => simp [RowKit.intOf]; omega
    · go_wp2
      go_ret
      exact ⟨rfl, n, rfl⟩

/-- the four cells of an event in a row -/
theorem ev_cells {W : World} {base : Nat} {v : Value} {xs : List Value} {l : List Ev} (h : W.ownsRow base 44 4 v l.length xs) (he : EvsAt W base xs l) (k : Nat) (hk : k < l.length) :
    ∃ g cap a, v = .slice (some ⟨g, 0, none⟩) l.length cap ∧ base ≤ g ∧ g < W.heap.size ∧ W.cell? ⟨g, k * 4, none⟩ = some (.int .i64 (evK l[k] : Nat)) ∧ W.cell? ⟨g, k * 4 + 1, none⟩ = some (strV (evN l[k])) ∧ W.cell? ⟨g, k * 4 + 2, none⟩ = some a ∧
      W.cell? ⟨g, k * 4 + 3, none⟩ = some (strV (evT l[k])) ∧ W.ownsRow base 66 2 a (evA l[k]).length (attrsV (evA l[k])) ∧ EvsAt W base [.int .i64 (evK l[k] : Nat), strV (evN l[k]), a, strV (evT l[k])] [l[k]] := by
  obtain ⟨g, cap, hv, hg1, hg2, hc⟩ := row_at h (by omega)
  obtain ⟨a, a0, a1, a2, a3, a4, a5⟩ := evs_get xs l k l[k] he (List.getElem?_eq_getElem hk)
  exact ⟨g, cap, a, hv, hg1, hg2, (hc _ (by omega)).trans a0, (hc _ (by omega)).trans a1, (hc _ (by omega)).trans a2, (hc _ (by omega)).trans a3, a4, a5⟩

set_option maxHeartbeats 4000000 in
set_option maxRecDepth 10000 in
theorem sameEvents_any (B1 B2 : Nat) (v1 v2 : Value) (xs1 xs2 : List Value) (l : List Ev) (w : World) (h1 : w.ownsRow B1 44 4 v1 l.length xs1) (e1 : EvsAt w B1 xs1 l) (h2 : w.ownsRow B2 44 4 v2 l.length xs2) (e2 : EvsAt w B2 xs2 l) :
    Calls Tryz.prog 11 #[v1, v2] w fun e w' => e = .returned (.bool true) ∧ ∃ n, w' = w.drewN n := by
  have hl := row_max h1
  obtain ⟨p1, k1, rfl⟩ := row_shape h1
  obtain ⟨p2, k2, rfl⟩ := row_shape h2
  have H1 := hid (And.intro h1 e1)
  have H2 := hid (And.intro h2 e2)
  clear h1 h2 e1 e2
  go_enter Tryz.func11, Tryz.ntmps11
  have q0 : ((l.length : Int) != (l.length : Int)) = false := by simp
  go_wp2
  go_loopw [13] (fun iv wr => ∃ k : Nat, iv = .int .i64 k ∧ k ≤ l.length ∧ Hid (True → ∃ n, wr = w.drewN n)) (fun iv _ => l.length - (RowKit.intOf iv).toNat)
  case atStart => exact ⟨0, rfl, Nat.zero_le _, hid (fun _ => ⟨0, rfl⟩)⟩
  case round =>
    obtain ⟨k, rfl, hk, HQ⟩ := hrel
    by_cases hkl : k < l.length
    · obtain ⟨g1, ca1, a1, ex1, _, _, b0, b1, b2, b3, b4, _⟩ := ev_cells H1.out.1 H1.out.2 k hkl
      obtain ⟨g2, ca2, a2, ex2, _, _, d0, d1, d2, d3, d4, _⟩ := ev_cells H2.out.1 H2.out.2 k hkl
      cases ex1
      cases ex2
      obtain ⟨sp1, sc1, rfl⟩ := row_shape b4
      obtain ⟨sp2, sc2, rfl⟩ := row_shape d4
      have hq := HQ.out trivial
      replace b0 := cell_drew hq b0
      replace b1 := cell_drew hq b1
      replace b2 := cell_drew hq b2
      replace b3 := cell_drew hq b3
      replace d0 := cell_drew hq d0
      replace d1 := cell_drew hq d1
      replace d2 := cell_drew hq d2
      replace d3 := cell_drew hq d3
      have hsame := fun n => sameAttrs_any B1 B2 _ _ (evA l[k]) (wr.drewN n) (by obtain ⟨n', rfl⟩ := hq; exact b4) (by obtain ⟨n', rfl⟩ := hq; exact d4)
      have HS := hid hsame
      clear hsame b4 d4 hq H1 H2
      obtain ⟨u1, hu1⟩ : ∃ u1, (⟨(evN l[k]).toArray⟩ : ByteArray) = u1 := ⟨_, rfl⟩
      obtain ⟨u2, hu2⟩ : ∃ u2, (⟨(evT l[k]).toArray⟩ : ByteArray) = u2 := ⟨_, rfl⟩
      unfold strV at b1 b3 d1 d3
      rw [hu1] at b1 d1
      rw [hu2] at b3 d3
      have q1 : (((evK l[k] : Nat) : Int) != ((evK l[k] : Nat) : Int)) = false := by simp
      generalize ((evK l[k] : Nat) : Int) = z at *
      clear hu1 hu2
      go_wp2_with fail
      go_quiet (first | (go_at_call 27; refine Calls.quiet_of (HS.out _)))
      go_wp2
      go_roundw
      case rel =>
        obtain ⟨n, hn⟩ := HQ.out trivial
        exact ⟨k + 1, rfl, by omega, hid (fun _ => ⟨n + nq, by rw [hn]; simp⟩)⟩
      case measure => simp [RowKit.intOf]; omega
    · go_wp2
      go_ret
      exact ⟨rfl, HQ.out trivial⟩
end Go.Proofs.YtkcgmimldjeaiaaGreatDoor

/-
  The reference's Check: words, rules, schemes, drops: their walks.
-/
namespace Go.Proofs.YtkcgmimldjeaiaaGreatDoor
open Go.RowKit Go.Lib Own

/-- the reference's attributes -/
def attrT : List (List UInt8) := [[119, 105, 100, 116, 104], [116, 105, 116, 108, 101], [115, 116, 97, 114, 116], [115, 114, 99], [114, 111, 119, 115, 112, 97, 110], [114, 101, 108], [108, 97, 110, 103], [105, 100], [104, 114, 101, 102], [104, 101, 105, 103, 104, 116], [100, 105, 114], [99, 111, 108, 115, 112, 97, 110], [99, 108, 97, 115, 115], [99, 105, 116, 101], [97, 108, 116]]
def attrTabV : List Value := attrT.map fun s => .string (bs s)
def AttrTab (w : World) : Prop := w.rangeAt 2 0 attrTabV
theorem AttrTab.below {w w' : World} (h : AttrTab w) (hb : Below w.heap.size w w') : AttrTab w' := rangeAt_below h hb
theorem AttrTab.at {w : World} (h : AttrTab w) (k : Nat) (s : List UInt8) (hs : attrT[k]? = some s) : w.cell? ⟨2, k, none⟩ = some (.string (bs s)) := by
  have := h k (.string (bs s)) (by unfold attrTabV; rw [List.getElem?_map, hs]; rfl)
  rwa [Nat.zero_add] at this

set_option maxHeartbeats 1000000 in
theorem knownAttr_any (x : ByteArray) (w : World) (h : AttrTab w) :
    Calls Tryz.prog 86 #[.string x] w fun e w' => e = .returned (.bool (attrT.contains x.toList)) ∧ w' = w := by
  obtain ⟨R, hR⟩ : ∃ R, attrT.contains x.toList = R := ⟨_, rfl⟩
  have HR := hid (fun (_ : True) => hR)
  have H := hid h
  rw [hR]
  clear h hR
  go_enter Tryz.func86, Tryz.ntmps86
  go_wp2
  go_loopw [3] (fun iv wr => ∃ k : Nat, iv = .int .i64 k ∧ k ≤ 15 ∧ wr = w ∧ Hid (True → (attrT.drop k).contains x.toList = R)) (fun iv _ => 15 - (RowKit.intOf iv).toNat)
  case atStart => exact ⟨0, rfl, Nat.zero_le _, rfl, HR.out⟩
  case round =>
    obtain ⟨k, rfl, hk, rfl, HK⟩ := hrel
    by_cases hkl : k < 15
    · obtain ⟨s, hs⟩ : ∃ s, attrT[k]? = some s := ⟨_, List.getElem?_eq_getElem (show k < attrT.length from hkl)⟩
      have hc1 := H.out.at k s hs
      have hd := HK.out trivial
      rw [drop_at hs, List.contains_cons] at hd
      have hbt := bs_toList s
      obtain ⟨S, hS⟩ : ∃ S, bs s = S := ⟨_, rfl⟩
      rw [hS] at hbt hc1
      by_cases q : (x.toList == s) = true
      · have q2 : (S.toList == x.toList) = true := by rw [hbt]; rw [beq_iff_eq] at q ⊢; exact q.symm
        rw [q, Bool.true_or] at hd
        subst hd
        clear hs hbt q H HK HR
        go_wp2
        go_ret
        exact ⟨rfl, rfl⟩
      · have q2 : (S.toList == x.toList) = false := by rw [hbt]; rw [Bool.not_eq_true] at q; rw [← q, Bool.eq_iff_iff, beq_iff_eq, beq_iff_eq]; exact eq_comm
        rw [Bool.not_eq_true] at q
        rw [q, Bool.false_or] at hd
        have HD := hid (fun (_ : True) => hd)
        clear hs hbt q H HK HR hd
        go_wp2
        go_roundw
        case rel => exact ⟨k + 1, rfl, by omega, by first | rfl | trivial, HD⟩
        case measure => simp [RowKit.intOf]; omega
    · obtain rfl : k = 15 := by omega
      have hd := HK.out trivial
      have : R = false := by rw [← hd]; rfl
      subst this
      clear hd HK HR H
      go_wp2
      go_ret
      exact ⟨rfl, rfl⟩

def smallL : List UInt8 := [97, 98, 99, 100, 101, 102, 103, 104, 105, 106, 107, 108, 109, 110, 111, 112, 113, 114, 115, 116, 117, 118, 119, 120, 121, 122]
def digitL : List UInt8 := [48, 49, 50, 51, 52, 53, 54, 55, 56, 57]
/-- a word: a small letter first, then bytes of the set -/
def isWordL (set : List UInt8) (L : List UInt8) : Bool := decide (1 ≤ L.length) && (decide (L.length ≤ 32) && (smallL.contains (L.headD 0) && L.all set.contains))
theorem all_while {p : UInt8 → Bool} : ∀ L : List UInt8, (L.takeWhile p).length = L.length ↔ L.all p = true
  | [] => by simp
  | c :: L => by
    cases hc : p c with
    | true =>
      have := all_while (p := p) L
      simp only [List.takeWhile_cons, hc, if_true, List.length_cons, List.all_cons, Bool.true_and, Nat.add_right_cancel_iff]
      exact this
    | false => simp [hc]

set_option maxHeartbeats 1000000 in
set_option maxRecDepth 100000 in
theorem refWord_any (x set : ByteArray) (w : World) (hx : x.size ≤ 100000000) (ht : set.size ≤ 1000000) :
    Calls Tryz.prog 87 #[.string x, .string set] w fun e w' => e = .returned (.bool (isWordL set.toList x.toList)) ∧ w' = w := by
  have hxl : x.toList = x.data.toList := Lib.toList_data x
  have htl : set.toList = set.data.toList := Lib.toList_data set
  have hsz := size_eq x
  rw [hxl, htl]
  by_cases h1 : x.size < 1
  · have hr : isWordL set.data.toList x.data.toList = false := by
      unfold isWordL
      rw [decide_eq_false (by omega), Bool.false_and]
    rw [hr]
    clear hr hxl htl hsz
    go_enter Tryz.func87, Tryz.ntmps87
    go_wp2
    go_ret
    exact ⟨rfl, rfl⟩
  · by_cases h2 : x.size > 32
    · have hr : isWordL set.data.toList x.data.toList = false := by
        unfold isWordL
        rw [decide_eq_false (p := x.data.toList.length ≤ 32) (by omega), Bool.false_and, Bool.and_false]
      rw [hr]
      clear hr hxl htl hsz
      go_enter Tryz.func87, Tryz.ntmps87
      go_wp2
      go_ret
      exact ⟨rfl, rfl⟩
    · have hp : 0 < x.size := by omega
      obtain ⟨c, hc⟩ : ∃ c, x[0]'hp = c := ⟨_, rfl⟩
      have hl := getElem_list hp hc
      have hhd : x.data.toList.headD 0 = c := by
        cases hq : x.data.toList with
        | nil => rw [hq] at hl; simp at hl
        | cons a r => rw [hq] at hl; simpa using hl
      have ham := fun W => among_any c (bs smallL) W (by rw [bs_size]; decide)
      rw [bs_data] at ham
      have hpa := fun W => past_any x 0 set W (Nat.zero_le _) (by omega) ht
      rw [List.drop_zero, Nat.zero_add] at hpa
      have hw : isWordL set.data.toList x.data.toList = (smallL.contains c && x.data.toList.all set.data.toList.contains) := by
        unfold isWordL
        rw [decide_eq_true (p := 1 ≤ x.data.toList.length) (by omega), decide_eq_true (p := x.data.toList.length ≤ 32) (by omega), hhd, Bool.true_and, Bool.true_and]
      rw [hw]
      have hall := all_while (p := set.data.toList.contains) x.data.toList
      obtain ⟨A, hA⟩ : ∃ A, x.data.toList.all set.data.toList.contains = A := ⟨_, rfl⟩
      obtain ⟨n, hn⟩ : ∃ n, (x.data.toList.takeWhile set.data.toList.contains).length = n := ⟨_, rfl⟩
      obtain ⟨B, hB⟩ : ∃ B, smallL.contains c = B := ⟨_, rfl⟩
      rw [hB] at ham ⊢
      rw [hn] at hpa hall
      rw [hA] at hall ⊢
      rw [← hsz] at hall
      have HA := hid ham
      have HP := hid hpa
      clear ham hpa hl hhd hw hA hn hB hxl htl hsz
      unfold bs at HA
      cases B
      · clear hall
        go_enter Tryz.func87, Tryz.ntmps87
        go_wp2_with (go_at_call 74; refine (HA.out _).mono ?_; rintro e w' ⟨rfl, rfl⟩)
        go_ret
        exact ⟨rfl, rfl⟩
      · by_cases hnx : n = x.size
        · obtain rfl : A = true := hall.1 hnx
          subst hnx
          clear hall
          go_enter Tryz.func87, Tryz.ntmps87
          go_wp2_with (first | (go_at_call 74; refine (HA.out _).mono ?_; rintro e w' ⟨rfl, rfl⟩) | (go_at_call 51; refine (HP.out _).mono ?_; rintro e w' ⟨rfl, rfl⟩))
          go_ret
          exact ⟨ret_bool (by simp), rfl⟩
        · obtain rfl : A = false := by
            cases A
            · rfl
            · exact absurd (hall.2 rfl) hnx
          have q : ((n : Int) == (x.size : Int)) = false := by rw [beq_eq_false_iff_ne]; omega
          clear hall
          go_enter Tryz.func87, Tryz.ntmps87
          go_wp2_with (first | (go_at_call 74; refine (HA.out _).mono ?_; rintro e w' ⟨rfl, rfl⟩) | (go_at_call 51; refine (HP.out _).mono ?_; rintro e w' ⟨rfl, rfl⟩))
          go_ret
          exact ⟨ret_bool (by simp), rfl⟩
end Go.Proofs.YtkcgmimldjeaiaaGreatDoor

/-
  The reference's Check: rules' names, one rule, one scheme, one drop: their walks.
-/
namespace Go.Proofs.YtkcgmimldjeaiaaGreatDoor
open Go.RowKit Go.Lib Own

theorem info_str : (Tryz.prog.info? 9).map (fun i => (i.zero, i.size, i.bytes)) = some (some (.string ⟨#[]⟩), 1, 16) := by kernel_rfl
/-- a policy's five cells -/
def polC (vr vs vd : Value) (P : PolP) : Array Value := #[vr, vs, vd, .int .i64 P.depth, .int .i64 P.window]
theorem polC_at {W : World} {b : Nat} {vr vs vd : Value} {P : PolP} (h : W.heap[b]? = some (.cells (polC vr vs vd P) 25 (0, 0))) :
    W.cell? ⟨b, 0, none⟩ = some vr ∧ W.cell? ⟨b, 1, none⟩ = some vs ∧ W.cell? ⟨b, 2, none⟩ = some vd ∧ W.cell? ⟨b, 3, none⟩ = some (.int .i64 P.depth) ∧ W.cell? ⟨b, 4, none⟩ = some (.int .i64 P.window) :=
  ⟨cell_at h rfl, cell_at h rfl, cell_at h rfl, cell_at h rfl, cell_at h rfl⟩

set_option maxHeartbeats 2000000 in
set_option maxRecDepth 100000 in
theorem refNames_any (vr vs vd : Value) (P : PolP) (w : World) (h : RulesR w vr P.rules) (hn : P.rules.length ≤ 2000000) :
    Calls Tryz.prog 48 #[.agg (polC vr vs vd P)] w fun e w' => ∃ v, e = .returned v ∧ Words w' v (P.rules.map Prod.fst) ∧ Below w.heap.size w w' := by
  obtain ⟨i0, hi, hz0, hz1, hz2⟩ := info_parts info_str
  obtain ⟨rp, rc, rfl, hr1, hr2, hr3⟩ := h
  have HR := hid hr3
  have hb0 := heap_alloc_new w (.cells (polC (.slice rp P.rules.length rc) vs vd P) 25)
  have hbel0 : Below w.heap.size w (w.alloc (.cells (polC (.slice rp P.rules.length rc) vs vd P) 25)) := (Below.refl w.heap.size w).alloc (Nat.le_refl _) _
  have H0 : Hid (Below w.heap.size w (w.alloc (.cells (polC (.slice rp P.rules.length rc) vs vd P) 25)) ∧ (w.alloc (.cells (polC (.slice rp P.rules.length rc) vs vd P) 25)).heap[w.heap.size]? = some (.cells (polC (.slice rp P.rules.length rc) vs vd P) 25 (0, 0)) ∧ (w.alloc (.cells (polC (.slice rp P.rules.length rc) vs vd P) 25)).ownsRow w.heap.size 9 1 (.slice none 0 0) 0 (((P.rules.take 0).map Prod.fst).map fun s => .string (bs s))) := ⟨hbel0, hb0, World.ownsRow_nil _ _ _ _⟩
  clear hr3 hb0 hbel0
  unfold polC at H0 ⊢
  go_enter Tryz.func48, Tryz.ntmps48
  go_wp2
  go_loopw [3, 4] (fun nv iv wr => ∃ k : Nat, iv = .int .i64 k ∧ k ≤ P.rules.length ∧ Hid (Below w.heap.size w wr ∧ wr.heap[w.heap.size]? = some (.cells #[.slice rp P.rules.length rc, vs, vd, .int .i64 P.depth, .int .i64 P.window] 25 (0, 0)) ∧ wr.ownsRow w.heap.size 9 1 nv k (((P.rules.take k).map Prod.fst).map fun s => .string (bs s)))) (fun _ iv _ => P.rules.length - (RowKit.intOf iv).toNat)
  case atStart => exact ⟨0, rfl, Nat.zero_le _, H0⟩
  case round =>
    obtain ⟨k, rfl, hk, HX⟩ := hrel
    obtain ⟨np, nc, rfl⟩ := row_shape HX.out.2.2
    have c0 := (polC_at (P := P) HX.out.2.1).1
    by_cases hkl : k < P.rules.length
    · obtain ⟨r, hr⟩ : ∃ r, P.rules[k]? = some r := ⟨_, List.getElem?_eq_getElem hkl⟩
      obtain ⟨b, o, u, rfl, hc1, _, _⟩ := HR.out k r hr
      have hc2 := cell_low hc1 HX.out.1 (cell_block hc1)
      obtain ⟨S, hS⟩ : ∃ S, bs r.1 = S := ⟨_, rfl⟩
      rw [hS] at hc2
      have hown := HX.out.2.2
      have hbs := HX.out.1.size
      have hst : ((P.rules.take (k + 1)).map Prod.fst).map (fun s => Value.string (bs s)) = ((P.rules.take k).map Prod.fst).map (fun s => Value.string (bs s)) ++ [.string S] := by
        rw [List.take_add_one, hr, ← hS]
        simp
      obtain ⟨LK, hLK⟩ : ∃ LK, ((P.rules.take k).map Prod.fst).map (fun s => Value.string (bs s)) = LK := ⟨_, rfl⟩
      rw [hLK] at hst hown
      have HST := hid (fun (_ : True) => hst)
      clear hr hc1 hS hst H0 hLK
      go_wp2_with (at_builtin; refine wpList_append_own _ rfl (.tmp 12) (.tmp 19) 23 rfl w.heap.size 9 i0 (.string ⟨#[]⟩) 1 16 Tryz.underlying23 hi hz0 hz1 hz2 rfl (by decide) _ _ _ rfl (hown.alloc _) ⟨_, 0, none⟩ 1 1 [.string S] rfl rfl (cells_newV _ _ _) (by simp [Value.oneCell']) (by unfold maxLen; omega) (by omega) (by simp; omega) ?_)
      intro v' w2 hown2 hgrow2 _
      have hbx := HX.out.2.1
      have hne := row_ne hown hbx (by decide)
      have hb2 : w2.heap[w.heap.size]? = _ := ((hgrow2.block _ (by simp; have := block_lt hbx; omega) (fun e => hne e.symm)).trans (Go.Lib.alloc_old _ _ _ (block_lt hbx))).trans hbx
      have hbel2 : Below w.heap.size w w2 := (HX.out.1.alloc hbs _).grown hgrow2 (by simp; omega) (fun k hk => (hown.lt k hk).1)
      rw [← HST.out trivial] at hown2
      have HZ := hid (And.intro hbel2 (And.intro hb2 hown2))
      clear hbel2 hb2 hown2 hgrow2 hbx hne hown HX c0
      go_wp2
      go_roundw
      case rel => first | exact ⟨k + 1, rfl, by omega, HZ⟩ | ((repeat apply Exists.intro); exact ⟨⟨k + 1, rfl, by omega, HZ⟩, rfl⟩)
      case measure => simp [RowKit.intOf]; omega
    · obtain rfl : k = P.rules.length := by omega
      have hw : Words wr (.slice np P.rules.length nc) (P.rules.map Prod.fst) := by
        have := HX.out.2.2
        rw [List.take_length] at this
        exact Words.row (by rw [List.length_map]; exact this)
      have HW := hid (And.intro hw HX.out.1)
      clear hw HX H0
      go_wp2
      go_ret
      exact ⟨_, rfl, HW.out.1, HW.out.2⟩

def wrongRuleP (n : Nat) (r : RuleP) : Bool := if n = 3 then classL r.1 == 0 else if n = 6 then twiceL r.2 else decide (n = 5) && r.2.any fun a => !attrT.contains a
theorem find_le : ∀ (T : List (List UInt8 × Nat)) (x : List UInt8), (∀ e ∈ T, e.2 ≤ 6) → findT T x ≤ 6
  | [], _, _ => Nat.zero_le _
  | e :: r, x, h => by
    unfold findT
    split
    · exact h e (List.mem_cons_self ..)
    · exact find_le r x (fun e he => h e (List.mem_cons_of_mem _ he))
theorem class_le (x : List UInt8) : classL x ≤ 6 := find_le _ _ (by decide)
theorem classW_nil (x : List UInt8) : ((classW (classL x)) == []) = (classL x == 0) := by
  have h := class_le x
  generalize classL x = k at h
  match k, h with
  | 0, _ => rfl
  | 1, _ => rfl
  | 2, _ => rfl
  | 3, _ => rfl
  | 4, _ => rfl
  | 5, _ => rfl
  | 6, _ => rfl
  | k + 7, h => omega

set_option maxHeartbeats 2000000 in
set_option maxRecDepth 100000 in
theorem wrongRule_any (n : Nat) (hn0 : n ≤ 10) (r : RuleP) (u : Value) (w : World) (h : Words w u r.2) (hl : r.2.length ≤ 2000000) (hT : AttrTab w) :
    Calls Tryz.prog 71 #[.int .i64 n, .agg #[.string (bs r.1), u]] w fun e w' => e = .returned (.bool (wrongRuleP n r)) ∧ Below w.heap.size w w' := by
  have hb0 := heap_alloc_new w (.cells #[.string (bs r.1), u] 53)
  have hbel0 : Below w.heap.size w (w.alloc (.cells #[.string (bs r.1), u] 53)) := (Below.refl w.heap.size w).alloc (Nat.le_refl _) _
  have hW1 := h.below hbel0
  have hT1 := hT.below hbel0
  have hcl := fun W => classOf_any (bs r.1) W
  rw [bs_toList] at hcl
  have hq := classW_nil r.1
  have hst := bs_toList (classW (classL r.1))
  by_cases h3 : n = 3
  · subst h3
    obtain ⟨R, hR⟩ : ∃ R, wrongRuleP 3 r = R := ⟨_, rfl⟩
    have hR2 : (classL r.1 == 0) = R := hR
    rw [hR2] at hq
    rw [← hst] at hq
    have c0 := cell_at hb0 (j := 0) rfl
    obtain ⟨S, hS⟩ : ∃ S, bs (classW (classL r.1)) = S := ⟨_, rfl⟩
    rw [hS] at hcl hq
    rw [hR]
    have q2 : S.toList.isEmpty = R := by rw [← hq]; cases S.toList <;> rfl
    have HC := hid hcl
    have HB := hid hbel0
    clear hcl hR hR2 hS hst hW1 hT1 hb0 hbel0 h hT
    obtain ⟨x, hx⟩ : ∃ x, bs r.1 = x := ⟨_, rfl⟩
    rw [hx] at c0 HC HB ⊢
    go_enter Tryz.func71, Tryz.ntmps71
    go_wp2_with (go_at_call 85; refine (HC.out _).mono ?_; rintro e w' ⟨rfl, rfl⟩)
    go_ret
    exact ⟨ret_bool (by first | exact hq | exact q2 | simp), HB.out⟩
  · clear hcl hq hst
    have q3 : ((n : Int) == 3) = false := by rw [beq_eq_false_iff_ne]; omega
    by_cases h6 : n = 6
    · subst h6
      have htw := refTwice_any u r.2 _ hW1 (by omega)
      have hR : wrongRuleP 6 r = twiceL r.2 := rfl
      rw [hR]
      obtain ⟨up, uc, hu, _⟩ := h.len
      have c1 := cell_at hb0 (j := 1) rfl
      have HTW := hid htw
      have HB := hid hbel0
      subst hu
      generalize twiceL r.2 = R at HTW ⊢
      obtain ⟨x, hx⟩ : ∃ x, bs r.1 = x := ⟨_, rfl⟩
      rw [hx] at c1 HTW HB ⊢
      clear htw hb0 hbel0 hT1 hT h hW1 hR hx
      go_enter Tryz.func71, Tryz.ntmps71
      go_wp2_with (go_at_call 49; refine HTW.out.mono ?_; rintro e w' ⟨rfl, nd, rfl⟩)
      go_ret
      exact ⟨rfl, below_drewN HB.out nd⟩
    · have q6 : ((n : Int) == 6) = false := by rw [beq_eq_false_iff_ne]; omega
      have hR : wrongRuleP n r = (decide (n = 5) && r.2.any fun a => !attrT.contains a) := by unfold wrongRuleP; rw [if_neg h3, if_neg h6]
      rw [hR]
      obtain ⟨up, uc, rfl, _, _, hcell, _⟩ := hW1
      have c1 := cell_at hb0 (j := 1) rfl
      have HT := hid hT1
      have HB := hid hbel0
      have HC := hid hcell
      obtain ⟨x, hx⟩ : ∃ x, bs r.1 = x := ⟨_, rfl⟩
      rw [hx] at c1 HT HB HC ⊢
      clear hb0 hbel0 hT1 hT h hR hx hcell
      by_cases h5 : n = 5
      · subst h5
        obtain ⟨R, hR⟩ : ∃ R, (r.2.any fun a => !attrT.contains a) = R := ⟨_, rfl⟩
        have HR := hid (fun (_ : True) => hR)
        have e5 : (decide ((5 : Nat) = 5) && r.2.any fun a => !attrT.contains a) = R := by rw [hR]; rfl
        rw [e5]
        clear hR e5
        go_enter Tryz.func71, Tryz.ntmps71
        go_wp2
        go_loopw [5] (fun iv wr => ∃ k : Nat, iv = .int .i64 k ∧ k ≤ r.2.length ∧ wr = w.alloc (.cells #[.string x, .slice up r.2.length uc] 53) ∧ Hid (True → ((r.2.drop k).any fun a => !attrT.contains a) = R)) (fun iv _ => r.2.length - (RowKit.intOf iv).toNat)
        case atStart => exact ⟨0, rfl, Nat.zero_le _, rfl, HR.out⟩
        case round =>
          obtain ⟨k, rfl, hk, rfl, HK⟩ := hrel
          by_cases hkl : k < r.2.length
          · obtain ⟨s, hs⟩ : ∃ s, r.2[k]? = some s := ⟨_, List.getElem?_eq_getElem hkl⟩
            obtain ⟨b, o, rfl, hc2⟩ := HC.out k s hs
            have hd := HK.out trivial
            rw [drop_at hs, List.any_cons] at hd
            have hka := fun W hTW => knownAttr_any (bs s) W hTW
            rw [bs_toList] at hka
            obtain ⟨K, hK⟩ : ∃ K, attrT.contains s = K := ⟨_, rfl⟩
            rw [hK] at hd hka
            obtain ⟨S, hS⟩ : ∃ S, bs s = S := ⟨_, rfl⟩
            rw [hS] at hka hc2
            have HKA := hid hka
            have HD := hid (fun (_ : True) => hd)
            clear hka hs hK hS hd HK HC
            cases K
            · go_wp2_with (go_at_call 86; refine (HKA.out _ HT.out).mono ?_; rintro e w' ⟨rfl, rfl⟩)
              go_ret
              exact ⟨ret_bool (by rw [← HD.out trivial]; rfl), HB.out⟩
            · go_wp2_with (go_at_call 86; refine (HKA.out _ HT.out).mono ?_; rintro e w' ⟨rfl, rfl⟩)
              go_roundw
              case rel =>
                have HE := hid (fun (_ : True) => (by have := HD.out trivial; simpa using this : ((r.2.drop (k + 1)).any fun a => !attrT.contains a) = R))
                first | exact ⟨k + 1, rfl, by omega, by first | rfl | trivial, HE⟩ | ((repeat apply Exists.intro); exact ⟨⟨k + 1, rfl, by omega, by first | rfl | trivial, HE⟩, rfl⟩)
              case measure => simp [RowKit.intOf]; omega
          · have hd := HK.out trivial
            rw [List.drop_of_length_le (by omega)] at hd
            obtain rfl : R = false := by rw [← hd]; rfl
            clear hd HK HC HR
            go_wp2
            go_ret
            exact ⟨rfl, HB.out⟩
      · have q5 : ((n : Int) == 5) = false := by rw [beq_eq_false_iff_ne]; omega
        rw [show (decide (n = 5) && r.2.any fun a => !attrT.contains a) = false by rw [decide_eq_false h5]; rfl]
        clear HC HT
        go_enter Tryz.func71, Tryz.ntmps71
        go_wp2
        go_loopw [5] (fun iv wr => ∃ k : Nat, iv = .int .i64 k ∧ k ≤ r.2.length ∧ wr = w.alloc (.cells #[.string x, .slice up r.2.length uc] 53)) (fun iv _ => r.2.length - (RowKit.intOf iv).toNat)
        case atStart => exact ⟨0, rfl, Nat.zero_le _, rfl⟩
        case round =>
          obtain ⟨k, rfl, hk, rfl⟩ := hrel
          by_cases hkl : k < r.2.length
          · go_wp2
            go_roundw
            case rel => exact ⟨k + 1, rfl, by omega, by first | rfl | trivial⟩
            case measure => simp [RowKit.intOf]; omega
          · go_wp2
            go_ret
            exact ⟨rfl, HB.out⟩
end Go.Proofs.YtkcgmimldjeaiaaGreatDoor

/-
  The statements' sameTexts, longTexts: their walks.
-/
namespace Go.Proofs.YtkcgmimldjeaiaaGreatDoor
open Go.RowKit Go.Lib Own

set_option maxHeartbeats 2000000 in
set_option maxRecDepth 100000 in
theorem sameTexts_any (v1 v2 : Value) (ss : List (List UInt8)) (w : World) (h1 : Words w v1 ss) (h2 : Words w v2 ss) :
    Calls Tryz.prog 24 #[v1, v2] w fun e w' => e = .returned (.bool true) ∧ ∃ n, w' = w.drewN n := by
  obtain ⟨p1, c1, rfl, _, _, a1, _⟩ := h1
  obtain ⟨p2, c2, rfl, _, _, a2, _⟩ := h2
  have H1 := hid a1
  have H2 := hid a2
  clear a1 a2
  go_enter Tryz.func24, Tryz.ntmps24
  have q0 : ((ss.length : Int) != (ss.length : Int)) = false := by simp
  go_wp2
  go_loopw [13] (fun iv wr => ∃ k n : Nat, iv = .int .i64 k ∧ k ≤ ss.length ∧ wr = w.drewN n) (fun iv _ => ss.length - (RowKit.intOf iv).toNat)
  case atStart => exact ⟨0, 0, rfl, Nat.zero_le _, rfl⟩
  case round =>
    obtain ⟨k, n, rfl, hk, rfl⟩ := hrel
    by_cases hkl : k < ss.length
    · obtain ⟨s, hs⟩ : ∃ s, ss[k]? = some s := ⟨_, List.getElem?_eq_getElem hkl⟩
      obtain ⟨b1, o1, rfl, d1⟩ := H1.out k s hs
      obtain ⟨b2, o2, rfl, d2⟩ := H2.out k s hs
      obtain ⟨S, hS⟩ : ∃ S, bs s = S := ⟨_, rfl⟩
      rw [hS] at d1 d2
      clear hs hS H1 H2
      go_wp2_with fail
      go_quiet (fail)
      go_wp2
      go_roundw
      case rel => exact ⟨k + 1, n + nq, rfl, by omega, by first | rfl | simp⟩
      case measure => simp [RowKit.intOf]; omega
    · go_wp2
      go_ret
      exact ⟨rfl, n, rfl⟩

/-- the cells of words -/
def wordsV (ss : List (List UInt8)) : List Value := ss.map fun s => .string (bs s)
theorem wordsV_app (a b : List (List UInt8)) : wordsV (a ++ b) = wordsV a ++ wordsV b := List.map_append
theorem wordsV_len (a : List (List UInt8)) : (wordsV a).length = a.length * 1 := by simp [wordsV]
theorem wordsV_one (a : List (List UInt8)) : ∀ u ∈ wordsV a, u.oneCell' = true := by
  intro u hu
  unfold wordsV at hu
  obtain ⟨s, _, rfl⟩ := List.mem_map.1 hu
  rfl
/-- words appended to a row of words that the call owns -/
theorem wpList_append_words {w : World} {ops : Array Oper} {rest : List Oper} {o : Oper} {a : Act} {Q : Exit → Act → World → Prop} (hgd : o.guard = none) (s x : Operand)
    (ho : o.op = .call { callee := .builtin .append, args := #[s, x], argTypes := #[23, 23] }) (base : Nat) (v vx : Value) (l m : List (List UInt8)) (hs : a.eval s = v) (hx : a.eval x = vx)
    (hown : w.ownsRow base 9 1 v l.length (wordsV l)) (hw : Words w vx m) (hbase : base ≤ w.heap.size) (hsz : l.length + m.length ≤ 1000000000)
    (h : ∀ v' w', w'.ownsRow base 9 1 v' (l ++ m).length (wordsV (l ++ m)) → w.grownBy w' v.ownBlock → wpList Tryz.prog ops Q rest (a.put o.dst v') w') : wpList Tryz.prog ops Q (o :: rest) a w := by
  obtain ⟨i0, hi, hz0, hz1, hz2⟩ := info_parts info_str
  obtain ⟨p, c, rfl, hc, hm, hcell, hnone⟩ := hw
  cases p with
  | none =>
    obtain rfl : c = 0 := hnone rfl
    obtain rfl : m = [] := List.length_eq_zero_iff.1 (by omega)
    refine wpList_append_own_none hgd s x 23 ho base 9 i0 1 Tryz.underlying23 hi v l.length (wordsV l) hs hown hx ?_
    exact h v w (by rw [List.append_nil]; exact hown) ⟨rfl, rfl, rfl, Nat.le_refl _, fun _ _ _ => rfl⟩
  | some ad =>
    refine wpList_append_own w hgd s x 23 ho base 9 i0 (.string ⟨#[]⟩) 1 16 Tryz.underlying23 hi hz0 hz1 hz2 rfl (by decide) v l.length (wordsV l) hs hown ad m.length c (wordsV m) hx (wordsV_len m) ?_ (wordsV_one m) (by unfold maxLen; omega) (by omega) hbase ?_
    · intro j u hj
      unfold wordsV at hj
      rw [List.getElem?_map] at hj
      obtain ⟨t, ht, rfl⟩ := Option.map_eq_some_iff.1 hj
      obtain ⟨b, o', e, hd⟩ := hcell j t ht
      cases e
      have hadd : (⟨b, o', none⟩ : Addr).add j = ⟨b, o' + j, none⟩ := by unfold Addr.add; split <;> simp_all
      rw [hadd]
      exact hd
    · intro v' w' h2 h3 _
      exact h v' w' (by rw [List.length_append, wordsV_app]; exact h2) h3

set_option maxHeartbeats 2000000 in
set_option maxRecDepth 100000 in
theorem longTexts_any (v1 v2 : Value) (l m : List (List UInt8)) (w : World) (h1 : Words w v1 l) (h2 : Words w v2 m) (hl : l.length ≤ 4000000) (hm : m.length ≤ 4000000) :
    Calls Tryz.prog 18 #[v1, v2] w fun e w' => ∃ v, e = .returned v ∧ w'.ownsRow w.heap.size 9 1 v (l ++ m).length (wordsV (l ++ m)) ∧ Below w.heap.size w w' := by
  have H1 := hid h1
  have H2 := hid h2
  obtain ⟨p1, c1, rfl, _⟩ := h1.len
  obtain ⟨p2, c2, rfl, _⟩ := h2.len
  clear h1 h2
  go_enter Tryz.func18, Tryz.ntmps18
  have hb0 := heap_alloc_new w (.cells #[] 9)
  have hown0 : (w.alloc (.cells #[] 9)).ownsRow w.heap.size 9 1 (.slice (some ⟨w.heap.size, 0, none⟩) 0 0) ([] : List (List UInt8)).length (wordsV []) := ⟨rfl, .inr ⟨w.heap.size, 0, #[], rfl, Nat.le_refl _, hb0, Nat.le_refl _, by decide, rfl, rfl⟩⟩
  have hbel0 : Below w.heap.size w (w.alloc (.cells #[] 9)) := (Below.refl w.heap.size w).alloc (Nat.le_refl _) _
  have HO := hid hown0
  have HB := hid hbel0
  clear hb0 hown0 hbel0
  go_wp2_with (at_builtin; refine wpList_append_words rfl (.tmp 6) (.tmp 7) rfl w.heap.size _ _ [] l rfl rfl (by exact HO.out) (by exact H1.out.below HB.out) HB.out.size (by simp; omega) ?_)
  intro v3 w3 hown3 hgrow3
  have hbel3 : Below w.heap.size w w3 := HB.out.grown hgrow3 HB.out.size (fun k hk => (HO.out.lt k hk).1)
  have HO3 := hid hown3
  have HB3 := hid hbel3
  obtain ⟨p3, c3, rfl⟩ := row_shape hown3
  clear hown3 hgrow3 hbel3 HO HB
  go_wp2_with (at_builtin; refine wpList_append_words rfl (.tmp 9) (.tmp 10) rfl w.heap.size _ _ l m rfl rfl (by exact HO3.out) (by exact H2.out.below HB3.out) HB3.out.size (by omega) ?_)
  intro v4 w4 hown4 hgrow4
  have hbel4 : Below w.heap.size w w4 := HB3.out.grown hgrow4 HB3.out.size (fun k hk => (HO3.out.lt k hk).1)
  have HO4 := hid hown4
  have HB4 := hid hbel4
  clear hown4 hgrow4 hbel4 HO3 HB3
  go_wp2
  go_ret
  exact ⟨_, rfl, by rw [List.length_append]; exact HO4.out, HB4.out⟩
end Go.Proofs.YtkcgmimldjeaiaaGreatDoor

/-
  The reader's state; unit, beginSkip: their walks.
-/
namespace Go.Proofs.YtkcgmimldjeaiaaGreatDoor
open Go.RowKit Go.Lib Own

/-- the reader's nine cells -/
def rdC (win : Int) (data : ByteArray) (pos mode scan : Int) (eat : Bool) (ev p v : Value) : Array Value :=
  #[.int .i64 win, .string data, .int .i64 pos, .int .i64 mode, .int .i64 scan, .bool eat, ev, p, v]
theorem StreamAt.heap {W : World} {base b o : Nat} {cs : Array Value} {T : TypeId} {evs : List Ev} {pend : List UInt8} (h : StreamAt W base b o cs T evs pend) : W.heap[b]? = some (.cells cs T (0, 0)) ∧ base ≤ b := by
  obtain ⟨ev, p, v, xs, hev, hin, hrow, hevs, hap⟩ := h.it
  exact ⟨hin.at_, hin.lo⟩
/-- a cell that is none of the stream's three is stored -/
theorem StreamAt.stored {W : World} {base b o : Nat} {cs : Array Value} {T : TypeId} {evs : List Ev} {pend : List UInt8} (h : StreamAt W base b o cs T evs pend) (hT : StreamT T cs o) (j : Nat) (hj : j < o) (u : Value) : StreamAt (W.setCell ⟨b, j, none⟩ u) base b o (cs.setIfInBounds j u) T evs pend := by
  obtain ⟨ev, p, v, xs, hev, hin, hrow, hevs, hap⟩ := h.it
  have j1 := just_set (j := j) hin.at_ u
  refine ⟨ev, p, v, xs, ?_, ⟨j1.at_, hin.lo, ?_, ?_, hin.hp, ?_, hin.ne⟩, row_just hrow hin.at_ hT.n2 j1.other, evs_mono (fun a n ys hr => row_just hr hin.at_ hT.n1 j1.other) xs evs hevs, hap⟩
  · rw [Array.getElem?_setIfInBounds, if_neg (by omega)]; exact hev
  · rw [Array.getElem?_setIfInBounds, if_neg (by omega)]; exact hin.cp
  · rw [Array.getElem?_setIfInBounds, if_neg (by omega)]; exact hin.cv
  · exact hin.own.kept (row := some b) ⟨j1.os, j1.tape, j1.output, by rw [j1.size]; exact Nat.le_refl _, fun k _ hk => j1.other k (fun e => hk (by rw [e]))⟩ (.inr hin.ne)

end Go.Proofs.YtkcgmimldjeaiaaGreatDoor
