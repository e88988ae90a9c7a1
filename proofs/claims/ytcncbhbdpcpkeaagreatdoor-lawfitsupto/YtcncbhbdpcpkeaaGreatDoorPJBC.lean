/-
  Parts of the walk, joined: FoldL, WrAll, SameEv, SameR, ApartB, FiltL.
-/
import Derived.BigQuiet
import Derived.Maps.AppendAt
import Derived.Laws.AppendOwnNone
import Derived.Lib.Index
import Derived.Lib.Strings
import Derived.Test.YtcncbhbdpcpkeaaGreatDoorShelf
import Derived.Test.YtcncbhbdpcpkeaaGreatDoorPJAD
import Derived.Test.YtcncbhbdpcpkeaaGreatDoorPJAV
import Derived.Test.YtcncbhbdpcpkeaaGreatDoorPJAA
import Derived.Test.YtcncbhbdpcpkeaaGreatDoorPJAT
import Derived.Test.YtcncbhbdpcpkeaaGreatDoorPJBB
import Derived.Test.YtcncbhbdpcpkeaaGreatDoorPJAG
import Derived.Test.YtcncbhbdpcpkeaaGreatDoorPJAU
import Derived.Test.YtcncbhbdpcpkeaaGreatDoorPJAI
/-
  Fold as a plain function on events: a node for each event, and texts of one depth that meet made one.
-/
namespace Go.Proofs.YtcncbhbdpcpkeaaGreatDoor
open Go.RowKit Go.Lib

def voidL (n : List UInt8) : Bool := n == [98, 114] || (n == [104, 114] || n == [105, 109, 103])
/-! ## how long things are -/

end Go.Proofs.YtcncbhbdpcpkeaaGreatDoor

/-
  markup.Write: its walk.
-/
namespace Go.Proofs.YtcncbhbdpcpkeaaGreatDoor
open Go.RowKit Go.Lib Own

theorem takeW_len (eat : Bool) (e : EvP) : (takeW eat e).2.length ≤ 6 * (e.n.length + e.t.length + bulkA e.a) + 3 := by
  have h1 := attrs_len e.a
  have h2 := esc_len false _ e.t (Nat.le_refl _)
  have h3 : (openL e.n e.a).length = 2 + e.n.length + (e.a.flatMap attrL).length := by unfold openL; simp only [List.length_append, List.length_cons, List.length_nil]; omega
  have h4 : (etagL e.n).length = 3 + e.n.length := by unfold etagL; simp only [List.length_append, List.length_cons, List.length_nil]; omega
  unfold takeW textW
  split
  · simp only; omega
  · split
    · simp only; omega
    · split
      · split
        · simp
        · simp only [List.length_append]
          split
          · simp only [List.length_cons, List.length_nil]; omega
          · simp only [List.length_nil]; omega
      · simp

theorem write_step (eat : Bool) (e : EvP) (r : List EvP) : writeW eat (e :: r) = (takeW eat e).2 ++ writeW (takeW eat e).1 r := rfl
theorem writeW_len : ∀ (es : List EvP) (eat : Bool), (writeW eat es).length ≤ 6 * bulkE es
  | [], _ => by simp [writeW]
  | e :: r, eat => by
    have h1 := takeW_len eat e
    have h2 := writeW_len r (takeW eat e).1
    rw [write_step, List.length_append, bulkE_cons]
    omega

end Go.Proofs.YtcncbhbdpcpkeaaGreatDoor

/-
  The statement's comparing of events: its walk, where both hold the same.
-/
namespace Go.Proofs.YtcncbhbdpcpkeaaGreatDoor
open Go.RowKit Go.Lib Own

theorem attrs_at (l : List (List UInt8 × List UInt8)) (k : Nat) (a : List UInt8 × List UInt8) (h : l[k]? = some a) : (attrsV l)[k * 2]? = some (strV a.1) ∧ (attrsV l)[k * 2 + 1]? = some (strV a.2) := by
  induction l generalizing k with
  | nil => simp at h
  | cons b l ih =>
    cases k with
    | zero =>
      simp only [List.getElem?_cons_zero, Option.some.injEq] at h
      subst h
      exact ⟨rfl, rfl⟩
    | succ k =>
      rw [List.getElem?_cons_succ] at h
      obtain ⟨h1, h2⟩ := ih k h
      refine ⟨?_, ?_⟩
      · rw [show (k + 1) * 2 = k * 2 + 1 + 1 by omega]; exact h1
      · rw [show (k + 1) * 2 + 1 = k * 2 + 1 + 1 + 1 by omega]; exact h2
end Go.Proofs.YtcncbhbdpcpkeaaGreatDoor

/-
  The statements' sameAttrs, sameEvents, sameNodes, sameLists: their walks, at lists that can be read and hold the same.
-/
namespace Go.Proofs.YtcncbhbdpcpkeaaGreatDoor
open Go.RowKit Go.Lib Own

theorem AttrsR.drewN {W : World} {v : Value} {al : List AttrP} (h : AttrsR W v al) (n : Nat) : AttrsR (W.drewN n) v al := h
theorem AttrsR.shape {W : World} {v : Value} {al : List AttrP} (h : AttrsR W v al) : ∃ p n c, v = .slice p n c := by
  obtain ⟨p, c, e, _⟩ := h
  exact ⟨p, _, c, e⟩
theorem EvsR.shape {W : World} {v : Value} {al : List EvP} (h : EvsR W v al) : ∃ p n c, v = .slice p n c := by
  obtain ⟨p, c, e, _⟩ := h
  exact ⟨p, _, c, e⟩

set_option maxHeartbeats 2000000 in
set_option maxRecDepth 10000 in
theorem sameAttrsR_any (v1 v2 : Value) (l : List AttrP) (w : World) (h1 : AttrsR w v1 l) (h2 : AttrsR w v2 l) :
    Calls Tryz.prog 31 #[v1, v2] w fun e w' => e = .returned (.bool true) ∧ ∃ n, w' = w.drewN n := by
  obtain ⟨p1, k1, rfl, _, _, a1, _⟩ := h1
  obtain ⟨p2, k2, rfl, _, _, a2, _⟩ := h2
  have H1 := hid a1
  have H2 := hid a2
  clear a1 a2
  go_enter Tryz.func31, Tryz.ntmps31
  have q0 : ((l.length : Int) != (l.length : Int)) = false := by simp
  go_wp2
  go_loopw [13] (fun iv wr => ∃ k n : Nat, iv = .int .i64 k ∧ k ≤ l.length ∧ wr = w.drewN n) (fun iv _ => l.length - (RowKit.intOf iv).toNat)
  case atStart => exact ⟨0, 0, rfl, Nat.zero_le _, rfl⟩
  case round =>
    obtain ⟨k, n, rfl, hk, rfl⟩ := hrel
    by_cases hkl : k < l.length
    · obtain ⟨s, hs⟩ : ∃ s, l[k]? = some s := ⟨_, List.getElem?_eq_getElem hkl⟩
      obtain ⟨g1, o1, rfl, a1, a2⟩ := H1.out k s hs
      obtain ⟨g2, o2, rfl, b1, b2⟩ := H2.out k s hs
      obtain ⟨u1, hu1⟩ : ∃ u1, bs s.1 = u1 := ⟨_, rfl⟩
      obtain ⟨u2, hu2⟩ : ∃ u2, bs s.2 = u2 := ⟨_, rfl⟩
      rw [hu1] at a1 b1
      rw [hu2] at a2 b2
      clear hu1 hu2 H1 H2 hs
      go_wp2_with fail
      go_quiet (fail)
      go_wp2
      go_roundw
      case rel => exact ⟨k + 1, n + nq, rfl, by omega, by first | rfl | simp⟩
      case measure => simp [RowKit.intOf]; omega
    · go_wp2
      go_ret
      exact ⟨rfl, n, rfl⟩

/-- a list of lists of attributes that can be read -/
def AlistsR (W : World) (v : Value) (ls : List (List AttrP)) : Prop :=
  ∃ p c, v = .slice p ls.length c ∧ ls.length ≤ c ∧ c ≤ 9223372036854775807 ∧ ∀ j l, ls[j]? = some l → ∃ b o u, p = some ⟨b, o, none⟩ ∧ W.cell? ⟨b, o + j, none⟩ = some u ∧ AttrsR W u l
theorem AlistsR.below {W W' : World} {v : Value} {ls : List (List AttrP)} (h : AlistsR W v ls) (hb : Below W.heap.size W W') : AlistsR W' v ls := by
  obtain ⟨p, c, rfl, h1, h2, h3⟩ := h
  refine ⟨p, c, rfl, h1, h2, fun j s hj => ?_⟩
  obtain ⟨b, o, u, rfl, hc, hw⟩ := h3 j s hj
  exact ⟨b, o, u, rfl, cell_kept hc hb, hw.below hb⟩
theorem AlistsR.shape {W : World} {v : Value} {al : List (List AttrP)} (h : AlistsR W v al) : ∃ p n c, v = .slice p n c := by
  obtain ⟨p, c, e, _⟩ := h
  exact ⟨p, _, c, e⟩

set_option maxHeartbeats 4000000 in
set_option maxRecDepth 10000 in
theorem sameLists_any (v1 v2 : Value) (l : List (List AttrP)) (w : World) (h1 : AlistsR w v1 l) (h2 : AlistsR w v2 l) :
    Calls Tryz.prog 59 #[v1, v2] w fun e w' => e = .returned (.bool true) ∧ ∃ n, w' = w.drewN n := by
  obtain ⟨p1, k1, rfl, _, _, a1⟩ := h1
  obtain ⟨p2, k2, rfl, _, _, a2⟩ := h2
  have H1 := hid a1
  have H2 := hid a2
  clear a1 a2
  go_enter Tryz.func59, Tryz.ntmps59
  go_wp2
  go_loopw [8] (fun iv wr => ∃ k : Nat, iv = .int .i64 k ∧ k ≤ l.length ∧ Hid (True → ∃ n, wr = w.drewN n)) (fun iv _ => l.length - (RowKit.intOf iv).toNat)
  case atStart => exact ⟨0, rfl, Nat.zero_le _, hid (fun _ => ⟨0, rfl⟩)⟩
  case round =>
    obtain ⟨k, rfl, hk, HQ⟩ := hrel
    by_cases hkl : k < l.length
    · obtain ⟨s, hs⟩ : ∃ s, l[k]? = some s := ⟨_, List.getElem?_eq_getElem hkl⟩
      obtain ⟨g1, o1, a1, rfl, b0, b4⟩ := H1.out k s hs
      obtain ⟨g2, o2, a2, rfl, d0, d4⟩ := H2.out k s hs
      obtain ⟨sp1, sn1, sc1, rfl⟩ := b4.shape
      obtain ⟨sp2, sn2, sc2, rfl⟩ := d4.shape
      have hq := HQ.out trivial
      replace b0 := cell_drew hq b0
      replace d0 := cell_drew hq d0
      have hsame := fun n => sameAttrsR_any _ _ s (wr.drewN n) (by obtain ⟨n', rfl⟩ := hq; exact (b4.drewN _).drewN _) (by obtain ⟨n', rfl⟩ := hq; exact (d4.drewN _).drewN _)
      have HS := hid hsame
      clear hsame b4 d4 hq H1 H2 hs
      go_wp2_with fail
      go_quiet (first | (go_at_call 31; refine Calls.quiet_of (HS.out _)))
      go_wp2
      go_roundw
      case rel =>
        obtain ⟨n, hn⟩ := HQ.out trivial
        exact ⟨k + 1, rfl, by omega, hid (fun _ => ⟨n + nq, by rw [hn]; simp⟩)⟩
      case measure => simp [RowKit.intOf]; omega
    · have q0 : ((l.length : Int) == (l.length : Int)) = true := by simp
      go_wp2
      go_ret
      exact ⟨rfl, HQ.out trivial⟩
end Go.Proofs.YtcncbhbdpcpkeaaGreatDoor

/-
  The statements' apartLists: its walk.
-/
namespace Go.Proofs.YtcncbhbdpcpkeaaGreatDoor
open Go.RowKit Go.Lib Own

theorem info_list : (Tryz.prog.info? 36).map (fun i => (i.zero, i.size, i.bytes)) = some (some (.slice none 0 0), 1, 24) := by kernel_rfl
end Go.Proofs.YtcncbhbdpcpkeaaGreatDoor

/-
  Filter as a plain function on events: one event at a time, a skip that is counted.
-/
namespace Go.Proofs.YtcncbhbdpcpkeaaGreatDoor
open Go.RowKit Go.Lib Own

def isLinkL (n : List UInt8) : Bool := n == [99, 105, 116, 101] || (n == [104, 114, 101, 102] || n == [115, 114, 99])
/-- the attributes that stay, behind those whose names were seen -/
def keptA (schemes listed : List (List UInt8)) : List (List UInt8) → List AttrP → List AttrP
  | _, [] => []
  | seen, a :: r => if listed.contains a.1 = false ∨ seen.contains a.1 = true then keptA schemes listed seen r else
    if isLinkL a.1 = true then (if (linkL schemes a.2).2 = true then (a.1, (linkL schemes a.2).1) :: keptA schemes listed (seen ++ [a.1]) r else keptA schemes listed (seen ++ [a.1]) r)
    else a :: keptA schemes listed (seen ++ [a.1]) r
/-- the attributes that the first rule of this name lists -/
def ruleL : List RuleP → List UInt8 → Option (List (List UInt8))
  | [], _ => none
  | r :: rs, n => if r.1 = n then some r.2 else ruleL rs n
/-- a Start that has a rule -/
def startF (P : PolP) (e : EvP) (listed : List (List UInt8)) : Option Ev :=
  if ((openL e.n (keptA P.schemes listed [] e.a)).length : Int) ≤ P.window then some (.start e.n (keptA P.schemes listed [] e.a)) else none
/-- a Start, by the rule of its name -/
def ruledF (P : PolP) (e : EvP) : Option Ev := match ruleL P.rules e.n with | none => none | some l => startF P e l
theorem ruledF_none {P : PolP} {e : EvP} (h : ruleL P.rules e.n = none) : ruledF P e = none := by unfold ruledF; rw [h]
theorem ruledF_some {P : PolP} {e : EvP} {l : List (List UInt8)} (h : ruleL P.rules e.n = some l) : ruledF P e = startF P e l := by unfold ruledF; rw [h]
/-- within a skip -/
def skipF (s : List UInt8 × Nat) (e : EvP) : Nat := if e.n = s.1 ∧ e.k = 1 then s.2 + 1 else if e.n = s.1 ∧ e.k = 2 then s.2 - 1 else s.2
/-- what is left of one event outside of a skip -/
def outL (P : PolP) (e : EvP) : Option Ev :=
  if e.k = 1 then ruledF P e
  else if e.k = 2 then (if (ruleL P.rules e.n).isSome = true then some (.stop e.n) else none)
  else if e.k = 3 then (if e.t = [] then none else some (.text e.t)) else none
def sieveL (P : PolP) (s : List UInt8 × Nat) (e : EvP) : (List UInt8 × Nat) × Option Ev :=
  if 0 < s.2 then ((s.1, skipF s e), none) else if e.k = 1 ∧ P.drop.contains e.n = true then ((e.n, 1), none) else (s, outL P e)
/-! ## how long things are -/

theorem stripL_len (v : List UInt8) : (stripL v).length ≤ v.length := by
  unfold stripL rtrim
  have h1 := List.length_filter_le seenB v
  generalize v.filter seenB = f at h1
  have h2 : ∀ l : List UInt8, (l.dropWhile fun c => c == 32).length ≤ l.length := fun l => (List.dropWhile_sublist _).length_le
  have h3 := h2 ((f.drop (f.takeWhile [32].contains).length).reverse)
  rw [List.length_reverse] at h3 ⊢
  rw [List.length_drop] at h3
  omega
theorem linkL_len (schemes : List (List UInt8)) (v : List UInt8) : (linkL schemes v).1.length ≤ v.length := by
  unfold linkL
  split
  · simp
  · exact stripL_len v
theorem keptA_bulk (schemes listed : List (List UInt8)) : ∀ (al : List AttrP) (seen : List (List UInt8)), bulkA (keptA schemes listed seen al) ≤ bulkA al ∧ (keptA schemes listed seen al).length ≤ al.length
  | [], _ => ⟨Nat.le_refl _, Nat.le_refl _⟩
  | a :: r, seen => by
    have h1 := keptA_bulk schemes listed r seen
    have h2 := keptA_bulk schemes listed r (seen ++ [a.1])
    have h3 := linkL_len schemes a.2
    rw [bulkA_cons]
    unfold keptA
    simp only [List.length_cons]
    split
    · omega
    · split
      · split
        · rw [bulkA_cons]; simp only [List.length_cons]; omega
        · omega
      · rw [bulkA_cons]; simp only [List.length_cons]; omega
end Go.Proofs.YtcncbhbdpcpkeaaGreatDoor
