/-
  Parts of the walk, joined: FoldL, PolRef, PolRefB, PolRefC, PolLend, PolLendA, PolSame, SameR, PolLendB, PolKept, SlW, Voc, TabsK.
-/
import Derived.Test.YtkcgmimldjeaiaaDoorJoinA
import Derived.Laws.AppendOwnNone
import Derived.Deep.Cut
import Derived.Deep.RegionWith
import Derived.Deep.AppendLies
import Derived.BigQuiet
import Derived.Laws.Rows
import Derived.Test.YtkcgmimldjeaiaaDoorShelf
import Derived.Shelf.Abstract
import Derived.Deep.MidRow
import Derived.Laws.ResultCell
import Derived.Test.YtkcgmimldjeaiaaDoorRows
import Derived.SliceStrings
import Derived.Deep.Strs
import Derived.Lib.LaidU8T
import Derived.Lib.LaidTab
import Derived.Lib.LaidU8
import Derived.OpenShut
import Derived.ChangeSame
import Derived.ChangeArms
/-
  Fold as a plain function on events: a node for each event, and texts of one depth that meet made one.
-/
namespace Go.Proofs.YtkcgmimldjeaiaaDoor
open Go.RowKit Go.Lib

def voidL (n : List UInt8) : Bool := n == [98, 114] || (n == [104, 114] || n == [105, 109, 103])
/-- a node for each event that adds or goes on with one -/
def piecesL : Nat → List EvP → List EvP
  | _, [] => []
  | d, e :: r =>
    if e.k = 1 then (if e.n = [] then piecesL (d + 1) r else ⟨d, e.n, e.a, []⟩ :: piecesL (if voidL e.n = true then d else d + 1) r)
    else if e.k = 2 then piecesL (d - 1) r else if e.k = 3 ∧ e.t ≠ [] then ⟨d, [], [], e.t⟩ :: piecesL d r else piecesL d r
/-- may m go on with n? -/
def meetsN (n m : EvP) : Prop := n.n = [] ∧ m.n = [] ∧ m.k = n.k
instance (n m : EvP) : Decidable (meetsN n m) := by unfold meetsN; infer_instance
def jn (n : EvP) : List EvP → List EvP
  | [] => [n]
  | m :: r => if meetsN n m then ⟨n.k, n.n, n.a, n.t ++ m.t⟩ :: r else n :: m :: r
def joinN (l : List EvP) : List EvP := l.foldr jn []
theorem joinN_cons (n : EvP) (l : List EvP) : joinN (n :: l) = jn n (joinN l) := rfl
theorem jn_nil (n : EvP) : jn n [] = [n] := rfl
theorem jn_cons (n m : EvP) (r : List EvP) : jn n (m :: r) = if meetsN n m then ⟨n.k, n.n, n.a, n.t ++ m.t⟩ :: r else n :: m :: r := rfl
theorem jn_head (n : EvP) (l : List EvP) : ∃ t r, jn n l = ⟨n.k, n.n, n.a, t⟩ :: r := by
  cases l with
  | nil => exact ⟨n.t, [], rfl⟩
  | cons m r =>
    rw [jn_cons]
    by_cases h : meetsN n m
    · rw [if_pos h]; exact ⟨_, _, rfl⟩
    · rw [if_neg h]; exact ⟨n.t, _, rfl⟩
theorem jn_apart {n m : EvP} (h : ¬ meetsN n m) (l : List EvP) : jn n (jn m l) = n :: jn m l := by
  obtain ⟨t, r, e⟩ := jn_head m l
  rw [e, jn_cons]
  exact if_neg h
theorem jn_meet {n m : EvP} (h : meetsN n m) (l : List EvP) : jn n (jn m l) = jn ⟨n.k, n.n, n.a, n.t ++ m.t⟩ l := by
  cases l with
  | nil => rw [jn_nil, jn_nil, jn_cons, if_pos h]
  | cons x r =>
    by_cases hx : meetsN m x
    · have h2 : meetsN ⟨n.k, n.n, n.a, n.t ++ m.t⟩ x := ⟨h.1, hx.2.1, hx.2.2.trans h.2.2⟩
      have h3 : meetsN n ⟨m.k, m.n, m.a, m.t ++ x.t⟩ := h
      rw [jn_cons, if_pos hx, jn_cons, if_pos h3, jn_cons, if_pos h2]
      simp only [List.append_assoc]
    · have h2 : ¬ meetsN ⟨n.k, n.n, n.a, n.t ++ m.t⟩ x := fun q => hx ⟨h.2.1, q.2.1, q.2.2.trans h.2.2.symm⟩
      rw [jn_cons, if_neg hx, jn_cons, if_pos h, jn_cons, if_neg h2]
theorem jn_elem {n : EvP} (h : n.n ≠ []) (l : List EvP) : jn n l = n :: l := by
  cases l with
  | nil => rfl
  | cons m r => rw [jn_cons, if_neg (fun q : meetsN n m => h q.1)]
/-- Fold's answer -/
def foldP (es : List EvP) : List EvP := joinN (piecesL 0 es)
/-- the text that is under way -/
def pendN (td : Nat) (p : List UInt8) : List EvP := if p = [] then [] else [⟨td, [], [], p⟩]
/-- what is still to come, from nodes that are done, a depth, a text under way and its depth -/
def restN (d td : Nat) (p : List UInt8) (es : List EvP) : List EvP := joinN (pendN td p ++ piecesL d es)
theorem restN_end (d td : Nat) (p : List UInt8) : restN d td p [] = pendN td p := by
  unfold restN pendN piecesL
  split <;> rfl
theorem pieces_step (d : Nat) (e : EvP) (r : List EvP) : piecesL d (e :: r) = if e.k = 1 then (if e.n = [] then piecesL (d + 1) r else ⟨d, e.n, e.a, []⟩ :: piecesL (if voidL e.n = true then d else d + 1) r)
    else if e.k = 2 then piecesL (d - 1) r else if e.k = 3 ∧ e.t ≠ [] then ⟨d, [], [], e.t⟩ :: piecesL d r else piecesL d r := rfl
theorem restN_start (d td : Nat) (p : List UInt8) (e : EvP) (r : List EvP) (h1 : e.k = 1) (h2 : e.n ≠ []) :
    restN d td p (e :: r) = pendN td p ++ ⟨d, e.n, e.a, []⟩ :: restN (if voidL e.n = true then d else d + 1) td [] r := by
  have h4 : jn ⟨d, e.n, e.a, []⟩ (joinN (piecesL (if voidL e.n = true then d else d + 1) r)) = ⟨d, e.n, e.a, []⟩ :: joinN (piecesL (if voidL e.n = true then d else d + 1) r) := jn_elem (n := ⟨d, e.n, e.a, []⟩) h2 _
  unfold restN pendN
  rw [pieces_step, if_pos h1, if_neg h2, if_pos rfl, List.nil_append]
  split
  · rw [List.nil_append, joinN_cons, h4, List.nil_append]
  · rw [List.singleton_append, joinN_cons, joinN_cons, jn_apart (n := ⟨td, [], [], p⟩) (m := ⟨d, e.n, e.a, []⟩) (fun q => h2 q.2.1), h4]
    rfl
theorem restN_anon (d td : Nat) (p : List UInt8) (e : EvP) (r : List EvP) (h1 : e.k = 1) (h2 : e.n = []) : restN d td p (e :: r) = restN (d + 1) td p r := by
  unfold restN
  rw [pieces_step, if_pos h1, if_pos h2]
theorem restN_stop (d td : Nat) (p : List UInt8) (e : EvP) (r : List EvP) (h1 : e.k = 2) : restN d td p (e :: r) = restN (d - 1) td p r := by
  unfold restN
  rw [pieces_step, if_neg (by omega), if_pos h1]
theorem restN_pass (d td : Nat) (p : List UInt8) (e : EvP) (r : List EvP) (h1 : e.k ≠ 1) (h2 : e.k ≠ 2) (h3 : ¬ (e.k = 3 ∧ e.t ≠ [])) : restN d td p (e :: r) = restN d td p r := by
  unfold restN
  rw [pieces_step, if_neg h1, if_neg h2, if_neg h3]
theorem pieces_text (d : Nat) (e : EvP) (r : List EvP) (h1 : e.k = 3) (h2 : e.t ≠ []) : piecesL d (e :: r) = ⟨d, [], [], e.t⟩ :: piecesL d r := by
  rw [pieces_step, if_neg (by omega), if_neg (by omega), if_pos ⟨h1, h2⟩]
theorem restN_join (d td : Nat) (p : List UInt8) (e : EvP) (r : List EvP) (h1 : e.k = 3) (h2 : e.t ≠ []) (h3 : td = d) : restN d td p (e :: r) = restN d d (p ++ e.t) r := by
  subst h3
  unfold restN pendN
  rw [pieces_text td e r h1 h2, if_neg (show p ++ e.t ≠ [] by simp [h2])]
  by_cases hp : p = []
  · subst hp
    rfl
  · rw [if_neg hp, List.singleton_append, joinN_cons, joinN_cons, jn_meet (n := ⟨td, [], [], p⟩) (m := ⟨td, [], [], e.t⟩) ⟨rfl, rfl, rfl⟩]
    rfl
theorem restN_part (d td : Nat) (p : List UInt8) (e : EvP) (r : List EvP) (h1 : e.k = 3) (h2 : e.t ≠ []) (h3 : td ≠ d) : restN d td p (e :: r) = pendN td p ++ restN d d e.t r := by
  unfold restN pendN
  rw [pieces_text d e r h1 h2, if_neg h2]
  by_cases hp : p = []
  · rw [if_pos hp]
    rfl
  · rw [if_neg hp, List.singleton_append, joinN_cons, List.singleton_append, joinN_cons, jn_apart (n := ⟨td, [], [], p⟩) (m := ⟨d, [], [], e.t⟩) (fun q => h3 (by have := q.2.2; simp only at this; omega))]
    rfl
theorem foldP_eq (es : List EvP) : foldP es = restN 0 0 [] es := rfl

/-! ## how long things are -/

theorem pieces_bulk : ∀ (es : List EvP) (d : Nat), bulkE (piecesL d es) ≤ bulkE es ∧ (piecesL d es).length ≤ es.length
  | [], _ => ⟨Nat.le_refl _, Nat.le_refl _⟩
  | e :: r, d => by
    have h1 := fun d => pieces_bulk r d
    rw [pieces_step, bulkE_cons, List.length_cons]
    split
    · split
      · have := h1 (d + 1); omega
      · have := h1 (if voidL e.n = true then d else d + 1)
        rw [bulkE_cons, List.length_cons]
        simp only [List.length_nil]
        omega
    · split
      · have := h1 (d - 1); omega
      · split
        · have := h1 d
          rw [bulkE_cons, List.length_cons]
          simp only [List.length_nil, show bulkA [] = 0 from rfl]
          omega
        · have := h1 d; omega
theorem jn_bulk (n : EvP) (l : List EvP) : bulkE (jn n l) ≤ bulkE (n :: l) ∧ (jn n l).length ≤ l.length + 1 := by
  cases l with
  | nil => exact ⟨Nat.le_refl _, Nat.le_refl _⟩
  | cons m r =>
    rw [jn_cons]
    by_cases h : meetsN n m
    · rw [if_pos h, bulkE_cons, bulkE_cons, bulkE_cons]
      simp only [List.length_append, List.length_cons]
      omega
    · rw [if_neg h]; exact ⟨Nat.le_refl _, Nat.le_refl _⟩
theorem joinN_bulk : ∀ l : List EvP, bulkE (joinN l) ≤ bulkE l ∧ (joinN l).length ≤ l.length
  | [] => ⟨Nat.le_refl _, Nat.le_refl _⟩
  | n :: l => by
    have h1 := joinN_bulk l
    have h2 := jn_bulk n (joinN l)
    rw [joinN_cons, bulkE_cons]
    rw [bulkE_cons] at h2
    simp only [List.length_cons]
    omega
theorem fold_bulk (es : List EvP) : bulkE (foldP es) ≤ bulkE es ∧ (foldP es).length ≤ es.length := by
  have h1 := joinN_bulk (piecesL 0 es)
  have h2 := pieces_bulk es 0
  unfold foldP
  omega
theorem pieces_depth : ∀ (es : List EvP) (d : Nat), ∀ n ∈ piecesL d es, 0 ≤ n.k ∧ n.k ≤ d + es.length
  | [], _, n, h => by cases h
  | e :: r, d, n, h => by
    have ih := fun d => pieces_depth r d n
    rw [pieces_step] at h
    simp only [List.length_cons]
    split at h
    · split at h
      · have := ih _ h; omega
      · rcases List.mem_cons.1 h with rfl | h
        · simp only; omega
        · have := ih _ h
          split at this <;> omega
    · split at h
      · have := ih _ h; omega
      · split at h
        · rcases List.mem_cons.1 h with rfl | h
          · simp only; omega
          · have := ih _ h; omega
        · have := ih _ h; omega
theorem jn_k (n : EvP) (l : List EvP) : ∀ x ∈ jn n l, x.k = n.k ∨ x ∈ l := by
  cases l with
  | nil => intro x hx; simp only [jn, List.mem_singleton] at hx; exact .inl (by rw [hx])
  | cons m r =>
    intro x hx
    rw [jn_cons] at hx
    by_cases h : meetsN n m
    · rw [if_pos h] at hx
      rcases List.mem_cons.1 hx with rfl | hx
      · exact .inl rfl
      · exact .inr (List.mem_cons_of_mem _ hx)
    · rw [if_neg h] at hx
      rcases List.mem_cons.1 hx with rfl | hx
      · exact .inl rfl
      · exact .inr hx
theorem joinN_k {p : Int → Prop} : ∀ l : List EvP, (∀ n ∈ l, p n.k) → ∀ n ∈ joinN l, p n.k
  | [], _, n, h => by cases h
  | m :: l, h, n, hn => by
    rw [joinN_cons] at hn
    rcases jn_k m _ n hn with e | hn
    · rw [e]; exact h m (List.mem_cons_self ..)
    · exact joinN_k l (fun x hx => h x (List.mem_cons_of_mem _ hx)) n hn
end Go.Proofs.YtkcgmimldjeaiaaDoor

/-
  The reference's Check: the walks of what it calls.
-/
namespace Go.Proofs.YtkcgmimldjeaiaaDoor
open Go.RowKit Go.Lib Own

/-- the elements by their class: 1 phrasing, 2 flow, 3 item, 4 section, 5 row, 6 cell -/
def classT : List (List UInt8 × Nat) := [([97], 1), ([98], 1), ([99, 111, 100, 101], 1), ([101, 109], 1), ([105], 1), ([113], 1), ([115], 1), ([115, 109, 97, 108, 108], 1), ([115, 112, 97, 110], 1), ([115, 116, 114, 111, 110, 103], 1), ([115, 117, 98], 1), ([115, 117, 112], 1), ([117], 1), ([98, 114], 1), ([105, 109, 103], 1), ([116, 101, 120, 116, 97, 114, 101, 97], 1),
  ([104, 49], 2), ([104, 50], 2), ([104, 51], 2), ([104, 52], 2), ([104, 53], 2), ([104, 54], 2), ([112], 2), ([112, 114, 101], 2), ([98, 108, 111, 99, 107, 113, 117, 111, 116, 101], 2), ([100, 105, 118], 2), ([104, 114], 2), ([111, 108], 2), ([117, 108], 2), ([116, 97, 98, 108, 101], 2),
  ([108, 105], 3), ([116, 98, 111, 100, 121], 4), ([116, 102, 111, 111, 116], 4), ([116, 104, 101, 97, 100], 4), ([116, 114], 5), ([116, 100], 6), ([116, 104], 6)]
def findT : List (List UInt8 × Nat) → List UInt8 → Nat
  | [], _ => 0
  | e :: r, x => if (x == e.1) = true then e.2 else findT r x
def classL (x : List UInt8) : Nat := findT classT x
/-- the class's word -/
def classW : Nat → List UInt8
  | 1 => [112, 104, 114, 97, 115, 105, 110, 103]
  | 2 => [102, 108, 111, 119]
  | 3 => [105, 116, 101, 109]
  | 4 => [115, 101, 99, 116, 105, 111, 110]
  | 5 => [114, 111, 119]
  | 6 => [99, 101, 108, 108]
  | _ => []
theorem ret_str {a b : ByteArray} (h : a = b) : Ending.returned (.string a) = .returned (.string b) := by rw [h]

theorem bs_toList2 (x : ByteArray) : bs x.toList = x := by rw [Lib.toList_data]; rfl
theorem ne_beq {x : ByteArray} {L : List UInt8} (h : x.toList ≠ L) : (x.toList == L) = false := beq_eq_false_iff_ne.2 h
set_option maxHeartbeats 4000000 in
set_option maxRecDepth 100000 in
theorem classOf_k0 (L : List UInt8) (w : World) (hk : L ∈ (([[97], [98], [99, 111, 100, 101], [101, 109], [105], [113], [115], [115, 109, 97, 108, 108], [115, 112, 97, 110], [115, 116, 114, 111, 110, 103]] : List (List UInt8)))) :
    Calls Tryd.prog 48 #[.string (bs L)] w fun e w' => e = .returned (.string (bs (classW (classL L)))) ∧ w' = w := by
  simp only [List.mem_cons, List.not_mem_nil, or_false] at hk
  rcases hk with rfl | rfl | rfl | rfl | rfl | rfl | rfl | rfl | rfl | rfl
  all_goals unfold bs
  all_goals go_enter Tryd.func48, Tryd.ntmps48
  all_goals go_wp2
  all_goals go_ret
  all_goals exact ⟨rfl, rfl⟩
set_option maxHeartbeats 4000000 in
set_option maxRecDepth 100000 in
theorem classOf_k1 (L : List UInt8) (w : World) (hk : L ∈ (([[115, 117, 98], [115, 117, 112], [117], [98, 114], [105, 109, 103], [116, 101, 120, 116, 97, 114, 101, 97], [104, 49], [104, 50], [104, 51]] : List (List UInt8)))) :
    Calls Tryd.prog 48 #[.string (bs L)] w fun e w' => e = .returned (.string (bs (classW (classL L)))) ∧ w' = w := by
  simp only [List.mem_cons, List.not_mem_nil, or_false] at hk
  rcases hk with rfl | rfl | rfl | rfl | rfl | rfl | rfl | rfl | rfl
  all_goals unfold bs
  all_goals go_enter Tryd.func48, Tryd.ntmps48
  all_goals go_wp2
  all_goals go_ret
  all_goals exact ⟨rfl, rfl⟩
set_option maxHeartbeats 4000000 in
set_option maxRecDepth 100000 in
theorem classOf_k2 (L : List UInt8) (w : World) (hk : L ∈ (([[104, 52], [104, 53], [104, 54], [112], [112, 114, 101], [98, 108, 111, 99, 107, 113, 117, 111, 116, 101], [100, 105, 118], [104, 114], [111, 108]] : List (List UInt8)))) :
    Calls Tryd.prog 48 #[.string (bs L)] w fun e w' => e = .returned (.string (bs (classW (classL L)))) ∧ w' = w := by
  simp only [List.mem_cons, List.not_mem_nil, or_false] at hk
  rcases hk with rfl | rfl | rfl | rfl | rfl | rfl | rfl | rfl | rfl
  all_goals unfold bs
  all_goals go_enter Tryd.func48, Tryd.ntmps48
  all_goals go_wp2
  all_goals go_ret
  all_goals exact ⟨rfl, rfl⟩
set_option maxHeartbeats 4000000 in
set_option maxRecDepth 100000 in
theorem classOf_k3 (L : List UInt8) (w : World) (hk : L ∈ (([[117, 108], [116, 97, 98, 108, 101], [108, 105], [116, 98, 111, 100, 121], [116, 102, 111, 111, 116], [116, 104, 101, 97, 100], [116, 114], [116, 100], [116, 104]] : List (List UInt8)))) :
    Calls Tryd.prog 48 #[.string (bs L)] w fun e w' => e = .returned (.string (bs (classW (classL L)))) ∧ w' = w := by
  simp only [List.mem_cons, List.not_mem_nil, or_false] at hk
  rcases hk with rfl | rfl | rfl | rfl | rfl | rfl | rfl | rfl | rfl
  all_goals unfold bs
  all_goals go_enter Tryd.func48, Tryd.ntmps48
  all_goals go_wp2
  all_goals go_ret
  all_goals exact ⟨rfl, rfl⟩
set_option maxHeartbeats 4000000 in
set_option maxRecDepth 100000 in
theorem classOf_none (x : ByteArray) (w : World) (hk : x.toList ∉ classT.map Prod.fst) :
    Calls Tryd.prog 48 #[.string x] w fun e w' => e = .returned (.string ⟨#[]⟩) ∧ w' = w := by
  simp only [classT, List.map_cons, List.map_nil, List.mem_cons, List.not_mem_nil, or_false, not_or] at hk
  obtain ⟨h0, h1, h2, h3, h4, h5, h6, h7, h8, h9, h10, h11, h12, h13, h14, h15, h16, h17, h18, h19, h20, h21, h22, h23, h24, h25, h26, h27, h28, h29, h30, h31, h32, h33, h34, h35, h36⟩ := hk
  replace h0 := ne_beq h0
  replace h1 := ne_beq h1
  replace h2 := ne_beq h2
  replace h3 := ne_beq h3
  replace h4 := ne_beq h4
  replace h5 := ne_beq h5
  replace h6 := ne_beq h6
  replace h7 := ne_beq h7
  replace h8 := ne_beq h8
  replace h9 := ne_beq h9
  replace h10 := ne_beq h10
  replace h11 := ne_beq h11
  replace h12 := ne_beq h12
  replace h13 := ne_beq h13
  replace h14 := ne_beq h14
  replace h15 := ne_beq h15
  replace h16 := ne_beq h16
  replace h17 := ne_beq h17
  replace h18 := ne_beq h18
  replace h19 := ne_beq h19
  replace h20 := ne_beq h20
  replace h21 := ne_beq h21
  replace h22 := ne_beq h22
  replace h23 := ne_beq h23
  replace h24 := ne_beq h24
  replace h25 := ne_beq h25
  replace h26 := ne_beq h26
  replace h27 := ne_beq h27
  replace h28 := ne_beq h28
  replace h29 := ne_beq h29
  replace h30 := ne_beq h30
  replace h31 := ne_beq h31
  replace h32 := ne_beq h32
  replace h33 := ne_beq h33
  replace h34 := ne_beq h34
  replace h35 := ne_beq h35
  replace h36 := ne_beq h36
  go_enter Tryd.func48, Tryd.ntmps48
  go_wp2
  go_ret
  exact ⟨rfl, rfl⟩
theorem find_none : ∀ (T : List (List UInt8 × Nat)) (x : List UInt8), x ∉ T.map Prod.fst → findT T x = 0
  | [], _, _ => rfl
  | e :: r, x, h => by
    simp only [List.map_cons, List.mem_cons, not_or] at h
    unfold findT
    rw [if_neg (by rw [beq_iff_eq]; exact h.1)]
    exact find_none r x h.2
theorem classOf_any (x : ByteArray) (w : World) :
    Calls Tryd.prog 48 #[.string x] w fun e w' => e = .returned (.string (bs (classW (classL x.toList)))) ∧ w' = w := by
  by_cases hk : x.toList ∈ classT.map Prod.fst
  · have hx := bs_toList2 x
    generalize x.toList = L at hk hx
    subst hx
    have h4 : L ∈ ((classT.map Prod.fst).take 10) ∨ L ∈ (((classT.map Prod.fst).drop 10).take 9) ∨ L ∈ (((classT.map Prod.fst).drop 19).take 9) ∨ L ∈ ((classT.map Prod.fst).drop 28) := by
      simp only [classT, List.map_cons, List.map_nil, List.mem_cons, List.not_mem_nil, or_false] at hk
      rcases hk with rfl | rfl | rfl | rfl | rfl | rfl | rfl | rfl | rfl | rfl | rfl | rfl | rfl | rfl | rfl | rfl | rfl | rfl | rfl | rfl | rfl | rfl | rfl | rfl | rfl | rfl | rfl | rfl | rfl | rfl | rfl | rfl | rfl | rfl | rfl | rfl | rfl
      all_goals decide
    rcases h4 with h | h | h | h
    · exact classOf_k0 L w h
    · exact classOf_k1 L w h
    · exact classOf_k2 L w h
    · exact classOf_k3 L w h
  · have := classOf_none x w hk
    rw [show classL x.toList = 0 from find_none _ _ hk]
    exact this
end Go.Proofs.YtkcgmimldjeaiaaDoor

/-
  The reference's Check: words, rules, schemes, drops: their walks.
-/
namespace Go.Proofs.YtkcgmimldjeaiaaDoor
open Go.RowKit Go.Lib Own

/-- the reference's attributes -/
def attrT : List (List UInt8) := [[119, 105, 100, 116, 104], [116, 105, 116, 108, 101], [115, 116, 97, 114, 116], [115, 114, 99], [114, 111, 119, 115, 112, 97, 110], [114, 101, 108], [108, 97, 110, 103], [105, 100], [104, 114, 101, 102], [104, 101, 105, 103, 104, 116], [100, 105, 114], [99, 111, 108, 115, 112, 97, 110], [99, 108, 97, 115, 115], [99, 105, 116, 101], [97, 108, 116]]
def attrTabV : List Value := attrT.map fun s => .string (bs s)
def smallL : List UInt8 := [97, 98, 99, 100, 101, 102, 103, 104, 105, 106, 107, 108, 109, 110, 111, 112, 113, 114, 115, 116, 117, 118, 119, 120, 121, 122]
def digitL : List UInt8 := [48, 49, 50, 51, 52, 53, 54, 55, 56, 57]
/-- a word: a small letter first, then bytes of the set -/
def isWordL (set : List UInt8) (L : List UInt8) : Bool := decide (1 ≤ L.length) && (decide (L.length ≤ 32) && (smallL.contains (L.headD 0) && L.all set.contains))
theorem all_while {p : UInt8 → Bool} : ∀ L : List UInt8, (L.takeWhile p).length = L.length ↔ L.all p = true
  | [] => by simp
  | c :: L => by
    cases hc : p c with
    | true =>
      have := all_while (p := p) L
      simp only [List.takeWhile_cons, hc, if_true, List.length_cons, List.all_cons, Bool.true_and, Nat.add_right_cancel_iff]
      exact this
    | false => simp [hc]

end Go.Proofs.YtkcgmimldjeaiaaDoor

/-
  The reference's Check: rules' names, one rule, one scheme, one drop: their walks.
-/
namespace Go.Proofs.YtkcgmimldjeaiaaDoor
open Go.RowKit Go.Lib Own

theorem info_str : (Tryd.prog.info? 9).map (fun i => (i.zero, i.size, i.bytes)) = some (some (.string ⟨#[]⟩), 1, 16) := by kernel_rfl
/-- a policy's five cells -/
def polC (vr vs vd : Value) (P : PolP) : Array Value := #[vr, vs, vd, .int .i64 P.depth, .int .i64 P.window]
theorem polC_at {W : World} {b : Nat} {vr vs vd : Value} {P : PolP} (h : W.heap[b]? = some (.cells (polC vr vs vd P) 35 (0, 0))) :
    W.cell? ⟨b, 0, none⟩ = some vr ∧ W.cell? ⟨b, 1, none⟩ = some vs ∧ W.cell? ⟨b, 2, none⟩ = some vd ∧ W.cell? ⟨b, 3, none⟩ = some (.int .i64 P.depth) ∧ W.cell? ⟨b, 4, none⟩ = some (.int .i64 P.window) :=
  ⟨cell_at h rfl, cell_at h rfl, cell_at h rfl, cell_at h rfl, cell_at h rfl⟩

def wrongRuleP (n : Nat) (r : RuleP) : Bool := if n = 3 then classL r.1 == 0 else if n = 6 then twiceL r.2 else decide (n = 5) && r.2.any fun a => !attrT.contains a
theorem find_le : ∀ (T : List (List UInt8 × Nat)) (x : List UInt8), (∀ e ∈ T, e.2 ≤ 6) → findT T x ≤ 6
  | [], _, _ => Nat.zero_le _
  | e :: r, x, h => by
    unfold findT
    split
    · exact h e (List.mem_cons_self ..)
    · exact find_le r x (fun e he => h e (List.mem_cons_of_mem _ he))
theorem class_le (x : List UInt8) : classL x ≤ 6 := find_le _ _ (by decide)
theorem classW_nil (x : List UInt8) : ((classW (classL x)) == []) = (classL x == 0) := by
  have h := class_le x
  generalize classL x = k at h
  match k, h with
  | 0, _ => rfl
  | 1, _ => rfl
  | 2, _ => rfl
  | 3, _ => rfl
  | 4, _ => rfl
  | 5, _ => rfl
  | 6, _ => rfl
  | k + 7, h => omega

end Go.Proofs.YtkcgmimldjeaiaaDoor

/-
  The statements' sameTexts, longTexts: their walks.
-/
namespace Go.Proofs.YtkcgmimldjeaiaaDoor
open Go.RowKit Go.Lib Own

/-- the cells of words -/
def wordsV (ss : List (List UInt8)) : List Value := ss.map fun s => .string (bs s)
theorem wordsV_app (a b : List (List UInt8)) : wordsV (a ++ b) = wordsV a ++ wordsV b := List.map_append
theorem wordsV_len (a : List (List UInt8)) : (wordsV a).length = a.length * 1 := by simp [wordsV]
theorem wordsV_one (a : List (List UInt8)) : ∀ u ∈ wordsV a, u.oneCell' = true := by
  intro u hu
  unfold wordsV at hu
  obtain ⟨s, _, rfl⟩ := List.mem_map.1 hu
  rfl
/-- words appended to a row of words that the call owns -/
theorem wpList_append_words {w : World} {ops : Array Oper} {rest : List Oper} {o : Oper} {a : Act} {Q : Exit → Act → World → Prop} (hgd : o.guard = none) (s x : Operand)
    (ho : o.op = .call { callee := .builtin .append, args := #[s, x], argTypes := #[23, 23] }) (base : Nat) (v vx : Value) (l m : List (List UInt8)) (hs : a.eval s = v) (hx : a.eval x = vx)
    (hown : w.ownsRow base 9 1 v l.length (wordsV l)) (hw : Words w vx m) (hbase : base ≤ w.heap.size) (hsz : l.length + m.length ≤ 1000000000)
    (h : ∀ v' w', w'.ownsRow base 9 1 v' (l ++ m).length (wordsV (l ++ m)) → w.grownBy w' v.ownBlock → wpList Tryd.prog ops Q rest (a.put o.dst v') w') : wpList Tryd.prog ops Q (o :: rest) a w := by
  obtain ⟨i0, hi, hz0, hz1, hz2⟩ := info_parts info_str
  obtain ⟨p, c, rfl, hc, hm, hcell, hnone⟩ := hw
  cases p with
  | none =>
    obtain rfl : c = 0 := hnone rfl
    obtain rfl : m = [] := List.length_eq_zero_iff.1 (by omega)
    refine wpList_append_own_none hgd s x 23 ho base 9 i0 1 Tryd.underlying23 hi v l.length (wordsV l) hs hown hx ?_
    exact h v w (by rw [List.append_nil]; exact hown) ⟨rfl, rfl, rfl, Nat.le_refl _, fun _ _ _ => rfl⟩
  | some ad =>
    refine wpList_append_own w hgd s x 23 ho base 9 i0 (.string ⟨#[]⟩) 1 16 Tryd.underlying23 hi hz0 hz1 hz2 rfl (by decide) v l.length (wordsV l) hs hown ad m.length c (wordsV m) hx (wordsV_len m) ?_ (wordsV_one m) (by unfold maxLen; omega) (by omega) hbase ?_
    · intro j u hj
      unfold wordsV at hj
      rw [List.getElem?_map] at hj
      obtain ⟨t, ht, rfl⟩ := Option.map_eq_some_iff.1 hj
      obtain ⟨b, o', e, hd⟩ := hcell j t ht
      cases e
      have hadd : (⟨b, o', none⟩ : Addr).add j = ⟨b, o' + j, none⟩ := by unfold Addr.add; split <;> simp_all
      rw [hadd]
      exact hd
    · intro v' w' h2 h3 _
      exact h v' w' (by rw [List.length_append, wordsV_app]; exact h2) h3

end Go.Proofs.YtkcgmimldjeaiaaDoor

/-
  The statements' lendPolicy: what its memory holds.
-/
namespace Go.Proofs.YtkcgmimldjeaiaaDoor
open Go.RowKit Go.Lib Own

def zeroP : List Value := [.slice none 0 0, .slice none 0 0, .slice none 0 0, .int .i64 0, .int .i64 0]
def zeroL : Array Value := #[.slice none 0 0, .slice none 0 0, .slice none 0 0, .int .i64 0, .int .i64 0, .slice none 0 0, .slice none 0 0, .slice none 0 0, .slice none 0 0]
theorem row_cap {W : World} {base : Nat} {e : TypeId} {size n m c : Nat} {p : Option Addr} {xs : List Value} (h : W.ownsRow base e size (.slice p m c) n xs) : m = n ∧ n ≤ c := by
  rcases h.2 with ⟨e, rfl⟩ | ⟨g, cap, cur, e, _, _, hle, _⟩
  · cases e
    exact ⟨rfl, Nat.le_refl _⟩
  · cases e
    exact ⟨rfl, hle⟩
theorem alloc_lt (W : World) (X : Obj) : W.heap.size < (W.alloc X).heap.size := by simp
/-- a rule's cells: its name and the front of its words -/
def frontV : Value → Nat → Value
  | .slice p _ c, n => .slice p n c
  | v, _ => v
def rcells (prs : List (RuleP × Value)) : List Value := prs.flatMap fun x => [.string (bs x.1.1), x.2]
theorem rcells_app (a b : List (RuleP × Value)) : rcells (a ++ b) = rcells a ++ rcells b := List.flatMap_append
theorem rcells_len : ∀ a : List (RuleP × Value), (rcells a).length = a.length * 2
  | [] => rfl
  | x :: r => by
    have := rcells_len r
    show (_ :: _ :: rcells r).length = _
    simp only [List.length_cons, this]
    omega
theorem rcells_at : ∀ (a : List (RuleP × Value)) (k : Nat) (x : RuleP × Value), a[k]? = some x → (rcells a)[k * 2]? = some (.string (bs x.1.1)) ∧ (rcells a)[k * 2 + 1]? = some x.2
  | [], k, x, h => by simp at h
  | y :: r, 0, x, h => by
    simp only [List.getElem?_cons_zero, Option.some.injEq] at h
    subst h
    exact ⟨rfl, rfl⟩
  | y :: r, k + 1, x, h => by
    rw [List.getElem?_cons_succ] at h
    obtain ⟨h1, h2⟩ := rcells_at r k x h
    exact ⟨by rw [show (k + 1) * 2 = k * 2 + 1 + 1 by omega]; exact h1, by rw [show (k + 1) * 2 + 1 = k * 2 + 1 + 1 + 1 by omega]; exact h2⟩
theorem Just.andThen {W W1 W2 : World} {b : Nat} {cs cs2 : Array Value} {T : TypeId} (h : Just W W1 b cs T) (h2 : Just W1 W2 b cs2 T) : Just W W2 b cs2 T :=
  ⟨h2.os.trans h.os, h2.tape.trans h.tape, h2.output.trans h.output, h2.size.trans h.size, h2.at_, fun k hk => (h2.other k hk).trans (h.other k hk)⟩
theorem just_put {W : World} {b j : Nat} {cs cs2 : Array Value} {T : TypeId} (h : W.heap[b]? = some (.cells cs T (0, 0))) (v : Value) (e : cs.setIfInBounds j v = cs2) : Just W (W.setCell ⟨b, j, none⟩ v) b cs2 T := by
  subst e
  exact just_set h v
theorem nine_other (W : World) (b : Nat) (sv dv : Value) (k : Nat) (hk : k ≠ b) : (((((((((W.setCell ⟨b, 0, none⟩ (.slice none 0 0)).setCell ⟨b, 1, none⟩ (.slice none 0 0)).setCell ⟨b, 2, none⟩ (.slice none 0 0)).setCell ⟨b, 3, none⟩ (.int .i64 0)).setCell ⟨b, 4, none⟩ (.int .i64 0)).setCell ⟨b, 5, none⟩ (.slice none 0 0)).setCell ⟨b, 6, none⟩ (.slice none 0 0)).setCell ⟨b, 7, none⟩ (sv)).setCell ⟨b, 8, none⟩ (dv)).heap[k]? = W.heap[k]? := by
  rw [heap_setCell_other _ _ _ _ hk, heap_setCell_other _ _ _ _ hk, heap_setCell_other _ _ _ _ hk, heap_setCell_other _ _ _ _ hk, heap_setCell_other _ _ _ _ hk, heap_setCell_other _ _ _ _ hk, heap_setCell_other _ _ _ _ hk, heap_setCell_other _ _ _ _ hk, heap_setCell_other _ _ _ _ hk]
theorem nine_below {B : Nat} {w W : World} (h : Below B w W) {b : Nat} (hb : B ≤ b) (sv dv : Value) : Below B w (((((((((W.setCell ⟨b, 0, none⟩ (.slice none 0 0)).setCell ⟨b, 1, none⟩ (.slice none 0 0)).setCell ⟨b, 2, none⟩ (.slice none 0 0)).setCell ⟨b, 3, none⟩ (.int .i64 0)).setCell ⟨b, 4, none⟩ (.int .i64 0)).setCell ⟨b, 5, none⟩ (.slice none 0 0)).setCell ⟨b, 6, none⟩ (.slice none 0 0)).setCell ⟨b, 7, none⟩ (sv)).setCell ⟨b, 8, none⟩ (dv)) :=
  ((((((((h.setCell hb _).setCell hb _).setCell hb _).setCell hb _).setCell hb _).setCell hb _).setCell hb _).setCell hb _).setCell hb _
theorem just_low {W W' : World} {b : Nat} {cs : Array Value} {T : TypeId} (h : Just W W' b cs T) {base : Nat} (hb : base ≤ b) : Below base W W' :=
  ⟨h.os, h.tape, h.output, by rw [h.size]; exact Nat.le_refl _, fun k hk => h.other k (by omega)⟩
theorem grown_at {W W2 : World} {v : Value} (hg : W.grownBy W2 v.ownBlock) {b : Nat} {o : Obj} (h : W.heap[b]? = some o) (hne : v.ownBlock ≠ some b) : W2.heap[b]? = some o := (hg.block b (block_lt h) (fun e => hne e.symm)).trans h
theorem info_rule : (Tryd.prog.info? 73).map (fun i => (i.zero, i.size, i.bytes)) = some (some (.agg #[.string ⟨#[]⟩, .slice none 0 0]), 2, 40) := by kernel_rfl
theorem info_words : (Tryd.prog.info? 23).map (fun i => (i.zero, i.size, i.bytes)) = some (some (.slice none 0 0), 1, 24) := by kernel_rfl


/-- a list of lists of words -/
def ListsR (W : World) (v : Value) (ls : List (List (List UInt8))) : Prop :=
  ∃ p c, v = .slice p ls.length c ∧ ls.length ≤ c ∧ c ≤ 9223372036854775807 ∧ ∀ j l, ls[j]? = some l → ∃ b o u, p = some ⟨b, o, none⟩ ∧ W.cell? ⟨b, o + j, none⟩ = some u ∧ Words W u l
theorem ListsR.below {W W' : World} {v : Value} {ls : List (List (List UInt8))} (h : ListsR W v ls) (hb : Below W.heap.size W W') : ListsR W' v ls := by
  obtain ⟨p, c, rfl, h1, h2, h3⟩ := h
  refine ⟨p, c, rfl, h1, h2, fun j r hj => ?_⟩
  obtain ⟨b, o, u, rfl, hc, hw⟩ := h3 j r hj
  exact ⟨b, o, u, rfl, cell_kept hc hb, hw.below hb⟩
/-- a policy that was lent -/
def LentR (W : World) (v : Value) (P : PolP) (ms : List (List UInt8)) : Prop :=
  ∃ vr vs vd vR va vS vD, v = .agg #[vr, vs, vd, .int .i64 P.depth, .int .i64 P.window, vR, va, vS, vD] ∧ PolR W vr vs vd P ∧ RulesR W vR (P.rules ++ ms.map fun s => (s, [])) ∧ ListsR W va (P.rules.map fun q => q.2 ++ ms) ∧ Words W vS (P.schemes ++ ms) ∧ Words W vD (P.drop ++ ms)
theorem LentR.below {W W' : World} {v : Value} {P : PolP} {ms : List (List UInt8)} (h : LentR W v P ms) (hb : Below W.heap.size W W') : LentR W' v P ms := by
  obtain ⟨vr, vs, vd, vR, va, vS, vD, e, h1, h2, h3, h4, h5⟩ := h
  exact ⟨vr, vs, vd, vR, va, vS, vD, e, h1.below hb, h2.below hb, h3.below hb, h4.below hb, h5.below hb⟩
theorem RulesR.front {W : World} {p : Option Addr} {n c : Nat} {a b : List RuleP} (h : RulesR W (.slice p n c) (a ++ b)) : RulesR W (.slice p a.length c) a := by
  obtain ⟨p', c', e, h1, h2, h3⟩ := h
  cases e
  rw [List.length_append] at h1
  refine ⟨p, c, rfl, by omega, h2, fun j r hj => h3 j r ?_⟩
  rw [List.getElem?_append_left (List.getElem?_eq_some_iff.1 hj).1]
  exact hj
theorem row_bound {W : World} {base : Nat} {e : TypeId} {size n m c : Nat} {p : Option Addr} {xs : List Value} (h : W.ownsRow base e size (.slice p m c) n xs) : c ≤ 9223372036854775807 := by
  rcases h.2 with ⟨e, _⟩ | ⟨g, cap, cur, e, _, _, _, hle, _⟩
  · cases e
    omega
  · cases e
    unfold maxLen at hle
    omega
/-- the lists alone -/
structure LndR (w W : World) (rv av sv dv : Value) (R : List RuleP) (S D ms : List (List UInt8)) (prs : List (RuleP × Value)) (us : List Value) : Prop where
  s : W.ownsRow w.heap.size 9 1 sv S.length (wordsV S)
  d : W.ownsRow w.heap.size 9 1 dv D.length (wordsV D)
  a : W.ownsRow w.heap.size 23 1 av us.length us
  r : W.ownsRow w.heap.size 73 2 rv prs.length (rcells prs)
  u : ∀ (k : Nat) (v : Value) (q : RuleP), us[k]? = some v → R[k]? = some q → W.ownsRow w.heap.size 9 1 v (q.2 ++ ms).length (wordsV (q.2 ++ ms))
  rw : ∀ (k : Nat) (x : RuleP × Value), prs[k]? = some x → (x.1.2 = [] ∧ x.2 = .slice none 0 0) ∨ ∃ v, us[k]? = some v ∧ R[k]? = some x.1 ∧ x.2 = frontV v x.1.2.length
theorem LndR.lent {w W : World} {rp sp dp ap : Option Addr} {rn rc sn sc dn dc an ac : Nat} {P : PolP} {ms : List (List UInt8)} {prs : List (RuleP × Value)} {us : List Value}
    (h : LndR w W (.slice rp rn rc) (.slice ap an ac) (.slice sp sn sc) (.slice dp dn dc) P.rules (P.schemes ++ ms) (P.drop ++ ms) ms prs us)
    (hp : prs.map Prod.fst = P.rules ++ ms.map fun s => (s, [])) (hu : us.length = P.rules.length) :
    LentR W (.agg #[.slice rp P.rules.length rc, .slice sp P.schemes.length sc, .slice dp P.drop.length dc, .int .i64 P.depth, .int .i64 P.window, .slice rp rn rc, .slice ap an ac, .slice sp sn sc, .slice dp dn dc]) P ms := by
  have hpl : prs.length = (P.rules ++ ms.map fun s => (s, [])).length := by rw [← hp, List.length_map]
  have hS : Words W (.slice sp sn sc) (P.schemes ++ ms) := Words.row h.s
  have hD : Words W (.slice dp dn dc) (P.drop ++ ms) := Words.row h.d
  have hRR : RulesR W (.slice rp rn rc) (P.rules ++ ms.map fun s => (s, [])) := by
    obtain ⟨e1, e2⟩ := row_cap h.r
    subst e1
    refine ⟨rp, rc, by rw [← hpl], by rw [← hpl]; exact e2, row_bound h.r, fun j q hj => ?_⟩
    rw [← hp, List.getElem?_map] at hj
    obtain ⟨x, hx, rfl⟩ := Option.map_eq_some_iff.1 hj
    have hlt := (List.getElem?_eq_some_iff.1 hx).1
    obtain ⟨g, cap, e3, _, _, hcell⟩ := row_at h.r (by omega)
    cases e3
    obtain ⟨a1, a2⟩ := rcells_at prs j x hx
    refine ⟨g, 0, x.2, rfl, by rw [Nat.zero_add, hcell _ (by omega), a1], by rw [Nat.zero_add, hcell _ (by omega), a2], ?_⟩
    rcases h.rw j x hx with ⟨h1, h2⟩ | ⟨v, h1, h2, h3⟩
    · rw [h1, h2]
      exact Words.nil W
    · have hw := Words.row (h.u j v x.1 h1 h2)
      obtain ⟨p, c, rfl, _⟩ := hw.len
      have := hw.front x.1.2.length (by rw [List.length_append]; omega)
      rw [List.take_left] at this
      rw [h3]
      exact this
  have hA : ListsR W (.slice ap an ac) (P.rules.map fun q => q.2 ++ ms) := by
    obtain ⟨e1, e2⟩ := row_cap h.a
    subst e1
    refine ⟨ap, ac, by rw [List.length_map, hu], by rw [List.length_map, ← hu]; exact e2, row_bound h.a, fun j l hj => ?_⟩
    rw [List.getElem?_map] at hj
    obtain ⟨q, hq, rfl⟩ := Option.map_eq_some_iff.1 hj
    have hlt := (List.getElem?_eq_some_iff.1 hq).1
    obtain ⟨g, cap, e3, _, _, hcell⟩ := row_at h.a (by omega)
    cases e3
    obtain ⟨v, hv⟩ : ∃ v, us[j]? = some v := ⟨_, List.getElem?_eq_getElem (by omega)⟩
    exact ⟨g, 0, v, rfl, by rw [Nat.zero_add, hcell _ (by omega), hv], Words.row (h.u j v q hv hq)⟩
  refine ⟨_, _, _, _, _, _, _, rfl, ⟨hRR.front, ?_, ?_⟩, hRR, hA, hS, hD⟩
  · have := hS.front P.schemes.length (by rw [List.length_append]; omega)
    rwa [List.take_left] at this
  · have := hD.front P.drop.length (by rw [List.length_append]; omega)
    rwa [List.take_left] at this
end Go.Proofs.YtkcgmimldjeaiaaDoor

/-
  The statements' samePolicy: its walk, at policies that are the same.
-/
namespace Go.Proofs.YtkcgmimldjeaiaaDoor
open Go.RowKit Go.Lib Own

theorem cell_drewT {W0 wr : World} (hq : Hid (True → ∃ n, wr = W0.drewN n)) {b o : Nat} {v : Value} (h : W0.cell? ⟨b, o, none⟩ = some v) : wr.cell? ⟨b, o, none⟩ = some v := by
  obtain ⟨n, rfl⟩ := hq.out trivial
  exact h

theorem heap_two_new (W : World) (X : Obj) (cs : Array Value) (t : TypeId) : ((W.alloc X).alloc (.cells cs t)).heap[W.heap.size + 1]? = some (.cells cs t (0, 0)) := by
  have := heap_alloc_new (W.alloc X) (.cells cs t)
  simpa using this

end Go.Proofs.YtkcgmimldjeaiaaDoor

/-
  The statements' sameAttrs, sameEvents, sameNodes, sameLists: their walks, at lists that can be read and hold the same.
-/
namespace Go.Proofs.YtkcgmimldjeaiaaDoor
open Go.RowKit Go.Lib Own

theorem AttrsR.drewN {W : World} {v : Value} {al : List AttrP} (h : AttrsR W v al) (n : Nat) : AttrsR (W.drewN n) v al := h
theorem AttrsR.shape {W : World} {v : Value} {al : List AttrP} (h : AttrsR W v al) : ∃ p n c, v = .slice p n c := by
  obtain ⟨p, c, e, _⟩ := h
  exact ⟨p, _, c, e⟩
theorem EvsR.shape {W : World} {v : Value} {al : List EvP} (h : EvsR W v al) : ∃ p n c, v = .slice p n c := by
  obtain ⟨p, c, e, _⟩ := h
  exact ⟨p, _, c, e⟩

set_option maxHeartbeats 2000000 in
set_option maxRecDepth 10000 in
theorem sameAttrsR_any (v1 v2 : Value) (l : List AttrP) (w : World) (h1 : AttrsR w v1 l) (h2 : AttrsR w v2 l) :
    Calls Tryd.prog 32 #[v1, v2] w fun e w' => e = .returned (.bool true) ∧ ∃ n, w' = w.drewN n := by
  obtain ⟨p1, k1, rfl, _, _, a1, _⟩ := h1
  obtain ⟨p2, k2, rfl, _, _, a2, _⟩ := h2
  have H1 := hid a1
  have H2 := hid a2
  clear a1 a2
  go_enter Tryd.func32, Tryd.ntmps32
  have q0 : ((l.length : Int) != (l.length : Int)) = false := by simp
  go_wp2
  go_loopw [13] (fun iv wr => ∃ k n : Nat, iv = .int .i64 k ∧ k ≤ l.length ∧ wr = w.drewN n) (fun iv _ => l.length - (RowKit.intOf iv).toNat)
  case atStart => exact ⟨0, 0, rfl, Nat.zero_le _, rfl⟩
  case round =>
    obtain ⟨k, n, rfl, hk, rfl⟩ := hrel
    by_cases hkl : k < l.length
    · obtain ⟨s, hs⟩ : ∃ s, l[k]? = some s := ⟨_, List.getElem?_eq_getElem hkl⟩
      obtain ⟨g1, o1, rfl, a1, a2⟩ := H1.out k s hs
      obtain ⟨g2, o2, rfl, b1, b2⟩ := H2.out k s hs
      obtain ⟨u1, hu1⟩ : ∃ u1, bs s.1 = u1 := ⟨_, rfl⟩
      obtain ⟨u2, hu2⟩ : ∃ u2, bs s.2 = u2 := ⟨_, rfl⟩
      rw [hu1] at a1 b1
      rw [hu2] at a2 b2
      clear hu1 hu2 H1 H2 hs
      go_wp2_with fail
      go_quiet (fail)
      go_wp2
      go_roundw
      case rel => exact ⟨k + 1, n + nq, rfl, by omega, by first | rfl | simp⟩
      case measure => simp [RowKit.intOf]; omega
    · go_wp2
      go_ret
      exact ⟨rfl, n, rfl⟩

set_option maxHeartbeats 4000000 in
set_option maxRecDepth 10000 in
theorem sameEventsR_any (v1 v2 : Value) (l : List EvP) (w : World) (h1 : EvsR w v1 l) (h2 : EvsR w v2 l) :
    Calls Tryd.prog 11 #[v1, v2] w fun e w' => e = .returned (.bool true) ∧ ∃ n, w' = w.drewN n := by
  obtain ⟨p1, k1, rfl, _, _, a1⟩ := h1
  obtain ⟨p2, k2, rfl, _, _, a2⟩ := h2
  have H1 := hid a1
  have H2 := hid a2
  clear a1 a2
  go_enter Tryd.func11, Tryd.ntmps11
  have q0 : ((l.length : Int) != (l.length : Int)) = false := by simp
  go_wp2
  go_loopw [13] (fun iv wr => ∃ k : Nat, iv = .int .i64 k ∧ k ≤ l.length ∧ Hid (True → ∃ n, wr = w.drewN n)) (fun iv _ => l.length - (RowKit.intOf iv).toNat)
  case atStart => exact ⟨0, rfl, Nat.zero_le _, hid (fun _ => ⟨0, rfl⟩)⟩
  case round =>
    obtain ⟨k, rfl, hk, HQ⟩ := hrel
    by_cases hkl : k < l.length
    · obtain ⟨s, hs⟩ : ∃ s, l[k]? = some s := ⟨_, List.getElem?_eq_getElem hkl⟩
      obtain ⟨g1, o1, a1, rfl, b0, b1, b2, b3, b4⟩ := H1.out k s hs
      obtain ⟨g2, o2, a2, rfl, d0, d1, d2, d3, d4⟩ := H2.out k s hs
      obtain ⟨sp1, sn1, sc1, rfl⟩ := b4.shape
      obtain ⟨sp2, sn2, sc2, rfl⟩ := d4.shape
      have hq := HQ.out trivial
      replace b0 := cell_drew hq b0
      replace b1 := cell_drew hq b1
      replace b2 := cell_drew hq b2
      replace b3 := cell_drew hq b3
      replace d0 := cell_drew hq d0
      replace d1 := cell_drew hq d1
      replace d2 := cell_drew hq d2
      replace d3 := cell_drew hq d3
      have hsame := fun n => sameAttrsR_any _ _ s.a (wr.drewN n) (by obtain ⟨n', rfl⟩ := hq; exact (b4.drewN _).drewN _) (by obtain ⟨n', rfl⟩ := hq; exact (d4.drewN _).drewN _)
      have HS := hid hsame
      clear hsame b4 d4 hq H1 H2 hs
      obtain ⟨u1, hu1⟩ : ∃ u1, bs s.n = u1 := ⟨_, rfl⟩
      obtain ⟨u2, hu2⟩ : ∃ u2, bs s.t = u2 := ⟨_, rfl⟩
      rw [hu1] at b1 d1
      rw [hu2] at b3 d3
      obtain ⟨z, hz⟩ : ∃ z, s.k = z := ⟨_, rfl⟩
      rw [hz] at b0 d0
      have q1 : (z != z) = false := by simp
      clear hu1 hu2 hz
      go_wp2_with fail
      go_quiet (first | (go_at_call 32; refine Calls.quiet_of (HS.out _)))
      go_wp2
      go_roundw
      case rel =>
        obtain ⟨n, hn⟩ := HQ.out trivial
        exact ⟨k + 1, rfl, by omega, hid (fun _ => ⟨n + nq, by rw [hn]; simp⟩)⟩
      case measure => simp [RowKit.intOf]; omega
    · go_wp2
      go_ret
      exact ⟨rfl, HQ.out trivial⟩

/-- a list of lists of attributes that can be read -/
def AlistsR (W : World) (v : Value) (ls : List (List AttrP)) : Prop :=
  ∃ p c, v = .slice p ls.length c ∧ ls.length ≤ c ∧ c ≤ 9223372036854775807 ∧ ∀ j l, ls[j]? = some l → ∃ b o u, p = some ⟨b, o, none⟩ ∧ W.cell? ⟨b, o + j, none⟩ = some u ∧ AttrsR W u l
theorem AlistsR.below {W W' : World} {v : Value} {ls : List (List AttrP)} (h : AlistsR W v ls) (hb : Below W.heap.size W W') : AlistsR W' v ls := by
  obtain ⟨p, c, rfl, h1, h2, h3⟩ := h
  refine ⟨p, c, rfl, h1, h2, fun j s hj => ?_⟩
  obtain ⟨b, o, u, rfl, hc, hw⟩ := h3 j s hj
  exact ⟨b, o, u, rfl, cell_kept hc hb, hw.below hb⟩
theorem AlistsR.shape {W : World} {v : Value} {al : List (List AttrP)} (h : AlistsR W v al) : ∃ p n c, v = .slice p n c := by
  obtain ⟨p, c, e, _⟩ := h
  exact ⟨p, _, c, e⟩

set_option maxHeartbeats 4000000 in
set_option maxRecDepth 10000 in
theorem sameLists_any (v1 v2 : Value) (l : List (List AttrP)) (w : World) (h1 : AlistsR w v1 l) (h2 : AlistsR w v2 l) :
    Calls Tryd.prog 31 #[v1, v2] w fun e w' => e = .returned (.bool true) ∧ ∃ n, w' = w.drewN n := by
  obtain ⟨p1, k1, rfl, _, _, a1⟩ := h1
  obtain ⟨p2, k2, rfl, _, _, a2⟩ := h2
  have H1 := hid a1
  have H2 := hid a2
  clear a1 a2
  go_enter Tryd.func31, Tryd.ntmps31
  go_wp2
  go_loopw [8] (fun iv wr => ∃ k : Nat, iv = .int .i64 k ∧ k ≤ l.length ∧ Hid (True → ∃ n, wr = w.drewN n)) (fun iv _ => l.length - (RowKit.intOf iv).toNat)
  case atStart => exact ⟨0, rfl, Nat.zero_le _, hid (fun _ => ⟨0, rfl⟩)⟩
  case round =>
    obtain ⟨k, rfl, hk, HQ⟩ := hrel
    by_cases hkl : k < l.length
    · obtain ⟨s, hs⟩ : ∃ s, l[k]? = some s := ⟨_, List.getElem?_eq_getElem hkl⟩
      obtain ⟨g1, o1, a1, rfl, b0, b4⟩ := H1.out k s hs
      obtain ⟨g2, o2, a2, rfl, d0, d4⟩ := H2.out k s hs
      obtain ⟨sp1, sn1, sc1, rfl⟩ := b4.shape
      obtain ⟨sp2, sn2, sc2, rfl⟩ := d4.shape
      have hq := HQ.out trivial
      replace b0 := cell_drew hq b0
      replace d0 := cell_drew hq d0
      have hsame := fun n => sameAttrsR_any _ _ s (wr.drewN n) (by obtain ⟨n', rfl⟩ := hq; exact (b4.drewN _).drewN _) (by obtain ⟨n', rfl⟩ := hq; exact (d4.drewN _).drewN _)
      have HS := hid hsame
      clear hsame b4 d4 hq H1 H2 hs
      go_wp2_with fail
      go_quiet (first | (go_at_call 32; refine Calls.quiet_of (HS.out _)))
      go_wp2
      go_roundw
      case rel =>
        obtain ⟨n, hn⟩ := HQ.out trivial
        exact ⟨k + 1, rfl, by omega, hid (fun _ => ⟨n + nq, by rw [hn]; simp⟩)⟩
      case measure => simp [RowKit.intOf]; omega
    · have q0 : ((l.length : Int) == (l.length : Int)) = true := by simp
      go_wp2
      go_ret
      exact ⟨rfl, HQ.out trivial⟩
end Go.Proofs.YtkcgmimldjeaiaaDoor

/-
  The statements' lendPolicy: its walk.
-/
namespace Go.Proofs.YtkcgmimldjeaiaaDoor
open Go.RowKit Go.Lib Own

end Go.Proofs.YtkcgmimldjeaiaaDoor

/-
  The statements' keptPolicy: its walk, at a policy that is as it was lent.
-/
namespace Go.Proofs.YtkcgmimldjeaiaaDoor
open Go.RowKit Go.Lib Own

theorem RulesR.shape {W : World} {v : Value} {rs : List RuleP} (h : RulesR W v rs) : ∃ p n c, v = .slice p n c := by
  obtain ⟨p, c, e, _⟩ := h
  exact ⟨p, _, c, e⟩
theorem Words.shape {W : World} {v : Value} {ss : List (List UInt8)} (h : Words W v ss) : ∃ p n c, v = .slice p n c := by
  obtain ⟨p, c, e, _⟩ := h
  exact ⟨p, _, c, e⟩

end Go.Proofs.YtkcgmimldjeaiaaDoor

/-
  slices.Index, Contains, IndexFunc, ContainsFunc, of words and of rules: their walks.
-/
namespace Go.Proofs.YtkcgmimldjeaiaaDoor
open Go.RowKit Go.Lib

/-- where the first entry lies of which p holds; -1: nowhere -/
def idxP {α : Type} (p : α → Bool) : List α → Int
  | [] => -1
  | x :: r => if p x = true then 0 else if idxP p r < 0 then -1 else idxP p r + 1
theorem idxP_cons {α : Type} (p : α → Bool) (x : α) (r : List α) : idxP p (x :: r) = if p x = true then 0 else if idxP p r < 0 then -1 else idxP p r + 1 := rfl
theorem idxP_ge {α : Type} (p : α → Bool) : ∀ l : List α, -1 ≤ idxP p l
  | [] => by unfold idxP; omega
  | x :: r => by have := idxP_ge p r; rw [idxP_cons]; split; omega; split <;> omega
theorem idxP_nonneg {α : Type} (p : α → Bool) : ∀ l : List α, decide (0 ≤ idxP p l) = l.any p
  | [] => rfl
  | x :: r => by
    have ih := idxP_nonneg p r
    rw [List.any_cons, ← ih, idxP_cons]
    cases h : p x with
    | true => simp
    | false =>
      simp only [Bool.false_eq_true, if_false, Bool.false_or]
      split
      · rw [decide_eq_false (by omega), decide_eq_false (by omega)]
      · have := idxP_ge p r
        rw [decide_eq_true (by omega), decide_eq_true (by omega)]
theorem idxP_hit {α : Type} (p : α → Bool) : ∀ (l : List α) (k : Nat) (x : α), l[k]? = some x → p x = true → (∀ (j : Nat) (y : α), j < k → l[j]? = some y → p y = false) → idxP p l = (k : Int)
  | [], k, x, h, _, _ => by simp at h
  | y :: r, 0, x, h, hp, _ => by
    simp only [List.getElem?_cons_zero, Option.some.injEq] at h
    subst h
    rw [idxP_cons, if_pos hp]
    rfl
  | y :: r, k + 1, x, h, hp, ha => by
    rw [List.getElem?_cons_succ] at h
    have ih := idxP_hit p r k x h hp (fun j z hj hz => ha (j + 1) z (by omega) (by rw [List.getElem?_cons_succ]; exact hz))
    have hy := ha 0 y (by omega) rfl
    rw [idxP_cons, hy, ih]
    simp only [Bool.false_eq_true, if_false]
    rw [if_neg (by omega)]
    omega
theorem idxP_miss {α : Type} (p : α → Bool) : ∀ l : List α, (∀ (j : Nat) (y : α), l[j]? = some y → p y = false) → idxP p l = -1
  | [], _ => rfl
  | y :: r, ha => by
    have ih := idxP_miss p r (fun j z hz => ha (j + 1) z (by rw [List.getElem?_cons_succ]; exact hz))
    have hy := ha 0 y rfl
    rw [idxP_cons, hy, ih]
    simp
theorem idxP_lt {α : Type} (p : α → Bool) : ∀ l : List α, idxP p l < (l.length : Int)
  | [] => by unfold idxP; simp
  | x :: r => by
    have := idxP_lt p r
    rw [idxP_cons]
    simp only [List.length_cons]
    split
    · omega
    · split <;> omega
theorem idxP_at {α : Type} (p : α → Bool) : ∀ (l : List α) (k : Nat), idxP p l = (k : Int) → ∃ x, l[k]? = some x ∧ l.find? p = some x
  | [], k, h => by unfold idxP at h; omega
  | x :: r, k, h => by
    rw [idxP_cons] at h
    cases hx : p x with
    | true =>
      rw [hx, if_pos rfl] at h
      obtain rfl : k = 0 := by omega
      exact ⟨x, rfl, by simp [List.find?, hx]⟩
    | false =>
      rw [hx] at h
      simp only [Bool.false_eq_true, if_false] at h
      split at h
      · omega
      · obtain ⟨j, rfl⟩ : ∃ j, k = j + 1 := ⟨k - 1, by omega⟩
        obtain ⟨y, h1, h2⟩ := idxP_at p r j (by omega)
        exact ⟨y, by rw [List.getElem?_cons_succ]; exact h1, by simp [List.find?, hx, h2]⟩
theorem idxP_none {α : Type} (p : α → Bool) (l : List α) (h : idxP p l < 0) : l.find? p = none := by
  rw [List.find?_eq_none]
  intro x hx hp
  have := idxP_nonneg p l
  rw [decide_eq_false (by omega)] at this
  exact absurd (List.any_eq_true.2 ⟨x, hx, hp⟩) (by rw [← this]; simp)
theorem ret_intS {a b : Int} (h : a = b) : Ending.returned (.int .i64 a) = .returned (.int .i64 b) := by rw [h]

set_option maxHeartbeats 1000000 in
theorem slIndex_any (v : Value) (ss : List (List UInt8)) (x : ByteArray) (w : World) (h : Words w v ss) :
    Calls Tryd.prog 126 #[v, .string x] w fun e w' => e = .returned (.int .i64 (idxP (fun s => s == x.toList) ss)) ∧ w' = w := by
  obtain ⟨p, c, rfl, hc, hm, hcell, _⟩ := h
  obtain ⟨R, hR⟩ : ∃ R, idxP (fun s => s == x.toList) ss = R := ⟨_, rfl⟩
  have HR := hid (fun (_ : True) => hR)
  have H := hid hcell
  rw [hR]
  have hml : ss.length ≤ 9223372036854775807 := by omega
  clear hcell hR
  go_enter Tryd.func126, Tryd.ntmps126
  go_wp2
  go_loopw [5, 8] (fun _ iv wr => ∃ k : Nat, iv = .int .i64 k ∧ k ≤ ss.length ∧ wr = w ∧ Hid (∀ j y, j < k → ss[j]? = some y → (y == x.toList) = false)) (fun _ iv _ => ss.length - (RowKit.intOf iv).toNat)
  case atStart => exact ⟨0, rfl, Nat.zero_le _, rfl, hid (fun j y h => absurd h (Nat.not_lt_zero _))⟩
  case round =>
    obtain ⟨k, rfl, hk, rfl, HK⟩ := hrel
    by_cases hkl : k < ss.length
    · obtain ⟨s, hs⟩ : ∃ s, ss[k]? = some s := ⟨_, List.getElem?_eq_getElem hkl⟩
      obtain ⟨b, o, rfl, hc1⟩ := H.out k s hs
      have hbt := bs_toList s
      have HS := hid hs
      obtain ⟨S, hS⟩ : ∃ S, bs s = S := ⟨_, rfl⟩
      rw [hS] at hbt hc1
      cases q : (s == x.toList)
      · have q2 : (x.toList == S.toList) = false := by rw [hbt]; rw [← q, Bool.eq_iff_iff, beq_iff_eq, beq_iff_eq]; exact eq_comm
        have HQ := hid (fun (_ : True) => q)
        clear hs hbt q H HR
        go_wp2
        go_roundw
        case rel =>
          refine ⟨k + 1, by first | rfl | omega, by omega, by first | rfl | trivial, hid (fun j y hj hy => ?_)⟩
          by_cases e : j = k
          · subst e
            obtain rfl := Option.some.inj (HS.out.symm.trans hy)
            exact HQ.out trivial
          · exact HK.out j y (by omega) hy
        case measure => simp [RowKit.intOf]; omega
      · have q2 : (x.toList == S.toList) = true := by rw [hbt]; rw [beq_iff_eq] at q ⊢; exact q.symm
        have hr := idxP_hit (fun s => s == x.toList) ss k s hs q (fun j y hj hy => HK.out j y hj hy)
        rw [HR.out trivial] at hr
        clear hs hbt q H HR HK
        go_wp2
        go_ret
        exact ⟨ret_intS hr.symm, rfl⟩
    · have hr := idxP_miss (fun s => s == x.toList) ss (fun j y hy => HK.out j y (by have := (List.getElem?_eq_some_iff.1 hy).1; omega) hy)
      rw [HR.out trivial] at hr
      clear HR HK
      go_wp2
      go_ret
      exact ⟨ret_intS hr.symm, rfl⟩
theorem contains_any (ss : List (List UInt8)) (x : List UInt8) : ss.any (fun s => s == x) = ss.contains x := by
  rw [Bool.eq_iff_iff, List.any_eq_true, List.contains_iff_mem]
  constructor
  · rintro ⟨s, h1, h2⟩; rw [beq_iff_eq] at h2; rw [← h2]; exact h1
  · intro h; exact ⟨x, h, by simp⟩
theorem slContains_any (v : Value) (ss : List (List UInt8)) (x : ByteArray) (w : World) (h : Words w v ss) :
    Calls Tryd.prog 102 #[v, .string x] w fun e w' => e = .returned (.bool (ss.contains x.toList)) ∧ w' = w := by
  have hi := fun W (hW : Words W v ss) => slIndex_any v ss x W hW
  have hr := idxP_nonneg (fun s => s == x.toList) ss
  rw [contains_any] at hr
  generalize idxP (fun s => s == x.toList) ss = z at hi hr
  rw [← hr]
  obtain ⟨p, c, rfl, _⟩ := h.len
  have HI := hid (hi w h)
  clear hi hr h
  go_enter Tryd.func102, Tryd.ntmps102
  go_wp2_with (go_at_call 126; refine HI.out.mono ?_; rintro e w' ⟨rfl, rfl⟩)
  go_ret
  exact ⟨rfl, rfl⟩

/-- what is asked of a predicate on words -/
def PredW (w : World) (g : Nat) (lb : Array Value) (ss : List (List UInt8)) (p : List UInt8 → Bool) : Prop :=
  ∀ (W : World) (s : List UInt8), s ∈ ss → Below w.heap.size w W → Calls Tryd.prog g (#[.string (bs s)] ++ lb) W fun e w' => e = .returned (.bool (p s)) ∧ Below w.heap.size w w'

set_option maxHeartbeats 2000000 in
theorem slIndexFunc_any (g : Nat) (lb : Array Value) (eg : ∀ args w, (callFunc g args).run Tryd.prog w = .ok (.enter g args) w) (p : List UInt8 → Bool) (v : Value) (ss : List (List UInt8)) (w : World) (h : Words w v ss) (hp : PredW w g lb ss p) :
    Calls Tryd.prog 101 #[v, .func (.func g) #[] lb] w fun e w' => e = .returned (.int .i64 (idxP p ss)) ∧ Below w.heap.size w w' := by
  obtain ⟨pt, c, rfl, hc, hm, hcell, _⟩ := h
  obtain ⟨R, hR⟩ : ∃ R, idxP p ss = R := ⟨_, rfl⟩
  have HR := hid (fun (_ : True) => hR)
  have H := hid hcell
  have HP := hid hp
  rw [hR]
  have hml : ss.length ≤ 9223372036854775807 := by omega
  clear hcell hR hp
  go_enter Tryd.func101, Tryd.ntmps101
  go_wp2
  go_loopw [5, 8] (fun _ iv wr => ∃ k : Nat, iv = .int .i64 k ∧ k ≤ ss.length ∧ Hid (Below w.heap.size w wr) ∧ Hid (∀ j y, j < k → ss[j]? = some y → p y = false)) (fun _ iv _ => ss.length - (RowKit.intOf iv).toNat)
  case atStart => exact ⟨0, rfl, Nat.zero_le _, Below.refl _ _, hid (fun j y h => absurd h (Nat.not_lt_zero _))⟩
  case round =>
    obtain ⟨k, rfl, hk, HB, HK⟩ := hrel
    by_cases hkl : k < ss.length
    · obtain ⟨s, hs⟩ : ∃ s, ss[k]? = some s := ⟨_, List.getElem?_eq_getElem hkl⟩
      obtain ⟨b, o, rfl, hc1⟩ := H.out k s hs
      replace hc1 := cell_low hc1 HB.out (cell_block hc1)
      have hcall := HP.out wr s (List.mem_of_getElem? hs) HB.out
      have HS := hid hs
      obtain ⟨S, hS⟩ : ∃ S, bs s = S := ⟨_, rfl⟩
      rw [hS] at hc1 hcall
      cases q : p s
      · rw [q] at hcall
        have HQ := hid (fun (_ : True) => q)
        have HC := hid hcall
        clear hs q H HR hcall hS
        go_wp2_with (go_at_fn g; refine HC.out.mono ?_; rintro e w' ⟨rfl, hb'⟩)
        have HB2 := hid hb'
        clear hb' hc1 HC
        go_roundw
        case rel =>
          refine ⟨k + 1, by first | rfl | omega, by omega, HB2, hid (fun j y hj hy => ?_)⟩
          by_cases e : j = k
          · subst e
            obtain rfl := Option.some.inj (HS.out.symm.trans hy)
            exact HQ.out trivial
          · exact HK.out j y (by omega) hy
        case measure => simp [RowKit.intOf]; omega
      · rw [q] at hcall
        have hr := idxP_hit p ss k s hs q (fun j y hj hy => HK.out j y hj hy)
        rw [HR.out trivial] at hr
        have HC := hid hcall
        clear hs q H HR HK hcall hS
        go_wp2_with (go_at_fn g; refine HC.out.mono ?_; rintro e w' ⟨rfl, hb'⟩)
        go_ret
        exact ⟨ret_intS hr.symm, hb'⟩
    · have hr := idxP_miss p ss (fun j y hy => HK.out j y (by have := (List.getElem?_eq_some_iff.1 hy).1; omega) hy)
      rw [HR.out trivial] at hr
      clear HR HK
      go_wp2
      go_ret
      exact ⟨ret_intS hr.symm, HB.out⟩
theorem slContainsFunc_any (g : Nat) (lb : Array Value) (eg : ∀ args w, (callFunc g args).run Tryd.prog w = .ok (.enter g args) w) (p : List UInt8 → Bool) (v : Value) (ss : List (List UInt8)) (w : World) (h : Words w v ss) (hp : PredW w g lb ss p) :
    Calls Tryd.prog 62 #[v, .func (.func g) #[] lb] w fun e w' => e = .returned (.bool (ss.any p)) ∧ Below w.heap.size w w' := by
  have hi := slIndexFunc_any g lb eg p v ss w h hp
  have hr := idxP_nonneg p ss
  generalize idxP p ss = z at hi hr
  rw [← hr]
  obtain ⟨pt, c, rfl, _⟩ := h.len
  have HI := hid hi
  clear hi hr h hp
  go_enter Tryd.func62, Tryd.ntmps62
  go_wp2_with (go_at_call 101; refine HI.out.mono ?_; rintro e w' ⟨rfl, hb⟩)
  go_ret
  exact ⟨rfl, hb⟩

/-! ## of rules -/

def PredR (w : World) (g : Nat) (lb : Array Value) (rs : List RuleP) (p : RuleP → Bool) : Prop :=
  ∀ (W : World) (r : RuleP) (u : Value), r ∈ rs → Words w u r.2 → Below w.heap.size w W → Calls Tryd.prog g (#[.agg #[.string (bs r.1), u]] ++ lb) W fun e w' => e = .returned (.bool (p r)) ∧ Below w.heap.size w w'

set_option maxHeartbeats 2000000 in
theorem ruIndexFunc_any (g : Nat) (lb : Array Value) (eg : ∀ args w, (callFunc g args).run Tryd.prog w = .ok (.enter g args) w) (p : RuleP → Bool) (v : Value) (rs : List RuleP) (w : World) (h : RulesR w v rs) (hp : PredR w g lb rs p) :
    Calls Tryd.prog 103 #[v, .func (.func g) #[] lb] w fun e w' => e = .returned (.int .i64 (idxP p rs)) ∧ Below w.heap.size w w' := by
  obtain ⟨pt, c, rfl, hc, hm, hcell⟩ := h
  obtain ⟨R, hR⟩ : ∃ R, idxP p rs = R := ⟨_, rfl⟩
  have HR := hid (fun (_ : True) => hR)
  have H := hid hcell
  have HP := hid hp
  rw [hR]
  have hml : rs.length ≤ 9223372036854775807 := by omega
  clear hcell hR hp
  go_enter Tryd.func103, Tryd.ntmps103
  go_wp2
  go_loopw [5, 8] (fun _ iv wr => ∃ k : Nat, iv = .int .i64 k ∧ k ≤ rs.length ∧ Hid (Below w.heap.size w wr) ∧ Hid (∀ j y, j < k → rs[j]? = some y → p y = false)) (fun _ iv _ => rs.length - (RowKit.intOf iv).toNat)
  case atStart => exact ⟨0, rfl, Nat.zero_le _, Below.refl _ _, hid (fun j y h => absurd h (Nat.not_lt_zero _))⟩
  case round =>
    obtain ⟨k, rfl, hk, HB, HK⟩ := hrel
    by_cases hkl : k < rs.length
    · obtain ⟨s, hs⟩ : ∃ s, rs[k]? = some s := ⟨_, List.getElem?_eq_getElem hkl⟩
      obtain ⟨b, o, u, rfl, hc1, hc2, hwu⟩ := H.out k s hs
      replace hc1 := cell_low hc1 HB.out (cell_block hc1)
      replace hc2 := cell_low hc2 HB.out (cell_block hc2)
      have hcall := HP.out wr s u (List.mem_of_getElem? hs) hwu HB.out
      have HS := hid hs
      obtain ⟨up, uc, hu, _⟩ := hwu.len
      subst hu
      obtain ⟨S, hS⟩ : ∃ S, bs s.1 = S := ⟨_, rfl⟩
      rw [hS] at hc1 hcall
      cases q : p s
      · rw [q] at hcall
        have HQ := hid (fun (_ : True) => q)
        have HC := hid hcall
        clear hs q H HR hcall hS hwu
        go_wp2_with (go_at_fn g; refine HC.out.mono ?_; rintro e w' ⟨rfl, hb'⟩)
        have HB2 := hid hb'
        clear hb' hc1 hc2 HC
        go_roundw
        case rel =>
          refine ⟨k + 1, by first | rfl | omega, by omega, HB2, hid (fun j y hj hy => ?_)⟩
          by_cases e : j = k
          · subst e
            obtain rfl := Option.some.inj (HS.out.symm.trans hy)
            exact HQ.out trivial
          · exact HK.out j y (by omega) hy
        case measure => simp [RowKit.intOf]; omega
      · rw [q] at hcall
        have hr := idxP_hit p rs k s hs q (fun j y hj hy => HK.out j y hj hy)
        rw [HR.out trivial] at hr
        have HC := hid hcall
        clear hs q H HR HK hcall hS hwu
        go_wp2_with (go_at_fn g; refine HC.out.mono ?_; rintro e w' ⟨rfl, hb'⟩)
        go_ret
        exact ⟨ret_intS hr.symm, hb'⟩
    · have hr := idxP_miss p rs (fun j y hy => HK.out j y (by have := (List.getElem?_eq_some_iff.1 hy).1; omega) hy)
      rw [HR.out trivial] at hr
      clear HR HK
      go_wp2
      go_ret
      exact ⟨ret_intS hr.symm, HB.out⟩
theorem ruContainsFunc_any (g : Nat) (lb : Array Value) (eg : ∀ args w, (callFunc g args).run Tryd.prog w = .ok (.enter g args) w) (p : RuleP → Bool) (v : Value) (rs : List RuleP) (w : World) (h : RulesR w v rs) (hp : PredR w g lb rs p) :
    Calls Tryd.prog 65 #[v, .func (.func g) #[] lb] w fun e w' => e = .returned (.bool (rs.any p)) ∧ Below w.heap.size w w' := by
  have hi := ruIndexFunc_any g lb eg p v rs w h hp
  have hr := idxP_nonneg p rs
  generalize idxP p rs = z at hi hr
  rw [← hr]
  obtain ⟨pt, c, rfl, _⟩ := h
  have HI := hid hi
  clear hi hr hp
  go_enter Tryd.func65, Tryd.ntmps65
  go_wp2_with (go_at_call 103; refine HI.out.mono ?_; rintro e w' ⟨rfl, hb⟩)
  go_ret
  exact ⟨rfl, hb⟩
end Go.Proofs.YtkcgmimldjeaiaaDoor

/-
  Package vocabulary: its two tables, Find, IsVoid, IsAttribute, IsLink: their walks.
-/
namespace Go.Proofs.YtkcgmimldjeaiaaDoor
open Go.RowKit Go.Lib

/-- the elements by kinds: names, class, model -/
def kindT : List (List (List UInt8) × Nat × Nat) := [([[97], [98], [99, 111, 100, 101], [101, 109], [105], [113], [115], [115, 109, 97, 108, 108], [115, 112, 97, 110], [115, 116, 114, 111, 110, 103], [115, 117, 98], [115, 117, 112], [117]], 2, 2), ([[98, 114], [105, 109, 103]], 2, 9), ([[116, 101, 120, 116, 97, 114, 101, 97]], 2, 3), ([[104, 49], [104, 50], [104, 51], [104, 52], [104, 53], [104, 54], [112], [112, 114, 101]], 1, 2), ([[98, 108, 111, 99, 107, 113, 117, 111, 116, 101], [100, 105, 118]], 1, 1), ([[104, 114]], 1, 9), ([[111, 108], [117, 108]], 1, 4), ([[116, 97, 98, 108, 101]], 1, 5), ([[108, 105]], 4, 1), ([[116, 98, 111, 100, 121], [116, 102, 111, 111, 116], [116, 104, 101, 97, 100]], 5, 6), ([[116, 114]], 6, 7), ([[116, 100], [116, 104]], 7, 8)]
def elemF : List (List (List UInt8) × Nat × Nat) → List UInt8 → Option (Nat × Nat)
  | [], _ => none
  | k :: r, x => if k.1.contains x = true then some k.2 else elemF r x
/-- class and model of a known element -/
def elemL (x : List UInt8) : Option (Nat × Nat) := elemF kindT x
/-- an Element: name, class, model -/
def elemC (x : List UInt8) (c m : Nat) : Array Value := #[.string (bs x), .int .i64 c, .int .i64 m]
def zeroE : Array Value := #[.string ⟨#[]⟩, .int .i64 0, .int .i64 0]
def foundV (x : List UInt8) : Option (Nat × Nat) → Value
  | some (c, m) => .tuple #[.agg (elemC x c m), .bool true]
  | none => .tuple #[.agg zeroE, .bool false]
structure KindsAt (W : World) (L : List Value) : Prop where
  len : L.length = 36
  at_ : W.rangeAt 4 0 L
  it : ∀ (k : Nat) (x : List (List UInt8) × Nat × Nat), kindT[k]? = some x → ∃ v, (L.drop (k * 3)).take 3 = [v, .int .i64 x.2.1, .int .i64 x.2.2] ∧ Words W v x.1
def KindsTab (W : World) : Prop := ∃ L, KindsAt W L
theorem KindsAt.below {W W' : World} {L : List Value} (h : KindsAt W L) (hb : Below W.heap.size W W') : KindsAt W' L :=
  ⟨h.len, rangeAt_below h.at_ hb, fun k x hk => by obtain ⟨v, h1, h2⟩ := h.it k x hk; exact ⟨v, h1, h2.below hb⟩⟩
theorem KindsTab.below {W W' : World} (h : KindsTab W) (hb : Below W.heap.size W W') : KindsTab W' := by obtain ⟨L, h⟩ := h; exact ⟨L, h.below hb⟩
theorem index_kinds (L : List Value) (_hL : L.length = 36) (k : Nat) (hk : k < 12) (v : Value) (c m : Nat) (h : (L.drop (k * 3)).take 3 = [v, .int .i64 c, .int .i64 m]) (W : World) :
    (Instr.index 163 (.agg L.toArray) (.int .i64 (k : Int))).run Tryd.prog W = .ok (.agg #[v, .int .i64 c, .int .i64 m]) W := by
  have hn : (0 ≤ (k : Int) ∧ (k : Int) < 12) := by omega
  simp [Instr.index, run_underlying Tryd.underlying163, asIntOf, hk, go_sem, h]
theorem elem_set {W : World} {b : Nat} {a0 a1 a2 v0 v1 v2 : Value} (h : W.heap[b]? = some (.cells #[a0, a1, a2] 140 (0, 0))) :
    (((W.setCell ⟨b, 0, none⟩ v0).setCell ⟨b, 1, none⟩ v1).setCell ⟨b, 2, none⟩ v2).heap[b]? = some (.cells #[v0, v1, v2] 140 (0, 0)) := by
  simp [World.setCell, Array.getElem?_modify, h]
theorem elem_load {W : World} {b : Nat} {v0 v1 v2 : Value} (h : W.heap[b]? = some (.cells #[v0, v1, v2] 140 (0, 0))) :
    (loadVar 140 ⟨b, 0, none⟩).run Tryd.prog W = .ok (.agg #[v0, v1, v2]) W :=
  run_loadVar_row W b _ _ _ _ _ h Tryd.underlying140 rfl (by kernel_rfl)
theorem words_small : ∀ x ∈ kindT, x.1.length ≤ 13 := by decide +kernel

set_option maxHeartbeats 2000000 in
set_option maxRecDepth 100000 in
theorem find_any (x : ByteArray) (w : World) (hT : KindsTab w) :
    Calls Tryd.prog 89 #[.string x] w fun e w' => e = .returned (foundV x.toList (elemL x.toList)) ∧ Below w.heap.size w w' := by
  obtain ⟨L, hL⟩ := hT
  obtain ⟨R, hR⟩ : ∃ R, elemL x.toList = R := ⟨_, rfl⟩
  have HR : Hid (True → elemF (kindT.drop 0) x.toList = R) := fun _ => hR
  rw [hR]
  have hbs2 := bs_of x
  rw [← Lib.toList_data] at hbs2
  have HBS := hid hbs2
  have HL := hid hL
  have hlen := hL.len
  have hB1 := (Below.refl w.heap.size w).alloc (Nat.le_refl _) (.cells zeroE 140)
  have H0 : Hid (Below w.heap.size w (w.alloc (.cells zeroE 140)) ∧ (w.alloc (.cells zeroE 140)).heap[w.heap.size]? = some (.cells zeroE 140 (0, 0))) := ⟨hB1, heap_alloc_new w _⟩
  have hat := rangeAt_below hL.at_ hB1
  have HAT := hid hat
  clear hR hL hB1 hat hbs2
  unfold zeroE at H0 HAT
  go_enter Tryd.func89, Tryd.ntmps89
  go_upto_region 1 with fail
  apply wp_region_lit
  refine wpList_load_mid rfl 163 _ rfl 4 0 rfl L (.array 12 162) HAT.out Tryd.underlying163 rfl (by rw [hlen]; kernel_rfl) ?_
  go_wp2_with fail
  go_loopw [5, 7, 9] (fun _ _ iv wr => ∃ k : Nat, iv = .int .i64 k ∧ k ≤ 12 ∧ Hid (Below w.heap.size w wr ∧ wr.heap[w.heap.size]? = some (.cells #[.string ⟨#[]⟩, .int .i64 0, .int .i64 0] 140 (0, 0))) ∧ Hid (True → elemF (kindT.drop k) x.toList = R)) (fun _ _ iv _ => 12 - (RowKit.intOf iv).toNat)
  case atStart => exact ⟨0, rfl, Nat.zero_le _, H0, HR⟩
  case round =>
    obtain ⟨k, rfl, hk, HX, HK⟩ := hrel
    by_cases hkl : k < 12
    · obtain ⟨q, hq⟩ : ∃ q, kindT[k]? = some q := ⟨_, List.getElem?_eq_getElem (show k < kindT.length from hkl)⟩
      obtain ⟨v, hv1, hv2⟩ := HL.out.it k q hq
      have hsm := words_small q (List.mem_of_getElem? hq)
      have hix := fun W => index_kinds L hlen k hkl v q.2.1 q.2.2 hv1 W
      have hd := HK.out trivial
      rw [drop_at hq] at hd
      obtain ⟨names, c, m⟩ := q
      simp only [elemF] at hd
      obtain ⟨vp, vc, rfl, hv3, hv4, hv5, hv6⟩ := hv2
      have HV := hid hv5
      have HI := hid hix
      have HD := hid (fun (_ : True) => hd)
      simp only at hsm
      have hxl : names.length ≤ 9223372036854775807 := by omega
      clear hq hv1 hix hd hv5 hv6 HK H0 HR HAT
      go_wp2_with fail
      rw [HI.out]
      simp only [Result.andThen]
      rw [Oper.upon_value]
      go_wp2_with fail
      have hbA := (Below.refl wr.heap.size wr).alloc (Nat.le_refl _) (.cells #[.slice vp names.length vc, .int .i64 c, .int .i64 m] 162)
      have hnA := heap_alloc_new wr (.cells #[.slice vp names.length vc, .int .i64 c, .int .i64 m] 162)
      obtain ⟨W1, hW1⟩ : ∃ W1, wr.alloc (.cells #[.slice vp names.length vc, .int .i64 c, .int .i64 m] 162) = W1 := ⟨_, rfl⟩
      rw [hW1] at hbA hnA
      simp only [hW1]
      have hbW := HX.out.1.trans (hbA.mono HX.out.1.size)
      have hz0 := (hbA.block _ (block_lt HX.out.2)).trans HX.out.2
      have HY := hid (And.intro hbW (And.intro hz0 hnA))
      have a1 := cell_at hnA (j := 1) rfl
      have a2 := cell_at hnA (j := 2) rfl
      have e0 := cell_at hz0 (j := 0) rfl
      have e1 := cell_at hz0 (j := 1) rfl
      have e2 := cell_at hz0 (j := 2) rfl
      have f0 := free_at hz0 0
      have f1 := free_at hz0 1
      have f2 := free_at hz0 2
      clear hbA hnA hbW hz0 HX HI
      obtain ⟨Q, hQ⟩ : ∃ Q, names.contains x.toList = Q := ⟨_, rfl⟩
      have HQ : Hid (True → (names.drop 0).contains x.toList = Q) := fun _ => hQ
      have HDQ := hid (fun (_ : True) => (by rw [← hQ]; exact HD.out trivial : (if Q = true then some (c, m) else elemF (kindT.drop (k + 1)) x.toList) = R))
      clear hQ HD
      go_loopw [7, 15] (fun _ iv wr2 => ∃ i : Nat, iv = .int .i64 i ∧ i ≤ names.length ∧ wr2 = W1 ∧ Hid (True → (names.drop i).contains x.toList = Q)) (fun _ iv _ => names.length - (RowKit.intOf iv).toNat)
      case atStart => exact ⟨0, rfl, Nat.zero_le _, rfl, HQ⟩
      case round =>
        obtain ⟨i, rfl, hi, rfl, HK⟩ := hrel
        by_cases hil : i < names.length
        · obtain ⟨s, hs⟩ : ∃ s, names[i]? = some s := ⟨_, List.getElem?_eq_getElem hil⟩
          obtain ⟨b, o, rfl, hc1⟩ := HV.out i s hs
          replace hc1 := cell_low hc1 HY.out.1 (cell_block hc1)
          have hd := HK.out trivial
          rw [drop_at hs, List.contains_cons] at hd
          have hbt := bs_toList s
          have HS := hid (fun (_ : True) => hbt)
          obtain ⟨S, hS⟩ : ∃ S, bs s = S := ⟨_, rfl⟩
          rw [hS] at hbt hc1
          cases q : (x.toList == s)
          · have q2 : (S.toList == x.toList) = false := by rw [hbt, ← q, Bool.eq_iff_iff, beq_iff_eq, beq_iff_eq]; exact eq_comm
            rw [q, Bool.false_or] at hd
            have HD2 := hid (fun (_ : True) => hd)
            clear hs hbt q hd HK hS HV
            go_wp2_with fail
            go_roundw
            case rel => first | exact ⟨i + 1, rfl, by omega, by first | rfl | trivial, HD2⟩ | ((repeat apply Exists.intro); exact ⟨⟨i + 1, rfl, by omega, by first | rfl | trivial, HD2⟩, rfl⟩)
            case measure => simp [RowKit.intOf]; omega
          · have q2 : (S.toList == x.toList) = true := by rw [hbt]; rw [beq_iff_eq] at q ⊢; exact q.symm
            rw [q, Bool.true_or] at hd
            subst hd
            have hR := HDQ.out trivial
            rw [if_pos rfl] at hR
            subst hR
            have hsx : S = x := by
              rw [beq_iff_eq] at q
              rw [← hS, ← q]
              exact HBS.out
            subst hsx
            clear hs hbt q HK hS HV HDQ HQ
            go_wp2_with fail
            have hfin := elem_set (v0 := .string S) (v1 := .int .i64 c) (v2 := .int .i64 m) HY.out.2.1
            have hld := elem_load hfin
            have hbf := ((HY.out.1.setCell (p := ⟨w.heap.size, 0, none⟩) (Nat.le_refl _) (.string S)).setCell (p := ⟨w.heap.size, 1, none⟩) (Nat.le_refl _) (.int .i64 c)).setCell (p := ⟨w.heap.size, 2, none⟩) (Nat.le_refl _) (.int .i64 m)
            have hbs3 := HBS.out
            refine bodyPost_ret (v := foundV S.toList (some (c, m))) ?_ rfl ⟨rfl, hbf⟩
            unfold foundV elemC
            rw [hbs3, results_cell_tmp rfl]
            simp [asAddr, Result.andThen, hld]
        · obtain rfl : Q = false := by
            have := HK.out trivial
            rw [List.drop_of_length_le (by omega)] at this
            exact this.symm
          have HD2 := hid (fun (_ : True) => (by have := HDQ.out trivial; rwa [if_neg (by simp)] at this : elemF (kindT.drop (k + 1)) x.toList = R))
          have HZ := hid (And.intro HY.out.1 HY.out.2.1)
          clear HK HQ HDQ HV HY
          go_wp2_with fail
          go_roundw
          case rel => first | exact ⟨k + 1, rfl, by omega, HZ, HD2⟩ | ((repeat apply Exists.intro); exact ⟨⟨k + 1, rfl, by omega, HZ, HD2⟩, rfl⟩)
          case measure => simp [RowKit.intOf]; omega
    · obtain rfl : R = none := by
        have := HK.out trivial
        rw [List.drop_of_length_le (show kindT.length ≤ k by have : kindT.length = 12 := rfl; omega)] at this
        exact this.symm
      have e0 := cell_at HX.out.2 (j := 0) rfl
      have e1 := cell_at HX.out.2 (j := 1) rfl
      have e2 := cell_at HX.out.2 (j := 2) rfl
      have f0 := free_at HX.out.2 0
      have f1 := free_at HX.out.2 1
      have f2 := free_at HX.out.2 2
      clear HK HR H0 HAT
      go_wp2_with fail
      have hfin := elem_set (v0 := .string ⟨#[]⟩) (v1 := .int .i64 0) (v2 := .int .i64 0) HX.out.2
      have hld := elem_load hfin
      have hbf := ((HX.out.1.setCell (p := ⟨w.heap.size, 0, none⟩) (Nat.le_refl _) (.string ⟨#[]⟩)).setCell (p := ⟨w.heap.size, 1, none⟩) (Nat.le_refl _) (.int .i64 0)).setCell (p := ⟨w.heap.size, 2, none⟩) (Nat.le_refl _) (.int .i64 0)
      refine bodyPost_ret (v := foundV x.toList none) ?_ rfl ⟨rfl, hbf⟩
      unfold foundV zeroE
      rw [results_cell_tmp rfl]
      simp [asAddr, Result.andThen, hld]
def vattrT : List (List UInt8) := [[97, 108, 116], [99, 105, 116, 101], [99, 108, 97, 115, 115], [99, 111, 108, 115, 112, 97, 110], [100, 105, 114], [104, 101, 105, 103, 104, 116], [104, 114, 101, 102], [105, 100], [108, 97, 110, 103], [114, 101, 108], [114, 111, 119, 115, 112, 97, 110], [115, 114, 99], [115, 116, 97, 114, 116], [116, 105, 116, 108, 101], [119, 105, 100, 116, 104]]
def VAttrTab (w : World) : Prop := w.rangeAt 6 0 (vattrT.map fun s => .string (bs s))
theorem VAttrTab.below {w w' : World} (h : VAttrTab w) (hb : Below w.heap.size w w') : VAttrTab w' := rangeAt_below h hb
theorem index_vattr (k : Nat) (s : List UInt8) (h : vattrT[k]? = some s) (W : World) :
    (Instr.index 74 (.agg (vattrT.map fun s => Value.string (bs s)).toArray) (.int .i64 (k : Int))).run Tryd.prog W = .ok (.string (bs s)) W := by
  have h15 : k < 15 := (List.getElem?_eq_some_iff.1 h).1
  have hn : (0 ≤ (k : Int) ∧ (k : Int) < 15) := by omega
  simp [Instr.index, run_underlying Tryd.underlying74, asIntOf, h15, go_sem, h]

set_option maxHeartbeats 1000000 in
set_option maxRecDepth 100000 in
theorem isAttr_any (x : ByteArray) (w : World) (hT : VAttrTab w) :
    Calls Tryd.prog 127 #[.string x] w fun e w' => e = .returned (.bool (vattrT.contains x.toList)) ∧ w' = w := by
  obtain ⟨R, hR⟩ : ∃ R, vattrT.contains x.toList = R := ⟨_, rfl⟩
  have HR : Hid (True → (vattrT.drop 0).contains x.toList = R) := fun _ => hR
  rw [hR]
  have HT := hid hT
  obtain ⟨L, hLt⟩ : ∃ L, (vattrT.map fun s => Value.string (bs s)) = L := ⟨_, rfl⟩
  have hlen : L.length = 15 := by rw [← hLt]; rfl
  have hat : w.rangeAt 6 0 L := by rw [← hLt]; exact hT
  have hix := fun k s h W => index_vattr k s h W
  rw [hLt] at hix
  have HIX := hid hix
  clear hR hT hix hLt
  go_enter Tryd.func127, Tryd.ntmps127
  go_upto_region 1 with fail
  apply wp_region_lit
  refine wpList_load_mid rfl 74 _ rfl 6 0 rfl L (.array 15 9) hat Tryd.underlying74 rfl (by rw [hlen]; kernel_rfl) ?_
  clear hat
  go_wp2_with fail
  go_loopw [4, 6] (fun _ iv wr => ∃ k : Nat, iv = .int .i64 k ∧ k ≤ 15 ∧ wr = w ∧ Hid (True → (vattrT.drop k).contains x.toList = R)) (fun _ iv _ => 15 - (RowKit.intOf iv).toNat)
  case atStart => exact ⟨0, rfl, Nat.zero_le _, rfl, HR⟩
  case round =>
    obtain ⟨k, rfl, hk, rfl, HK⟩ := hrel
    by_cases hkl : k < 15
    · obtain ⟨s, hs⟩ : ∃ s, vattrT[k]? = some s := ⟨_, List.getElem?_eq_getElem (show k < vattrT.length from hkl)⟩
      have hix := fun W => HIX.out k s hs W
      have hd := HK.out trivial
      rw [drop_at hs, List.contains_cons] at hd
      have hbt := bs_toList s
      obtain ⟨S, hS⟩ : ∃ S, bs s = S := ⟨_, rfl⟩
      rw [hS] at hbt hix
      have HI := hid hix
      clear hix
      cases q : (x.toList == s)
      · have q2 : (S.toList == x.toList) = false := by rw [hbt, ← q, Bool.eq_iff_iff, beq_iff_eq, beq_iff_eq]; exact eq_comm
        rw [q, Bool.false_or] at hd
        have HD := hid (fun (_ : True) => hd)
        clear hs hbt q hd HK hS HR
        go_wp2_with fail
        rw [HI.out]
        simp only [Result.andThen]
        rw [Oper.upon_value]
        go_wp2_with fail
        go_roundw
        case rel => exact ⟨k + 1, rfl, by omega, by first | rfl | trivial, HD⟩
        case measure => simp [RowKit.intOf]; omega
      · have q2 : (S.toList == x.toList) = true := by rw [hbt]; rw [beq_iff_eq] at q ⊢; exact q.symm
        rw [q, Bool.true_or] at hd
        subst hd
        clear hs hbt q HK hS HR
        go_wp2_with fail
        rw [HI.out]
        simp only [Result.andThen]
        rw [Oper.upon_value]
        go_wp2_with fail
        go_ret
        exact ⟨rfl, rfl⟩
    · obtain rfl : R = false := by
        have := HK.out trivial
        rw [List.drop_of_length_le (show vattrT.length ≤ k by have : vattrT.length = 15 := rfl; omega)] at this
        exact this.symm
      clear HK HR
      go_wp2_with fail
      go_ret
      exact ⟨rfl, rfl⟩
end Go.Proofs.YtkcgmimldjeaiaaDoor

/-
  From what a row says of the tables of words to what lies in memory.
-/
namespace Go.Proofs.YtkcgmimldjeaiaaDoor
open Go.RowKit Go.Lib Go.ChangeShapes Go.Deep

theorem range_ofK {P : Program} {w : World} {n : String} {g : Nat} {cs : Array Value} {L : List Value} (hg : P.globalNamed n = some g) (hvar : w.var? P n = some cs) (h : ∀ (j : Nat) (v : Value), L[j]? = some v → cs.toList[j]? = some v) : w.rangeAt g 0 L := by
  intro j v hv
  rw [Nat.zero_add, World.var?_cell hg hvar j, ← Array.getElem?_toList]
  exact h j v hv
theorem one_atK {α : Type} {l : List α} {j : Nat} {x : α} (h : (l.drop j).take 1 = [x]) : l[j]? = some x := by
  have := congrArg (·[0]?) h
  simpa using this
theorem strs_ofK {P : Program} {w : World} {n : String} {g t e m : Nat} {T : List (List UInt8)} (hg : P.globalNamed n = some g) (ht : (P.globals[g]?).map (·.type) = some t)
    (hu : P.underlying t = some (.array m e)) (he : P.underlying e = some .string) (hce : P.cellsOf e = 1) (hm : T.length = m) (h : VarReads P w n (.agg (T.map fun x => .lit (.string x)))) : w.rangeAt g 0 (T.map fun s => .string (bs s)) := by
  obtain ⟨g', t', cs, fuel, p, hg', hty, hvar, hd⟩ := h
  obtain rfl := Option.some.inj (hg.symm.trans hg')
  obtain rfl := Option.some.inj (ht.symm.trans hty)
  refine range_ofK hg hvar (fun j v hv => ?_)
  rw [List.getElem?_map] at hv
  obtain ⟨x, hx, rfl⟩ := Option.map_eq_some_iff.1 hv
  obtain ⟨fuel', d, q, hdi, hel⟩ := array_elem hu hd j (by rw [← hm]; exact (List.getElem?_eq_some_iff.1 hx).1)
  rw [List.getElem?_map, hx] at hdi
  simp only [Option.map_some, Option.some.injEq] at hdi
  subst hdi
  rw [hce, Nat.mul_one] at hel
  obtain ⟨s, hs, hx2, _⟩ := DataW.trod_string he hel
  simp only [Prod.mk.injEq, DataW.lit.injEq, Lit.string.injEq] at hx2
  rw [one_atK hs, hx2.1]
  rfl

theorem list3 {l : List Value} {a b c : Value} (hl : l.length = 3) (h0 : (l.drop 0).take 1 = [a]) (h1 : (l.drop 1).take 1 = [b]) (h2 : (l.drop 2).take 1 = [c]) : l = [a, b, c] := by
  match l, hl with
  | [x, y, z], _ =>
    simp only [List.drop_zero, List.take_succ_cons, List.take_zero, List.drop_succ_cons, List.cons.injEq, and_true] at h0 h1 h2
    rw [h0, h1, h2]
theorem add_noneK (b o : Nat) (n : Nat) : (⟨b, o, none⟩ : Addr).add n = ⟨b, o + n, none⟩ := by unfold Addr.add; split <;> simp_all
set_option maxRecDepth 100000 in
theorem kinds_of {w : World} (h : VarReads Tryd.prog w "scrub/vocabulary.kinds" (.agg (kindT.map fun x => .agg [.slice (x.1.map fun s => .lit (.string s)) [], .lit (.int .i64 x.2.1), .lit (.int .i64 x.2.2)]))) : KindsTab w := by
  obtain ⟨g', t', cs, fuel, p, hg', hty, hvar, hd⟩ := h
  obtain rfl := Option.some.inj ((show Tryd.prog.globalNamed "scrub/vocabulary.kinds" = some 4 by kernel_rfl).symm.trans hg')
  obtain rfl := Option.some.inj ((show (Tryd.prog.globals[4]?).map (·.type) = some 163 by kernel_rfl).symm.trans hty)
  obtain ⟨_, _, _, _, hlen, _⟩ := DataW.trod_array Tryd.underlying163 hd
  have k36 : Tryd.prog.cellsOf 163 = 36 := by kernel_rfl
  have k3 : Tryd.prog.cellsOf 162 = 3 := by kernel_rfl
  have k1 : Tryd.prog.cellsOf 23 = 1 := by kernel_rfl
  have ki : Tryd.prog.cellsOf 3 = 1 := by kernel_rfl
  refine ⟨cs.toList, by rw [← k36]; exact hlen, range_ofK (by kernel_rfl) hvar (fun j v hv => hv), fun k x hx => ?_⟩
  obtain ⟨fuel', d, q, hdi, hel⟩ := array_elem Tryd.underlying163 hd k (by have := (List.getElem?_eq_some_iff.1 hx).1; exact this)
  rw [List.getElem?_map, hx] at hdi
  simp only [Option.map_some, Option.some.injEq] at hdi
  subst hdi
  rw [k3] at hel
  obtain ⟨y0, y1, y2, n, hy, hl3, g0, g1, g2⟩ := trod_struct3 Tryd.underlying162 hel
  simp only [Prod.mk.injEq, DataW.agg.injEq, List.cons.injEq, and_true] at hy
  obtain ⟨⟨hy0, hy1, hy2⟩, _⟩ := hy
  have kc : Tryd.prog.cellsOf 137 = 1 := by kernel_rfl
  have km : Tryd.prog.cellsOf 138 = 1 := by kernel_rfl
  dsimp only at g0 g1 g2
  rw [k1] at g0
  rw [kc] at g1
  rw [km] at g2
  obtain ⟨n1, c1, e1, _⟩ := DataW.trod_int (k := .i64) (by kernel_rfl) g1
  obtain ⟨n2, c2, e2, _⟩ := DataW.trod_int (k := .i64) (by kernel_rfl) g2
  rw [e1] at hy1
  rw [e2] at hy2
  simp only [DataW.lit.injEq, Lit.int.injEq, true_and] at hy1 hy2
  rcases open_strings Tryd.underlying23 Tryd.underlying9 (by kernel_rfl) g0 with ⟨hcs, hx0⟩ | ⟨a, len, cap, ss, hcs, _, hl, hm9, hz, hx0, hcell, _⟩
  · rw [hx0] at hy0
    cases hy0
  · rw [hx0] at hy0
    simp only [DataW.slice.injEq] at hy0
    simp only [if_true] at hz
    refine ⟨.slice (some a) len cap, ?_, some a, cap, ?_, ?_, ?_, fun j s hj => ?_, fun h => by cases h⟩
    · rw [hy1, hy2]
      exact list3 (hl3.trans k3) hcs c1 c2
    all_goals have hxl := congrArg List.length hy0.1
    all_goals have hdl := congrArg List.length hy0.2
    all_goals unfold strs at hxl hdl
    all_goals simp only [List.length_map, List.length_take, List.length_drop, List.length_nil] at hxl hdl
    · rw [hxl]
      congr 1
      omega
    · omega
    · unfold maxLen at hm9
      omega
    · have hjl := (List.getElem?_eq_some_iff.1 hj).1
      have hc0 := hcell 0 (by omega)
      have hc := hcell j (by omega)
      obtain ⟨b, o, sp⟩ := a
      rw [show (⟨b, o, sp⟩ : Addr).add 0 = ⟨b, o, sp⟩ by simp [Addr.add]] at hc0
      obtain rfl := cell_spot hc0
      rw [add_noneK] at hc
      refine ⟨b, o, rfl, ?_⟩
      have he := congrArg (·[j]?) hy0.1
      unfold strs at he
      simp only [List.getElem?_map, hj, Option.map_some, List.getElem?_take_of_lt (show j < len by omega)] at he
      obtain ⟨s0, hs0, he0⟩ := Option.map_eq_some_iff.1 he.symm
      simp only [DataW.lit.injEq, Lit.string.injEq] at he0
      rw [hc, List.getD_eq_getElem?_getD, hs0, ← he0]
      rfl
end Go.Proofs.YtkcgmimldjeaiaaDoor
