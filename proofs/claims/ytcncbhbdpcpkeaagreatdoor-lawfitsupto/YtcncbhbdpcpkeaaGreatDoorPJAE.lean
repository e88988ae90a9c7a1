/-
  Parts of the walk, joined: SlW, Voc.
-/
import Derived.Test.YtcncbhbdpcpkeaaGreatDoorShelf
import Derived.Shelf.Abstract
import Derived.Deep.MidRow
import Derived.Laws.ResultCell
import Derived.Laws.Rows
import Derived.Deep.Cut
import Derived.BigQuiet
import Derived.Test.YtcncbhbdpcpkeaaGreatDoorPJAD
/-
  slices.Index, Contains, IndexFunc, ContainsFunc, of words and of rules: their walks.
-/
namespace Go.Proofs.YtcncbhbdpcpkeaaGreatDoor
open Go.RowKit Go.Lib

/-- where the first entry lies of which p holds; -1: nowhere -/
def idxP {α : Type} (p : α → Bool) : List α → Int
  | [] => -1
  | x :: r => if p x = true then 0 else if idxP p r < 0 then -1 else idxP p r + 1
theorem idxP_cons {α : Type} (p : α → Bool) (x : α) (r : List α) : idxP p (x :: r) = if p x = true then 0 else if idxP p r < 0 then -1 else idxP p r + 1 := rfl
theorem idxP_ge {α : Type} (p : α → Bool) : ∀ l : List α, -1 ≤ idxP p l
  | [] => by unfold idxP; omega
  | x :: r => by have := idxP_ge p r; rw [idxP_cons]; split; omega; split <;> omega
theorem idxP_nonneg {α : Type} (p : α → Bool) : ∀ l : List α, decide (0 ≤ idxP p l) = l.any p
  | [] => rfl
  | x :: r => by
    have ih := idxP_nonneg p r
    rw [List.any_cons, ← ih, idxP_cons]
    cases h : p x with
    | true => simp
    | false =>
      simp only [Bool.false_eq_true, if_false, Bool.false_or]
      split
      · rw [decide_eq_false (by omega), decide_eq_false (by omega)]
      · have := idxP_ge p r
        rw [decide_eq_true (by omega), decide_eq_true (by omega)]
theorem idxP_hit {α : Type} (p : α → Bool) : ∀ (l : List α) (k : Nat) (x : α), l[k]? = some x → p x = true → (∀ (j : Nat) (y : α), j < k → l[j]? = some y → p y = false) → idxP p l = (k : Int)
  | [], k, x, h, _, _ => by simp at h
  | y :: r, 0, x, h, hp, _ => by
    simp only [List.getElem?_cons_zero, Option.some.injEq] at h
    subst h
    rw [idxP_cons, if_pos hp]
    rfl
  | y :: r, k + 1, x, h, hp, ha => by
    rw [List.getElem?_cons_succ] at h
    have ih := idxP_hit p r k x h hp (fun j z hj hz => ha (j + 1) z (by omega) (by rw [List.getElem?_cons_succ]; exact hz))
    have hy := ha 0 y (by omega) rfl
    rw [idxP_cons, hy, ih]
    simp only [Bool.false_eq_true, if_false]
    rw [if_neg (by omega)]
    omega
theorem idxP_miss {α : Type} (p : α → Bool) : ∀ l : List α, (∀ (j : Nat) (y : α), l[j]? = some y → p y = false) → idxP p l = -1
  | [], _ => rfl
  | y :: r, ha => by
    have ih := idxP_miss p r (fun j z hz => ha (j + 1) z (by rw [List.getElem?_cons_succ]; exact hz))
    have hy := ha 0 y rfl
    rw [idxP_cons, hy, ih]
    simp
theorem ret_intS {a b : Int} (h : a = b) : Ending.returned (.int .i64 a) = .returned (.int .i64 b) := by rw [h]

set_option maxHeartbeats 1000000 in
theorem slIndex_any (v : Value) (ss : List (List UInt8)) (x : ByteArray) (w : World) (h : Words w v ss) :
    Calls Tryz.prog 214 #[v, .string x] w fun e w' => e = .returned (.int .i64 (idxP (fun s => s == x.toList) ss)) ∧ w' = w := by
  obtain ⟨p, c, rfl, hc, hm, hcell, _⟩ := h
  obtain ⟨R, hR⟩ : ∃ R, idxP (fun s => s == x.toList) ss = R := ⟨_, rfl⟩
  have HR := hid (fun (_ : True) => hR)
  have H := hid hcell
  rw [hR]
  have hml : ss.length ≤ 9223372036854775807 := by omega
  clear hcell hR
  go_enter Tryz.func214, Tryz.ntmps214
  go_wp2
  go_loopw [5, 8] (fun _ iv wr => ∃ k : Nat, iv = .int .i64 k ∧ k ≤ ss.length ∧ wr = w ∧ Hid (∀ j y, j < k → ss[j]? = some y → (y == x.toList) = false)) (fun _ iv _ => ss.length - (RowKit.intOf iv).toNat)
  case atStart => exact ⟨0, rfl, Nat.zero_le _, rfl, hid (fun j y h => absurd h (Nat.not_lt_zero _))⟩
  case round =>
    obtain ⟨k, rfl, hk, rfl, HK⟩ := hrel
    by_cases hkl : k < ss.length
    · obtain ⟨s, hs⟩ : ∃ s, ss[k]? = some s := ⟨_, List.getElem?_eq_getElem hkl⟩
      obtain ⟨b, o, rfl, hc1⟩ := H.out k s hs
      have hbt := bs_toList s
      have HS := hid hs
      obtain ⟨S, hS⟩ : ∃ S, bs s = S := ⟨_, rfl⟩
      rw [hS] at hbt hc1
      cases q : (s == x.toList)
      · have q2 : (x.toList == S.toList) = false := by rw [hbt]; rw [← q, Bool.eq_iff_iff, beq_iff_eq, beq_iff_eq]; exact eq_comm
        have HQ := hid (fun (_ : True) => q)
        clear hs hbt q H HR
        go_wp2
        go_roundw
        case rel =>
          refine ⟨k + 1, by first | rfl | omega, by omega, by first | rfl | trivial, hid (fun j y hj hy => ?_)⟩
          by_cases e : j = k
          · subst e
            obtain rfl := Option.some.inj (HS.out.symm.trans hy)
            exact HQ.out trivial
          · exact HK.out j y (by omega) hy
        case measure => simp [RowKit.intOf]; omega
      · have q2 : (x.toList == S.toList) = true := by rw [hbt]; rw [beq_iff_eq] at q ⊢; exact q.symm
        have hr := idxP_hit (fun s => s == x.toList) ss k s hs q (fun j y hj hy => HK.out j y hj hy)
        rw [HR.out trivial] at hr
        clear hs hbt q H HR HK
        go_wp2
        go_ret
        exact ⟨ret_intS hr.symm, rfl⟩
    · have hr := idxP_miss (fun s => s == x.toList) ss (fun j y hy => HK.out j y (by have := (List.getElem?_eq_some_iff.1 hy).1; omega) hy)
      rw [HR.out trivial] at hr
      clear HR HK
      go_wp2
      go_ret
      exact ⟨ret_intS hr.symm, rfl⟩
theorem contains_any (ss : List (List UInt8)) (x : List UInt8) : ss.any (fun s => s == x) = ss.contains x := by
  rw [Bool.eq_iff_iff, List.any_eq_true, List.contains_iff_mem]
  constructor
  · rintro ⟨s, h1, h2⟩; rw [beq_iff_eq] at h2; rw [← h2]; exact h1
  · intro h; exact ⟨x, h, by simp⟩
theorem slContains_any (v : Value) (ss : List (List UInt8)) (x : ByteArray) (w : World) (h : Words w v ss) :
    Calls Tryz.prog 162 #[v, .string x] w fun e w' => e = .returned (.bool (ss.contains x.toList)) ∧ w' = w := by
  have hi := fun W (hW : Words W v ss) => slIndex_any v ss x W hW
  have hr := idxP_nonneg (fun s => s == x.toList) ss
  rw [contains_any] at hr
  generalize idxP (fun s => s == x.toList) ss = z at hi hr
  rw [← hr]
  obtain ⟨p, c, rfl, _⟩ := h.len
  have HI := hid (hi w h)
  clear hi hr h
  go_enter Tryz.func162, Tryz.ntmps162
  go_wp2_with (go_at_call 214; refine HI.out.mono ?_; rintro e w' ⟨rfl, rfl⟩)
  go_ret
  exact ⟨rfl, rfl⟩

/-- what is asked of a predicate on words -/
def PredW (w : World) (g : Nat) (lb : Array Value) (ss : List (List UInt8)) (p : List UInt8 → Bool) : Prop :=
  ∀ (W : World) (s : List UInt8), s ∈ ss → Below w.heap.size w W → Calls Tryz.prog g (#[.string (bs s)] ++ lb) W fun e w' => e = .returned (.bool (p s)) ∧ Below w.heap.size w w'

set_option maxHeartbeats 2000000 in
theorem slIndexFunc_any (g : Nat) (lb : Array Value) (eg : ∀ args w, (callFunc g args).run Tryz.prog w = .ok (.enter g args) w) (p : List UInt8 → Bool) (v : Value) (ss : List (List UInt8)) (w : World) (h : Words w v ss) (hp : PredW w g lb ss p) :
    Calls Tryz.prog 161 #[v, .func (.func g) #[] lb] w fun e w' => e = .returned (.int .i64 (idxP p ss)) ∧ Below w.heap.size w w' := by
  obtain ⟨pt, c, rfl, hc, hm, hcell, _⟩ := h
  obtain ⟨R, hR⟩ : ∃ R, idxP p ss = R := ⟨_, rfl⟩
  have HR := hid (fun (_ : True) => hR)
  have H := hid hcell
  have HP := hid hp
  rw [hR]
  have hml : ss.length ≤ 9223372036854775807 := by omega
  clear hcell hR hp
  go_enter Tryz.func161, Tryz.ntmps161
  go_wp2
  go_loopw [5, 8] (fun _ iv wr => ∃ k : Nat, iv = .int .i64 k ∧ k ≤ ss.length ∧ Hid (Below w.heap.size w wr) ∧ Hid (∀ j y, j < k → ss[j]? = some y → p y = false)) (fun _ iv _ => ss.length - (RowKit.intOf iv).toNat)
  case atStart => exact ⟨0, rfl, Nat.zero_le _, Below.refl _ _, hid (fun j y h => absurd h (Nat.not_lt_zero _))⟩
  case round =>
    obtain ⟨k, rfl, hk, HB, HK⟩ := hrel
    by_cases hkl : k < ss.length
    · obtain ⟨s, hs⟩ : ∃ s, ss[k]? = some s := ⟨_, List.getElem?_eq_getElem hkl⟩
      obtain ⟨b, o, rfl, hc1⟩ := H.out k s hs
      replace hc1 := cell_low hc1 HB.out (cell_block hc1)
      have hcall := HP.out wr s (List.mem_of_getElem? hs) HB.out
      have HS := hid hs
      obtain ⟨S, hS⟩ : ∃ S, bs s = S := ⟨_, rfl⟩
      rw [hS] at hc1 hcall
      cases q : p s
      · rw [q] at hcall
        have HQ := hid (fun (_ : True) => q)
        have HC := hid hcall
        clear hs q H HR hcall hS
        go_wp2_with (go_at_fn g; refine HC.out.mono ?_; rintro e w' ⟨rfl, hb'⟩)
        have HB2 := hid hb'
        clear hb' hc1 HC
        go_roundw
        case rel =>
          refine ⟨k + 1, by first | rfl | omega, by omega, HB2, hid (fun j y hj hy => ?_)⟩
          by_cases e : j = k
          · subst e
            obtain rfl := Option.some.inj (HS.out.symm.trans hy)
            exact HQ.out trivial
          · exact HK.out j y (by omega) hy
        case measure => simp [RowKit.intOf]; omega
      · rw [q] at hcall
        have hr := idxP_hit p ss k s hs q (fun j y hj hy => HK.out j y hj hy)
        rw [HR.out trivial] at hr
        have HC := hid hcall
        clear hs q H HR HK hcall hS
        go_wp2_with (go_at_fn g; refine HC.out.mono ?_; rintro e w' ⟨rfl, hb'⟩)
        go_ret
        exact ⟨ret_intS hr.symm, hb'⟩
    · have hr := idxP_miss p ss (fun j y hy => HK.out j y (by have := (List.getElem?_eq_some_iff.1 hy).1; omega) hy)
      rw [HR.out trivial] at hr
      clear HR HK
      go_wp2
      go_ret
      exact ⟨ret_intS hr.symm, HB.out⟩
theorem slContainsFunc_any (g : Nat) (lb : Array Value) (eg : ∀ args w, (callFunc g args).run Tryz.prog w = .ok (.enter g args) w) (p : List UInt8 → Bool) (v : Value) (ss : List (List UInt8)) (w : World) (h : Words w v ss) (hp : PredW w g lb ss p) :
    Calls Tryz.prog 98 #[v, .func (.func g) #[] lb] w fun e w' => e = .returned (.bool (ss.any p)) ∧ Below w.heap.size w w' := by
  have hi := slIndexFunc_any g lb eg p v ss w h hp
  have hr := idxP_nonneg p ss
  generalize idxP p ss = z at hi hr
  rw [← hr]
  obtain ⟨pt, c, rfl, _⟩ := h.len
  have HI := hid hi
  clear hi hr h hp
  go_enter Tryz.func98, Tryz.ntmps98
  go_wp2_with (go_at_call 161; refine HI.out.mono ?_; rintro e w' ⟨rfl, hb⟩)
  go_ret
  exact ⟨rfl, hb⟩

/-! ## of rules -/

def PredR (w : World) (g : Nat) (lb : Array Value) (rs : List RuleP) (p : RuleP → Bool) : Prop :=
  ∀ (W : World) (r : RuleP) (u : Value), r ∈ rs → Words w u r.2 → Below w.heap.size w W → Calls Tryz.prog g (#[.agg #[.string (bs r.1), u]] ++ lb) W fun e w' => e = .returned (.bool (p r)) ∧ Below w.heap.size w w'

set_option maxHeartbeats 2000000 in
theorem ruIndexFunc_any (g : Nat) (lb : Array Value) (eg : ∀ args w, (callFunc g args).run Tryz.prog w = .ok (.enter g args) w) (p : RuleP → Bool) (v : Value) (rs : List RuleP) (w : World) (h : RulesR w v rs) (hp : PredR w g lb rs p) :
    Calls Tryz.prog 163 #[v, .func (.func g) #[] lb] w fun e w' => e = .returned (.int .i64 (idxP p rs)) ∧ Below w.heap.size w w' := by
  obtain ⟨pt, c, rfl, hc, hm, hcell⟩ := h
  obtain ⟨R, hR⟩ : ∃ R, idxP p rs = R := ⟨_, rfl⟩
  have HR := hid (fun (_ : True) => hR)
  have H := hid hcell
  have HP := hid hp
  rw [hR]
  have hml : rs.length ≤ 9223372036854775807 := by omega
  clear hcell hR hp
  go_enter Tryz.func163, Tryz.ntmps163
  go_wp2
  go_loopw [5, 8] (fun _ iv wr => ∃ k : Nat, iv = .int .i64 k ∧ k ≤ rs.length ∧ Hid (Below w.heap.size w wr) ∧ Hid (∀ j y, j < k → rs[j]? = some y → p y = false)) (fun _ iv _ => rs.length - (RowKit.intOf iv).toNat)
  case atStart => exact ⟨0, rfl, Nat.zero_le _, Below.refl _ _, hid (fun j y h => absurd h (Nat.not_lt_zero _))⟩
  case round =>
    obtain ⟨k, rfl, hk, HB, HK⟩ := hrel
    by_cases hkl : k < rs.length
    · obtain ⟨s, hs⟩ : ∃ s, rs[k]? = some s := ⟨_, List.getElem?_eq_getElem hkl⟩
      obtain ⟨b, o, u, rfl, hc1, hc2, hwu⟩ := H.out k s hs
      replace hc1 := cell_low hc1 HB.out (cell_block hc1)
      replace hc2 := cell_low hc2 HB.out (cell_block hc2)
      have hcall := HP.out wr s u (List.mem_of_getElem? hs) hwu HB.out
      have HS := hid hs
      obtain ⟨up, uc, hu, _⟩ := hwu.len
      subst hu
      obtain ⟨S, hS⟩ : ∃ S, bs s.1 = S := ⟨_, rfl⟩
      rw [hS] at hc1 hcall
      cases q : p s
      · rw [q] at hcall
        have HQ := hid (fun (_ : True) => q)
        have HC := hid hcall
        clear hs q H HR hcall hS hwu
        go_wp2_with (go_at_fn g; refine HC.out.mono ?_; rintro e w' ⟨rfl, hb'⟩)
        have HB2 := hid hb'
        clear hb' hc1 hc2 HC
        go_roundw
        case rel =>
          refine ⟨k + 1, by first | rfl | omega, by omega, HB2, hid (fun j y hj hy => ?_)⟩
          by_cases e : j = k
          · subst e
            obtain rfl := Option.some.inj (HS.out.symm.trans hy)
            exact HQ.out trivial
          · exact HK.out j y (by omega) hy
        case measure => simp [RowKit.intOf]; omega
      · rw [q] at hcall
        have hr := idxP_hit p rs k s hs q (fun j y hj hy => HK.out j y hj hy)
        rw [HR.out trivial] at hr
        have HC := hid hcall
        clear hs q H HR HK hcall hS hwu
        go_wp2_with (go_at_fn g; refine HC.out.mono ?_; rintro e w' ⟨rfl, hb'⟩)
        go_ret
        exact ⟨ret_intS hr.symm, hb'⟩
    · have hr := idxP_miss p rs (fun j y hy => HK.out j y (by have := (List.getElem?_eq_some_iff.1 hy).1; omega) hy)
      rw [HR.out trivial] at hr
      clear HR HK
      go_wp2
      go_ret
      exact ⟨ret_intS hr.symm, HB.out⟩
theorem ruContainsFunc_any (g : Nat) (lb : Array Value) (eg : ∀ args w, (callFunc g args).run Tryz.prog w = .ok (.enter g args) w) (p : RuleP → Bool) (v : Value) (rs : List RuleP) (w : World) (h : RulesR w v rs) (hp : PredR w g lb rs p) :
    Calls Tryz.prog 101 #[v, .func (.func g) #[] lb] w fun e w' => e = .returned (.bool (rs.any p)) ∧ Below w.heap.size w w' := by
  have hi := ruIndexFunc_any g lb eg p v rs w h hp
  have hr := idxP_nonneg p rs
  generalize idxP p rs = z at hi hr
  rw [← hr]
  obtain ⟨pt, c, rfl, _⟩ := h
  have HI := hid hi
  clear hi hr hp
  go_enter Tryz.func101, Tryz.ntmps101
  go_wp2_with (go_at_call 163; refine HI.out.mono ?_; rintro e w' ⟨rfl, hb⟩)
  go_ret
  exact ⟨rfl, hb⟩
end Go.Proofs.YtcncbhbdpcpkeaaGreatDoor

/-
  Package vocabulary: its two tables, Find, IsVoid, IsAttribute, IsLink: their walks.
-/
namespace Go.Proofs.YtcncbhbdpcpkeaaGreatDoor
open Go.RowKit Go.Lib

/-- the elements by kinds: names, class, model -/
def kindT : List (List (List UInt8) × Nat × Nat) := [([[97], [98], [99, 111, 100, 101], [101, 109], [105], [113], [115], [115, 109, 97, 108, 108], [115, 112, 97, 110], [115, 116, 114, 111, 110, 103], [115, 117, 98], [115, 117, 112], [117]], 2, 2), ([[98, 114], [105, 109, 103]], 2, 9), ([[116, 101, 120, 116, 97, 114, 101, 97]], 2, 3), ([[104, 49], [104, 50], [104, 51], [104, 52], [104, 53], [104, 54], [112], [112, 114, 101]], 1, 2), ([[98, 108, 111, 99, 107, 113, 117, 111, 116, 101], [100, 105, 118]], 1, 1), ([[104, 114]], 1, 9), ([[111, 108], [117, 108]], 1, 4), ([[116, 97, 98, 108, 101]], 1, 5), ([[108, 105]], 4, 1), ([[116, 98, 111, 100, 121], [116, 102, 111, 111, 116], [116, 104, 101, 97, 100]], 5, 6), ([[116, 114]], 6, 7), ([[116, 100], [116, 104]], 7, 8)]
def elemF : List (List (List UInt8) × Nat × Nat) → List UInt8 → Option (Nat × Nat)
  | [], _ => none
  | k :: r, x => if k.1.contains x = true then some k.2 else elemF r x
/-- class and model of a known element -/
def elemL (x : List UInt8) : Option (Nat × Nat) := elemF kindT x
/-- an Element: name, class, model -/
def elemC (x : List UInt8) (c m : Nat) : Array Value := #[.string (bs x), .int .i64 c, .int .i64 m]
def zeroE : Array Value := #[.string ⟨#[]⟩, .int .i64 0, .int .i64 0]
def foundV (x : List UInt8) : Option (Nat × Nat) → Value
  | some (c, m) => .tuple #[.agg (elemC x c m), .bool true]
  | none => .tuple #[.agg zeroE, .bool false]
structure KindsAt (W : World) (L : List Value) : Prop where
  len : L.length = 36
  at_ : W.rangeAt 0 0 L
  it : ∀ (k : Nat) (x : List (List UInt8) × Nat × Nat), kindT[k]? = some x → ∃ v, (L.drop (k * 3)).take 3 = [v, .int .i64 x.2.1, .int .i64 x.2.2] ∧ Words W v x.1
def KindsTab (W : World) : Prop := ∃ L, KindsAt W L
theorem KindsAt.below {W W' : World} {L : List Value} (h : KindsAt W L) (hb : Below W.heap.size W W') : KindsAt W' L :=
  ⟨h.len, rangeAt_below h.at_ hb, fun k x hk => by obtain ⟨v, h1, h2⟩ := h.it k x hk; exact ⟨v, h1, h2.below hb⟩⟩
theorem KindsTab.below {W W' : World} (h : KindsTab W) (hb : Below W.heap.size W W') : KindsTab W' := by obtain ⟨L, h⟩ := h; exact ⟨L, h.below hb⟩
theorem index_kinds (L : List Value) (_hL : L.length = 36) (k : Nat) (hk : k < 12) (v : Value) (c m : Nat) (h : (L.drop (k * 3)).take 3 = [v, .int .i64 c, .int .i64 m]) (W : World) :
    (Instr.index 214 (.agg L.toArray) (.int .i64 (k : Int))).run Tryz.prog W = .ok (.agg #[v, .int .i64 c, .int .i64 m]) W := by
  have hn : (0 ≤ (k : Int) ∧ (k : Int) < 12) := by omega
  simp [Instr.index, run_underlying Tryz.underlying214, asIntOf, hk, go_sem, h]
theorem elem_set {W : World} {b : Nat} {a0 a1 a2 v0 v1 v2 : Value} (h : W.heap[b]? = some (.cells #[a0, a1, a2] 172 (0, 0))) :
    (((W.setCell ⟨b, 0, none⟩ v0).setCell ⟨b, 1, none⟩ v1).setCell ⟨b, 2, none⟩ v2).heap[b]? = some (.cells #[v0, v1, v2] 172 (0, 0)) := by
  simp [World.setCell, Array.getElem?_modify, h]
theorem elem_load {W : World} {b : Nat} {v0 v1 v2 : Value} (h : W.heap[b]? = some (.cells #[v0, v1, v2] 172 (0, 0))) :
    (loadVar 172 ⟨b, 0, none⟩).run Tryz.prog W = .ok (.agg #[v0, v1, v2]) W :=
  run_loadVar_row W b _ _ _ _ _ h Tryz.underlying172 rfl (by kernel_rfl)
theorem words_small : ∀ x ∈ kindT, x.1.length ≤ 13 := by decide +kernel

set_option maxHeartbeats 2000000 in
set_option maxRecDepth 100000 in
theorem find_any (x : ByteArray) (w : World) (hT : KindsTab w) :
    Calls Tryz.prog 121 #[.string x] w fun e w' => e = .returned (foundV x.toList (elemL x.toList)) ∧ Below w.heap.size w w' := by
  obtain ⟨L, hL⟩ := hT
  obtain ⟨R, hR⟩ : ∃ R, elemL x.toList = R := ⟨_, rfl⟩
  have HR : Hid (True → elemF (kindT.drop 0) x.toList = R) := fun _ => hR
  rw [hR]
  have hbs2 := bs_of x
  rw [← Lib.toList_data] at hbs2
  have HBS := hid hbs2
  have HL := hid hL
  have hlen := hL.len
  have hB1 := (Below.refl w.heap.size w).alloc (Nat.le_refl _) (.cells zeroE 172)
  have H0 : Hid (Below w.heap.size w (w.alloc (.cells zeroE 172)) ∧ (w.alloc (.cells zeroE 172)).heap[w.heap.size]? = some (.cells zeroE 172 (0, 0))) := ⟨hB1, heap_alloc_new w _⟩
  have hat := rangeAt_below hL.at_ hB1
  have HAT := hid hat
  clear hR hL hB1 hat hbs2
  unfold zeroE at H0 HAT
  go_enter Tryz.func121, Tryz.ntmps121
  go_upto_region 1 with fail
  apply wp_region_lit
  refine wpList_load_mid rfl 214 _ rfl 0 0 rfl L (.array 12 213) HAT.out Tryz.underlying214 rfl (by rw [hlen]; kernel_rfl) ?_
  go_wp2_with fail
  go_loopw [5, 7, 9] (fun _ _ iv wr => ∃ k : Nat, iv = .int .i64 k ∧ k ≤ 12 ∧ Hid (Below w.heap.size w wr ∧ wr.heap[w.heap.size]? = some (.cells #[.string ⟨#[]⟩, .int .i64 0, .int .i64 0] 172 (0, 0))) ∧ Hid (True → elemF (kindT.drop k) x.toList = R)) (fun _ _ iv _ => 12 - (RowKit.intOf iv).toNat)
  case atStart => exact ⟨0, rfl, Nat.zero_le _, H0, HR⟩
  case round =>
    obtain ⟨k, rfl, hk, HX, HK⟩ := hrel
    by_cases hkl : k < 12
    · obtain ⟨q, hq⟩ : ∃ q, kindT[k]? = some q := ⟨_, List.getElem?_eq_getElem (show k < kindT.length from hkl)⟩
      obtain ⟨v, hv1, hv2⟩ := HL.out.it k q hq
      have hsm := words_small q (List.mem_of_getElem? hq)
      have hix := fun W => index_kinds L hlen k hkl v q.2.1 q.2.2 hv1 W
      have hd := HK.out trivial
      rw [drop_at hq] at hd
      obtain ⟨names, c, m⟩ := q
      simp only [elemF] at hd
      obtain ⟨vp, vc, rfl, hv3, hv4, hv5, hv6⟩ := hv2
      have HV := hid hv5
      have HI := hid hix
      have HD := hid (fun (_ : True) => hd)
      simp only at hsm
      have hxl : names.length ≤ 9223372036854775807 := by omega
      clear hq hv1 hix hd hv5 hv6 HK H0 HR HAT
      go_wp2_with fail
      rw [HI.out]
      simp only [Result.andThen]
      rw [Oper.upon_value]
      go_wp2_with fail
      have hbA := (Below.refl wr.heap.size wr).alloc (Nat.le_refl _) (.cells #[.slice vp names.length vc, .int .i64 c, .int .i64 m] 213)
      have hnA := heap_alloc_new wr (.cells #[.slice vp names.length vc, .int .i64 c, .int .i64 m] 213)
      obtain ⟨W1, hW1⟩ : ∃ W1, wr.alloc (.cells #[.slice vp names.length vc, .int .i64 c, .int .i64 m] 213) = W1 := ⟨_, rfl⟩
      rw [hW1] at hbA hnA
      simp only [hW1]
      have hbW := HX.out.1.trans (hbA.mono HX.out.1.size)
      have hz0 := (hbA.block _ (block_lt HX.out.2)).trans HX.out.2
      have HY := hid (And.intro hbW (And.intro hz0 hnA))
      have a1 := cell_at hnA (j := 1) rfl
      have a2 := cell_at hnA (j := 2) rfl
      have e0 := cell_at hz0 (j := 0) rfl
      have e1 := cell_at hz0 (j := 1) rfl
      have e2 := cell_at hz0 (j := 2) rfl
      have f0 := free_at hz0 0
      have f1 := free_at hz0 1
      have f2 := free_at hz0 2
      clear hbA hnA hbW hz0 HX HI
      obtain ⟨Q, hQ⟩ : ∃ Q, names.contains x.toList = Q := ⟨_, rfl⟩
      have HQ : Hid (True → (names.drop 0).contains x.toList = Q) := fun _ => hQ
      have HDQ := hid (fun (_ : True) => (by rw [← hQ]; exact HD.out trivial : (if Q = true then some (c, m) else elemF (kindT.drop (k + 1)) x.toList) = R))
      clear hQ HD
      go_loopw [7, 15] (fun _ iv wr2 => ∃ i : Nat, iv = .int .i64 i ∧ i ≤ names.length ∧ wr2 = W1 ∧ Hid (True → (names.drop i).contains x.toList = Q)) (fun _ iv _ => names.length - (RowKit.intOf iv).toNat)
      case atStart => exact ⟨0, rfl, Nat.zero_le _, rfl, HQ⟩
      case round =>
        obtain ⟨i, rfl, hi, rfl, HK⟩ := hrel
        by_cases hil : i < names.length
        · obtain ⟨s, hs⟩ : ∃ s, names[i]? = some s := ⟨_, List.getElem?_eq_getElem hil⟩
          obtain ⟨b, o, rfl, hc1⟩ := HV.out i s hs
          replace hc1 := cell_low hc1 HY.out.1 (cell_block hc1)
          have hd := HK.out trivial
          rw [drop_at hs, List.contains_cons] at hd
          have hbt := bs_toList s
          have HS := hid (fun (_ : True) => hbt)
          obtain ⟨S, hS⟩ : ∃ S, bs s = S := ⟨_, rfl⟩
          rw [hS] at hbt hc1
          cases q : (x.toList == s)
          · have q2 : (S.toList == x.toList) = false := by rw [hbt, ← q, Bool.eq_iff_iff, beq_iff_eq, beq_iff_eq]; exact eq_comm
            rw [q, Bool.false_or] at hd
            have HD2 := hid (fun (_ : True) => hd)
            clear hs hbt q hd HK hS HV
            go_wp2_with fail
            go_roundw
            case rel => first | exact ⟨i + 1, rfl, by omega, by first | rfl | trivial, HD2⟩ | ((repeat apply Exists.intro); exact ⟨⟨i + 1, rfl, by omega, by first | rfl | trivial, HD2⟩, rfl⟩)
            case measure => simp [RowKit.intOf]; omega
          · have q2 : (S.toList == x.toList) = true := by rw [hbt]; rw [beq_iff_eq] at q ⊢; exact q.symm
            rw [q, Bool.true_or] at hd
            subst hd
            have hR := HDQ.out trivial
            rw [if_pos rfl] at hR
            subst hR
            have hsx : S = x := by
              rw [beq_iff_eq] at q
              rw [← hS, ← q]
              exact HBS.out
            subst hsx
            clear hs hbt q HK hS HV HDQ HQ
            go_wp2_with fail
            have hfin := elem_set (v0 := .string S) (v1 := .int .i64 c) (v2 := .int .i64 m) HY.out.2.1
            have hld := elem_load hfin
            have hbf := ((HY.out.1.setCell (p := ⟨w.heap.size, 0, none⟩) (Nat.le_refl _) (.string S)).setCell (p := ⟨w.heap.size, 1, none⟩) (Nat.le_refl _) (.int .i64 c)).setCell (p := ⟨w.heap.size, 2, none⟩) (Nat.le_refl _) (.int .i64 m)
            have hbs3 := HBS.out
            refine bodyPost_ret (v := foundV S.toList (some (c, m))) ?_ rfl ⟨rfl, hbf⟩
            unfold foundV elemC
            rw [hbs3, results_cell_tmp rfl]
            simp [asAddr, Result.andThen, hld]
        · obtain rfl : Q = false := by
            have := HK.out trivial
            rw [List.drop_of_length_le (by omega)] at this
            exact this.symm
          have HD2 := hid (fun (_ : True) => (by have := HDQ.out trivial; rwa [if_neg (by simp)] at this : elemF (kindT.drop (k + 1)) x.toList = R))
          have HZ := hid (And.intro HY.out.1 HY.out.2.1)
          clear HK HQ HDQ HV HY
          go_wp2_with fail
          go_roundw
          case rel => first | exact ⟨k + 1, rfl, by omega, HZ, HD2⟩ | ((repeat apply Exists.intro); exact ⟨⟨k + 1, rfl, by omega, HZ, HD2⟩, rfl⟩)
          case measure => simp [RowKit.intOf]; omega
    · obtain rfl : R = none := by
        have := HK.out trivial
        rw [List.drop_of_length_le (show kindT.length ≤ k by have : kindT.length = 12 := rfl; omega)] at this
        exact this.symm
      have e0 := cell_at HX.out.2 (j := 0) rfl
      have e1 := cell_at HX.out.2 (j := 1) rfl
      have e2 := cell_at HX.out.2 (j := 2) rfl
      have f0 := free_at HX.out.2 0
      have f1 := free_at HX.out.2 1
      have f2 := free_at HX.out.2 2
      clear HK HR H0 HAT
      go_wp2_with fail
      have hfin := elem_set (v0 := .string ⟨#[]⟩) (v1 := .int .i64 0) (v2 := .int .i64 0) HX.out.2
      have hld := elem_load hfin
      have hbf := ((HX.out.1.setCell (p := ⟨w.heap.size, 0, none⟩) (Nat.le_refl _) (.string ⟨#[]⟩)).setCell (p := ⟨w.heap.size, 1, none⟩) (Nat.le_refl _) (.int .i64 0)).setCell (p := ⟨w.heap.size, 2, none⟩) (Nat.le_refl _) (.int .i64 0)
      refine bodyPost_ret (v := foundV x.toList none) ?_ rfl ⟨rfl, hbf⟩
      unfold foundV zeroE
      rw [results_cell_tmp rfl]
      simp [asAddr, Result.andThen, hld]
def vattrT : List (List UInt8) := [[97, 108, 116], [99, 105, 116, 101], [99, 108, 97, 115, 115], [99, 111, 108, 115, 112, 97, 110], [100, 105, 114], [104, 101, 105, 103, 104, 116], [104, 114, 101, 102], [105, 100], [108, 97, 110, 103], [114, 101, 108], [114, 111, 119, 115, 112, 97, 110], [115, 114, 99], [115, 116, 97, 114, 116], [116, 105, 116, 108, 101], [119, 105, 100, 116, 104]]
def VAttrTab (w : World) : Prop := w.rangeAt 3 0 (vattrT.map fun s => .string (bs s))
theorem VAttrTab.below {w w' : World} (h : VAttrTab w) (hb : Below w.heap.size w w') : VAttrTab w' := rangeAt_below h hb
theorem index_vattr (k : Nat) (s : List UInt8) (h : vattrT[k]? = some s) (W : World) :
    (Instr.index 265 (.agg (vattrT.map fun s => Value.string (bs s)).toArray) (.int .i64 (k : Int))).run Tryz.prog W = .ok (.string (bs s)) W := by
  have h15 : k < 15 := (List.getElem?_eq_some_iff.1 h).1
  have hn : (0 ≤ (k : Int) ∧ (k : Int) < 15) := by omega
  simp [Instr.index, run_underlying Tryz.underlying265, asIntOf, h15, go_sem, h]

set_option maxHeartbeats 1000000 in
set_option maxRecDepth 100000 in
theorem isAttr_any (x : ByteArray) (w : World) (hT : VAttrTab w) :
    Calls Tryz.prog 215 #[.string x] w fun e w' => e = .returned (.bool (vattrT.contains x.toList)) ∧ w' = w := by
  obtain ⟨R, hR⟩ : ∃ R, vattrT.contains x.toList = R := ⟨_, rfl⟩
  have HR : Hid (True → (vattrT.drop 0).contains x.toList = R) := fun _ => hR
  rw [hR]
  have HT := hid hT
  obtain ⟨L, hLt⟩ : ∃ L, (vattrT.map fun s => Value.string (bs s)) = L := ⟨_, rfl⟩
  have hlen : L.length = 15 := by rw [← hLt]; rfl
  have hat : w.rangeAt 3 0 L := by rw [← hLt]; exact hT
  have hix := fun k s h W => index_vattr k s h W
  rw [hLt] at hix
  have HIX := hid hix
  clear hR hT hix hLt
  go_enter Tryz.func215, Tryz.ntmps215
  go_upto_region 1 with fail
  apply wp_region_lit
  refine wpList_load_mid rfl 265 _ rfl 3 0 rfl L (.array 15 9) hat Tryz.underlying265 rfl (by rw [hlen]; kernel_rfl) ?_
  clear hat
  go_wp2_with fail
  go_loopw [4, 6] (fun _ iv wr => ∃ k : Nat, iv = .int .i64 k ∧ k ≤ 15 ∧ wr = w ∧ Hid (True → (vattrT.drop k).contains x.toList = R)) (fun _ iv _ => 15 - (RowKit.intOf iv).toNat)
  case atStart => exact ⟨0, rfl, Nat.zero_le _, rfl, HR⟩
  case round =>
    obtain ⟨k, rfl, hk, rfl, HK⟩ := hrel
    by_cases hkl : k < 15
    · obtain ⟨s, hs⟩ : ∃ s, vattrT[k]? = some s := ⟨_, List.getElem?_eq_getElem (show k < vattrT.length from hkl)⟩
      have hix := fun W => HIX.out k s hs W
      have hd := HK.out trivial
      rw [drop_at hs, List.contains_cons] at hd
      have hbt := bs_toList s
      obtain ⟨S, hS⟩ : ∃ S, bs s = S := ⟨_, rfl⟩
      rw [hS] at hbt hix
      have HI := hid hix
      clear hix
      cases q : (x.toList == s)
      · have q2 : (S.toList == x.toList) = false := by rw [hbt, ← q, Bool.eq_iff_iff, beq_iff_eq, beq_iff_eq]; exact eq_comm
        rw [q, Bool.false_or] at hd
        have HD := hid (fun (_ : True) => hd)
        clear hs hbt q hd HK hS HR
        go_wp2_with fail
        rw [HI.out]
        simp only [Result.andThen]
        rw [Oper.upon_value]
        go_wp2_with fail
        go_roundw
        case rel => exact ⟨k + 1, rfl, by omega, by first | rfl | trivial, HD⟩
        case measure => simp [RowKit.intOf]; omega
      · have q2 : (S.toList == x.toList) = true := by rw [hbt]; rw [beq_iff_eq] at q ⊢; exact q.symm
        rw [q, Bool.true_or] at hd
        subst hd
        clear hs hbt q HK hS HR
        go_wp2_with fail
        rw [HI.out]
        simp only [Result.andThen]
        rw [Oper.upon_value]
        go_wp2_with fail
        go_ret
        exact ⟨rfl, rfl⟩
    · obtain rfl : R = false := by
        have := HK.out trivial
        rw [List.drop_of_length_le (show vattrT.length ≤ k by have : vattrT.length = 15 := rfl; omega)] at this
        exact this.symm
      clear HK HR
      go_wp2_with fail
      go_ret
      exact ⟨rfl, rfl⟩
end Go.Proofs.YtcncbhbdpcpkeaaGreatDoor
