/-
  The lexer's single bytes and the states of a tag: their walks.
-/
import Derived.Test.YtndglhflbenloaaGreatDoorLexEv
import Derived.Test.YtndglhflbenloaaGreatDoorNumAny
import Derived.BigQuiet
namespace Go.Proofs.YtndglhflbenloaaGreatDoor
open Go.RowKit Go.Lib

def spaceZ (z : Int) : Bool := decide (z = 9 ∨ z = 10 ∨ z = 12 ∨ z = 13 ∨ z = 32)
def colZ (z : Int) : Int := if z = 47 then 1 else if z = 62 then 2 else if z = 61 then 3 else if z = 34 then 4 else if z = 39 then 5 else if spaceZ z then 0 else 6
theorem u8_int (c k : UInt8) : ((c.toNat : Int) = (k.toNat : Int)) ↔ c = k := by
  constructor
  · intro h; exact UInt8.toNat_inj.1 (by omega)
  · rintro rfl; rfl
theorem spaceZ_C (c : UInt8) : spaceZ (c.toNat : Int) = spaceC c := by
  have := u8_all (p := fun c => spaceZ (c.toNat : Int) == spaceC c) (by decide +kernel) c
  exact beq_iff_eq.1 this
theorem colZ_C (c : UInt8) : colZ (c.toNat : Int) = (colC c : Int) := by
  have := u8_all (p := fun c => decide (colZ (c.toNat : Int) = (colC c : Int))) (by decide +kernel) c
  exact of_decide_eq_true this
theorem colC_lt (c : UInt8) : colC c < 7 := by unfold colC; (repeat' split) <;> omega

theorem space_any (z : Int) (_h0 : 0 ≤ z) (_h1 : z ≤ 255) (w : World) :
    Calls Tryz.prog 93 #[.int .u8 z] w fun e w' => e = .returned (.bool (spaceZ z)) ∧ w' = w := by
  rcases (show z = 9 ∨ z = 10 ∨ z = 12 ∨ z = 13 ∨ z = 32 ∨ (z ≠ 9 ∧ z ≠ 10 ∧ z ≠ 12 ∧ z ≠ 13 ∧ z ≠ 32) by omega) with rfl | rfl | rfl | rfl | rfl | ⟨n1, n2, n3, n4, n5⟩
  rotate_right
  · have hs : spaceZ z = false := by unfold spaceZ; rw [decide_eq_false_iff_not]; omega
    rw [hs]
    have q1 : (z == 9) = false := beq_eq_false_iff_ne.2 n1
    have q2 : (z == 10) = false := beq_eq_false_iff_ne.2 n2
    have q3 : (z == 12) = false := beq_eq_false_iff_ne.2 n3
    have q4 : (z == 13) = false := beq_eq_false_iff_ne.2 n4
    have q5 : (z == 32) = false := beq_eq_false_iff_ne.2 n5
    go_enter Tryz.func93, Tryz.ntmps93
    go_wp2
    go_ret
    exact ⟨rfl, rfl⟩
  all_goals
    go_enter Tryz.func93, Tryz.ntmps93
    go_wp2
    go_ret
    exact ⟨rfl, rfl⟩
theorem column_any (z : Int) (h0 : 0 ≤ z) (h1 : z ≤ 255) (w : World) :
    Calls Tryz.prog 125 #[.int .u8 z] w fun e w' => e = .returned (.int .i64 (colZ z)) ∧ w' = w := by
  have hs := fun W => space_any z h0 h1 W
  have hc : colZ z = if z = 47 then 1 else if z = 62 then 2 else if z = 61 then 3 else if z = 34 then 4 else if z = 39 then 5 else if spaceZ z then 0 else 6 := rfl
  rw [hc]
  generalize spaceZ z = b at hs
  clear hc
  cases b
  all_goals
    go_enter Tryz.func125, Tryz.ntmps125
    go_wp2_with (go_at_call 93; refine (hs _).mono ?_; rintro e w' ⟨rfl, rfl⟩)
  all_goals go_ret
  all_goals refine ⟨ret_i64 ?_, rfl⟩
  all_goals ((repeat' split) <;> first | rfl | omega | simp_all)
theorem ends_any (c : UInt8) (w : World) :
    Calls Tryz.prog 69 #[.int .u8 c.toNat] w fun e w' => e = .returned (.bool (endsC c)) ∧ w' = w := by
  have hlt := c.toNat_lt
  have hs := fun W => space_any (c.toNat : Int) (by omega) (by omega) W
  rw [spaceZ_C] at hs
  have i1 := int_beq c 47
  have i2 := int_beq c 62
  rw [show ((47 : UInt8).toNat : Int) = 47 from rfl] at i1
  rw [show ((62 : UInt8).toNat : Int) = 62 from rfl] at i2
  unfold endsC
  generalize spaceC c = b0 at hs ⊢
  generalize (c == 47) = b1 at i1 ⊢
  generalize (c == 62) = b2 at i2 ⊢
  cases b0 <;> cases b1 <;> cases b2
  all_goals
    go_enter Tryz.func69, Tryz.ntmps69
    go_wp2_with (go_at_call 93; refine (hs _).mono ?_; rintro e w' ⟨rfl, rfl⟩)
  all_goals go_ret
  all_goals exact ⟨rfl, rfl⟩

def tagV : List Value := tagTab.flatten.map fun (z : Nat) => .int .u8 (z : Int)
/-- the table of a tag's states holds what its initialiser lays -/
def TagTabs (w : World) : Prop := w.rangeAt 6 0 tagV
theorem tag_at {w : World} (h : TagTabs w) (i k : Nat) (hi : i < 8) (hk : k < 7) : w.cell? ⟨6, i * 7 + k, none⟩ = some (.int .u8 (((tagTab.getD i []).getD k 0 : Nat) : Int)) := by
  have hall : ∀ (i : Fin 8) (k : Fin 7), tagTab.flatten[i.val * 7 + k.val]? = some ((tagTab.getD i.val []).getD k.val 0) := by decide +kernel
  have := h (i * 7 + k) (.int .u8 (((tagTab.getD i []).getD k 0 : Nat) : Int)) (by unfold tagV; rw [List.getElem?_map, hall ⟨i, hi⟩ ⟨k, hk⟩]; rfl)
  rwa [Nat.zero_add] at this
set_option maxHeartbeats 1000000 in
theorem behind_any (s : Nat) (c : UInt8) (hs0 : 3 ≤ s) (hs1 : s ≤ 10) (w : World) (hT : TagTabs w) :
    Calls Tryz.prog 100 #[.int .i64 s, .int .u8 c.toNat] w fun e w' => e = .returned (.int .i64 (nextT s c : Int)) ∧ ∃ n, w' = w.drewN n := by
  obtain ⟨i, rfl⟩ : ∃ i, s = i + 3 := ⟨s - 3, by omega⟩
  have hlt := c.toNat_lt
  have hk := colC_lt c
  have hc := fun W => column_any (c.toNat : Int) (by omega) (by omega) W
  rw [colZ_C] at hc
  have hx := tag_at hT i (colC c) (by omega) hk
  have hv : nextT (i + 3) c ≤ 10 := by rcases next_range (i + 3) hs0 hs1 c with h | h <;> omega
  have hn : nextT (i + 3) c = (tagTab.getD i []).getD (colC c) 0 := rfl
  rw [← hn] at hx
  generalize nextT (i + 3) c = v at hx hv
  generalize colC c = k at hc hx hk
  clear hn
  go_enter Tryz.func100, Tryz.ntmps100
  go_wp2_with fail
  go_quiet (first | (go_at_call 125; refine Calls.quiet_of_same (hc _)))
  go_wp2
  go_ret
  exact ⟨rfl, _, rfl⟩
theorem drew_zero (w : World) : w.drewN 0 = w := rfl
theorem pass_step {D : List UInt8} {a s : Nat} {c : UInt8} {R : Nat × Nat} (hc : D[a]? = some c) (hs : s ≠ 0) (h : (a + (passL s (D.drop a)).1, (passL s (D.drop a)).2) = R) : (a + 1 + (passL (nextT s c) (D.drop (a + 1))).1, (passL (nextT s c) (D.drop (a + 1))).2) = R := by
  obtain ⟨h1, h2⟩ := List.getElem?_eq_some_iff.1 hc
  rw [List.drop_eq_getElem_cons h1, h2, passL, if_neg hs] at h
  rw [← h]
  simp only [Prod.mk.injEq, and_true]
  omega
theorem pass_end {D : List UInt8} {a s : Nat} {R : Nat × Nat} (hc : D.length ≤ a ∨ s = 0) (h : (a + (passL s (D.drop a)).1, (passL s (D.drop a)).2) = R) : (a, s) = R := by
  rcases hc with hc | hc
  · rw [List.drop_of_length_le hc] at h
    exact h
  · subst hc
    rw [← h]
    cases D.drop a <;> rfl
set_option maxHeartbeats 1000000 in
theorem pass_any (data : ByteArray) (a0 s0 : Nat) (w : World) (hd : data.size ≤ 140737488355328) (ha0 : a0 ≤ data.size) (hs0 : s0 = 0 ∨ 3 ≤ s0 ∧ s0 ≤ 10) (hT : TagTabs w) :
    Calls Tryz.prog 78 #[.string data, .int .i64 a0, .int .i64 s0] w fun e w' =>
      e = .returned (.tuple #[.int .i64 ((a0 + (passL s0 (data.data.toList.drop a0)).1 : Nat) : Int), .int .i64 ((passL s0 (data.data.toList.drop a0)).2 : Int)]) ∧ ∃ n, w' = w.drewN n := by
  obtain ⟨R, hR⟩ : ∃ R, (a0 + (passL s0 (data.data.toList.drop a0)).1, (passL s0 (data.data.toList.drop a0)).2) = R := ⟨_, rfl⟩
  obtain ⟨E, S⟩ := R
  obtain ⟨e1, e2⟩ := Prod.mk.inj hR
  rw [e1, e2]
  have HR := hid (fun (_ : True) => hR)
  have HT := hid hT
  clear hR hT e1 e2
  go_enter Tryz.func78, Tryz.ntmps78
  go_wp2
  go_loopw [1, 2] (fun av sv wr => ∃ (a s m : Nat), av = .int .i64 a ∧ sv = .int .i64 s ∧ a ≤ data.size ∧ (s = 0 ∨ 3 ≤ s ∧ s ≤ 10) ∧ wr = w.drewN m ∧ Hid (True → (a + (passL s (data.data.toList.drop a)).1, (passL s (data.data.toList.drop a)).2) = (E, S))) (fun av _ _ => data.size - (RowKit.intOf av).toNat)
  case atStart => exact ⟨a0, s0, 0, rfl, rfl, ha0, hs0, rfl, HR.out⟩
  case round =>
    obtain ⟨a, s, m, rfl, rfl, ha, hs, rfl, HA⟩ := hrel
    by_cases hp : a < data.size
    · rcases hs with rfl | ⟨hs1, hs2⟩
      · have he := pass_end (.inr rfl) (HA.out trivial)
        obtain ⟨rfl, rfl⟩ := Prod.mk.inj he
        clear HA he HR
        go_wp2
        refine bodyPost_ret (v := .tuple #[.int .i64 (a : Int), .int .i64 0]) ?_ rfl ⟨rfl, m, rfl⟩
        simp [results, Tryz.results78, go_sem]
      · obtain ⟨x, hx⟩ : ∃ x, data[a]'hp = x := ⟨_, rfl⟩
        have q : ((s : Int) != 0) = true := bne_iff_ne.2 (by omega)
        have HB := hid (fun (_ : True) => pass_step (getElem_list hp hx) (by omega) (HA.out trivial))
        have hnx := next_range s hs1 hs2 x
        have hcall := behind_any s x hs1 hs2 (w.drewN m) HT.out
        generalize nextT s x = v at HB hnx hcall
        have HC := hid (fun (_ : True) => hcall)
        clear HA hcall
        go_wp2_with (go_at_call 100; refine (HC.out trivial).mono ?_; rintro e w' ⟨rfl, nd, rfl⟩)
        go_roundw
        case rel => exact ⟨a + 1, v, m + nd, rfl, rfl, by omega, hnx, rfl, HB.out⟩
        case measure => simp [RowKit.intOf]; omega
    · have he := pass_end (.inl (by rw [← size_eq]; omega)) (HA.out trivial)
      obtain ⟨rfl, rfl⟩ := Prod.mk.inj he
      clear HA he HR
      go_wp2
      refine bodyPost_ret (v := .tuple #[.int .i64 (a : Int), .int .i64 (s : Int)]) ?_ rfl ⟨rfl, m, rfl⟩
      simp [results, Tryz.results78, go_sem]
end Go.Proofs.YtndglhflbenloaaGreatDoor
