/-
  Package written: Text, EndTag, and a value as a start tag has it: their walks.
-/
import Derived.Test.YtkcgmimldjeaiaaGreatDoorEscText
import Derived.Test.YtkcgmimldjeaiaaGreatDoorInBuilder
import Derived.Test.YtkcgmimldjeaiaaGreatDoorMemW
namespace Go.Proofs.YtkcgmimldjeaiaaGreatDoor
open Go.RowKit Go.Lib Own

theorem rep_len {x : UInt8} {new : List UInt8} (hn : ([x] == new) = false) (h1 : 1 ≤ new.length) (s : List UInt8) : s.length ≤ (replaceAll s [x] new).length := by
  rw [rep_one hn]
  induction s with
  | nil => simp
  | cons c r ih =>
    rw [List.flatMap_cons, List.length_append, List.length_cons]
    split
    · omega
    · rw [List.length_singleton]; omega
theorem three_len (s : List UInt8) : (replaceAll (replaceAll (replaceAll s [38] ampE) [60] ltE) [62] gtE).length ≤ 5 * s.length := by
  rw [three]
  induction s with
  | nil => simp
  | cons c r ih =>
    rw [List.flatMap_cons, List.length_append, List.length_cons]
    have : (esc1 false c).length ≤ 5 := by
      unfold esc1
      repeat' split
      all_goals try simp [ampE, ltE, gtE]
      rename_i h
      exact absurd h.1 (by decide)
    omega
theorem esc_len (q : Bool) : ∀ (n : Nat) (s : List UInt8), s.length ≤ n → (escL q s).length ≤ 6 * s.length
  | _, [], _ => by rw [escL]; simp
  | 0, c :: r, h => by simp at h
  | n + 1, c :: r, h => by
    simp only [List.length_cons] at h
    rw [escL]
    split
    · have := esc_len q n (r.drop 1) (by simp; omega)
      rw [List.length_append, List.length_cons]
      simp [nbspE] at this ⊢
      omega
    · have := esc_len q n r (by omega)
      have h2 : (esc1 q c).length ≤ 6 := by
        unfold esc1
        repeat' split
        all_goals simp [ampE, ltE, gtE, quotE]
      rw [List.length_append, List.length_cons]
      omega
theorem count_le (s old : ByteArray) (h1 : 1 ≤ old.size) : countB s old ≤ s.size := Nat.le_trans (Nat.le_mul_of_pos_right _ h1) (countB_mul_le old h1 s.size s (Nat.le_refl _))
/-- one replacing of a text that is not too long -/
theorem repl_any (s : ByteArray) (old new : List UInt8) (m : Int) (w : World) (hs : s.size ≤ 1000000000) (hm : w.cell? ⟨4, 0, none⟩ = some (.int .i64 m)) (h1 : 1 ≤ old.length) (h2 : new.length ≤ 6) :
    Calls Tryz.prog 81 #[.string s, .string (bs old), .string (bs new)] w fun e w' => e = .returned (.string (bs (replaceAll s.data.toList old new))) ∧ Below w.heap.size w w' := by
  have hc := count_le s (bs old) (by rw [bs_size]; exact h1)
  have h3 : countB s (bs old) * (bs new).size ≤ s.size * 6 := Nat.mul_le_mul hc (by rw [bs_size]; exact h2)
  exact Tryz.strings_ReplaceAll s (bs old) (bs new) m w (by omega) hm (by rw [bs_size]; exact h1) (by omega)

set_option maxHeartbeats 1000000 in
theorem wrText_any (s : ByteArray) (m : Int) (w : World) (hs : s.size ≤ 100000000) (hm : w.cell? ⟨4, 0, none⟩ = some (.int .i64 m)) :
    Calls Tryz.prog 82 #[.string s] w fun e w' => e = .returned (.string (bs (escL false s.data.toList))) ∧ Below w.heap.size w w' := by
  have hz := size_eq s
  have l1 := rep_len (x := 60) (new := ltE) (by decide) (by decide) (replaceAll s.data.toList [38] ampE)
  have l2 := rep_len (x := 62) (new := gtE) (by decide) (by decide) (replaceAll (replaceAll s.data.toList [38] ampE) [60] ltE)
  have l3 := three_len s.data.toList
  have ht := textE_eq _ s.data.toList (Nat.le_refl _)
  unfold textE at ht
  obtain ⟨r1, hr1⟩ : ∃ r1, replaceAll s.data.toList [38] ampE = r1 := ⟨_, rfl⟩
  have c1 := repl_any s [38] ampE m w (by omega) hm (by decide) (by decide)
  rw [hr1] at l1 l2 l3 ht c1
  obtain ⟨r2, hr2⟩ : ∃ r2, replaceAll r1 [60] ltE = r2 := ⟨_, rfl⟩
  have c2 := fun W hW => repl_any (bs r1) [60] ltE m W (by rw [bs_size]; omega) hW (by decide) (by decide)
  rw [bs_data] at c2
  rw [hr2] at l1 l2 l3 ht c2
  obtain ⟨r3, hr3⟩ : ∃ r3, replaceAll r2 [62] gtE = r3 := ⟨_, rfl⟩
  have c3 := fun W hW => repl_any (bs r2) [62] gtE m W (by rw [bs_size]; omega) hW (by decide) (by decide)
  rw [bs_data] at c3
  rw [hr3] at l2 l3 ht c3
  have c4 := fun W hW => repl_any (bs r3) [194, 160] nbspE m W (by rw [bs_size]; omega) hW (by decide) (by decide)
  rw [bs_data, ht] at c4
  have C1 := hid c1
  have C2 := hid c2
  have C3 := hid c3
  have C4 := hid c4
  have HM := hid hm
  clear c1 c2 c3 c4 l1 l2 l3 ht hr1 hr2 hr3 hz hm
  obtain ⟨R, hR⟩ : ∃ R, bs (escL false s.data.toList) = R := ⟨_, rfl⟩
  obtain ⟨R1, hR1⟩ : ∃ R, bs r1 = R := ⟨_, rfl⟩
  obtain ⟨R2, hR2⟩ : ∃ R, bs r2 = R := ⟨_, rfl⟩
  obtain ⟨R3, hR3⟩ : ∃ R, bs r3 = R := ⟨_, rfl⟩
  rw [hR] at C4 ⊢
  rw [hR1] at C1 C2
  rw [hR2] at C2 C3
  rw [hR3] at C3 C4
  clear hR hR1 hR2 hR3
  unfold bs ampE ltE gtE nbspE at *
  go_enter Tryz.func82, Tryz.ntmps82
  go_wp2_with fail
  refine C1.out.mono ?_
  rintro e w1 ⟨rfl, b1⟩
  have m1 := cell_low HM.out b1 (cell_block HM.out)
  go_wp2_with fail
  refine (C2.out w1 m1).mono ?_
  rintro e w2 ⟨rfl, b2⟩
  have m2 := cell_low m1 b2 (cell_block m1)
  go_wp2_with fail
  refine (C3.out w2 m2).mono ?_
  rintro e w3 ⟨rfl, b3⟩
  have m3 := cell_low m2 b3 (cell_block m2)
  go_wp2_with fail
  refine (C4.out w3 m3).mono ?_
  rintro e w4 ⟨rfl, b4⟩
  have hb := ((b1.trans (b2.mono b1.size)).trans (b3.mono (b1.trans (b2.mono b1.size)).size)).trans (b4.mono ((b1.trans (b2.mono b1.size)).trans (b3.mono (b1.trans (b2.mono b1.size)).size)).size)
  clear b1 b2 b3 b4 m1 m2 m3
  go_wp2
  go_ret
  exact ⟨rfl, hb⟩

/-- an end tag -/
def etagL (n : List UInt8) : List UInt8 := [60, 47] ++ n ++ [62]
end Go.Proofs.YtkcgmimldjeaiaaGreatDoor
