/-
  Parts of the walk, joined: PutEv, EvGet, Code, Clean, WrText, Unf, Read.
-/
import Derived.LoopN
import Derived.Test.YtcncbhbdpcpkeaaGreatDoorPJAR
import Derived.Test.YtcncbhbdpcpkeaaGreatDoorPJAA
import Derived.Test.YtcncbhbdpcpkeaaGreatDoorPJAQ
import Derived.Test.YtcncbhbdpcpkeaaGreatDoorPJAD
import Derived.Test.YtcncbhbdpcpkeaaGreatDoorPJAS
/-
  The stream's Put: its walk.
-/
namespace Go.Proofs.YtcncbhbdpcpkeaaGreatDoor
open Go.RowKit Go.Lib Own

theorem rowF_ne {W : World} {base : Nat} {e2 : TypeId} {z2 n1 n2 : Nat} {v1 v2 : Value} {xs1 xs2 : List Value} (h1 : W.ownsRowF base 5 1 v1 n1 xs1) (h2 : W.ownsRow base e2 z2 v2 n2 xs2) (hne : e2 ≠ 5) : v1.ownBlock = none ∨ v1.ownBlock ≠ v2.ownBlock := by
  rcases h1.2 with ⟨rfl, _⟩ | ⟨g, cap, cur, fz, rfl, _, hg, _⟩
  · exact .inl rfl
  · refine .inr (fun h3 => ?_)
    rcases h2.2 with ⟨rfl, _⟩ | ⟨g2, cap2, cur2, rfl, _, hg2, _⟩
    · cases h3
    · simp only [Value.ownBlock, Option.some.injEq] at h3
      subst h3
      rw [hg] at hg2
      simp only [Option.some.injEq, Obj.cells.injEq] at hg2
      exact hne hg2.2.1.symm
end Go.Proofs.YtcncbhbdpcpkeaaGreatDoor

/-
  The cells of one event among a list's.
-/
namespace Go.Proofs.YtcncbhbdpcpkeaaGreatDoor
open Go.RowKit Go.Lib Own

def evK : Ev → Nat
  | .text _ => 3
  | .start _ _ => 1
  | .stop _ => 2
def evN : Ev → List UInt8
  | .text _ => []
  | .start n _ => n
  | .stop n => n
def evA : Ev → List (List UInt8 × List UInt8)
  | .start _ a => a
  | _ => []
def evT : Ev → List UInt8
  | .text b => b
  | _ => []
end Go.Proofs.YtcncbhbdpcpkeaaGreatDoor

/-
  scrublaw.begun and codeAt: their walks.
-/
namespace Go.Proofs.YtcncbhbdpcpkeaaGreatDoor
open Go.RowKit Go.Lib

/-- the character at the front of n bytes that begin so, and its length; none: length 0 -/
def codeN (n b0 b1 b2 b3 : Nat) : Nat × Nat :=
  if b0 < 128 then (b0, 1)
  else if b0 < 192 then (0, 0)
  else if b0 < 224 then
    (if 2 ≤ n ∧ (128 ≤ b1 ∧ b1 ≤ 191) ∧ 128 ≤ (b0 - 192) * 64 + (b1 - 128) then ((b0 - 192) * 64 + (b1 - 128), 2) else (0, 0))
  else if b0 < 240 then
    (if 3 ≤ n ∧ (128 ≤ b1 ∧ b1 ≤ 191) ∧ (128 ≤ b2 ∧ b2 ≤ 191) ∧ 2048 ≤ ((b0 - 224) * 64 + (b1 - 128)) * 64 + (b2 - 128)
     then (((b0 - 224) * 64 + (b1 - 128)) * 64 + (b2 - 128), 3) else (0, 0))
  else
    (if 4 ≤ n ∧ (128 ≤ b1 ∧ b1 ≤ 191) ∧ (128 ≤ b2 ∧ b2 ≤ 191) ∧ (128 ≤ b3 ∧ b3 ≤ 191) ∧ 65536 ≤ (((b0 - 240) * 64 + (b1 - 128)) * 64 + (b2 - 128)) * 64 + (b3 - 128) ∧
        (((b0 - 240) * 64 + (b1 - 128)) * 64 + (b2 - 128)) * 64 + (b3 - 128) ≤ 1114111
     then ((((b0 - 240) * 64 + (b1 - 128)) * 64 + (b2 - 128)) * 64 + (b3 - 128), 4) else (0, 0))
def codeL (l : List UInt8) : Nat × Nat := codeN l.length (l.getD 0 0).toNat (l.getD 1 0).toNat (l.getD 2 0).toNat (l.getD 3 0).toNat

end Go.Proofs.YtcncbhbdpcpkeaaGreatDoor

/-
  scrublaw.codeAt at every place, and goodText: their walks.
-/
namespace Go.Proofs.YtcncbhbdpcpkeaaGreatDoor
open Go.RowKit Go.Lib

theorem codeL_le (l : List UInt8) (h : l ≠ []) : (codeL l).1 ≤ 1114111 ∧ (codeL l).2 ≤ l.length ∧ (codeL l).2 ≤ 4 := by
  have hl : 1 ≤ l.length := by cases l with | nil => exact absurd rfl h | cons a r => simp
  unfold codeL codeN
  have h0 := byte_lt l 0
  repeat' split
  all_goals (simp only; omega)

/-- is it all good characters -/
def goodTextL : Nat → List UInt8 → Bool
  | 0, _ => true
  | f + 1, l => if l = [] then true else if (codeL l).2 = 0 ∨ goodB (codeL l).1 = false then false else goodTextL f (l.drop (codeL l).2)
def gt (l : List UInt8) : Bool := goodTextL l.length l
theorem goodTextL_fuel : ∀ (f g : Nat) (l : List UInt8), l.length ≤ f → l.length ≤ g → goodTextL f l = goodTextL g l
  | 0, 0, _, _, _ => rfl
  | 0, g + 1, l, hf, _ => by
    have : l = [] := List.eq_nil_of_length_eq_zero (by omega)
    simp [goodTextL, this]
  | f + 1, 0, l, _, hg => by
    have : l = [] := List.eq_nil_of_length_eq_zero (by omega)
    simp [goodTextL, this]
  | f + 1, g + 1, l, hf, hg => by
    by_cases h0 : l = []
    · simp [goodTextL, h0]
    · by_cases h1 : (codeL l).2 = 0 ∨ goodB (codeL l).1 = false
      · simp only [goodTextL, h0, if_false, h1, if_true]
      · have hw := codeL_le l h0
        have ih := goodTextL_fuel f g (l.drop (codeL l).2) (by simp; omega) (by simp; omega)
        simp only [goodTextL, h0, if_false, h1, ih]
theorem gt_nil : gt [] = true := rfl
theorem gt_bad (l : List UInt8) (h0 : l ≠ []) (h : (codeL l).2 = 0 ∨ goodB (codeL l).1 = false) : gt l = false := by
  unfold gt
  cases l with
  | nil => exact absurd rfl h0
  | cons a r => simp only [List.length_cons, goodTextL, h, if_true]; simp
theorem gt_step (l : List UInt8) (h0 : l ≠ []) (h1 : (codeL l).2 ≠ 0) (h2 : goodB (codeL l).1 = true) : gt l = gt (l.drop (codeL l).2) := by
  have hw := codeL_le l h0
  have e : goodTextL (l.length - 1) (l.drop (codeL l).2) = gt (l.drop (codeL l).2) := goodTextL_fuel _ _ _ (by simp; omega) (Nat.le_refl _)
  have e1 : l.length = (l.length - 1) + 1 := by omega
  have h3 : ¬ ((codeL l).2 = 0 ∨ goodB (codeL l).1 = false) := by rw [h2]; simp [h1]
  conv => lhs; unfold gt; rw [e1]
  simp only [goodTextL, h0, if_false, h3, e]

end Go.Proofs.YtcncbhbdpcpkeaaGreatDoor

/-
  Package written: Text, EndTag, and a value as a start tag has it: their walks.
-/
namespace Go.Proofs.YtcncbhbdpcpkeaaGreatDoor
open Go.RowKit Go.Lib Own

theorem rep_len {x : UInt8} {new : List UInt8} (hn : ([x] == new) = false) (h1 : 1 ≤ new.length) (s : List UInt8) : s.length ≤ (replaceAll s [x] new).length := by
  rw [rep_one hn]
  induction s with
  | nil => simp
  | cons c r ih =>
    rw [List.flatMap_cons, List.length_append, List.length_cons]
    split
    · omega
    · rw [List.length_singleton]; omega
theorem three_len (s : List UInt8) : (replaceAll (replaceAll (replaceAll s [38] ampE) [60] ltE) [62] gtE).length ≤ 5 * s.length := by
  rw [three]
  induction s with
  | nil => simp
  | cons c r ih =>
    rw [List.flatMap_cons, List.length_append, List.length_cons]
    have : (esc1 false c).length ≤ 5 := by
      unfold esc1
      repeat' split
      all_goals try simp [ampE, ltE, gtE]
      rename_i h
      exact absurd h.1 (by decide)
    omega
theorem esc_len (q : Bool) : ∀ (n : Nat) (s : List UInt8), s.length ≤ n → (escL q s).length ≤ 6 * s.length
  | _, [], _ => by rw [escL]; simp
  | 0, c :: r, h => by simp at h
  | n + 1, c :: r, h => by
    simp only [List.length_cons] at h
    rw [escL]
    split
    · have := esc_len q n (r.drop 1) (by simp; omega)
      rw [List.length_append, List.length_cons]
      simp [nbspE] at this ⊢
      omega
    · have := esc_len q n r (by omega)
      have h2 : (esc1 q c).length ≤ 6 := by
        unfold esc1
        repeat' split
        all_goals simp [ampE, ltE, gtE, quotE]
      rw [List.length_append, List.length_cons]
      omega
theorem count_le (s old : ByteArray) (h1 : 1 ≤ old.size) : countB s old ≤ s.size := Nat.le_trans (Nat.le_mul_of_pos_right _ h1) (countB_mul_le old h1 s.size s (Nat.le_refl _))
/-- one replacing of a text that is not too long -/
theorem repl_any (s : ByteArray) (old new : List UInt8) (m : Int) (w : World) (hs : s.size ≤ 1000000000) (hm : w.cell? ⟨4, 0, none⟩ = some (.int .i64 m)) (h1 : 1 ≤ old.length) (h2 : new.length ≤ 6) :
    Calls Tryz.prog 186 #[.string s, .string (bs old), .string (bs new)] w fun e w' => e = .returned (.string (bs (replaceAll s.data.toList old new))) ∧ Below w.heap.size w w' := by
  have hc := count_le s (bs old) (by rw [bs_size]; exact h1)
  have h3 : countB s (bs old) * (bs new).size ≤ s.size * 6 := Nat.mul_le_mul hc (by rw [bs_size]; exact h2)
  exact Tryz.strings_ReplaceAll s (bs old) (bs new) m w (by omega) hm (by rw [bs_size]; exact h1) (by omega)

set_option maxHeartbeats 1000000 in
theorem wrText_any (s : ByteArray) (m : Int) (w : World) (hs : s.size ≤ 100000000) (hm : w.cell? ⟨4, 0, none⟩ = some (.int .i64 m)) :
    Calls Tryz.prog 187 #[.string s] w fun e w' => e = .returned (.string (bs (escL false s.data.toList))) ∧ Below w.heap.size w w' := by
  have hz := size_eq s
  have l1 := rep_len (x := 60) (new := ltE) (by decide) (by decide) (replaceAll s.data.toList [38] ampE)
  have l2 := rep_len (x := 62) (new := gtE) (by decide) (by decide) (replaceAll (replaceAll s.data.toList [38] ampE) [60] ltE)
  have l3 := three_len s.data.toList
  have ht := textE_eq _ s.data.toList (Nat.le_refl _)
  unfold textE at ht
  obtain ⟨r1, hr1⟩ : ∃ r1, replaceAll s.data.toList [38] ampE = r1 := ⟨_, rfl⟩
  have c1 := repl_any s [38] ampE m w (by omega) hm (by decide) (by decide)
  rw [hr1] at l1 l2 l3 ht c1
  obtain ⟨r2, hr2⟩ : ∃ r2, replaceAll r1 [60] ltE = r2 := ⟨_, rfl⟩
  have c2 := fun W hW => repl_any (bs r1) [60] ltE m W (by rw [bs_size]; omega) hW (by decide) (by decide)
  rw [bs_data] at c2
  rw [hr2] at l1 l2 l3 ht c2
  obtain ⟨r3, hr3⟩ : ∃ r3, replaceAll r2 [62] gtE = r3 := ⟨_, rfl⟩
  have c3 := fun W hW => repl_any (bs r2) [62] gtE m W (by rw [bs_size]; omega) hW (by decide) (by decide)
  rw [bs_data] at c3
  rw [hr3] at l2 l3 ht c3
  have c4 := fun W hW => repl_any (bs r3) [194, 160] nbspE m W (by rw [bs_size]; omega) hW (by decide) (by decide)
  rw [bs_data, ht] at c4
  have C1 := hid c1
  have C2 := hid c2
  have C3 := hid c3
  have C4 := hid c4
  have HM := hid hm
  clear c1 c2 c3 c4 l1 l2 l3 ht hr1 hr2 hr3 hz hm
  obtain ⟨R, hR⟩ : ∃ R, bs (escL false s.data.toList) = R := ⟨_, rfl⟩
  obtain ⟨R1, hR1⟩ : ∃ R, bs r1 = R := ⟨_, rfl⟩
  obtain ⟨R2, hR2⟩ : ∃ R, bs r2 = R := ⟨_, rfl⟩
  obtain ⟨R3, hR3⟩ : ∃ R, bs r3 = R := ⟨_, rfl⟩
  rw [hR] at C4 ⊢
  rw [hR1] at C1 C2
  rw [hR2] at C2 C3
  rw [hR3] at C3 C4
  clear hR hR1 hR2 hR3
  unfold bs ampE ltE gtE nbspE at *
  go_enter Tryz.func187, Tryz.ntmps187
  go_wp2_with fail
  refine C1.out.mono ?_
  rintro e w1 ⟨rfl, b1⟩
  have m1 := cell_low HM.out b1 (cell_block HM.out)
  go_wp2_with fail
  refine (C2.out w1 m1).mono ?_
  rintro e w2 ⟨rfl, b2⟩
  have m2 := cell_low m1 b2 (cell_block m1)
  go_wp2_with fail
  refine (C3.out w2 m2).mono ?_
  rintro e w3 ⟨rfl, b3⟩
  have m3 := cell_low m2 b3 (cell_block m2)
  go_wp2_with fail
  refine (C4.out w3 m3).mono ?_
  rintro e w4 ⟨rfl, b4⟩
  have hb := ((b1.trans (b2.mono b1.size)).trans (b3.mono (b1.trans (b2.mono b1.size)).size)).trans (b4.mono ((b1.trans (b2.mono b1.size)).trans (b3.mono (b1.trans (b2.mono b1.size)).size)).size)
  clear b1 b2 b3 b4 m1 m2 m3
  go_wp2
  go_ret
  exact ⟨rfl, hb⟩

/-- an end tag -/
def etagL (n : List UInt8) : List UInt8 := [60, 47] ++ n ++ [62]
theorem wrEnd_any (n : ByteArray) (w : World) (hs : n.size ≤ 100000000) :
    Calls Tryz.prog 134 #[.string n] w fun e w' => e = .returned (.string (bs (etagL n.data.toList))) ∧ w' = w := by
  have hr : (⟨#[60, 47]⟩ : ByteArray) ++ n ++ ⟨#[62]⟩ = bs (etagL n.data.toList) := by
    rw [show (⟨#[60, 47]⟩ : ByteArray) = bs [60, 47] from rfl, show (⟨#[62]⟩ : ByteArray) = bs [62] from rfl, cat_bs, bs_cat]
    rfl
  rw [← hr]
  go_enter Tryz.func134, Tryz.ntmps134
  go_wp2
  go_ret
  exact ⟨rfl, rfl⟩
end Go.Proofs.YtcncbhbdpcpkeaaGreatDoor

/-
  What is an unfinished character: by what may come behind it, and by the tables. No program is walked here.
-/
namespace Go.Proofs.YtcncbhbdpcpkeaaGreatDoor
open Go.Lib

/-- something may come behind n bytes, 1 to 3, that makes them a character -/
def comes (m b0 b1 b2 : Nat) : Prop :=
  (m = 1 ∧ ((decodeN 2 b0 128 0 0).2 = 2 ∨ (decodeN 2 b0 191 0 0).2 = 2 ∨ (decodeN 3 b0 128 128 0).2 = 3 ∨ (decodeN 3 b0 191 191 0).2 = 3 ∨ (decodeN 4 b0 128 128 128).2 = 4 ∨ (decodeN 4 b0 191 191 191).2 = 4)) ∨
  (m = 2 ∧ ((decodeN 3 b0 b1 128 0).2 = 3 ∨ (decodeN 3 b0 b1 191 0).2 = 3 ∨ (decodeN 4 b0 b1 128 128).2 = 4 ∨ (decodeN 4 b0 b1 191 191).2 = 4)) ∨
  (m = 3 ∧ ((decodeN 4 b0 b1 b2 128).2 = 4 ∨ (decodeN 4 b0 b1 b2 191).2 = 4))

end Go.Proofs.YtcncbhbdpcpkeaaGreatDoor

/-
  scrubref.readBytes: its walk: the text, what is left over, and the CR.
-/
namespace Go.Proofs.YtcncbhbdpcpkeaaGreatDoor
open Go.RowKit Go.Lib

theorem info_u8 : (Tryz.prog.info? 5).map (fun i => (i.zero, i.size, i.bytes)) = some (some (.int .u8 0), 1, 1) := by kernel_rfl

theorem nil_text (W : World) : (convert 65 9 (.slice none 0 0)).run Tryz.prog W = .ok (.string ⟨#[]⟩) W := by
  rw [run_convert_bytes_string W 65 9 5 none 0 0 Tryz.underlying65 Tryz.underlying5 Tryz.underlying9]
  rfl
/-- the text of bytes that the call owns -/
theorem own_text (W : World) (base : Nat) (v : Value) (l : List UInt8) (h : W.ownsRow base 5 1 v l.length (byteCells l)) :
    (convert 65 9 v).run Tryz.prog W = .ok (.string ⟨l.toArray⟩) W := by
  rcases h.2 with ⟨rfl, h0⟩ | ⟨g, cap, cur, rfl, _⟩
  · have : l = [] := List.eq_nil_of_length_eq_zero h0
    subst this
    exact nil_text W
  · exact run_convert_bytes_back W 65 9 5 ⟨g, 0, none⟩ cap l Tryz.underlying65 Tryz.underlying5 Tryz.underlying9 (fun j hj => by
      have hadd : (⟨g, 0, none⟩ : Addr).add j = ⟨g, j, none⟩ := by unfold Addr.add; split <;> simp_all
      rw [hadd, h.cellAt j (by omega)]
      simp [byteCells, hj])
theorem charL_dec (l : List UInt8) : charL l = if decodeL l = (65533, 1) then (0, 0) else decodeL l := by
  unfold charL charN
  rw [← decodeL_N]

theorem cells_len (L : List UInt8) : (byteCells L).length = L.length * 1 := by simp [byteCells]
theorem cells_new (L : List UInt8) (W : World) : ∀ j u, (byteCells L)[j]? = some u → (W.alloc (.cells (byteCells L).toArray 5)).cell? ((⟨W.heap.size, 0, none⟩ : Addr).add j) = some u := by
  intro j u hj
  have hadd : (⟨W.heap.size, 0, none⟩ : Addr).add j = ⟨W.heap.size, j, none⟩ := by unfold Addr.add; split <;> simp_all
  rw [hadd]
  have hb := heap_alloc_new W (.cells (byteCells L).toArray 5)
  unfold World.cell?
  rw [hb]
  simp [hj]
theorem own_cat {W : World} {base : Nat} {v : Value} {a L : List UInt8} (h : W.ownsRow base 5 1 v (a.length + L.length) (byteCells a ++ byteCells L)) : W.ownsRow base 5 1 v (a ++ L).length (byteCells (a ++ L)) := by
  rw [byteCells_append, List.length_append]; exact h

end Go.Proofs.YtcncbhbdpcpkeaaGreatDoor
