/-
  Parts of the walk, joined: RefAttr, TagName, TagAttrs, RefTag, RefNames, RefPiece.
-/
import Derived.Test.YtndglhflbenloaaGreatDoorGen
import Derived.Test.YtndglhflbenloaaGreatDoorRefSet
import Derived.Test.YtndglhflbenloaaGreatDoorInBuilder
import Derived.Test.YtndglhflbenloaaGreatDoorLower
import Derived.Test.YtndglhflbenloaaGreatDoorUnref
/-
  scrubref's attributeAt: its walk.
-/
namespace Go.Proofs.YtndglhflbenloaaGreatDoor
open Go.RowKit Go.Lib Own

theorem cut_at {s : ByteArray} {i : Nat} {A B : List UInt8} (hi : i ≤ s.size) (h : s.data.toList.drop i = A ++ B) :
    s.data.toList.drop (i + A.length) = B ∧ (s.extract i (i + A.length)).data.toList = A ∧ i + A.length + B.length = s.size := by
  have hl := congrArg List.length h
  rw [List.length_drop, List.length_append, ← size_eq] at hl
  refine ⟨by rw [← List.drop_drop, h, List.drop_left], ?_, by omega⟩
  rw [← Lib.toList_data, Lib.extract_toList, h]
  simp
theorem byte_at {s : ByteArray} {k : Nat} {c : UInt8} {r : List UInt8} (h : s.data.toList.drop k = c :: r) : ∃ hp : k < s.size, s[k]'hp = c := by
  have hl := congrArg List.length h
  rw [List.length_drop, List.length_cons, ← size_eq] at hl
  refine ⟨by omega, ?_⟩
  have h2 : s.data.toList[k]? = some c := by
    have := congrArg (·[0]?) h
    simpa using this
  obtain ⟨h3, h4⟩ := List.getElem?_eq_some_iff.1 h2
  rw [← h4]
  rfl
/-- until, from a place that is known -/
theorem until_at (s : ByteArray) (i : Nat) (set : List UInt8) (hi : i ≤ s.size) (hs : s.size ≤ 4000000) (ht : set.length ≤ 100) (z : Int) (hz : z = (i : Int)) (L : List UInt8) (hd : s.data.toList.drop i = L) (j : Nat) (hj : i + (L.takeWhile fun c => !set.contains c).length = j) (w : World) :
    Calls Tryz.prog 50 #[.string s, .int .i64 z, .string ⟨set.toArray⟩] w fun e w' => e = .returned (.int .i64 (j : Int)) ∧ w' = w := by
  subst hz
  have h := until_any s i ⟨set.toArray⟩ w hi (by omega) (by show set.toArray.size ≤ _; simp; omega)
  rw [show (ByteArray.mk set.toArray).data.toList = set from rfl, hd, hj] at h
  exact h
theorem past_at (s : ByteArray) (i : Nat) (set : List UInt8) (hi : i ≤ s.size) (hs : s.size ≤ 4000000) (ht : set.length ≤ 100) (z : Int) (hz : z = (i : Int)) (L : List UInt8) (hd : s.data.toList.drop i = L) (j : Nat) (hj : i + (L.takeWhile set.contains).length = j) (w : World) :
    Calls Tryz.prog 82 #[.string s, .int .i64 z, .string ⟨set.toArray⟩] w fun e w' => e = .returned (.int .i64 (j : Int)) ∧ w' = w := by
  subst hz
  have h := past_any s i ⟨set.toArray⟩ w hi (by omega) (by show set.toArray.size ≤ _; simp; omega)
  rw [show (ByteArray.mk set.toArray).data.toList = set from rfl, hd, hj] at h
  exact h
theorem lowered_at (s : ByteArray) (i j : Nat) (A : List UInt8) (hA : (s.extract i j).data.toList = A) (hs : (s.extract i j).size ≤ 4000000) (nm : ByteArray) (hn : nm = ⟨(A.map lowC).toArray⟩) (w : World) :
    Calls Tryz.prog 72 #[.string (s.extract i j)] w fun e w' => e = .returned (.string nm) ∧ Below w.heap.size w w' := by
  subst hn
  have h := lowered_any (s.extract i j) w (by omega)
  rw [hA] at h
  exact h

/-- a block that lies there when a call begins lies there behind it, and behind one more block -/
theorem after_alloc {w w1 : World} {cs : Array Value} {T : TypeId} (b1 : Below (w.alloc (.cells cs T)).heap.size (w.alloc (.cells cs T)) w1) :
    Below w.heap.size w w1 ∧ w.heap.size < w1.heap.size ∧ w1.heap[w.heap.size]? = some (.cells cs T (0, 0)) ∧ ∀ o, (w1.alloc o).heap[w.heap.size]? = some (.cells cs T (0, 0)) := by
  have h0 : w1.heap[w.heap.size]? = some (.cells cs T (0, 0)) := (b1.block _ (by simp)).trans (heap_alloc_new w _)
  have h1 : w.heap.size < w1.heap.size := by
    have := b1.size
    simp at this
    exact this
  exact ⟨((Below.refl w.heap.size w).alloc (Nat.le_refl _) _).trans (b1.mono (by simp)), h1, h0, fun o => (Go.Lib.alloc_old w1 o _ h1).trans h0⟩

theorem two_stores {W : World} {b : Nat} {T : TypeId} {u0 u1 : Value} (h : W.heap[b]? = some (.cells #[u0, u1] T (0, 0))) (v0 v1 : Value) :
    ((W.setCell ⟨b, 0, none⟩ v0).setCell ⟨b, 1, none⟩ v1).heap[b]? = some (.cells #[v0, v1] T (0, 0)) := by
  have h1 : (W.setCell ⟨b, 0, none⟩ v0).heap[b]? = some (.cells #[v0, u1] T (0, 0)) := by
    rw [setCell_eq_setRow W b 0 _ T (0, 0) v0 h]
    exact setRow_heap W b _ _ T (0, 0) h
  rw [setCell_eq_setRow _ b 1 _ T (0, 0) v1 h1]
  exact setRow_heap _ b _ _ T (0, 0) h1
/-- what attributeAt answers -/
def AttrSaid (s : ByteArray) (x : (List UInt8 × List UInt8) × List UInt8 × Nat) (w : World) (e : Ending) (w' : World) : Prop :=
  e = .returned (.tuple #[.agg #[strV x.1.1, strV x.1.2], .int .i64 ((s.size - x.2.1.length : Nat) : Int), .int .i64 (x.2.2 : Int)]) ∧ Below w.heap.size w w'

set_option maxHeartbeats 8000000 in
set_option maxRecDepth 100000 in
theorem attrAt_any (s : ByteArray) (i : Nat) (c0 : UInt8) (t : List UInt8) (w : World) (hd : s.data.toList.drop i = c0 :: t) (hs : s.size ≤ 4000000) (hT : RefTabs w) :
    Calls Tryz.prog 83 #[.string s, .int .i64 i] w (AttrSaid s (attrAtL (c0 :: t)) w) := by
  obtain ⟨hi, _⟩ := byte_at hd
  show Calls Tryz.prog _ _ w (AttrSaid s (attrR ((c0 :: t.takeWhile fun c => !nameE.contains c).map lowC) (t.dropWhile fun c => !nameE.contains c)) w)
  have hd1 : s.data.toList.drop (i + 1) = t := (cut_at (Nat.le_of_lt hi) (A := [c0]) (B := t) hd).1
  obtain ⟨a1, a2, a3⟩ := span_of (fun c => !nameE.contains c) t
  obtain ⟨j, hj⟩ : ∃ j, i + 1 + (t.takeWhile fun c => !nameE.contains c).length = j := ⟨_, rfl⟩
  have hu : ∀ W, Calls Tryz.prog 50 #[.string s, .int .i64 ((i : Int) + 1), .string ⟨#[9, 10, 12, 13, 32, 47, 62, 61]⟩] W fun e w' => e = .returned (.int .i64 (j : Int)) ∧ w' = W := fun W => until_at s (i + 1) nameE (by omega) hs (by decide) ((i : Int) + 1) (by omega) t hd1 j hj W
  generalize t.takeWhile (fun c => !nameE.contains c) = n0 at a1 a2 hj ⊢
  generalize t.dropWhile (fun c => !nameE.contains c) = r1 at a1 a3 ⊢
  have hcut := cut_at (Nat.le_of_lt hi) (A := c0 :: n0) (B := r1) (by rw [hd, a1]; rfl)
  rw [List.length_cons, show i + (n0.length + 1) = j by omega] at hcut
  obtain ⟨e1, e2, e3⟩ := hcut
  have hsz : (s.extract i j).size ≤ 4000000 := by rw [size_eq, e2, List.length_cons]; omega
  obtain ⟨nm, hnm⟩ : ∃ nm : ByteArray, nm = ⟨((c0 :: n0).map lowC).toArray⟩ := ⟨_, rfl⟩
  have hl := fun W => lowered_at s i j (c0 :: n0) e2 hsz nm hnm W
  have hnmv : strV ((c0 :: n0).map lowC) = .string nm := by rw [hnm]; rfl
  have hji : i < j := by omega
  have HU1 := hid hu
  have HL := hid hl
  have HT := hid hT
  clear hu hl hT hd hd1 a1 a2 hj e2 hsz hnm
  cases r1 with
  | nil =>
    obtain rfl : j = s.size := by simpa using e3
    have HP1 := hid True.intro
    have HP2 := hid True.intro
    have HF : Hid (∀ W', Below w.heap.size w W' → AttrSaid s (attrR ((c0 :: n0).map lowC) []) w (.returned (.tuple #[.agg #[.string nm, .string ⟨#[]⟩], .int .i64 (s.size : Int), .int .i64 5])) W') := fun W' hb => by
      refine ⟨?_, hb⟩
      show _ = Ending.returned (.tuple #[.agg #[strV ((c0 :: n0).map lowC), strV []], .int .i64 ((s.size - 0 : Nat) : Int), .int .i64 5])
      rw [hnmv] <;> rfl
    generalize attrR ((c0 :: n0).map lowC) [] = XX at HF ⊢
    clear hnmv e1 a3 HP1 HP2
    go_enter Tryz.func83, Tryz.ntmps83
    go_wp2_with (first
      | (go_at_call 50; first | (with_reducible refine (HU1.out _).mono ?_; rintro e w' ⟨rfl, rfl⟩))
      | (go_at_call 72; with_reducible refine (HL.out _).mono ?_; rintro e w1 ⟨rfl, b1⟩; obtain ⟨hB1, hlt1, hb1, hb2⟩ := after_alloc b1; have x0 := cell_at hb1 (j := 0) rfl; have x1 := cell_at hb1 (j := 1) rfl; have f0 := free_at hb1 0; have f1 := free_at hb1 1; clear b1 hb2)
      | fail)
    refine bodyPost_ret (v := .tuple #[.agg #[.string nm, .string ⟨#[]⟩], .int .i64 s.size, .int .i64 5]) ?_ rfl (HF.out _ ?_)
    · have hz0 := two_stores hb1 (.string nm) (.string ⟨#[]⟩)
      have hz := (Go.Lib.alloc_old _ (.cells #[.string nm, .string ⟨#[]⟩] 65) _ (block_lt hz0)).trans hz0
      have z0 := cell_at hz (j := 0) rfl
      have z1 := cell_at hz (j := 1) rfl
      simp [results, Tryz.results83, go_sem, z0, z1]
    · first | exact ((hB1.setCell (Nat.le_refl _) _).setCell (Nat.le_refl _) _).alloc (Nat.le_of_lt hlt1) _ | exact ((hB1.setCell (Nat.le_refl _) _).setCell (Nat.le_refl _) _).alloc (by simp; omega) _
  | cons c1 t1 =>
    have hjs : j < s.size := by simp only [List.length_cons] at e3; omega
    obtain ⟨k, hk⟩ : ∃ k, j + ((c1 :: t1).takeWhile spS.contains).length = k := ⟨_, rfl⟩
    have hp1 : ∀ W, Calls Tryz.prog 82 #[.string s, .int .i64 (j : Int), .string ⟨#[9, 10, 12, 13, 32]⟩] W fun e w' => e = .returned (.int .i64 (k : Int)) ∧ w' = W := fun W => past_at s j spS (by omega) hs (by decide) (j : Int) rfl (c1 :: t1) e1 k hk W
    obtain ⟨b1, b2, b3⟩ := span_of spS.contains (c1 :: t1)
    have hR : attrR ((c0 :: n0).map lowC) (c1 :: t1) = (match (c1 :: t1).dropWhile spS.contains with
      | [] => (((c0 :: n0).map lowC, []), [], 6)
      | c2 :: t2 => if c2 = 61 then attrV ((c0 :: n0).map lowC) t2 else (((c0 :: n0).map lowC, []), c2 :: t2, 0)) := rfl
    rw [hR]
    generalize (c1 :: t1).takeWhile spS.contains = n1 at b1 b2 hk
    generalize (c1 :: t1).dropWhile spS.contains = r2 at b1 b3 ⊢
    have hcut2 := cut_at (Nat.le_of_lt hjs) (A := n1) (B := r2) (by rw [e1, b1])
    rw [hk] at hcut2
    obtain ⟨e4, e5, e6⟩ := hcut2
    have hkj : j ≤ k := by omega
    have HP1 := hid hp1
    clear hp1 hR b1 b2 e5 hk e1 e3 a3
    cases r2 with
    | nil =>
      obtain rfl : k = s.size := by simpa using e6
      have HP2 := hid True.intro
      have HF : Hid (∀ W', Below w.heap.size w W' → AttrSaid s ((((c0 :: n0).map lowC, []), [], 6)) w (.returned (.tuple #[.agg #[.string nm, .string ⟨#[]⟩], .int .i64 (s.size : Int), .int .i64 6])) W') := fun W' hb => by
        refine ⟨?_, hb⟩
        show _ = Ending.returned (.tuple #[.agg #[strV ((c0 :: n0).map lowC), strV []], .int .i64 ((s.size - 0 : Nat) : Int), .int .i64 6])
        rw [hnmv] <;> rfl
      simp only
      generalize (((c0 :: n0).map lowC, ([] : List UInt8)), ([] : List UInt8), 6) = XX at HF ⊢
      clear hnmv e4 b3 HP2
      go_enter Tryz.func83, Tryz.ntmps83
      go_wp2_with (first
        | (go_at_call 50; first | (with_reducible refine (HU1.out _).mono ?_; rintro e w' ⟨rfl, rfl⟩))
        | (go_at_call 72; with_reducible refine (HL.out _).mono ?_; rintro e w1 ⟨rfl, b1⟩; obtain ⟨hB1, hlt1, hb1, hb2⟩ := after_alloc b1; have x0 := cell_at hb1 (j := 0) rfl; have x1 := cell_at hb1 (j := 1) rfl; have f0 := free_at hb1 0; have f1 := free_at hb1 1; clear b1 hb2)
        | (go_at_call 82; first | (with_reducible refine (HP1.out _).mono ?_; rintro e w' ⟨rfl, rfl⟩)))
      refine bodyPost_ret (v := .tuple #[.agg #[.string nm, .string ⟨#[]⟩], .int .i64 s.size, .int .i64 6]) ?_ rfl (HF.out _ ?_)
      · have hz0 := two_stores hb1 (.string nm) (.string ⟨#[]⟩)
        have hz := (Go.Lib.alloc_old _ (.cells #[.string nm, .string ⟨#[]⟩] 65) _ (block_lt hz0)).trans hz0
        have z0 := cell_at hz (j := 0) rfl
        have z1 := cell_at hz (j := 1) rfl
        simp [results, Tryz.results83, go_sem, z0, z1]
      · first | exact ((hB1.setCell (Nat.le_refl _) _).setCell (Nat.le_refl _) _).alloc (Nat.le_of_lt hlt1) _ | exact ((hB1.setCell (Nat.le_refl _) _).setCell (Nat.le_refl _) _).alloc (by simp; omega) _
    | cons c2 t2 =>
      obtain ⟨hks, hx⟩ := byte_at e4
      by_cases h61 : c2 = 61
      · subst h61
        have q61 : (((61 : UInt8).toNat : Int) != 61) = false := rfl
        have hR : ∀ (nm : List UInt8), (match (61 : UInt8) :: t2 with
          | [] => ((nm, ([] : List UInt8)), ([] : List UInt8), 6)
          | c2 :: t2 => if c2 = 61 then attrV nm t2 else ((nm, []), c2 :: t2, 0)) = attrV nm t2 := fun nm => if_pos rfl
        rw [hR]
        clear hR
        have e7 : s.data.toList.drop (k + 1) = t2 := (cut_at (Nat.le_of_lt hks) (A := [61]) (B := t2) e4).1
        obtain ⟨k2, hk2⟩ : ∃ k2, k + 1 + (t2.takeWhile spS.contains).length = k2 := ⟨_, rfl⟩
        have hp2 : ∀ W, Calls Tryz.prog 82 #[.string s, .int .i64 ((k : Int) + 1), .string ⟨#[9, 10, 12, 13, 32]⟩] W fun e w' => e = .returned (.int .i64 (k2 : Int)) ∧ w' = W := fun W => past_at s (k + 1) spS (by omega) hs (by decide) ((k : Int) + 1) (by omega) t2 e7 k2 hk2 W
        obtain ⟨d1, d2, d3⟩ := span_of spS.contains t2
        have hR : attrV ((c0 :: n0).map lowC) t2 = (match t2.dropWhile spS.contains with
          | [] => (((c0 :: n0).map lowC, []), [], 7)
          | q :: t3 =>
            if q = 34 ∨ q = 39 then
              match t3.dropWhile (· != q) with
              | [] => (((c0 :: n0).map lowC, unr true (t3.takeWhile (· != q))), [], if q = 34 then 8 else 9)
              | _ :: t4 => (((c0 :: n0).map lowC, unr true (t3.takeWhile (· != q))), t4, 0)
            else if q = 62 then (((c0 :: n0).map lowC, []), q :: t3, 0)
            else
              match t3.dropWhile fun c => !bareE.contains c with
              | [] => (((c0 :: n0).map lowC, unr true (q :: t3.takeWhile fun c => !bareE.contains c)), [], 10)
              | c5 :: t5 => (((c0 :: n0).map lowC, unr true (q :: t3.takeWhile fun c => !bareE.contains c)), c5 :: t5, 0)) := rfl
        rw [hR]
        generalize t2.takeWhile spS.contains = n2 at d1 d2 hk2
        generalize t2.dropWhile spS.contains = r3 at d1 d3 ⊢
        have hcut3 := cut_at (s := s) (i := k + 1) (by omega) (A := n2) (B := r3) (by rw [e7, d1])
        rw [hk2] at hcut3
        obtain ⟨g1, g2, g3⟩ := hcut3
        have hk21 : k + 1 ≤ k2 := by omega
        have HP2 := hid hp2
        clear hp2 hR d1 d2 g2 hk2 e7 e4 b3 e6
        cases r3 with
        | nil =>
          obtain rfl : k2 = s.size := by simpa using g3
          have HF : Hid (∀ W', Below w.heap.size w W' → AttrSaid s ((((c0 :: n0).map lowC, []), [], 7)) w (.returned (.tuple #[.agg #[.string nm, .string ⟨#[]⟩], .int .i64 (s.size : Int), .int .i64 7])) W') := fun W' hb => by
            refine ⟨?_, hb⟩
            show _ = Ending.returned (.tuple #[.agg #[strV ((c0 :: n0).map lowC), strV []], .int .i64 ((s.size - 0 : Nat) : Int), .int .i64 7])
            rw [hnmv] <;> rfl
          simp only
          generalize (((c0 :: n0).map lowC, ([] : List UInt8)), ([] : List UInt8), 7) = XX at HF ⊢
          clear hnmv d3 g1
          go_enter Tryz.func83, Tryz.ntmps83
          go_wp2_with (first
            | (go_at_call 50; first | (with_reducible refine (HU1.out _).mono ?_; rintro e w' ⟨rfl, rfl⟩))
            | (go_at_call 72; with_reducible refine (HL.out _).mono ?_; rintro e w1 ⟨rfl, b1⟩; obtain ⟨hB1, hlt1, hb1, hb2⟩ := after_alloc b1; have x0 := cell_at hb1 (j := 0) rfl; have x1 := cell_at hb1 (j := 1) rfl; have f0 := free_at hb1 0; have f1 := free_at hb1 1; clear b1 hb2)
            | (go_at_call 82; first | (with_reducible refine (HP1.out _).mono ?_; rintro e w' ⟨rfl, rfl⟩) | (with_reducible refine (HP2.out _).mono ?_; rintro e w' ⟨rfl, rfl⟩)))
          refine bodyPost_ret (v := .tuple #[.agg #[.string nm, .string ⟨#[]⟩], .int .i64 s.size, .int .i64 7]) ?_ rfl (HF.out _ ?_)
          · have hz0 := two_stores hb1 (.string nm) (.string ⟨#[]⟩)
            have hz := (Go.Lib.alloc_old _ (.cells #[.string nm, .string ⟨#[]⟩] 65) _ (block_lt hz0)).trans hz0
            have z0 := cell_at hz (j := 0) rfl
            have z1 := cell_at hz (j := 1) rfl
            simp [results, Tryz.results83, go_sem, z0, z1]
          · first | exact ((hB1.setCell (Nat.le_refl _) _).setCell (Nat.le_refl _) _).alloc (Nat.le_of_lt hlt1) _ | exact ((hB1.setCell (Nat.le_refl _) _).setCell (Nat.le_refl _) _).alloc (by simp; omega) _
        | cons q t3 =>
          obtain ⟨hk2s, hx2⟩ := byte_at g1
          simp only
          have e8 : s.data.toList.drop (k2 + 1) = t3 := (cut_at (Nat.le_of_lt hk2s) (A := [q]) (B := t3) g1).1
          by_cases hq2 : q = 34 ∨ q = 39
          · rw [if_pos hq2]
            obtain ⟨k3, hk3⟩ : ∃ k3, k2 + 1 + (t3.takeWhile (· != q)).length = k3 := ⟨_, rfl⟩
            have hext : s.extract k2 (k2 + 1) = ⟨[q].toArray⟩ := by
              have := (cut_at (Nat.le_of_lt hk2s) (A := [q]) (B := t3) g1).2.1
              show s.extract k2 (k2 + 1) = _
              rw [show (s.extract k2 (k2 + 1)) = ⟨(s.extract k2 (k2 + 1)).data.toList.toArray⟩ from rfl]
              rw [show (s.extract k2 (k2 + 1)).data.toList = [q] from this]
            have hfun : (fun c => ![q].contains c) = (· != q) := by
              funext c
              simp [bne]
              rfl
            have hu2 : ∀ W, Calls Tryz.prog 50 #[.string s, .int .i64 ((k2 : Int) + 1), .string (s.extract k2 (k2 + 1))] W fun e w' => e = .returned (.int .i64 (k3 : Int)) ∧ w' = W := fun W => by
              rw [hext]
              exact until_at s (k2 + 1) [q] (by omega) hs (by simp) ((k2 : Int) + 1) (by omega) t3 e8 k3 (by rw [hfun]; exact hk3) W
            obtain ⟨m1, m2, m3⟩ := span_of (· != q) t3
            generalize t3.takeWhile (· != q) = v0 at m1 m2 hk3 ⊢
            generalize t3.dropWhile (· != q) = r4 at m1 m3 ⊢
            have hcut4 := cut_at (s := s) (i := k2 + 1) (by omega) (A := v0) (B := r4) (by rw [e8, m1])
            rw [hk3] at hcut4
            obtain ⟨p1, p2, p3⟩ := hcut4
            have hk23 : k2 + 1 ≤ k3 := by omega
            obtain ⟨vb, hvb⟩ : ∃ vb : ByteArray, vb = ⟨(unr true v0).toArray⟩ := ⟨_, rfl⟩
            have hr : ∀ W, RefTabs W → Calls Tryz.prog 38 #[.string (s.extract (k2 + 1) k3), .bool true] W fun e w' => e = .returned (.string vb) ∧ Below W.heap.size W w' := fun W hTW => by
              have := refUnref_any (s.extract (k2 + 1) k3) true W (by rw [size_eq, p2]; omega) hTW
              rw [p2, ← hvb] at this
              exact this
            have hvv : strV (unr true v0) = .string vb := by rw [hvb]; rfl
            have HU2 := hid hu2
            have HR := hid hr
            clear hu2 hr hfun hext m1 m2 p2 hvb e8 d3 g1 hk3
            cases r4 with
            | nil =>
              obtain rfl : k3 = s.size := by simpa using p3
              clear m3 p1
              rcases hq2 with rfl | rfl
              · have q34 : (((34 : UInt8).toNat : Int) == 34) = true := rfl
                have HF : Hid (∀ W', Below w.heap.size w W' → AttrSaid s ((((c0 :: n0).map lowC, unr true v0), [], 8)) w (.returned (.tuple #[.agg #[.string nm, .string vb], .int .i64 (s.size : Int), .int .i64 8])) W') := fun W' hb => by
                  refine ⟨?_, hb⟩
                  show _ = Ending.returned (.tuple #[.agg #[strV ((c0 :: n0).map lowC), strV (unr true v0)], .int .i64 ((s.size - 0 : Nat) : Int), .int .i64 8])
                  rw [hnmv, hvv] <;> rfl
                simp only [if_true]
                generalize (((c0 :: n0).map lowC, unr true v0), ([] : List UInt8), 8) = XX at HF ⊢
                clear hnmv hvv p3
                go_enter Tryz.func83, Tryz.ntmps83
                go_wp2_with (first
                  | (go_at_call 50; first | (with_reducible refine (HU1.out _).mono ?_; rintro e w' ⟨rfl, rfl⟩) | (with_reducible refine (HU2.out _).mono ?_; rintro e w' ⟨rfl, rfl⟩))
                  | (go_at_call 72; with_reducible refine (HL.out _).mono ?_; rintro e w1 ⟨rfl, b1⟩; obtain ⟨hB1, hlt1, hb1, hb2⟩ := after_alloc b1; have x0 := cell_at hb1 (j := 0) rfl; have x1 := cell_at hb1 (j := 1) rfl; have f0 := free_at hb1 0; have f1 := free_at hb1 1; clear b1 hb2)
                  | (go_at_call 82; first | (with_reducible refine (HP1.out _).mono ?_; rintro e w' ⟨rfl, rfl⟩) | (with_reducible refine (HP2.out _).mono ?_; rintro e w' ⟨rfl, rfl⟩))
                  | (go_at_call 38; with_reducible refine (HR.out _ (HT.out.below (hB1.alloc (Nat.le_of_lt hlt1) _))).mono ?_; rintro e w2 ⟨rfl, b2⟩; obtain ⟨hB2, hlt2, hc1, hc2⟩ := after_alloc b2; clear x0 x1 f0 f1; have hb3 := (hB2.block _ hlt1).trans hb1; have x0 := cell_at hb3 (j := 0) rfl; have x1 := cell_at hb3 (j := 1) rfl; have f0 := free_at hb3 0; have f1 := free_at hb3 1; have y0 := cell_at hc1 (j := 0) rfl; have y1 := cell_at hc1 (j := 1) rfl; have g0 := free_at hc1 0; have g1 := free_at hc1 1; have hne : w.heap.size ≠ w1.heap.size := Nat.ne_of_lt hlt1; have hne2 : w1.heap.size ≠ w.heap.size := Nat.ne_of_gt hlt1; have hB3 := hB1.trans (hB2.mono (Nat.le_of_lt hlt1)); clear b2 hc1 hc2 hb1))
                refine bodyPost_ret (v := .tuple #[.agg #[.string nm, .string vb], .int .i64 s.size, .int .i64 8]) ?_ rfl (HF.out _ ?_)
                · have hz := two_stores (W := w2.setCell ⟨w1.heap.size, 1, none⟩ (.string vb)) (b := w.heap.size) ((heap_setCell_other _ _ _ _ hne).trans hb3) (.string nm) (.string vb)
                  have z0 := cell_at hz (j := 0) rfl
                  have z1 := cell_at hz (j := 1) rfl
                  simp [results, Tryz.results83, go_sem, z0, z1]
                · first | exact (((hB3.setCell (Nat.le_of_lt hlt1) _).setCell (Nat.le_refl _) _).setCell (Nat.le_refl _) _)
              · have q34 : (((39 : UInt8).toNat : Int) == 34) = false := rfl
                have q39 : (((39 : UInt8).toNat : Int) == 39) = true := rfl
                have HF : Hid (∀ W', Below w.heap.size w W' → AttrSaid s ((((c0 :: n0).map lowC, unr true v0), [], 9)) w (.returned (.tuple #[.agg #[.string nm, .string vb], .int .i64 (s.size : Int), .int .i64 9])) W') := fun W' hb => by
                  refine ⟨?_, hb⟩
                  show _ = Ending.returned (.tuple #[.agg #[strV ((c0 :: n0).map lowC), strV (unr true v0)], .int .i64 ((s.size - 0 : Nat) : Int), .int .i64 9])
                  rw [hnmv, hvv] <;> rfl
                simp only [show ¬ ((39 : UInt8) = 34) by decide, if_false]
                generalize (((c0 :: n0).map lowC, unr true v0), ([] : List UInt8), 9) = XX at HF ⊢
                clear hnmv hvv p3
                go_enter Tryz.func83, Tryz.ntmps83
                go_wp2_with (first
                  | (go_at_call 50; first | (with_reducible refine (HU1.out _).mono ?_; rintro e w' ⟨rfl, rfl⟩) | (with_reducible refine (HU2.out _).mono ?_; rintro e w' ⟨rfl, rfl⟩))
                  | (go_at_call 72; with_reducible refine (HL.out _).mono ?_; rintro e w1 ⟨rfl, b1⟩; obtain ⟨hB1, hlt1, hb1, hb2⟩ := after_alloc b1; have x0 := cell_at hb1 (j := 0) rfl; have x1 := cell_at hb1 (j := 1) rfl; have f0 := free_at hb1 0; have f1 := free_at hb1 1; clear b1 hb2)
                  | (go_at_call 82; first | (with_reducible refine (HP1.out _).mono ?_; rintro e w' ⟨rfl, rfl⟩) | (with_reducible refine (HP2.out _).mono ?_; rintro e w' ⟨rfl, rfl⟩))
                  | (go_at_call 38; with_reducible refine (HR.out _ (HT.out.below (hB1.alloc (Nat.le_of_lt hlt1) _))).mono ?_; rintro e w2 ⟨rfl, b2⟩; obtain ⟨hB2, hlt2, hc1, hc2⟩ := after_alloc b2; clear x0 x1 f0 f1; have hb3 := (hB2.block _ hlt1).trans hb1; have x0 := cell_at hb3 (j := 0) rfl; have x1 := cell_at hb3 (j := 1) rfl; have f0 := free_at hb3 0; have f1 := free_at hb3 1; have y0 := cell_at hc1 (j := 0) rfl; have y1 := cell_at hc1 (j := 1) rfl; have g0 := free_at hc1 0; have g1 := free_at hc1 1; have hne : w.heap.size ≠ w1.heap.size := Nat.ne_of_lt hlt1; have hne2 : w1.heap.size ≠ w.heap.size := Nat.ne_of_gt hlt1; have hB3 := hB1.trans (hB2.mono (Nat.le_of_lt hlt1)); clear b2 hc1 hc2 hb1))
                refine bodyPost_ret (v := .tuple #[.agg #[.string nm, .string vb], .int .i64 s.size, .int .i64 9]) ?_ rfl (HF.out _ ?_)
                · have hz := two_stores (W := w2.setCell ⟨w1.heap.size, 1, none⟩ (.string vb)) (b := w.heap.size) ((heap_setCell_other _ _ _ _ hne).trans hb3) (.string nm) (.string vb)
                  have z0 := cell_at hz (j := 0) rfl
                  have z1 := cell_at hz (j := 1) rfl
                  simp [results, Tryz.results83, go_sem, z0, z1]
                · first | exact (((hB3.setCell (Nat.le_of_lt hlt1) _).setCell (Nat.le_refl _) _).setCell (Nat.le_refl _) _)
            | cons c4 t4 =>
              have hk3s : k3 < s.size := by simp only [List.length_cons] at p3; omega
              have HF : Hid (∀ W', Below w.heap.size w W' → AttrSaid s ((((c0 :: n0).map lowC, unr true v0), t4, 0)) w (.returned (.tuple #[.agg #[.string nm, .string vb], .int .i64 ((k3 : Int) + 1), .int .i64 0])) W') := fun W' hb => by
                refine ⟨?_, hb⟩
                show _ = Ending.returned (.tuple #[.agg #[strV ((c0 :: n0).map lowC), strV (unr true v0)], .int .i64 ((s.size - t4.length : Nat) : Int), .int .i64 0])
                rw [hnmv, hvv, show s.size - t4.length = k3 + 1 by simp only [List.length_cons] at p3; omega] <;> rfl
              simp only
              generalize (((c0 :: n0).map lowC, unr true v0), t4, 0) = XX at HF ⊢
              clear hnmv hvv p3 m3 p1
              rcases hq2 with rfl | rfl
              · have q34 : (((34 : UInt8).toNat : Int) == 34) = true := rfl
                go_enter Tryz.func83, Tryz.ntmps83
                go_wp2_with (first
                  | (go_at_call 50; first | (with_reducible refine (HU1.out _).mono ?_; rintro e w' ⟨rfl, rfl⟩) | (with_reducible refine (HU2.out _).mono ?_; rintro e w' ⟨rfl, rfl⟩))
                  | (go_at_call 72; with_reducible refine (HL.out _).mono ?_; rintro e w1 ⟨rfl, b1⟩; obtain ⟨hB1, hlt1, hb1, hb2⟩ := after_alloc b1; have x0 := cell_at hb1 (j := 0) rfl; have x1 := cell_at hb1 (j := 1) rfl; have f0 := free_at hb1 0; have f1 := free_at hb1 1; clear b1 hb2)
                  | (go_at_call 82; first | (with_reducible refine (HP1.out _).mono ?_; rintro e w' ⟨rfl, rfl⟩) | (with_reducible refine (HP2.out _).mono ?_; rintro e w' ⟨rfl, rfl⟩))
                  | (go_at_call 38; with_reducible refine (HR.out _ (HT.out.below (hB1.alloc (Nat.le_of_lt hlt1) _))).mono ?_; rintro e w2 ⟨rfl, b2⟩; obtain ⟨hB2, hlt2, hc1, hc2⟩ := after_alloc b2; clear x0 x1 f0 f1; have hb3 := (hB2.block _ hlt1).trans hb1; have x0 := cell_at hb3 (j := 0) rfl; have x1 := cell_at hb3 (j := 1) rfl; have f0 := free_at hb3 0; have f1 := free_at hb3 1; have y0 := cell_at hc1 (j := 0) rfl; have y1 := cell_at hc1 (j := 1) rfl; have g0 := free_at hc1 0; have g1 := free_at hc1 1; have hne : w.heap.size ≠ w1.heap.size := Nat.ne_of_lt hlt1; have hne2 : w1.heap.size ≠ w.heap.size := Nat.ne_of_gt hlt1; have hB3 := hB1.trans (hB2.mono (Nat.le_of_lt hlt1)); clear b2 hc1 hc2 hb1))
                refine bodyPost_ret (v := .tuple #[.agg #[.string nm, .string vb], .int .i64 ((k3 : Int) + 1), .int .i64 0]) ?_ rfl (HF.out _ ?_)
                · have hz := two_stores (W := w2.setCell ⟨w1.heap.size, 1, none⟩ (.string vb)) (b := w.heap.size) ((heap_setCell_other _ _ _ _ hne).trans hb3) (.string nm) (.string vb)
                  have z0 := cell_at hz (j := 0) rfl
                  have z1 := cell_at hz (j := 1) rfl
                  simp [results, Tryz.results83, go_sem, z0, z1]
                · first | exact (((hB3.setCell (Nat.le_of_lt hlt1) _).setCell (Nat.le_refl _) _).setCell (Nat.le_refl _) _)
              · have q34 : (((39 : UInt8).toNat : Int) == 34) = false := rfl
                have q39 : (((39 : UInt8).toNat : Int) == 39) = true := rfl
                go_enter Tryz.func83, Tryz.ntmps83
                go_wp2_with (first
                  | (go_at_call 50; first | (with_reducible refine (HU1.out _).mono ?_; rintro e w' ⟨rfl, rfl⟩) | (with_reducible refine (HU2.out _).mono ?_; rintro e w' ⟨rfl, rfl⟩))
                  | (go_at_call 72; with_reducible refine (HL.out _).mono ?_; rintro e w1 ⟨rfl, b1⟩; obtain ⟨hB1, hlt1, hb1, hb2⟩ := after_alloc b1; have x0 := cell_at hb1 (j := 0) rfl; have x1 := cell_at hb1 (j := 1) rfl; have f0 := free_at hb1 0; have f1 := free_at hb1 1; clear b1 hb2)
                  | (go_at_call 82; first | (with_reducible refine (HP1.out _).mono ?_; rintro e w' ⟨rfl, rfl⟩) | (with_reducible refine (HP2.out _).mono ?_; rintro e w' ⟨rfl, rfl⟩))
                  | (go_at_call 38; with_reducible refine (HR.out _ (HT.out.below (hB1.alloc (Nat.le_of_lt hlt1) _))).mono ?_; rintro e w2 ⟨rfl, b2⟩; obtain ⟨hB2, hlt2, hc1, hc2⟩ := after_alloc b2; clear x0 x1 f0 f1; have hb3 := (hB2.block _ hlt1).trans hb1; have x0 := cell_at hb3 (j := 0) rfl; have x1 := cell_at hb3 (j := 1) rfl; have f0 := free_at hb3 0; have f1 := free_at hb3 1; have y0 := cell_at hc1 (j := 0) rfl; have y1 := cell_at hc1 (j := 1) rfl; have g0 := free_at hc1 0; have g1 := free_at hc1 1; have hne : w.heap.size ≠ w1.heap.size := Nat.ne_of_lt hlt1; have hne2 : w1.heap.size ≠ w.heap.size := Nat.ne_of_gt hlt1; have hB3 := hB1.trans (hB2.mono (Nat.le_of_lt hlt1)); clear b2 hc1 hc2 hb1))
                refine bodyPost_ret (v := .tuple #[.agg #[.string nm, .string vb], .int .i64 ((k3 : Int) + 1), .int .i64 0]) ?_ rfl (HF.out _ ?_)
                · have hz := two_stores (W := w2.setCell ⟨w1.heap.size, 1, none⟩ (.string vb)) (b := w.heap.size) ((heap_setCell_other _ _ _ _ hne).trans hb3) (.string nm) (.string vb)
                  have z0 := cell_at hz (j := 0) rfl
                  have z1 := cell_at hz (j := 1) rfl
                  simp [results, Tryz.results83, go_sem, z0, z1]
                · first | exact (((hB3.setCell (Nat.le_of_lt hlt1) _).setCell (Nat.le_refl _) _).setCell (Nat.le_refl _) _)
          · rw [if_neg hq2]
            have q34 : ((q.toNat : Int) == 34) = false := beq_eq_false_iff_ne.2 (fun h => hq2 (.inl (UInt8.toNat_inj.1 (by show q.toNat = 34; omega))))
            have q39 : ((q.toNat : Int) == 39) = false := beq_eq_false_iff_ne.2 (fun h => hq2 (.inr (UInt8.toNat_inj.1 (by show q.toNat = 39; omega))))
            by_cases hq62 : q = 62
            · have q62 : ((q.toNat : Int) != 62) = false := by rw [hq62]; rfl
              rw [if_pos hq62]
              have HF : Hid (∀ W', Below w.heap.size w W' → AttrSaid s ((((c0 :: n0).map lowC, []), q :: t3, 0)) w (.returned (.tuple #[.agg #[.string nm, .string ⟨#[]⟩], .int .i64 (k2 : Int), .int .i64 0])) W') := fun W' hb => by
                refine ⟨?_, hb⟩
                show _ = Ending.returned (.tuple #[.agg #[strV ((c0 :: n0).map lowC), strV []], .int .i64 ((s.size - (q :: t3).length : Nat) : Int), .int .i64 0])
                rw [hnmv, show s.size - (q :: t3).length = k2 by omega] <;> rfl
              generalize (((c0 :: n0).map lowC, ([] : List UInt8)), q :: t3, 0) = XX at HF ⊢
              clear hnmv g1 e8 hq2 hq62 d3 g3
              go_enter Tryz.func83, Tryz.ntmps83
              go_wp2_with (first
                | (go_at_call 50; first | (with_reducible refine (HU1.out _).mono ?_; rintro e w' ⟨rfl, rfl⟩))
                | (go_at_call 72; with_reducible refine (HL.out _).mono ?_; rintro e w1 ⟨rfl, b1⟩; obtain ⟨hB1, hlt1, hb1, hb2⟩ := after_alloc b1; have x0 := cell_at hb1 (j := 0) rfl; have x1 := cell_at hb1 (j := 1) rfl; have f0 := free_at hb1 0; have f1 := free_at hb1 1; clear b1 hb2)
                | (go_at_call 82; first | (with_reducible refine (HP1.out _).mono ?_; rintro e w' ⟨rfl, rfl⟩) | (with_reducible refine (HP2.out _).mono ?_; rintro e w' ⟨rfl, rfl⟩)))
              refine bodyPost_ret (v := .tuple #[.agg #[.string nm, .string ⟨#[]⟩], .int .i64 k2, .int .i64 0]) ?_ rfl (HF.out _ ?_)
              · have hz0 := two_stores hb1 (.string nm) (.string ⟨#[]⟩)
                have hz := (Go.Lib.alloc_old _ (.cells #[.string nm, .string ⟨#[]⟩] 65) _ (block_lt hz0)).trans hz0
                have z0 := cell_at hz (j := 0) rfl
                have z1 := cell_at hz (j := 1) rfl
                simp [results, Tryz.results83, go_sem, z0, z1]
              · first | exact ((hB1.setCell (Nat.le_refl _) _).setCell (Nat.le_refl _) _).alloc (Nat.le_of_lt hlt1) _ | exact ((hB1.setCell (Nat.le_refl _) _).setCell (Nat.le_refl _) _).alloc (by simp; omega) _
            · rw [if_neg hq62]
              have q62 : ((q.toNat : Int) != 62) = true := bne_iff_ne.2 (fun h => hq62 (UInt8.toNat_inj.1 (by show q.toNat = 62; omega)))
              have hq : spS.contains q = false := d3 q t3 rfl
              have hqb : bareE.contains q = false := by
                have : ∀ q : UInt8, bareE.contains q = (spS.contains q || q == 62) := all8 (by decide +kernel)
                rw [this, hq, Bool.false_or]
                exact beq_eq_false_iff_ne.2 hq62
              obtain ⟨k3, hk3⟩ : ∃ k3, k2 + (q :: t3.takeWhile fun c => !bareE.contains c).length = k3 := ⟨_, rfl⟩
              have hu2 : ∀ W, Calls Tryz.prog 50 #[.string s, .int .i64 (k2 : Int), .string ⟨#[9, 10, 12, 13, 32, 62]⟩] W fun e w' => e = .returned (.int .i64 (k3 : Int)) ∧ w' = W := fun W =>
                until_at s k2 bareE (by omega) hs (by decide) (k2 : Int) rfl (q :: t3) g1 k3 (by rw [List.takeWhile_cons_of_pos (by rw [hqb]; rfl)]; exact hk3) W
              obtain ⟨m1, m2, m3⟩ := span_of (fun c => !bareE.contains c) t3
              generalize t3.takeWhile (fun c => !bareE.contains c) = v0 at m1 m2 hk3 ⊢
              generalize t3.dropWhile (fun c => !bareE.contains c) = r4 at m1 m3 ⊢
              have hcut4 := cut_at (s := s) (i := k2) (by omega) (A := q :: v0) (B := r4) (by rw [g1, m1]; rfl)
              rw [hk3] at hcut4
              obtain ⟨p1, p2, p3⟩ := hcut4
              have hk23 : k2 ≤ k3 := by omega
              obtain ⟨vb, hvb⟩ : ∃ vb : ByteArray, vb = ⟨(unr true (q :: v0)).toArray⟩ := ⟨_, rfl⟩
              have hr : ∀ W, RefTabs W → Calls Tryz.prog 38 #[.string (s.extract k2 k3), .bool true] W fun e w' => e = .returned (.string vb) ∧ Below W.heap.size W w' := fun W hTW => by
                have := refUnref_any (s.extract k2 k3) true W (by rw [size_eq, p2]; omega) hTW
                rw [p2, ← hvb] at this
                exact this
              have hvv : strV (unr true (q :: v0)) = .string vb := by rw [hvb]; rfl
              have HU2 := hid hu2
              have HR := hid hr
              clear hu2 hr hqb hq m1 m2 p2 hvb e8 d3 g1 hk3 hq2 hq62 g3
              cases r4 with
              | nil =>
                obtain rfl : k3 = s.size := by simpa using p3
                clear m3 p1
                have HF : Hid (∀ W', Below w.heap.size w W' → AttrSaid s ((((c0 :: n0).map lowC, unr true (q :: v0)), [], 10)) w (.returned (.tuple #[.agg #[.string nm, .string vb], .int .i64 (s.size : Int), .int .i64 10])) W') := fun W' hb => by
                  refine ⟨?_, hb⟩
                  show _ = Ending.returned (.tuple #[.agg #[strV ((c0 :: n0).map lowC), strV (unr true (q :: v0))], .int .i64 ((s.size - 0 : Nat) : Int), .int .i64 10])
                  rw [hnmv, hvv] <;> rfl
                simp only
                generalize (((c0 :: n0).map lowC, unr true (q :: v0)), ([] : List UInt8), 10) = XX at HF ⊢
                clear hnmv hvv p3
                go_enter Tryz.func83, Tryz.ntmps83
                go_wp2_with (first
                  | (go_at_call 50; first | (with_reducible refine (HU1.out _).mono ?_; rintro e w' ⟨rfl, rfl⟩) | (with_reducible refine (HU2.out _).mono ?_; rintro e w' ⟨rfl, rfl⟩))
                  | (go_at_call 72; with_reducible refine (HL.out _).mono ?_; rintro e w1 ⟨rfl, b1⟩; obtain ⟨hB1, hlt1, hb1, hb2⟩ := after_alloc b1; have x0 := cell_at hb1 (j := 0) rfl; have x1 := cell_at hb1 (j := 1) rfl; have f0 := free_at hb1 0; have f1 := free_at hb1 1; clear b1 hb2)
                  | (go_at_call 82; first | (with_reducible refine (HP1.out _).mono ?_; rintro e w' ⟨rfl, rfl⟩) | (with_reducible refine (HP2.out _).mono ?_; rintro e w' ⟨rfl, rfl⟩))
                  | (go_at_call 38; with_reducible refine (HR.out _ (HT.out.below (hB1.alloc (Nat.le_of_lt hlt1) _))).mono ?_; rintro e w2 ⟨rfl, b2⟩; obtain ⟨hB2, hlt2, hc1, hc2⟩ := after_alloc b2; clear x0 x1 f0 f1; have hb3 := (hB2.block _ hlt1).trans hb1; have x0 := cell_at hb3 (j := 0) rfl; have x1 := cell_at hb3 (j := 1) rfl; have f0 := free_at hb3 0; have f1 := free_at hb3 1; have y0 := cell_at hc1 (j := 0) rfl; have y1 := cell_at hc1 (j := 1) rfl; have g0 := free_at hc1 0; have g1 := free_at hc1 1; have hne : w.heap.size ≠ w1.heap.size := Nat.ne_of_lt hlt1; have hne2 : w1.heap.size ≠ w.heap.size := Nat.ne_of_gt hlt1; have hB3 := hB1.trans (hB2.mono (Nat.le_of_lt hlt1)); clear b2 hc1 hc2 hb1))
                refine bodyPost_ret (v := .tuple #[.agg #[.string nm, .string vb], .int .i64 s.size, .int .i64 10]) ?_ rfl (HF.out _ ?_)
                · have hz := two_stores (W := w2.setCell ⟨w1.heap.size, 1, none⟩ (.string vb)) (b := w.heap.size) ((heap_setCell_other _ _ _ _ hne).trans hb3) (.string nm) (.string vb)
                  have z0 := cell_at hz (j := 0) rfl
                  have z1 := cell_at hz (j := 1) rfl
                  simp [results, Tryz.results83, go_sem, z0, z1]
                · first | exact (((hB3.setCell (Nat.le_of_lt hlt1) _).setCell (Nat.le_refl _) _).setCell (Nat.le_refl _) _)
              | cons c4 t4 =>
                have hk3s : k3 < s.size := by simp only [List.length_cons] at p3; omega
                have HF : Hid (∀ W', Below w.heap.size w W' → AttrSaid s ((((c0 :: n0).map lowC, unr true (q :: v0)), c4 :: t4, 0)) w (.returned (.tuple #[.agg #[.string nm, .string vb], .int .i64 (k3 : Int), .int .i64 0])) W') := fun W' hb => by
                  refine ⟨?_, hb⟩
                  show _ = Ending.returned (.tuple #[.agg #[strV ((c0 :: n0).map lowC), strV (unr true (q :: v0))], .int .i64 ((s.size - (c4 :: t4).length : Nat) : Int), .int .i64 0])
                  rw [hnmv, hvv, show s.size - (c4 :: t4).length = k3 by omega] <;> rfl
                simp only
                generalize (((c0 :: n0).map lowC, unr true (q :: v0)), c4 :: t4, 0) = XX at HF ⊢
                clear hnmv hvv p3 m3 p1
                go_enter Tryz.func83, Tryz.ntmps83
                go_wp2_with (first
                  | (go_at_call 50; first | (with_reducible refine (HU1.out _).mono ?_; rintro e w' ⟨rfl, rfl⟩) | (with_reducible refine (HU2.out _).mono ?_; rintro e w' ⟨rfl, rfl⟩))
                  | (go_at_call 72; with_reducible refine (HL.out _).mono ?_; rintro e w1 ⟨rfl, b1⟩; obtain ⟨hB1, hlt1, hb1, hb2⟩ := after_alloc b1; have x0 := cell_at hb1 (j := 0) rfl; have x1 := cell_at hb1 (j := 1) rfl; have f0 := free_at hb1 0; have f1 := free_at hb1 1; clear b1 hb2)
                  | (go_at_call 82; first | (with_reducible refine (HP1.out _).mono ?_; rintro e w' ⟨rfl, rfl⟩) | (with_reducible refine (HP2.out _).mono ?_; rintro e w' ⟨rfl, rfl⟩))
                  | (go_at_call 38; with_reducible refine (HR.out _ (HT.out.below (hB1.alloc (Nat.le_of_lt hlt1) _))).mono ?_; rintro e w2 ⟨rfl, b2⟩; obtain ⟨hB2, hlt2, hc1, hc2⟩ := after_alloc b2; clear x0 x1 f0 f1; have hb3 := (hB2.block _ hlt1).trans hb1; have x0 := cell_at hb3 (j := 0) rfl; have x1 := cell_at hb3 (j := 1) rfl; have f0 := free_at hb3 0; have f1 := free_at hb3 1; have y0 := cell_at hc1 (j := 0) rfl; have y1 := cell_at hc1 (j := 1) rfl; have g0 := free_at hc1 0; have g1 := free_at hc1 1; have hne : w.heap.size ≠ w1.heap.size := Nat.ne_of_lt hlt1; have hne2 : w1.heap.size ≠ w.heap.size := Nat.ne_of_gt hlt1; have hB3 := hB1.trans (hB2.mono (Nat.le_of_lt hlt1)); clear b2 hc1 hc2 hb1))
                refine bodyPost_ret (v := .tuple #[.agg #[.string nm, .string vb], .int .i64 (k3 : Int), .int .i64 0]) ?_ rfl (HF.out _ ?_)
                · have hz := two_stores (W := w2.setCell ⟨w1.heap.size, 1, none⟩ (.string vb)) (b := w.heap.size) ((heap_setCell_other _ _ _ _ hne).trans hb3) (.string nm) (.string vb)
                  have z0 := cell_at hz (j := 0) rfl
                  have z1 := cell_at hz (j := 1) rfl
                  simp [results, Tryz.results83, go_sem, z0, z1]
                · first | exact (((hB3.setCell (Nat.le_of_lt hlt1) _).setCell (Nat.le_refl _) _).setCell (Nat.le_refl _) _)
      · have q61 : ((c2.toNat : Int) != 61) = true := bne_iff_ne.2 (fun h => h61 (UInt8.toNat_inj.1 (by show c2.toNat = 61; omega)))
        have HF : Hid (∀ W', Below w.heap.size w W' → AttrSaid s ((((c0 :: n0).map lowC, []), c2 :: t2, 0)) w (.returned (.tuple #[.agg #[.string nm, .string ⟨#[]⟩], .int .i64 (k : Int), .int .i64 0])) W') := fun W' hb => by
          refine ⟨?_, hb⟩
          show _ = Ending.returned (.tuple #[.agg #[strV ((c0 :: n0).map lowC), strV []], .int .i64 ((s.size - (c2 :: t2).length : Nat) : Int), .int .i64 0])
          rw [hnmv, show s.size - (c2 :: t2).length = k by omega] <;> rfl
        simp only [if_neg h61]
        generalize (((c0 :: n0).map lowC, ([] : List UInt8)), c2 :: t2, 0) = XX at HF ⊢
        have HP2 := hid True.intro
        clear hnmv e4 b3 HP2 e6 h61
        go_enter Tryz.func83, Tryz.ntmps83
        go_wp2_with (first
          | (go_at_call 50; first | (with_reducible refine (HU1.out _).mono ?_; rintro e w' ⟨rfl, rfl⟩))
          | (go_at_call 72; with_reducible refine (HL.out _).mono ?_; rintro e w1 ⟨rfl, b1⟩; obtain ⟨hB1, hlt1, hb1, hb2⟩ := after_alloc b1; have x0 := cell_at hb1 (j := 0) rfl; have x1 := cell_at hb1 (j := 1) rfl; have f0 := free_at hb1 0; have f1 := free_at hb1 1; clear b1 hb2)
          | (go_at_call 82; first | (with_reducible refine (HP1.out _).mono ?_; rintro e w' ⟨rfl, rfl⟩)))
        refine bodyPost_ret (v := .tuple #[.agg #[.string nm, .string ⟨#[]⟩], .int .i64 k, .int .i64 0]) ?_ rfl (HF.out _ ?_)
        · have hz0 := two_stores hb1 (.string nm) (.string ⟨#[]⟩)
          have hz := (Go.Lib.alloc_old _ (.cells #[.string nm, .string ⟨#[]⟩] 65) _ (block_lt hz0)).trans hz0
          have z0 := cell_at hz (j := 0) rfl
          have z1 := cell_at hz (j := 1) rfl
          simp [results, Tryz.results83, go_sem, z0, z1]
        · first | exact ((hB1.setCell (Nat.le_refl _) _).setCell (Nat.le_refl _) _).alloc (Nat.le_of_lt hlt1) _ | exact ((hB1.setCell (Nat.le_refl _) _).setCell (Nat.le_refl _) _).alloc (by simp; omega) _
end Go.Proofs.YtndglhflbenloaaGreatDoor

/-
  lexer.tagName: its walk.
-/
namespace Go.Proofs.YtndglhflbenloaaGreatDoor
open Go.RowKit Go.Lib Own

def nameC (c : UInt8) : Bool := nextT 3 c == 3
theorem tagName_eq (L : List UInt8) : tagNameL L = (L.takeWhile nameC).map lowC := rfl
set_option maxHeartbeats 1000000 in
theorem tagName_any (s : ByteArray) (w : World) (hs : s.size ≤ 10000000) (hT : TagTabs w) :
    Calls Tryz.prog 104 #[.string s] w fun e w' => e = .returned (.string ⟨(tagNameL s.data.toList).toArray⟩) ∧ Below w.heap.size w w' := by
  obtain ⟨E, hE⟩ : ∃ E, (s.data.toList.takeWhile nameC).length = E := ⟨_, rfl⟩
  have hEs : E ≤ s.size := by
    rw [← hE, size_eq]
    exact (List.takeWhile_prefix (p := nameC) (l := s.data.toList)).length_le
  have hlist : (s.extract 0 E).data.toList = s.data.toList.takeWhile nameC := by
    rw [take_extract, ← hE]
    exact (List.prefix_iff_eq_take.1 (List.takeWhile_prefix nameC)).symm
  have hlow := fun W => lower_any (s.extract 0 E) W (by rw [ByteArray.size_extract]; omega)
  rw [hlist] at hlow
  rw [tagName_eq]
  generalize (s.data.toList.takeWhile nameC).map lowC = N at hlow ⊢
  have HL := hid hlow
  have HE := hid (fun (_ : True) => hE)
  have HT := hid hT
  clear hlow hlist hE hT
  go_enter Tryz.func104, Tryz.ntmps104
  go_wp2
  go_loopw [3] (fun iv wr => ∃ (k m : Nat), iv = .int .i64 k ∧ k ≤ s.size ∧ wr = w.drewN m ∧ Hid (True → k + ((s.data.toList.drop k).takeWhile nameC).length = E)) (fun iv _ => s.size - (RowKit.intOf iv).toNat)
  case atStart => exact ⟨0, 0, rfl, Nat.zero_le _, rfl, hid (fun _ => by rw [Nat.zero_add]; exact HE.out trivial)⟩
  case round =>
    obtain ⟨k, m, rfl, hk, rfl, HA⟩ := hrel
    by_cases hp : k < s.size
    · obtain ⟨x, hx⟩ : ∃ x, s[k]'hp = x := ⟨_, rfl⟩
      have hl := getElem_list hp hx
      have hcall := behind_any 3 x (by omega) (by omega) (w.drewN m) HT.out
      have hnx := next_range 3 (by omega) (by omega) x
      by_cases hn : nameC x = true
      · have h3 : nextT 3 x = 3 := beq_iff_eq.1 hn
        rw [h3] at hcall
        have HC := hid hcall
        have HB : Hid (True → k + 1 + ((s.data.toList.drop (k + 1)).takeWhile nameC).length = E) := by
          have := HA.out trivial
          rw [while_step hl hn, List.length_cons] at this
          exact hid (fun _ => by omega)
        clear hcall hnx h3 hn hl HA
        go_wp2_with (go_at_call 100; refine HC.out.mono ?_; rintro e w' ⟨rfl, nd, rfl⟩)
        go_roundw
        case rel => exact ⟨k + 1, m + nd, rfl, by omega, rfl, HB.out⟩
        case measure => simp [RowKit.intOf]; omega
      · have h3 : ((nextT 3 x : Int) == 3) = false := by
          refine beq_eq_false_iff_ne.2 (fun h => hn ?_)
          exact beq_iff_eq.2 (by omega)
        have hkE : k = E := by
          have := HA.out trivial
          rw [while_stop (fun c hc => by rw [hl] at hc; cases hc; simpa using hn)] at this
          simpa using this
        subst hkE
        generalize nextT 3 x = v at hcall h3 hnx
        have HC := hid hcall
        clear hcall hn hl HA HE
        go_wp2_with (first | (go_at_call 100; refine HC.out.mono ?_; rintro e w' ⟨rfl, nd, rfl⟩) | (go_at_call 126; refine (HL.out _).mono ?_; rintro e w9 ⟨rfl, b9⟩))
        go_ret
        exact ⟨rfl, ⟨b9.os, b9.tape, b9.output, b9.size, b9.block⟩⟩
    · have hkE : k = E := by
        have := HA.out trivial
        rw [List.drop_of_length_le (by rw [← size_eq]; omega)] at this
        simpa using this
      subst hkE
      clear HA HE
      go_wp2_with (go_at_call 126; refine (HL.out _).mono ?_; rintro e w9 ⟨rfl, b9⟩)
      go_ret
      exact ⟨rfl, ⟨b9.os, b9.tape, b9.output, b9.size, b9.block⟩⟩
end Go.Proofs.YtndglhflbenloaaGreatDoor

/-
  lexer.tagAttrs: its walk.
-/
namespace Go.Proofs.YtndglhflbenloaaGreatDoor
open Go.RowKit Go.Lib Own

def attrsV (l : List (List UInt8 × List UInt8)) : List Value := l.flatMap fun a => [strV a.1, strV a.2]
theorem attrsV_len : ∀ l : List (List UInt8 × List UInt8), (attrsV l).length = l.length * 2
  | [] => rfl
  | a :: l => by
    have := attrsV_len l
    unfold attrsV at this ⊢
    simp only [List.flatMap_cons, List.length_append, List.length_cons, List.length_nil, this]
    omega
theorem attrsV_app (a b : List (List UInt8 × List UInt8)) : attrsV (a ++ b) = attrsV a ++ attrsV b := by
  unfold attrsV
  rw [List.flatMap_append]
theorem attrsV_set (ini : List (List UInt8 × List UInt8)) (a : List UInt8 × List UInt8) (u : List UInt8) : (attrsV (ini ++ [a])).set (ini.length * 2 + 1) (strV u) = attrsV (ini ++ [(a.1, u)]) := by
  rw [attrsV_app, attrsV_app, List.set_append, attrsV_len, if_neg (by omega), Nat.add_sub_cancel_left]
  rfl
theorem info_attr : (Tryz.prog.info? 65).map (fun i => (i.zero, i.size, i.bytes)) = some (some (.agg #[.string ⟨#[]⟩, .string ⟨#[]⟩]), 2, 32) := by kernel_rfl
theorem part_more (L : List UInt8) (f k : Nat) (x : UInt8) (hf : f ≤ k) (h : L[k]? = some x) : (L.take (k + 1)).drop f = (L.take k).drop f ++ [x] := by
  have h1 := (List.getElem?_eq_some_iff.1 h).1
  rw [List.take_add_one, h, List.drop_append_of_le_length (by rw [List.length_take]; omega)]
  rfl
theorem part_slice (s : ByteArray) (f k : Nat) : (s.extract f k).data.toList = (s.data.toList.take k).drop f := by
  simp [List.drop_take]
theorem next_table (s : Nat) (h0 : 3 ≤ s) (h1 : s ≤ 10) (c : UInt8) : ((s = 5 ∨ s = 8 ∨ s = 9 ∨ s = 10) → nextT s c = s ∨ nextT s c ≠ 8 ∧ nextT s c ≠ 9) ∧
    ((nextT s c = 6 ∨ nextT s c = 7 ∨ nextT s c = 8 ∨ nextT s c = 9 ∨ nextT s c = 10) → s = 5 ∨ 6 ≤ s) := by
  have hc := colC_lt c
  have hall : ∀ (i : Fin 8) (k : Fin 7), ((i.val + 3 = 5 ∨ i.val + 3 = 8 ∨ i.val + 3 = 9 ∨ i.val + 3 = 10) → (tagTab.getD i.val []).getD k.val 0 = i.val + 3 ∨ (tagTab.getD i.val []).getD k.val 0 ≠ 8 ∧ (tagTab.getD i.val []).getD k.val 0 ≠ 9) ∧
    (((tagTab.getD i.val []).getD k.val 0 = 6 ∨ (tagTab.getD i.val []).getD k.val 0 = 7 ∨ (tagTab.getD i.val []).getD k.val 0 = 8 ∨ (tagTab.getD i.val []).getD k.val 0 = 9 ∨ (tagTab.getD i.val []).getD k.val 0 = 10) → i.val + 3 = 5 ∨ 6 ≤ i.val + 3) := by decide +kernel
  obtain ⟨i, rfl⟩ : ∃ i, s = i + 3 := ⟨s - 3, by omega⟩
  exact hall ⟨i, by omega⟩ ⟨colC c, hc⟩
/-- the attributes, from byte k on -/
def AttrsAt (L : List UInt8) (k s f : Nat) (acc R : List (List UInt8 × List UInt8)) : Prop := attrsL s ((L.take k).drop f) acc (L.drop k) = R ∧ (passL s (L.drop k)).1 = L.length - k
theorem attrs_same {L : List UInt8} {k s f : Nat} {acc R : List (List UInt8 × List UInt8)} {x : UInt8} (h : AttrsAt L k s f acc R) (hf : f ≤ k) (hx : L[k]? = some x) (hs : s ≠ 0) (hv : nextT s x = s) : AttrsAt L (k + 1) s f acc R := by
  obtain ⟨h1, h2⟩ := h
  obtain ⟨hl, hg⟩ := List.getElem?_eq_some_iff.1 hx
  rw [List.drop_eq_getElem_cons hl, hg] at h1 h2
  rw [attrsL, if_pos hv] at h1
  rw [passL, if_neg hs, hv] at h2
  exact ⟨by rw [part_more L f k x hf hx]; exact h1, by simp only at h2; omega⟩
theorem attrs_next {L : List UInt8} {k s f : Nat} {acc R : List (List UInt8 × List UInt8)} {x : UInt8} (h : AttrsAt L k s f acc R) (hx : L[k]? = some x) (hs : s ≠ 0) (hv : nextT s x ≠ s) :
    AttrsAt L (k + 1) (nextT s x) (if nextT s x = 8 ∨ nextT s x = 9 then k + 1 else k)
      (if s = 5 then acc ++ [(((L.take k).drop f).map lowC, [])] else if s = 8 ∨ s = 9 ∨ s = 10 then acc.dropLast ++ [((acc.getLast?.getD ([], [])).1, unr true ((L.take k).drop f))] else acc) R := by
  obtain ⟨h1, h2⟩ := h
  obtain ⟨hl, hg⟩ := List.getElem?_eq_some_iff.1 hx
  rw [List.drop_eq_getElem_cons hl, hg] at h1 h2
  rw [attrsL, if_neg hv] at h1
  rw [passL, if_neg hs] at h2
  refine ⟨?_, by simp only at h2; omega⟩
  have hpart : (L.take (k + 1)).drop (if nextT s x = 8 ∨ nextT s x = 9 then k + 1 else k) = if nextT s x = 8 ∨ nextT s x = 9 then [] else [x] := by
    split
    · rw [List.drop_of_length_le (by rw [List.length_take]; omega)]
    · rw [part_more L k k x (Nat.le_refl _) hx, List.drop_of_length_le (by rw [List.length_take]; omega)]
      rfl
  rw [hpart]
  exact h1
theorem attrs_live {L : List UInt8} {k s f : Nat} {acc R : List (List UInt8 × List UInt8)} (h : AttrsAt L k s f acc R) (hk : k < L.length) : s ≠ 0 := by
  rintro rfl
  obtain ⟨_, h2⟩ := h
  rw [List.drop_eq_getElem_cons hk] at h2
  simp only [passL, if_true] at h2
  omega
theorem attrs_over {L : List UInt8} {k s f : Nat} {acc R : List (List UInt8 × List UInt8)} (h : AttrsAt L k s f acc R) (hk : L.length ≤ k) : acc = R := by
  obtain ⟨h1, _⟩ := h
  rw [List.drop_of_length_le hk] at h1
  exact h1
set_option maxHeartbeats 8000000 in
set_option maxRecDepth 100000 in
theorem attrs_any (s : ByteArray) (m : Int) (w : World) (hs : s.size ≤ 1000000) (hp : (passL 3 s.data.toList).1 = s.data.toList.length) (hT : TagTabs w) (hR : ChTabs w) (hm : w.cell? ⟨5, 0, none⟩ = some (.int .i64 m)) :
    Calls Tryz.prog 106 #[.string s] w fun e w' => ∃ v, e = .returned v ∧ w'.ownsRow w.heap.size 65 2 v (attrsL 3 [] [] s.data.toList).length (attrsV (attrsL 3 [] [] s.data.toList)) ∧ Below w.heap.size w w' := by
  obtain ⟨i0, hi, hz0, hz1, hz2⟩ := info_parts info_attr
  obtain ⟨R, hRR⟩ : ∃ R, attrsL 3 [] [] s.data.toList = R := ⟨_, rfl⟩
  rw [hRR]
  have H0 : AttrsAt s.data.toList 0 3 0 [] R := ⟨hRR, by rw [List.drop_zero, hp, Nat.sub_zero]⟩
  have HT := hid hT
  have HRT := hid hR
  have HM := hid hm
  clear hRR hp hT hR hm
  go_enter Tryz.func106, Tryz.ntmps106
  go_wp2
  go_loopw [3, 4, 5, 10] (fun av sv fv iv wr => ∃ (k st f : Nat) (acc : List (List UInt8 × List UInt8)), iv = .int .i64 k ∧ sv = .int .i64 st ∧ fv = .int .i64 f ∧ k ≤ s.size ∧ f ≤ k ∧ (st = 0 ∨ 3 ≤ st ∧ st ≤ 10) ∧ acc.length ≤ k ∧ (6 ≤ st → acc ≠ []) ∧ wr.ownsRow w.heap.size 65 2 av acc.length (attrsV acc) ∧ Below w.heap.size w wr ∧ AttrsAt s.data.toList k st f acc R) (fun _ _ _ iv _ => s.size - (RowKit.intOf iv).toNat)
  case atStart => exact ⟨0, 3, 0, [], rfl, rfl, rfl, Nat.zero_le _, Nat.le_refl _, .inr ⟨by omega, by omega⟩, by simp, fun h => absurd h (by omega), World.ownsRow_nil _ _ _ _, Below.refl _ _, H0⟩
  case round =>
    obtain ⟨k, st, f, acc, rfl, rfl, rfl, hk, hf, hst, hal, hne, hown, hbw, HA⟩ := hrel
    clear H0
    by_cases hkp : k < s.size
    · have hst0 := attrs_live HA (by rw [← size_eq]; exact hkp)
      obtain ⟨hst1, hst2⟩ : 3 ≤ st ∧ st ≤ 10 := hst.resolve_left hst0
      obtain ⟨x, hx⟩ : ∃ x, s[k]'hkp = x := ⟨_, rfl⟩
      have hl := getElem_list hkp hx
      have hTr : TagTabs wr := rangeAt_below HT.out hbw
      have hcall := behind_any st x hst1 hst2 wr hTr
      have hnx := next_range st hst1 hst2 x
      obtain ⟨t1, t2⟩ := next_table st hst1 hst2 x
      have hlt := hown.lt
      have hbs := hbw.size
      by_cases hsame : nextT st x = st
      · have HB := attrs_same HA hf hl hst0 hsame
        rw [hsame] at hcall
        have HC := hid (fun (_ : True) => hcall)
        clear hcall hnx t1 t2 hsame hl HA hTr
        go_wp2_with (go_at_call 100; refine (HC.out trivial).mono ?_; rintro e w' ⟨rfl, nd, rfl⟩)
        go_roundw
        case rel => exact ⟨k + 1, st, f, acc, rfl, rfl, rfl, by omega, by omega, .inr ⟨hst1, hst2⟩, by omega, hne, hown, below_drewN hbw _, HB⟩
        case measure => simp [RowKit.intOf]; omega
      · have HB := attrs_next HA hl hst0 hsame
        have qs : ((nextT st x : Int) == (st : Int)) = false := beq_eq_false_iff_ne.2 (by omega)
        obtain ⟨v, hv⟩ : ∃ v, nextT st x = v := ⟨_, rfl⟩
        rw [hv] at hcall hnx t1 t2 HB qs hsame
        have hsl : (s.extract f k).data.toList = (s.data.toList.take k).drop f := part_slice s f k
        have hszx : (s.extract f k).size ≤ 1000000 := by rw [ByteArray.size_extract]; omega
        obtain ⟨px, hpx⟩ : ∃ px, s.extract f k = px := ⟨_, rfl⟩
        rw [hpx] at hsl hszx
        rw [← hsl] at HB
        have HC := hid (fun (_ : True) => hcall)
        have HX := hid (fun (_ : True) => HB)
        clear hcall hl HA hTr hv HB hsl
        by_cases h5 : st = 5
        · subst h5
          have hv89 : v ≠ 8 ∧ v ≠ 9 := by rcases t1 (.inl rfl) with h | h; exact absurd h hsame; exact h
          have q8 : ((v : Int) == 8) = false := beq_eq_false_iff_ne.2 (by omega)
          have q9 : ((v : Int) == 9) = false := beq_eq_false_iff_ne.2 (by omega)
          have hlow := fun W => lower_any px W (by omega)
          obtain ⟨nb, hnb⟩ : ∃ nb : ByteArray, (⟨(px.data.toList.map lowC).toArray⟩ : ByteArray) = nb := ⟨_, rfl⟩
          rw [hnb] at hlow
          have HL := hid hlow
          have hA4 := hid (show acc.length + 1 ≤ maxLen by unfold maxLen; omega)
          have hA5 := hid (show (acc.length + 1) * 32 ≤ 140737488355328 by omega)
          clear hlow t1 t2
          go_wp2_with (first | (go_at_call 100; refine (HC.out trivial).mono ?_; rintro e w' ⟨rfl, nd, rfl⟩) | (go_at_call 126; fail))
          refine (HL.out _).mono ?_
          rintro e W1 ⟨rfl, b1⟩
          have hown9 := hown.kept (row := none) (w' := W1) ⟨b1.os, b1.tape, b1.output, b1.size, fun j hj _ => b1.block j hj⟩ (Classical.em _)
          have hbw9 : Below w.heap.size w W1 := hbw.trans (Below.mono (B := wr.heap.size) ⟨b1.os, b1.tape, b1.output, b1.size, b1.block⟩ hbs)
          clear b1 hown hbw hlt hbs
          have hlt := hown9.lt
          have hbs := hbw9.size
          go_wp2_with (at_builtin; refine wpList_append_own _ rfl (.tmp 24) (.tmp 31) 50 rfl w.heap.size 65 i0 (.agg #[.string ⟨#[]⟩, .string ⟨#[]⟩]) 2 32 Tryz.underlying50 hi hz0 hz1 hz2 rfl (by decide) _ _ _ rfl (hown9.alloc _) ⟨_, 0, none⟩ 1 1 [.string nb, .string ⟨#[]⟩] rfl rfl (cells_newV _ _ _) (by simp [Value.oneCell']) hA4.out hA5.out ?_ ?_)
          · simp; omega
          · intro v' w2 hown2 hgrow _
            have hbw2 := (hbw9.alloc hbs _).grown hgrow (by simp; omega) (fun j hj => (hlt j hj).1)
            clear hgrow hbw9 hown9 hlt hbs
            go_wp2
            go_roundw
            case rel =>
              refine ⟨k + 1, v, k, acc ++ [(px.data.toList.map lowC, [])], rfl, rfl, rfl, by omega, by omega, hnx, by simp; omega, fun _ => by simp, ?_, hbw2, ?_⟩
              · rw [attrsV_app, List.length_append]
                have e : attrsV [(px.data.toList.map lowC, [])] = [.string nb, .string ⟨#[]⟩] := by rw [← hnb]; rfl
                rw [e]
                exact hown2
              · have := HX.out trivial
                rw [if_neg (fun h => h.elim hv89.1 hv89.2), if_pos trivial] at this
                exact this
            case measure => simp [RowKit.intOf]; omega
        · have q5 : ((st : Int) == 5) = false := beq_eq_false_iff_ne.2 (by omega)
          by_cases h8 : st = 8 ∨ st = 9 ∨ st = 10
          · have hv89 : v ≠ 8 ∧ v ≠ 9 := by rcases t1 (.inr h8) with h | h; exact absurd h hsame; exact h
            have q8 : ((v : Int) == 8) = false := beq_eq_false_iff_ne.2 (by omega)
            have q9 : ((v : Int) == 9) = false := beq_eq_false_iff_ne.2 (by omega)
            obtain ⟨ini, a, rfl⟩ : ∃ ini a, acc = ini ++ [a] := by
              have h := hne (by omega)
              exact ⟨acc.dropLast, acc.getLast h, (List.dropLast_concat_getLast h).symm⟩
            have hln : (ini ++ [a]).length = ini.length + 1 := by simp
            rw [hln] at hown hal
            have HX2 : Hid (True → AttrsAt s.data.toList (k + 1) v k (ini ++ [(a.1, unr true px.data.toList)]) R) := by
              have := HX.out trivial
              rw [if_neg (fun h => h.elim hv89.1 hv89.2), if_neg h5, if_pos h8] at this
              rw [List.dropLast_concat, List.getLast?_concat] at this
              exact hid (fun _ => this)
            have hrr : ChTabs wr := HRT.out.below hbw
            have hmr : wr.cell? ⟨5, 0, none⟩ = some (.int .i64 m) := by
              have hc := HM.out
              have := hbw.block _ (cell_block hc)
              unfold World.cell? at hc ⊢
              rw [this]
              exact hc
            have HU := hid (fun nd => unref_any px true m (wr.drewN nd) (by omega) ⟨hrr.names, hrr.repl⟩ hmr)
            generalize unr true px.data.toList = U at HU HX2
            obtain ⟨ub, hub⟩ : ∃ ub : ByteArray, (⟨U.toArray⟩ : ByteArray) = ub := ⟨_, rfl⟩
            rw [hub] at HU
            clear HX hne hln hrr hmr
            rcases hown.2 with ⟨_, h0⟩ | ⟨g, cap, cur, rfl, _⟩
            · exact absurd h0 (by omega)
            · rcases h8 with rfl | rfl | rfl
              all_goals
                go_wp2_with (first | (go_at_call 100; refine (HC.out trivial).mono ?_; rintro e w' ⟨rfl, nd, rfl⟩) | (go_at_call 34; fail))
                refine (HU.out _).mono ?_
                rintro e W1 ⟨rfl, b1⟩
                have hown9 := hown.kept (row := none) (w' := W1) ⟨b1.os, b1.tape, b1.output, b1.size, fun j hj _ => b1.block j hj⟩ (Classical.em _)
                have hbw9 : Below w.heap.size w W1 := hbw.trans (Below.mono (B := wr.heap.size) ⟨b1.os, b1.tape, b1.output, b1.size, b1.block⟩ hbs)
                have hg : w.heap.size ≤ g := by
                  rcases hown9.2 with ⟨h, _⟩ | ⟨g', c', cu, h, hb, _⟩
                  · cases h
                  · cases h; exact hb
                have hc := hown9.cellAt (ini.length * 2 + 1) (by omega)
                have hfz := hown9.frozenAt (ini.length * 2 + 1)
                have hc2 : (attrsV (ini ++ [a]))[ini.length * 2 + 1]? = some (strV a.2) := by
                  rw [attrsV_app, List.getElem?_append_right (by rw [attrsV_len]; omega), attrsV_len, Nat.add_sub_cancel_left]
                  rfl
                rw [hc2] at hc
                have hst9 := (hown9.stored (ini.length * 2 + 1) (strV U)).1
                rw [attrsV_set] at hst9
                have hsV : strV U = .string ub := by unfold strV; rw [hub]
                rw [hsV] at hst9
                have HS := hid hst9
                clear b1 hown hbw hlt hbs hst9 hown9 hc2
                go_wp2
                go_roundw
                case rel => exact ⟨k + 1, v, k, ini ++ [(a.1, U)], rfl, rfl, rfl, by omega, by omega, hnx, by simp; omega, fun _ => by simp, by have := HS.out; simpa using this, hbw9.setCell hg _, HX2.out trivial⟩
                case measure => simp [RowKit.intOf]; omega
          · have r8 : ((st : Int) == 8) = false := beq_eq_false_iff_ne.2 (by omega)
            have r9 : ((st : Int) == 9) = false := beq_eq_false_iff_ne.2 (by omega)
            have r10 : ((st : Int) == 10) = false := beq_eq_false_iff_ne.2 (by omega)
            have HX2 : Hid (True → AttrsAt s.data.toList (k + 1) v (if v = 8 ∨ v = 9 then k + 1 else k) acc R) := by
              have := HX.out trivial
              rw [if_neg h5, if_neg h8] at this
              exact hid (fun _ => this)
            have hne2 : 6 ≤ v → acc ≠ [] := fun h => hne (by rcases t2 (by omega) with e | e; exact absurd e h5; exact e)
            clear HX t1 t2 hpx
            by_cases hv8 : v = 8
            · subst hv8
              go_wp2_with (go_at_call 100; refine (HC.out trivial).mono ?_; rintro e w' ⟨rfl, nd, rfl⟩)
              go_roundw
              case rel => exact ⟨k + 1, 8, k + 1, acc, rfl, rfl, rfl, by omega, by omega, hnx, by omega, hne2, hown, below_drewN hbw _, HX2.out trivial⟩
              case measure => simp [RowKit.intOf]; omega
            · have q8 : ((v : Int) == 8) = false := beq_eq_false_iff_ne.2 (by omega)
              by_cases hv9 : v = 9
              · subst hv9
                go_wp2_with (go_at_call 100; refine (HC.out trivial).mono ?_; rintro e w' ⟨rfl, nd, rfl⟩)
                go_roundw
                case rel => exact ⟨k + 1, 9, k + 1, acc, rfl, rfl, rfl, by omega, by omega, hnx, by omega, hne2, hown, below_drewN hbw _, HX2.out trivial⟩
                case measure => simp [RowKit.intOf]; omega
              · have q9 : ((v : Int) == 9) = false := beq_eq_false_iff_ne.2 (by omega)
                go_wp2_with (go_at_call 100; refine (HC.out trivial).mono ?_; rintro e w' ⟨rfl, nd, rfl⟩)
                go_roundw
                case rel =>
                  refine ⟨k + 1, v, k, acc, rfl, rfl, rfl, by omega, by omega, hnx, by omega, hne2, hown, below_drewN hbw _, ?_⟩
                  have := HX2.out trivial
                  rw [if_neg (fun h => h.elim hv8 hv9)] at this
                  exact this
                case measure => simp [RowKit.intOf]; omega
    · have he := attrs_over HA (by rw [← size_eq]; omega)
      subst he
      go_wp2
      go_ret
      exact ⟨_, rfl, hown, hbw⟩
end Go.Proofs.YtndglhflbenloaaGreatDoor

/-
  scrubref's tagAt: its walk.
-/
namespace Go.Proofs.YtndglhflbenloaaGreatDoor
open Go.RowKit Go.Lib Own

theorem cells_newW (L : List Value) (t : TypeId) (X : Obj) (W : World) : ∀ j u, L[j]? = some u → ((W.alloc X).alloc (.cells L.toArray t)).cell? ((⟨W.heap.size + 1, 0, none⟩ : Addr).add j) = some u := by
  have := cells_newV L t (W.alloc X)
  simpa using this
/-- what tagAt answers -/
def TagSaid (s : ByteArray) (x : List UInt8 × List (List UInt8 × List UInt8) × List UInt8 × Nat) (w : World) (e : Ending) (w' : World) : Prop :=
  ∃ av, e = .returned (.tuple #[strV x.1, av, .int .i64 ((s.size - x.2.2.1.length : Nat) : Int), .int .i64 (x.2.2.2 : Int)]) ∧ w'.ownsRow w.heap.size 65 2 av x.2.1.length (attrsV x.2.1) ∧ Below w.heap.size w w'

set_option maxHeartbeats 8000000 in
set_option maxRecDepth 100000 in
theorem refTag_any (s : ByteArray) (i : Nat) (w : World) (hi : i ≤ s.size) (hs : s.size ≤ 4000000) (hT : RefTabs w) :
    Calls Tryz.prog 52 #[.string s, .int .i64 i] w (TagSaid s (tagAtL (s.data.toList.drop i)) w) := by
  obtain ⟨i0, hii, hz0, hz1, hz2⟩ := info_parts info_attr
  obtain ⟨L, hL⟩ : ∃ L, s.data.toList.drop i = L := ⟨_, rfl⟩
  rw [hL]
  unfold tagAtL
  obtain ⟨a1, _, a3⟩ := span_of (fun c => !tagE.contains c) L
  obtain ⟨j, hj⟩ : ∃ j, i + (L.takeWhile fun c => !tagE.contains c).length = j := ⟨_, rfl⟩
  have hu : ∀ W, Calls Tryz.prog 50 #[.string s, .int .i64 (i : Int), .string ⟨#[9, 10, 12, 13, 32, 47, 62]⟩] W fun e w' => e = .returned (.int .i64 (j : Int)) ∧ W = w' := fun W => (until_at s i tagE hi hs (by decide) (i : Int) rfl L hL j hj W).mono fun _ _ h => ⟨h.1, h.2.symm⟩
  generalize L.takeWhile (fun c => !tagE.contains c) = n0 at a1 hj ⊢
  generalize L.dropWhile (fun c => !tagE.contains c) = r1 at a1 a3 ⊢
  have hcut := cut_at hi (A := n0) (B := r1) (by rw [hL, a1])
  rw [hj] at hcut
  obtain ⟨e1, e2, e3⟩ := hcut
  have hsz : (s.extract i j).size ≤ 4000000 := by rw [size_eq, e2]; omega
  obtain ⟨nm, hnm⟩ : ∃ nm : ByteArray, nm = ⟨(n0.map lowC).toArray⟩ := ⟨_, rfl⟩
  have hl := fun W => lowered_at s i j n0 e2 hsz nm hnm W
  have hnmv : strV (n0.map lowC) = .string nm := by rw [hnm]; rfl
  have hji : i ≤ j := by omega
  have HU1 := hid hu
  have HL := hid hl
  have HT := hid hT
  clear hu hl hT a1 e2 hsz hnm hL hj
  cases r1 with
  | nil =>
    obtain rfl : j = s.size := by simpa using e3
    have HF : Hid (∀ W', Below w.heap.size w W' → TagSaid s (n0.map lowC, ([] : List (List UInt8 × List UInt8)), ([] : List UInt8), 3) w (.returned (.tuple #[.string nm, .slice none 0 0, .int .i64 (s.size : Int), .int .i64 3])) W') := fun W' hb =>
      ⟨.slice none 0 0, by rw [hnmv] <;> rfl, World.ownsRow_nil _ _ _ _, hb⟩
    simp only
    generalize (n0.map lowC, ([] : List (List UInt8 × List UInt8)), ([] : List UInt8), 3) = XX at HF ⊢
    clear hnmv e1 a3 e3
    go_enter Tryz.func52, Tryz.ntmps52
    go_wp2_with (first
      | (go_at_call 50; with_reducible refine (HU1.out _).mono ?_; rintro e w' ⟨rfl, rfl⟩)
      | (go_at_call 72; with_reducible refine (HL.out _).mono ?_; rintro e w1 ⟨rfl, b1⟩))
    refine bodyPost_ret (v := .tuple #[.string nm, .slice none 0 0, .int .i64 s.size, .int .i64 3]) ?_ rfl (HF.out _ b1)
    simp [results, Tryz.results52, go_sem]
  | cons c t =>
    have hjs : j < s.size := by simp only [List.length_cons] at e3; omega
    simp only
    obtain ⟨X, hX⟩ : ∃ X, gapL (t.length + 2) [] (c :: t) = X := ⟨_, rfl⟩
    rw [hX]
    have HX : Hid (gapL (t.length + 2) [] (s.data.toList.drop j) = X) := by rw [e1]; exact hX
    have HF : Hid (∀ W' av (P st : Nat), W'.ownsRow w.heap.size 65 2 av X.1.length (attrsV X.1) → Below w.heap.size w W' → P = s.size - X.2.1.length → st = X.2.2 → TagSaid s (n0.map lowC, X) w (.returned (.tuple #[.string nm, av, .int .i64 (P : Int), .int .i64 (st : Int)])) W') := fun W' av P st h1 hb h2 h3 =>
      ⟨av, by subst h2 h3; rw [hnmv] <;> rfl, h1, hb⟩
    have hf0 : s.size - j < t.length + 2 := by simp only [List.length_cons] at e3; omega
    generalize t.length + 2 = f0 at HX hf0
    clear hnmv e1 a3 e3 hX
    have qj : ((j : Int) == (s.size : Int)) = false := beq_eq_false_iff_ne.2 (by omega)
    go_enter Tryz.func52, Tryz.ntmps52
    go_wp2_with (first
      | (go_at_call 50; with_reducible refine (HU1.out _).mono ?_; rintro e w' ⟨rfl, rfl⟩)
      | (go_at_call 72; with_reducible refine (HL.out _).mono ?_; rintro e w1 ⟨rfl, b1⟩))
    go_loopw [8, 9] (fun av jv wr => ∃ (k f : Nat) (A : List (List UInt8 × List UInt8)), jv = .int .i64 k ∧ wr.ownsRow w.heap.size 65 2 av A.length (attrsV A) ∧ Below w.heap.size w wr ∧ k ≤ s.size ∧ s.size - k < f ∧ A.length ≤ k ∧ Hid (gapL f A (s.data.toList.drop k) = X)) (fun _ jv _ => s.size - (RowKit.intOf jv).toNat)
    case atStart => exact ⟨j, f0, [], rfl, World.ownsRow_nil _ _ _ _, b1, Nat.le_of_lt hjs, hf0, Nat.zero_le _, HX.out⟩
    case round =>
      obtain ⟨k, f, A, rfl, hown, hbw, hk, hf, hA, HA⟩ := hrel
      have hbs := hbw.size
      clear hf0 HX hjs
      obtain ⟨g, rfl⟩ : ∃ g, f = g + 1 := ⟨f - 1, by omega⟩
      by_cases hp : k < s.size
      · obtain ⟨R, hR⟩ : ∃ R, s.data.toList.drop k = R := ⟨_, rfl⟩
        have hst := HA.out
        rw [hR] at hst
        unfold gapL at hst
        obtain ⟨m, hm⟩ : ∃ m, k + (R.takeWhile gapE.contains).length = m := ⟨_, rfl⟩
        have hpa : ∀ W, Calls Tryz.prog 82 #[.string s, .int .i64 (k : Int), .string ⟨#[9, 10, 12, 13, 32, 47]⟩] W fun e w' => e = .returned (.int .i64 (m : Int)) ∧ W = w' := fun W => (past_at s k gapE hk hs (by decide) (k : Int) rfl R hR m hm W).mono fun _ _ h => ⟨h.1, h.2.symm⟩
        obtain ⟨b1, _, _⟩ := span_of gapE.contains R
        generalize R.takeWhile gapE.contains = n1 at b1 hm
        generalize R.dropWhile gapE.contains = r2 at b1 hst
        have hcut2 := cut_at hk (A := n1) (B := r2) (by rw [hR, b1])
        rw [hm] at hcut2
        obtain ⟨e4, _, e6⟩ := hcut2
        have hkm : k ≤ m := by omega
        have HPA := hid hpa
        clear hpa b1 hm hR HA
        cases r2 with
        | nil =>
          obtain rfl : m = s.size := by simpa using e6
          simp only at hst
          have hown2 := hown
          rw [show A = X.1 by rw [← hst]] at hown2
          have hP : s.size = s.size - X.2.1.length := by rw [← hst]; simp
          have hS : 4 = X.2.2 := by rw [← hst]
          have HZ := hid (HF.out _ _ _ _ hown2 hbw hP hS)
          clear hst hown hown2 hP hS HF e4 e6
          go_wp2_with (go_at_call 82; with_reducible refine (HPA.out _).mono ?_; rintro e w' ⟨rfl, rfl⟩)
          refine bodyPost_ret (v := .tuple #[.string nm, _, .int .i64 s.size, .int .i64 4]) ?_ rfl HZ.out
          simp [results, Tryz.results52, go_sem]
        | cons c2 t2 =>
          obtain ⟨hms, hx⟩ := byte_at e4
          simp only at hst
          by_cases h62 : c2 = 62
          · have q62 : ((c2.toNat : Int) == 62) = true := by rw [h62]; rfl
            rw [if_pos h62] at hst
            have hown2 := hown
            rw [show A = X.1 by rw [← hst]] at hown2
            have hP : m + 1 = s.size - X.2.1.length := by rw [← hst]; simp only [List.length_cons] at e6 ⊢; omega
            have hS : 0 = X.2.2 := by rw [← hst]
            have HZ := hid (HF.out _ _ _ _ hown2 hbw hP hS)
            clear hst hown hown2 hP hS HF e4 e6 h62
            go_wp2_with (go_at_call 82; with_reducible refine (HPA.out _).mono ?_; rintro e w' ⟨rfl, rfl⟩)
            refine bodyPost_ret (v := .tuple #[.string nm, _, .int .i64 ((m + 1 : Nat) : Int), .int .i64 0]) ?_ rfl HZ.out
            simp [results, Tryz.results52, go_sem]
          · have q62 : ((c2.toNat : Int) == 62) = false := beq_eq_false_iff_ne.2 (fun h => h62 (UInt8.toNat_inj.1 (by show c2.toNat = 62; omega)))
            rw [if_neg h62] at hst
            have hat := fun W hTW => attrAt_any s m c2 t2 W e4 hs hTW
            have hok := attr_ok c2 t2
            obtain ⟨x, hxx⟩ : ∃ x, attrAtL (c2 :: t2) = x := ⟨_, rfl⟩
            rw [hxx] at hat hok hst
            obtain ⟨⟨n2, v2⟩, r3, st⟩ := x
            obtain ⟨o1, o2⟩ := hok
            simp only at o1 o2 hst
            obtain ⟨P, hP⟩ : ∃ P, s.size - r3.length = P := ⟨_, rfl⟩
            obtain ⟨n2b, hn2b⟩ : ∃ n2b : ByteArray, n2b = ⟨n2.toArray⟩ := ⟨_, rfl⟩
            obtain ⟨v2b, hv2b⟩ : ∃ v2b : ByteArray, v2b = ⟨v2.toArray⟩ := ⟨_, rfl⟩
            have hat2 : ∀ W, RefTabs W → Calls Tryz.prog 83 #[.string s, .int .i64 (m : Int)] W fun e w' => e = .returned (.tuple #[.agg #[.string n2b, .string v2b], .int .i64 (P : Int), .int .i64 (st : Int)]) ∧ Below W.heap.size W w' := fun W hTW => by
              have := hat W hTW
              unfold AttrSaid strV at this
              simp only at this
              rw [hP, ← hn2b, ← hv2b] at this
              exact this
            have hv : attrsV (A ++ [(n2, v2)]) = attrsV A ++ [.string n2b, .string v2b] := by rw [attrsV_app, hn2b, hv2b]; rfl
            have HAT := hid hat2
            have HV := hid hv
            have hA4 := hid (show A.length + 1 ≤ maxLen by unfold maxLen; omega)
            have hA5 := hid (show (A.length + 1) * 32 ≤ 140737488355328 by omega)
            have hTr := HT.out.below hbw
            clear hat hat2 hv hn2b hv2b hxx
            by_cases hst0 : st = 0
            · rw [if_neg (by simpa using hst0)] at hst
              obtain ⟨seg, s1, _, _⟩ := o2 hst0
              have hcut3 := cut_at (Nat.le_of_lt hms) (A := c2 :: seg) (B := r3) (by rw [e4, s1]; rfl)
              simp only [List.length_cons] at hcut3
              have hPm : P = m + (seg.length + 1) := by omega
              rw [← hPm] at hcut3
              have hPs : P ≤ s.size := by omega
              have hmP : m < P := by omega
              have HB : Hid (gapL g (A ++ [(n2, v2)]) (s.data.toList.drop P) = X) := by rw [hcut3.1]; exact hst
              have hAP : (A ++ [(n2, v2)]).length ≤ P := by rw [List.length_append]; simp; omega
              have HAP := hid hAP
              have q0 : ((st : Int) != 0) = false := by rw [hst0]; rfl
              clear hst o1 o2 s1 hcut3 hP hPm hAP e4 e6 HF h62 hst0
              go_wp2_with (first
                | (go_at_call 82; with_reducible refine (HPA.out _).mono ?_; rintro e w' ⟨rfl, rfl⟩)
                | (go_at_call 83; with_reducible refine (HAT.out _ hTr).mono ?_; rintro e w2 ⟨rfl, b2⟩; have hown2 := hown.kept (row := none) ⟨b2.os, b2.tape, b2.output, b2.size, fun k hk _ => b2.block k hk⟩ (Classical.em _); have hbw2 := hbw.trans (b2.mono hbs); have hbs2 := hbw2.size; have hlt := hown2.lt; clear b2 hown hbw hbs)
                | (at_builtin; refine wpList_append_own _ rfl (.tmp 55) (.tmp 57) 50 rfl w.heap.size 65 i0 (.agg #[.string ⟨#[]⟩, .string ⟨#[]⟩]) 2 32 Tryz.underlying50 hii hz0 hz1 hz2 rfl (by decide) _ _ _ rfl ((hown2.alloc _).alloc _) ⟨_, 0, none⟩ 1 1 [.string n2b, .string v2b] rfl rfl (cells_newW _ _ _ _) (by simp [Value.oneCell']) hA4.out hA5.out ?_ ?_))
              · first | omega | (simp; omega)
              · intro v' w3 hown3 hgrow _
                have hb3 : Below w.heap.size w w3 := ((hbw2.alloc hbs2 _).alloc (by simp; omega) _).grown hgrow (by simp; omega) (fun j hj => (hlt j hj).1)
                clear hgrow hown2 hbw2 hbs2 hlt
                have HO := hid (show w3.ownsRow w.heap.size 65 2 v' (A ++ [(n2, v2)]).length (attrsV (A ++ [(n2, v2)])) by rw [HV.out, List.length_append]; exact hown3)
                clear hown3
                go_wp2
                go_roundw
                case rel => first | exact ⟨P, g, A ++ [(n2, v2)], rfl, HO.out, hb3, hPs, by omega, HAP.out, HB.out⟩ | ((repeat apply Exists.intro); exact ⟨⟨P, g, A ++ [(n2, v2)], rfl, HO.out, hb3, hPs, by omega, HAP.out, HB.out⟩, rfl⟩)
                case measure => simp [RowKit.intOf]; omega
            · rw [if_pos (by simpa using hst0)] at hst
              have q0 : ((st : Int) != 0) = true := bne_iff_ne.2 (by omega)
              have hXX : A ++ [(n2, v2)] = X.1 ∧ P = s.size - X.2.1.length ∧ st = X.2.2 := by rw [← hst]; exact ⟨rfl, hP.symm, rfl⟩
              have hfin : ∀ W' av, W'.ownsRow w.heap.size 65 2 av (A.length + 1) (attrsV A ++ [.string n2b, .string v2b]) → Below w.heap.size w W' → TagSaid s (n0.map lowC, X) w (.returned (.tuple #[.string nm, av, .int .i64 (P : Int), .int .i64 (st : Int)])) W' := fun W' av h1 h2 => by
                refine HF.out W' av P st ?_ h2 hXX.2.1 hXX.2.2
                rw [← hXX.1, HV.out, List.length_append]
                exact h1
              have HZ := hid hfin
              clear hst o1 o2 hP e4 e6 HF h62 hst0 hXX hfin
              go_wp2_with (first
                | (go_at_call 82; with_reducible refine (HPA.out _).mono ?_; rintro e w' ⟨rfl, rfl⟩)
                | (go_at_call 83; with_reducible refine (HAT.out _ hTr).mono ?_; rintro e w2 ⟨rfl, b2⟩; have hown2 := hown.kept (row := none) ⟨b2.os, b2.tape, b2.output, b2.size, fun k hk _ => b2.block k hk⟩ (Classical.em _); have hbw2 := hbw.trans (b2.mono hbs); have hbs2 := hbw2.size; have hlt := hown2.lt; clear b2 hown hbw hbs)
                | (at_builtin; refine wpList_append_own _ rfl (.tmp 55) (.tmp 57) 50 rfl w.heap.size 65 i0 (.agg #[.string ⟨#[]⟩, .string ⟨#[]⟩]) 2 32 Tryz.underlying50 hii hz0 hz1 hz2 rfl (by decide) _ _ _ rfl ((hown2.alloc _).alloc _) ⟨_, 0, none⟩ 1 1 [.string n2b, .string v2b] rfl rfl (cells_newW _ _ _ _) (by simp [Value.oneCell']) hA4.out hA5.out ?_ ?_))
              · first | omega | (simp; omega)
              · intro v' w3 hown3 hgrow _
                have hb3 : Below w.heap.size w w3 := ((hbw2.alloc hbs2 _).alloc (by simp; omega) _).grown hgrow (by simp; omega) (fun j hj => (hlt j hj).1)
                clear hgrow hown2 hbw2 hbs2 hlt
                have HY := hid (HZ.out _ _ hown3 hb3)
                clear hown3 hb3
                go_wp2
                refine bodyPost_ret (v := .tuple #[.string nm, v', .int .i64 P, .int .i64 st]) ?_ rfl HY.out
                simp [results, Tryz.results52, go_sem]
      · have HZ : Hid (gapL (g + 1) A (s.data.toList.drop k) = X) := HA
        obtain rfl : k = s.size := by omega
        have hst := HZ.out
        rw [List.drop_of_length_le (by rw [← size_eq]; exact Nat.le_refl _)] at hst
        have hst2 : (A, ([] : List UInt8), 4) = X := by rw [← hst]; rfl
        have hown2 := hown
        rw [show A = X.1 by rw [← hst2]] at hown2
        have hP : s.size = s.size - X.2.1.length := by rw [← hst2]; simp
        have hS : 4 = X.2.2 := by rw [← hst2]
        have HY := hid (HF.out _ _ _ _ hown2 hbw hP hS)
        clear hst hst2 HZ HA hown hown2 hP hS HF
        go_wp2
        refine bodyPost_ret (v := .tuple #[.string nm, _, .int .i64 s.size, .int .i64 4]) ?_ rfl HY.out
        simp [results, Tryz.results52, go_sem]
end Go.Proofs.YtndglhflbenloaaGreatDoor

/-
  scrubref's ahead, modeName, modeBehind and eats: their walks.
-/
namespace Go.Proofs.YtndglhflbenloaaGreatDoor
open Go.RowKit Go.Lib Own

def aheadL (sc : Nat) : List UInt8 :=
  if sc = 3 then [60, 97] else if sc = 4 then [60, 97, 32] else if sc = 5 then [60, 97, 32, 98] else if sc = 6 then [60, 97, 32, 98, 32] else if sc = 7 then [60, 97, 32, 98, 61]
  else if sc = 8 then [60, 97, 32, 98, 61, 34] else if sc = 9 then [60, 97, 32, 98, 61, 39] else [60, 97, 32, 98, 61, 99]
theorem ahead_any (sc : Nat) (h0 : 3 ≤ sc) (h1 : sc ≤ 10) (w : World) :
    Calls Tryz.prog 51 #[.int .i64 sc] w fun e w' => e = .returned (.string ⟨(aheadL sc).toArray⟩) ∧ w' = w := by
  rcases (show sc = 3 ∨ sc = 4 ∨ sc = 5 ∨ sc = 6 ∨ sc = 7 ∨ sc = 8 ∨ sc = 9 ∨ sc = 10 by omega) with rfl | rfl | rfl | rfl | rfl | rfl | rfl | rfl
  all_goals
    go_enter Tryz.func51, Tryz.ntmps51
    go_wp2
    go_ret
    exact ⟨rfl, rfl⟩
theorem pass_ahead (sc : Nat) (h0 : 3 ≤ sc) (h1 : sc ≤ 10) (L : List UInt8) : (aheadL sc).length ≤ 6 ∧ 1 ≤ (aheadL sc).length ∧ passL 3 ((aheadL sc ++ L).drop 1) = ((aheadL sc).length - 1 + (passL sc L).1, (passL sc L).2) := by
  have n1 : nextT 3 97 = 3 := by decide
  have n2 : nextT 3 32 = 4 := by decide
  have n3 : nextT 4 98 = 5 := by decide
  have n4 : nextT 5 32 = 6 := by decide
  have n5 : nextT 5 61 = 7 := by decide
  have n6 : nextT 7 34 = 8 := by decide
  have n7 : nextT 7 39 = 9 := by decide
  have n8 : nextT 7 99 = 10 := by decide
  rcases (show sc = 3 ∨ sc = 4 ∨ sc = 5 ∨ sc = 6 ∨ sc = 7 ∨ sc = 8 ∨ sc = 9 ∨ sc = 10 by omega) with rfl | rfl | rfl | rfl | rfl | rfl | rfl | rfl
  all_goals
    refine ⟨by decide, by decide, ?_⟩
    simp only [aheadL, if_true, Nat.reduceEqDiff, if_false, List.cons_append, List.nil_append, List.drop_succ_cons, List.drop_zero, pass_one (s := 3) (by decide), pass_one (s := 4) (by decide), pass_one (s := 5) (by decide), pass_one (s := 7) (by decide), n1, n2, n3, n4, n5, n6, n7, n8, List.length_cons, List.length_nil, Prod.mk.injEq, and_true]
    try omega

set_option maxHeartbeats 2000000 in
set_option maxRecDepth 100000 in
theorem modeName_any (m : Nat) (h1 : 1 ≤ m) (h2 : m ≤ 10) (w : World) :
    Calls Tryz.prog 55 #[.int .i64 m] w fun e w' => e = .returned (.string ⟨(rawL m).toArray⟩) ∧ Below w.heap.size w w' := by
  rcases (show m = 1 ∨ m = 2 ∨ m = 3 ∨ m = 4 ∨ m = 5 ∨ m = 6 ∨ m = 7 ∨ m = 8 ∨ m = 9 ∨ m = 10 by omega) with rfl | rfl | rfl | rfl | rfl | rfl | rfl | rfl | rfl | rfl
  all_goals
    go_enter Tryz.func55, Tryz.ntmps55
    go_wp2
    go_ret
    exact ⟨rfl, (Below.refl w.heap.size w).alloc (Nat.le_refl _) _⟩
theorem str_beq2 (s : ByteArray) (L : List UInt8) : ((⟨L.toArray⟩ : ByteArray).toList == s.toList) = decide (s.data.toList = L) := by
  rw [Lib.toList_data, Lib.toList_data, Bool.eq_iff_iff, beq_iff_eq, decide_eq_true_eq]
  exact ⟨fun h => h.symm, fun h => h.symm⟩
set_option maxHeartbeats 1000000 in
theorem modeBehind_any (s : ByteArray) (w : World) :
    Calls Tryz.prog 58 #[.string s] w fun e w' => e = .returned (.int .i64 (insideL s.data.toList : Int)) ∧ Below w.heap.size w w' := by
  obtain ⟨r, hr⟩ : ∃ r, insideL s.data.toList = r := ⟨_, rfl⟩
  rw [hr]
  have HR := hid (fun (_ : True) => hr)
  clear hr
  go_enter Tryz.func58, Tryz.ntmps58
  go_wp2
  go_loopw [3] (fun mv wr => ∃ k : Nat, mv = .int .i64 ((k : Int) + 1) ∧ k ≤ 10 ∧ Below w.heap.size w wr ∧ Hid (True → insF s.data.toList (k + 1) (rawNames.drop k) = r)) (fun mv _ => 11 - (RowKit.intOf mv).toNat)
  case atStart => exact ⟨0, rfl, by omega, Below.refl _ _, HR.out⟩
  case round =>
    obtain ⟨k, rfl, hk, hbw, HA⟩ := hrel
    have hbs := hbw.size
    by_cases hp : k < 10
    · have hx : rawNames[k]? = some (rawL (k + 1)) := by
        have h1 : k < rawNames.length := hp
        unfold rawL
        rw [Nat.add_sub_cancel, List.getD_eq_getElem?_getD, List.getElem?_eq_getElem h1]
        rfl
      have hc := fun W => modeName_any (k + 1) (by omega) (by omega) W
      rw [show (((k + 1 : Nat) : Int)) = (k : Int) + 1 from rfl] at hc
      generalize rawL (k + 1) = L at hx hc
      have hq := str_beq2 s L
      obtain ⟨t, ht⟩ : ∃ t : ByteArray, (⟨L.toArray⟩ : ByteArray) = t := ⟨_, rfl⟩
      rw [ht] at hc hq
      have HC := hid hc
      by_cases hn : s.data.toList = L
      · have hk1 := ins_hit hx hn (HA.out trivial)
        subst hk1
        rw [decide_eq_true hn] at hq
        clear hn ht hx hc HA HR
        go_wp2_with (go_at_call 55; refine (HC.out _).mono ?_; rintro e w' ⟨rfl, b1⟩)
        go_ret
        exact ⟨rfl, hbw.trans (b1.mono hbs)⟩
      · have HB := hid (fun (_ : True) => ins_step hx hn (HA.out trivial))
        rw [decide_eq_false hn] at hq
        clear hn ht hx hc HA
        go_wp2_with (go_at_call 55; refine (HC.out _).mono ?_; rintro e w' ⟨rfl, b1⟩)
        go_roundw
        case rel => exact ⟨k + 1, by simp, by omega, hbw.trans (b1.mono hbs), HB.out⟩
        case measure => simp [RowKit.intOf]; omega
    · have hk10 : k = 10 := by omega
      subst hk10
      have h0 : 0 = r := HA.out trivial
      subst h0
      clear HA HR
      go_wp2
      go_ret
      exact ⟨rfl, hbw⟩
theorem refEats_any (s : ByteArray) (w : World) :
    Calls Tryz.prog 59 #[.string s] w fun e w' => e = .returned (.bool (eatsL s.data.toList)) ∧ w' = w := by
  have he : eatsL s.data.toList = (decide (s.toList = [112, 114, 101]) || decide (s.toList = [116, 101, 120, 116, 97, 114, 101, 97])) := by
    rw [Lib.toList_data]
    unfold eatsL
    rw [Bool.eq_iff_iff]
    simp
  rw [he]
  clear he
  by_cases h1 : s.toList = [112, 114, 101]
  · have h2 : ¬ s.toList = [116, 101, 120, 116, 97, 114, 101, 97] := by rw [h1]; decide
    rw [decide_eq_true h1, decide_eq_false h2]
    have q1 : (s.toList == [112, 114, 101]) = true := beq_iff_eq.2 h1
    clear h1 h2
    go_enter Tryz.func59, Tryz.ntmps59
    go_wp2
    go_ret
    refine ⟨ret_bool ?_, rfl⟩
    first | rfl | simp [q1]
  · by_cases h2 : s.toList = [116, 101, 120, 116, 97, 114, 101, 97]
    · rw [decide_eq_false h1, decide_eq_true h2]
      have q1 : (s.toList == [112, 114, 101]) = false := beq_eq_false_iff_ne.2 h1
      have q2 : (s.toList == [116, 101, 120, 116, 97, 114, 101, 97]) = true := beq_iff_eq.2 h2
      clear h2
      go_enter Tryz.func59, Tryz.ntmps59
      go_wp2
      go_ret
      refine ⟨ret_bool ?_, rfl⟩
      first | rfl | simp [q1, q2]
    · rw [decide_eq_false h1, decide_eq_false h2]
      have q1 : (s.toList == [112, 114, 101]) = false := beq_eq_false_iff_ne.2 h1
      have q2 : (s.toList == [116, 101, 120, 116, 97, 114, 101, 97]) = false := beq_eq_false_iff_ne.2 h2
      go_enter Tryz.func59, Tryz.ntmps59
      go_wp2
      go_ret
      refine ⟨ret_bool ?_, rfl⟩
      first | rfl | simp [q1, q2]
end Go.Proofs.YtndglhflbenloaaGreatDoor

/-
  scrubref's tagPiece, runPiece, closing, dataPiece and piece: their walks.
-/
namespace Go.Proofs.YtndglhflbenloaaGreatDoor
open Go.RowKit Go.Lib Own

theorem letter_z : ∀ c : UInt8, isLetZ (c.toNat : Int) = letterC c := all8 (by decide +kernel)
theorem u8_eq {c : UInt8} {n : Nat} (h : (c.toNat : Int) = (n : Int)) (hn : n < 256) : c = UInt8.ofNat n := by
  apply UInt8.toNat_inj.1
  rw [UInt8.toNat_ofNat']
  omega
/-- a byte that is another one -/
theorem beq_ff {c d : UInt8} (h : c ≠ d) (z : Int) (hz : z = (d.toNat : Int)) : ((c.toNat : Int) == z) = false := beq_eq_false_iff_ne.2 (fun e => h (UInt8.toNat_inj.1 (by omega)))
theorem bne_tt {c d : UInt8} (h : c ≠ d) (z : Int) (hz : z = (d.toNat : Int)) : ((c.toNat : Int) != z) = true := bne_iff_ne.2 (fun e => h (UInt8.toNat_inj.1 (by omega)))

set_option maxHeartbeats 4000000 in
theorem tagPiece_any (W k : Nat) (s : ByteArray) (hk : k = 1 ∨ k = 2) (hks : k ≤ s.size) (w : World) (hs : s.size ≤ 4000000) (hT : RefTabs w) :
    Calls Tryz.prog 56 #[.int .i64 W, .string s, .int .i64 k] w fun e w' => e = .returned (.tuple #[.int .i64 ((tagPieceL W s.data.toList k).1 : Int), .int .i64 ((tagPieceL W s.data.toList k).2 : Int)]) ∧ Below w.heap.size w w' := by
  have ht := refTag_any s k w hks hs hT
  unfold TagSaid at ht
  unfold tagPieceL
  obtain ⟨_, t2, _, t4, _⟩ := tagAt_ok (s.data.toList.drop k)
  have hple := pass_lens (s.data.toList.drop k) 3
  rw [List.length_drop, ← size_eq] at hple
  obtain ⟨x, hx⟩ : ∃ x, tagAtL (s.data.toList.drop k) = x := ⟨_, rfl⟩
  obtain ⟨p, hp⟩ : ∃ p, passL 3 (s.data.toList.drop k) = p := ⟨_, rfl⟩
  rw [hx] at ht t2 t4
  rw [hp] at t2 t4 hple ⊢
  rw [List.length_drop, ← size_eq] at t2
  obtain ⟨P, hP⟩ : ∃ P, k + p.1 = P := ⟨_, rfl⟩
  have hPx : s.size - x.2.2.1.length = P := by omega
  rw [hPx, t4] at ht
  have hsl : s.data.toList.length = s.size := (size_eq s).symm
  rw [hP, hsl]
  unfold strV at ht
  obtain ⟨nb, hnb⟩ : ∃ nb : ByteArray, (⟨x.1.toArray⟩ : ByteArray) = nb := ⟨_, rfl⟩
  rw [hnb] at ht
  obtain ⟨st, hst⟩ : ∃ st, p.2 = st := ⟨_, rfl⟩
  rw [hst] at ht ⊢
  have HTA := hid ht
  clear ht hx hp t2 t4 hple hP hPx hsl hnb hst hT
  by_cases h0 : st = 0
  · have q0 : ((st : Int) != 0) = false := by rw [h0]; rfl
    rw [if_neg (fun h => h.1 h0)]
    clear h0
    by_cases hW : W < P
    · rw [if_pos hW]
      rcases hk with rfl | rfl
      all_goals
        go_enter Tryz.func56, Tryz.ntmps56
        go_wp2_with (go_at_call 52; refine HTA.out.mono ?_; rintro e w1 ⟨av, rfl, hrow, b1⟩)
        refine bodyPost_ret (v := _) ?_ rfl ⟨rfl, b1⟩
        simp [results, Tryz.results56, go_sem]
    · rw [if_neg hW]
      rcases hk with rfl | rfl
      all_goals
        go_enter Tryz.func56, Tryz.ntmps56
        go_wp2_with (go_at_call 52; refine HTA.out.mono ?_; rintro e w1 ⟨av, rfl, hrow, b1⟩)
        refine bodyPost_ret (v := _) ?_ rfl ⟨rfl, b1⟩
        simp [results, Tryz.results56, go_sem]
  · have q0 : ((st : Int) != 0) = true := bne_iff_ne.2 (by omega)
    by_cases hsW : s.size ≤ W
    · rw [if_pos ⟨h0, hsW⟩]
      clear h0
      go_enter Tryz.func56, Tryz.ntmps56
      go_wp2_with (go_at_call 52; refine HTA.out.mono ?_; rintro e w1 ⟨av, rfl, hrow, b1⟩)
      refine bodyPost_ret (v := _) ?_ rfl ⟨rfl, b1⟩
      simp [results, Tryz.results56, go_sem]
    · rw [if_neg (fun h => hsW h.2)]
      clear h0
      by_cases hW : W < P
      · rw [if_pos hW]
        rcases hk with rfl | rfl
        all_goals
          go_enter Tryz.func56, Tryz.ntmps56
          go_wp2_with (go_at_call 52; refine HTA.out.mono ?_; rintro e w1 ⟨av, rfl, hrow, b1⟩)
          refine bodyPost_ret (v := _) ?_ rfl ⟨rfl, b1⟩
          simp [results, Tryz.results56, go_sem]
      · rw [if_neg hW]
        rcases hk with rfl | rfl
        all_goals
          go_enter Tryz.func56, Tryz.ntmps56
          go_wp2_with (go_at_call 52; refine HTA.out.mono ?_; rintro e w1 ⟨av, rfl, hrow, b1⟩)
          refine bodyPost_ret (v := _) ?_ rfl ⟨rfl, b1⟩
          simp [results, Tryz.results56, go_sem]

/-- digits and letters -/
def alnumE : List UInt8 := [48, 49, 50, 51, 52, 53, 54, 55, 56, 57, 97, 98, 99, 100, 101, 102, 103, 104, 105, 106, 107, 108, 109, 110, 111, 112, 113, 114, 115, 116, 117, 118, 119, 120, 121, 122, 65, 66, 67, 68, 69, 70, 71, 72, 73, 74, 75, 76, 77, 78, 79, 80, 81, 82, 83, 84, 85, 86, 87, 88, 89, 90]
theorem alnum_in : ∀ c : UInt8, alnumE.contains c = alnumC c := all8 (by decide +kernel)
theorem take_while_min (p : UInt8 → Bool) : ∀ (X : List UInt8) (m : Nat), ((X.take m).takeWhile p).length = min (X.takeWhile p).length m
  | [], m => by simp
  | _ :: _, 0 => by simp
  | c :: X, m + 1 => by
    rw [List.take_succ_cons]
    by_cases h : p c = true
    · rw [List.takeWhile_cons_of_pos h, List.takeWhile_cons_of_pos h]
      simp only [List.length_cons]
      rw [take_while_min p X m]
      omega
    · rw [List.takeWhile_cons_of_neg h, List.takeWhile_cons_of_neg h]
      simp
/-- the reference run by search -/
theorem runPiece_eq (L : List UInt8) (n e : Nat) (hn : n = if L[1]? = some 35 then 2 else 1) (he : e = n + ((L.drop n).takeWhile alnumE.contains).length) :
    runPieceL L = if 32 ≤ e then (1, 32) else if e = L.length then (0, 0) else if L[e]? = some 59 then (1, e + 1) else (1, e) := by
  have hf : alnumE.contains = alnumC := funext alnum_in
  rw [hf] at he
  have hn2 : n ≤ 2 := by rw [hn]; split <;> omega
  unfold runPieceL refEnd
  simp only
  rw [← hn, take_while_min]
  by_cases h32 : 32 ≤ e
  · rw [if_pos h32, if_neg (by omega), show n + min ((L.drop n).takeWhile alnumC).length (32 - n) = 32 by omega]
  · rw [if_neg h32, if_pos (by omega), show n + min ((L.drop n).takeWhile alnumC).length (32 - n) = e by omega]
    by_cases hl : e = L.length
    · rw [if_pos hl, if_pos hl]
    · rw [if_neg hl, if_neg hl]
      by_cases h59 : L[e]? = some 59
      · rw [if_pos h59, if_pos h59]
      · rw [if_neg h59, if_neg h59]

/-- what a function that answers two numbers answers -/
def PairSaid (x : Nat × Nat) (w : World) (e : Ending) (w' : World) : Prop := e = .returned (.tuple #[.int .i64 (x.1 : Int), .int .i64 (x.2 : Int)]) ∧ Below w.heap.size w w'
theorem PairSaid.mk (a b : Nat) {w w' : World} (h : Below w.heap.size w w') : PairSaid (a, b) w (.returned (.tuple #[.int .i64 (a : Int), .int .i64 (b : Int)])) w' := ⟨rfl, h⟩
set_option maxHeartbeats 4000000 in
theorem runPiece_any (s : ByteArray) (h0 : 0 < s.size) (w : World) (hs : s.size ≤ 4000000) :
    Calls Tryz.prog 53 #[.string s] w (PairSaid (runPieceL s.data.toList) w) := by
  obtain ⟨n, hn⟩ : ∃ n, n = if s.data.toList[1]? = some 35 then 2 else 1 := ⟨_, rfl⟩
  obtain ⟨e, he⟩ : ∃ e, e = n + ((s.data.toList.drop n).takeWhile alnumE.contains).length := ⟨_, rfl⟩
  rw [runPiece_eq s.data.toList n e hn he, ← size_eq]
  have hns : n ≤ s.size := by
    rw [hn]
    split
    · rename_i h
      have := (List.getElem?_eq_some_iff.1 h).1
      rw [← size_eq] at this
      omega
    · omega
  have hpa : ∀ W, Calls Tryz.prog 82 #[.string s, .int .i64 (n : Int), .string ⟨#[48, 49, 50, 51, 52, 53, 54, 55, 56, 57, 97, 98, 99, 100, 101, 102, 103, 104, 105, 106, 107, 108, 109, 110, 111, 112, 113, 114, 115, 116, 117, 118, 119, 120, 121, 122, 65, 66, 67, 68, 69, 70, 71, 72, 73, 74, 75, 76, 77, 78, 79, 80, 81, 82, 83, 84, 85, 86, 87, 88, 89, 90]⟩] W fun x w' => x = .returned (.int .i64 (e : Int)) ∧ W = w' := fun W => (past_at s n alnumE hns hs (by decide) (n : Int) rfl _ rfl e he.symm W).mono fun _ _ h => ⟨h.1, h.2.symm⟩
  have hel : e ≤ s.size := by
    rw [he]
    have := List.takeWhile_prefix (p := alnumE.contains) (l := s.data.toList.drop n) |>.length_le
    rw [List.length_drop, ← size_eq] at this
    omega
  have hF : ∀ W', Below w.heap.size w W' → PairSaid (if 32 ≤ e then (1, 32) else if e = s.size then (0, 0) else if s.data.toList[e]? = some 59 then (1, e + 1) else (1, e)) w
      (.returned (.tuple #[.int .i64 (((if 32 ≤ e then (1, 32) else if e = s.size then (0, 0) else if s.data.toList[e]? = some 59 then (1, e + 1) else (1, e) : Nat × Nat).1 : Nat) : Int), .int .i64 (((if 32 ≤ e then (1, 32) else if e = s.size then (0, 0) else if s.data.toList[e]? = some 59 then (1, e + 1) else (1, e) : Nat × Nat).2 : Nat) : Int)])) W' := fun W' hb => ⟨rfl, hb⟩
  generalize hYY : (if 32 ≤ e then (1, 32) else if e = s.size then (0, 0) else if s.data.toList[e]? = some 59 then (1, e + 1) else (1, e) : Nat × Nat) = YY at hF ⊢
  clear hF
  have hG : ∀ a b : Nat, (a, b) = YY → ∀ W', Below w.heap.size w W' → PairSaid YY w (.returned (.tuple #[.int .i64 (a : Int), .int .i64 (b : Int)])) W' := fun a b h W' hb => by subst h; exact ⟨rfl, hb⟩
  have HG := hid hG
  have HPA0 := hid hpa
  clear hG hpa he
  by_cases h1 : 1 < s.size
  · obtain ⟨y, hy⟩ : ∃ y, s[1]'h1 = y := ⟨_, rfl⟩
    have hyl := getElem_list h1 hy
    by_cases h35 : y = 35
    · have q35 : ((y.toNat : Int) == 35) = true := by rw [h35]; rfl
      have hn2 : n = 2 := by rw [hn, hyl, h35]; rfl
      have HPA := HPA0
      rw [hn2, show ((2 : Nat) : Int) = 2 from rfl] at HPA
      clear hn hn2 hyl h35 HPA0 hns
      by_cases h32 : 32 ≤ e
      · have HF := hid (HG.out 1 32 (by rw [← hYY, if_pos h32]))
        clear hYY HG 
        go_enter Tryz.func53, Tryz.ntmps53
        go_wp2_with (go_at_call 82; with_reducible refine (HPA.out _).mono ?_; rintro e w' ⟨rfl, rfl⟩)
        refine bodyPost_ret (v := .tuple #[.int .i64 ((1 : Nat) : Int), .int .i64 ((32 : Nat) : Int)]) ?_ rfl (HF.out _ (Below.refl _ _))
        simp [results, Tryz.results53, go_sem]
      · have n32 : ¬ (32 : Int) ≤ (e : Int) := by omega
        by_cases hes : e = s.size
        · have qe : ((e : Int) == (s.size : Int)) = true := beq_iff_eq.2 (by omega)
          have HF := hid (HG.out 0 0 (by rw [← hYY, if_neg h32, if_pos hes]))
          clear hYY HG hes
          go_enter Tryz.func53, Tryz.ntmps53
          go_wp2_with (go_at_call 82; with_reducible refine (HPA.out _).mono ?_; rintro e w' ⟨rfl, rfl⟩)
          refine bodyPost_ret (v := .tuple #[.int .i64 ((0 : Nat) : Int), .int .i64 ((0 : Nat) : Int)]) ?_ rfl (HF.out _ (Below.refl _ _))
          simp [results, Tryz.results53, go_sem]
        · have hels : e < s.size := by omega
          have qe : ((e : Int) == (s.size : Int)) = false := beq_eq_false_iff_ne.2 (by omega)
          obtain ⟨x, hx⟩ : ∃ x, s[e]'hels = x := ⟨_, rfl⟩
          have hl := getElem_list hels hx
          by_cases h59 : x = 59
          · have q59 : ((x.toNat : Int) == 59) = true := by rw [h59]; rfl
            have HF := hid (HG.out 1 (e + 1) (by rw [← hYY, if_neg h32, if_neg hes, if_pos (by rw [hl, h59])]))
            clear hYY HG hes hl h59
            go_enter Tryz.func53, Tryz.ntmps53
            go_wp2_with (go_at_call 82; with_reducible refine (HPA.out _).mono ?_; rintro e w' ⟨rfl, rfl⟩)
            refine bodyPost_ret (v := .tuple #[.int .i64 ((1 : Nat) : Int), .int .i64 (((e + 1) : Nat) : Int)]) ?_ rfl (HF.out _ (Below.refl _ _))
            simp [results, Tryz.results53, go_sem]
          · have q59 : ((x.toNat : Int) == 59) = false := beq_ff h59 59 rfl
            have HF := hid (HG.out 1 e (by rw [← hYY, if_neg h32, if_neg hes, if_neg (by rw [hl]; exact fun h => h59 (Option.some.inj h))]))
            clear hYY HG hes hl h59
            go_enter Tryz.func53, Tryz.ntmps53
            go_wp2_with (go_at_call 82; with_reducible refine (HPA.out _).mono ?_; rintro e w' ⟨rfl, rfl⟩)
            refine bodyPost_ret (v := .tuple #[.int .i64 ((1 : Nat) : Int), .int .i64 ((e : Nat) : Int)]) ?_ rfl (HF.out _ (Below.refl _ _))
            simp [results, Tryz.results53, go_sem]
    · have q35 : ((y.toNat : Int) == 35) = false := beq_ff h35 35 rfl
      have hn1 : n = 1 := by rw [hn, hyl, if_neg (fun h => h35 (Option.some.inj h))]
      have HPA := HPA0
      rw [hn1, show ((1 : Nat) : Int) = 1 from rfl] at HPA
      clear hn hn1 hyl h35 HPA0 hns
      by_cases h32 : 32 ≤ e
      · have HF := hid (HG.out 1 32 (by rw [← hYY, if_pos h32]))
        clear hYY HG 
        go_enter Tryz.func53, Tryz.ntmps53
        go_wp2_with (go_at_call 82; with_reducible refine (HPA.out _).mono ?_; rintro e w' ⟨rfl, rfl⟩)
        refine bodyPost_ret (v := .tuple #[.int .i64 ((1 : Nat) : Int), .int .i64 ((32 : Nat) : Int)]) ?_ rfl (HF.out _ (Below.refl _ _))
        simp [results, Tryz.results53, go_sem]
      · have n32 : ¬ (32 : Int) ≤ (e : Int) := by omega
        by_cases hes : e = s.size
        · have qe : ((e : Int) == (s.size : Int)) = true := beq_iff_eq.2 (by omega)
          have HF := hid (HG.out 0 0 (by rw [← hYY, if_neg h32, if_pos hes]))
          clear hYY HG hes
          go_enter Tryz.func53, Tryz.ntmps53
          go_wp2_with (go_at_call 82; with_reducible refine (HPA.out _).mono ?_; rintro e w' ⟨rfl, rfl⟩)
          refine bodyPost_ret (v := .tuple #[.int .i64 ((0 : Nat) : Int), .int .i64 ((0 : Nat) : Int)]) ?_ rfl (HF.out _ (Below.refl _ _))
          simp [results, Tryz.results53, go_sem]
        · have hels : e < s.size := by omega
          have qe : ((e : Int) == (s.size : Int)) = false := beq_eq_false_iff_ne.2 (by omega)
          obtain ⟨x, hx⟩ : ∃ x, s[e]'hels = x := ⟨_, rfl⟩
          have hl := getElem_list hels hx
          by_cases h59 : x = 59
          · have q59 : ((x.toNat : Int) == 59) = true := by rw [h59]; rfl
            have HF := hid (HG.out 1 (e + 1) (by rw [← hYY, if_neg h32, if_neg hes, if_pos (by rw [hl, h59])]))
            clear hYY HG hes hl h59
            go_enter Tryz.func53, Tryz.ntmps53
            go_wp2_with (go_at_call 82; with_reducible refine (HPA.out _).mono ?_; rintro e w' ⟨rfl, rfl⟩)
            refine bodyPost_ret (v := .tuple #[.int .i64 ((1 : Nat) : Int), .int .i64 (((e + 1) : Nat) : Int)]) ?_ rfl (HF.out _ (Below.refl _ _))
            simp [results, Tryz.results53, go_sem]
          · have q59 : ((x.toNat : Int) == 59) = false := beq_ff h59 59 rfl
            have HF := hid (HG.out 1 e (by rw [← hYY, if_neg h32, if_neg hes, if_neg (by rw [hl]; exact fun h => h59 (Option.some.inj h))]))
            clear hYY HG hes hl h59
            go_enter Tryz.func53, Tryz.ntmps53
            go_wp2_with (go_at_call 82; with_reducible refine (HPA.out _).mono ?_; rintro e w' ⟨rfl, rfl⟩)
            refine bodyPost_ret (v := .tuple #[.int .i64 ((1 : Nat) : Int), .int .i64 ((e : Nat) : Int)]) ?_ rfl (HF.out _ (Below.refl _ _))
            simp [results, Tryz.results53, go_sem]
  · have hn1 : n = 1 := by rw [hn, List.getElem?_eq_none (by rw [← size_eq]; omega)]; rfl
    have HPA := HPA0
    rw [hn1, show ((1 : Nat) : Int) = 1 from rfl] at HPA
    clear hn hn1 HPA0 hns
    by_cases h32 : 32 ≤ e
    · exact absurd h32 (by omega)
    · have n32 : ¬ (32 : Int) ≤ (e : Int) := by omega
      by_cases hes : e = s.size
      · have qe : ((e : Int) == (s.size : Int)) = true := beq_iff_eq.2 (by omega)
        have HF := hid (HG.out 0 0 (by rw [← hYY, if_neg h32, if_pos hes]))
        clear hYY HG hes
        go_enter Tryz.func53, Tryz.ntmps53
        go_wp2_with (go_at_call 82; with_reducible refine (HPA.out _).mono ?_; rintro e w' ⟨rfl, rfl⟩)
        refine bodyPost_ret (v := .tuple #[.int .i64 ((0 : Nat) : Int), .int .i64 ((0 : Nat) : Int)]) ?_ rfl (HF.out _ (Below.refl _ _))
        simp [results, Tryz.results53, go_sem]
      · have hels : e < s.size := by omega
        have qe : ((e : Int) == (s.size : Int)) = false := beq_eq_false_iff_ne.2 (by omega)
        obtain ⟨x, hx⟩ : ∃ x, s[e]'hels = x := ⟨_, rfl⟩
        have hl := getElem_list hels hx
        by_cases h59 : x = 59
        · have q59 : ((x.toNat : Int) == 59) = true := by rw [h59]; rfl
          have HF := hid (HG.out 1 (e + 1) (by rw [← hYY, if_neg h32, if_neg hes, if_pos (by rw [hl, h59])]))
          clear hYY HG hes hl h59
          go_enter Tryz.func53, Tryz.ntmps53
          go_wp2_with (go_at_call 82; with_reducible refine (HPA.out _).mono ?_; rintro e w' ⟨rfl, rfl⟩)
          refine bodyPost_ret (v := .tuple #[.int .i64 ((1 : Nat) : Int), .int .i64 (((e + 1) : Nat) : Int)]) ?_ rfl (HF.out _ (Below.refl _ _))
          simp [results, Tryz.results53, go_sem]
        · have q59 : ((x.toNat : Int) == 59) = false := beq_ff h59 59 rfl
          have HF := hid (HG.out 1 e (by rw [← hYY, if_neg h32, if_neg hes, if_neg (by rw [hl]; exact fun h => h59 (Option.some.inj h))]))
          clear hYY HG hes hl h59
          go_enter Tryz.func53, Tryz.ntmps53
          go_wp2_with (go_at_call 82; with_reducible refine (HPA.out _).mono ?_; rintro e w' ⟨rfl, rfl⟩)
          refine bodyPost_ret (v := .tuple #[.int .i64 ((1 : Nat) : Int), .int .i64 ((e : Nat) : Int)]) ?_ rfl (HF.out _ (Below.refl _ _))
          simp [results, Tryz.results53, go_sem]
end Go.Proofs.YtndglhflbenloaaGreatDoor
