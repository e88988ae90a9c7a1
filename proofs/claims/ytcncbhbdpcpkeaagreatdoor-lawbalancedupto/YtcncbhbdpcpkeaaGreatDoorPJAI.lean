/-
  Parts of the walk, joined: SameEv.
-/
import Derived.BigQuiet
import Derived.Test.YtcncbhbdpcpkeaaGreatDoorPJAA
import Derived.Test.YtcncbhbdpcpkeaaGreatDoorPJAH
/-
  The statement's comparing of events: its walk, where both hold the same.
-/
namespace Go.Proofs.YtcncbhbdpcpkeaaGreatDoor
open Go.RowKit Go.Lib Own

theorem attrs_at (l : List (List UInt8 × List UInt8)) (k : Nat) (a : List UInt8 × List UInt8) (h : l[k]? = some a) : (attrsV l)[k * 2]? = some (strV a.1) ∧ (attrsV l)[k * 2 + 1]? = some (strV a.2) := by
  induction l generalizing k with
  | nil => simp at h
  | cons b l ih =>
    cases k with
    | zero =>
      simp only [List.getElem?_cons_zero, Option.some.injEq] at h
      subst h
      exact ⟨rfl, rfl⟩
    | succ k =>
      rw [List.getElem?_cons_succ] at h
      obtain ⟨h1, h2⟩ := ih k h
      refine ⟨?_, ?_⟩
      · rw [show (k + 1) * 2 = k * 2 + 1 + 1 by omega]; exact h1
      · rw [show (k + 1) * 2 + 1 = k * 2 + 1 + 1 + 1 by omega]; exact h2
set_option maxHeartbeats 2000000 in
set_option maxRecDepth 10000 in
theorem sameAttrs_any (B1 B2 : Nat) (v1 v2 : Value) (l : List (List UInt8 × List UInt8)) (w : World) (h1 : w.ownsRow B1 122 2 v1 l.length (attrsV l)) (h2 : w.ownsRow B2 122 2 v2 l.length (attrsV l)) :
    Calls Tryz.prog 31 #[v1, v2] w fun e w' => e = .returned (.bool true) ∧ ∃ n, w' = w.drewN n := by
  have hl := row_max h1
  obtain ⟨p1, k1, rfl⟩ := row_shape h1
  obtain ⟨p2, k2, rfl⟩ := row_shape h2
  have hlen : (attrsV l).length = l.length * 2 := attrsV_len l
  have H1 := hid h1
  have H2 := hid h2
  clear h1 h2
  go_enter Tryz.func31, Tryz.ntmps31
  have q0 : ((l.length : Int) != (l.length : Int)) = false := by simp
  go_wp2
  go_loopw [13] (fun iv wr => ∃ k n : Nat, iv = .int .i64 k ∧ k ≤ l.length ∧ wr = w.drewN n) (fun iv _ => l.length - (RowKit.intOf iv).toNat)
  case atStart => exact ⟨0, 0, rfl, Nat.zero_le _, rfl⟩
  case round =>
    obtain ⟨k, n, rfl, hk, rfl⟩ := hrel
    by_cases hkl : k < l.length
    · obtain ⟨g1, ca1, e1, _, _, hc1⟩ := row_at H1.out (by omega)
      obtain ⟨g2, ca2, e2, _, _, hc2⟩ := row_at H2.out (by omega)
      cases e1
      cases e2
      obtain ⟨x1, x2⟩ := attrs_at l k l[k] (List.getElem?_eq_getElem hkl)
      have a1 := (hc1 (k * 2) (by omega)).trans x1
      have a2 := (hc1 (k * 2 + 1) (by omega)).trans x2
      have b1 := (hc2 (k * 2) (by omega)).trans x1
      have b2 := (hc2 (k * 2 + 1) (by omega)).trans x2
      obtain ⟨u1, hu1⟩ : ∃ u1, (⟨l[k].1.toArray⟩ : ByteArray) = u1 := ⟨_, rfl⟩
      obtain ⟨u2, hu2⟩ : ∃ u2, (⟨l[k].2.toArray⟩ : ByteArray) = u2 := ⟨_, rfl⟩
      unfold strV at a1 a2 b1 b2
      rw [hu1] at a1 b1
      rw [hu2] at a2 b2
      clear hc1 hc2 x1 x2 hu1 hu2 H1 H2
      go_wp2_with fail
      go_quiet (fail)
      go_wp2
      go_roundw
      case rel => exact ⟨k + 1, n + nq, rfl, by omega, by first | rfl | simp⟩
      case measure => simp [RowKit.intOf]; omega
    · go_wp2
      go_ret
      exact ⟨rfl, n, rfl⟩

/-- the four cells of an event in a row -/
theorem ev_cells {W : World} {base : Nat} {v : Value} {xs : List Value} {l : List Ev} (h : W.ownsRow base 60 4 v l.length xs) (he : EvsAt W base xs l) (k : Nat) (hk : k < l.length) :
    ∃ g cap a, v = .slice (some ⟨g, 0, none⟩) l.length cap ∧ base ≤ g ∧ g < W.heap.size ∧ W.cell? ⟨g, k * 4, none⟩ = some (.int .i64 (evK l[k] : Nat)) ∧ W.cell? ⟨g, k * 4 + 1, none⟩ = some (strV (evN l[k])) ∧ W.cell? ⟨g, k * 4 + 2, none⟩ = some a ∧
      W.cell? ⟨g, k * 4 + 3, none⟩ = some (strV (evT l[k])) ∧ W.ownsRow base 122 2 a (evA l[k]).length (attrsV (evA l[k])) ∧ EvsAt W base [.int .i64 (evK l[k] : Nat), strV (evN l[k]), a, strV (evT l[k])] [l[k]] := by
  obtain ⟨g, cap, hv, hg1, hg2, hc⟩ := row_at h (by omega)
  obtain ⟨a, a0, a1, a2, a3, a4, a5⟩ := evs_get xs l k l[k] he (List.getElem?_eq_getElem hk)
  exact ⟨g, cap, a, hv, hg1, hg2, (hc _ (by omega)).trans a0, (hc _ (by omega)).trans a1, (hc _ (by omega)).trans a2, (hc _ (by omega)).trans a3, a4, a5⟩

set_option maxHeartbeats 4000000 in
set_option maxRecDepth 10000 in
theorem sameEvents_any (B1 B2 : Nat) (v1 v2 : Value) (xs1 xs2 : List Value) (l : List Ev) (w : World) (h1 : w.ownsRow B1 60 4 v1 l.length xs1) (e1 : EvsAt w B1 xs1 l) (h2 : w.ownsRow B2 60 4 v2 l.length xs2) (e2 : EvsAt w B2 xs2 l) :
    Calls Tryz.prog 9 #[v1, v2] w fun e w' => e = .returned (.bool true) ∧ ∃ n, w' = w.drewN n := by
  have hl := row_max h1
  obtain ⟨p1, k1, rfl⟩ := row_shape h1
  obtain ⟨p2, k2, rfl⟩ := row_shape h2
  have H1 := hid (And.intro h1 e1)
  have H2 := hid (And.intro h2 e2)
  clear h1 h2 e1 e2
  go_enter Tryz.func9, Tryz.ntmps9
  have q0 : ((l.length : Int) != (l.length : Int)) = false := by simp
  go_wp2
  go_loopw [13] (fun iv wr => ∃ k : Nat, iv = .int .i64 k ∧ k ≤ l.length ∧ Hid (True → ∃ n, wr = w.drewN n)) (fun iv _ => l.length - (RowKit.intOf iv).toNat)
  case atStart => exact ⟨0, rfl, Nat.zero_le _, hid (fun _ => ⟨0, rfl⟩)⟩
  case round =>
    obtain ⟨k, rfl, hk, HQ⟩ := hrel
    by_cases hkl : k < l.length
    · obtain ⟨g1, ca1, a1, ex1, _, _, b0, b1, b2, b3, b4, _⟩ := ev_cells H1.out.1 H1.out.2 k hkl
      obtain ⟨g2, ca2, a2, ex2, _, _, d0, d1, d2, d3, d4, _⟩ := ev_cells H2.out.1 H2.out.2 k hkl
      cases ex1
      cases ex2
      obtain ⟨sp1, sc1, rfl⟩ := row_shape b4
      obtain ⟨sp2, sc2, rfl⟩ := row_shape d4
      have hq := HQ.out trivial
      replace b0 := cell_drew hq b0
      replace b1 := cell_drew hq b1
      replace b2 := cell_drew hq b2
      replace b3 := cell_drew hq b3
      replace d0 := cell_drew hq d0
      replace d1 := cell_drew hq d1
      replace d2 := cell_drew hq d2
      replace d3 := cell_drew hq d3
      have hsame := fun n => sameAttrs_any B1 B2 _ _ (evA l[k]) (wr.drewN n) (by obtain ⟨n', rfl⟩ := hq; exact b4) (by obtain ⟨n', rfl⟩ := hq; exact d4)
      have HS := hid hsame
      clear hsame b4 d4 hq H1 H2
      obtain ⟨u1, hu1⟩ : ∃ u1, (⟨(evN l[k]).toArray⟩ : ByteArray) = u1 := ⟨_, rfl⟩
      obtain ⟨u2, hu2⟩ : ∃ u2, (⟨(evT l[k]).toArray⟩ : ByteArray) = u2 := ⟨_, rfl⟩
      unfold strV at b1 b3 d1 d3
      rw [hu1] at b1 d1
      rw [hu2] at b3 d3
      have q1 : (((evK l[k] : Nat) : Int) != ((evK l[k] : Nat) : Int)) = false := by simp
      generalize ((evK l[k] : Nat) : Int) = z at *
      clear hu1 hu2
      go_wp2_with fail
      go_quiet (first | (go_at_call 31; refine Calls.quiet_of (HS.out _)))
      go_wp2
      go_roundw
      case rel =>
        obtain ⟨n, hn⟩ := HQ.out trivial
        exact ⟨k + 1, rfl, by omega, hid (fun _ => ⟨n + nq, by rw [hn]; simp⟩)⟩
      case measure => simp [RowKit.intOf]; omega
    · go_wp2
      go_ret
      exact ⟨rfl, HQ.out trivial⟩
end Go.Proofs.YtcncbhbdpcpkeaaGreatDoor
