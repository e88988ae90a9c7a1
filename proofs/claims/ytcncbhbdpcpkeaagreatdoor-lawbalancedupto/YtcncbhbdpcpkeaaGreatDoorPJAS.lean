/-
  Parts of the walk, joined: SameR.
-/
import Derived.BigQuiet
import Derived.Test.YtcncbhbdpcpkeaaGreatDoorPJAI
import Derived.Test.YtcncbhbdpcpkeaaGreatDoorPJAP
/-
  The statements' sameAttrs, sameEvents, sameNodes, sameLists: their walks, at lists that can be read and hold the same.
-/
namespace Go.Proofs.YtcncbhbdpcpkeaaGreatDoor
open Go.RowKit Go.Lib Own

theorem AttrsR.drewN {W : World} {v : Value} {al : List AttrP} (h : AttrsR W v al) (n : Nat) : AttrsR (W.drewN n) v al := h
theorem AttrsR.shape {W : World} {v : Value} {al : List AttrP} (h : AttrsR W v al) : ∃ p n c, v = .slice p n c := by
  obtain ⟨p, c, e, _⟩ := h
  exact ⟨p, _, c, e⟩
theorem EvsR.shape {W : World} {v : Value} {al : List EvP} (h : EvsR W v al) : ∃ p n c, v = .slice p n c := by
  obtain ⟨p, c, e, _⟩ := h
  exact ⟨p, _, c, e⟩

set_option maxHeartbeats 2000000 in
set_option maxRecDepth 10000 in
theorem sameAttrsR_any (v1 v2 : Value) (l : List AttrP) (w : World) (h1 : AttrsR w v1 l) (h2 : AttrsR w v2 l) :
    Calls Tryz.prog 31 #[v1, v2] w fun e w' => e = .returned (.bool true) ∧ ∃ n, w' = w.drewN n := by
  obtain ⟨p1, k1, rfl, _, _, a1, _⟩ := h1
  obtain ⟨p2, k2, rfl, _, _, a2, _⟩ := h2
  have H1 := hid a1
  have H2 := hid a2
  clear a1 a2
  go_enter Tryz.func31, Tryz.ntmps31
  have q0 : ((l.length : Int) != (l.length : Int)) = false := by simp
  go_wp2
  go_loopw [13] (fun iv wr => ∃ k n : Nat, iv = .int .i64 k ∧ k ≤ l.length ∧ wr = w.drewN n) (fun iv _ => l.length - (RowKit.intOf iv).toNat)
  case atStart => exact ⟨0, 0, rfl, Nat.zero_le _, rfl⟩
  case round =>
    obtain ⟨k, n, rfl, hk, rfl⟩ := hrel
    by_cases hkl : k < l.length
    · obtain ⟨s, hs⟩ : ∃ s, l[k]? = some s := ⟨_, List.getElem?_eq_getElem hkl⟩
      obtain ⟨g1, o1, rfl, a1, a2⟩ := H1.out k s hs
      obtain ⟨g2, o2, rfl, b1, b2⟩ := H2.out k s hs
      obtain ⟨u1, hu1⟩ : ∃ u1, bs s.1 = u1 := ⟨_, rfl⟩
      obtain ⟨u2, hu2⟩ : ∃ u2, bs s.2 = u2 := ⟨_, rfl⟩
      rw [hu1] at a1 b1
      rw [hu2] at a2 b2
      clear hu1 hu2 H1 H2 hs
      go_wp2_with fail
      go_quiet (fail)
      go_wp2
      go_roundw
      case rel => exact ⟨k + 1, n + nq, rfl, by omega, by first | rfl | simp⟩
      case measure => simp [RowKit.intOf]; omega
    · go_wp2
      go_ret
      exact ⟨rfl, n, rfl⟩

end Go.Proofs.YtcncbhbdpcpkeaaGreatDoor
