/-
  String of a strings.Builder that lies inside another block, an empty one too: its walk.
-/
import Derived.Test.YthhdhlehcblghaaDoorInBuilder
import Derived.Test.YthhdhlehcblghaaDoorMemW
import Derived.Lib.UnsafeStr
namespace Go.Proofs.YthhdhlehcblghaaDoor
open Go.RowKit Go.Lib Own

theorem us_none (p : Option Addr) (W : World) : (Builtin.unsafeString_ #[53, 3] 9 #[.pointer p, .int .i64 0]).run Tryd.prog W = .ok (.string ⟨#[]⟩) W := Lib.run_unsafeString_none W _ _ _ p
set_option maxHeartbeats 2000000 in
set_option maxRecDepth 100000 in
theorem string_nil_in (b o : Nat) (cs : Array Value) (T : TypeId) (n : Nat) (hn : n = 0) (w : World) (hat : w.heap[b]? = some (.cells cs T (0, 0))) (hcv : cs[o + 1]? = some (.slice none n 0)) :
    Calls Tryd.prog 7 #[.pointer (some ⟨b, o, none⟩)] w fun e w' => e = .returned (.string ⟨#[]⟩) ∧ w' = w.drew := by
  subst hn
  have hUS := us_none
  have c1 : w.drew.cell? ⟨b, o + 1, none⟩ = some (.slice none 0 0) := cell_at hat hcv
  have hSD : (Builtin.unsafeSliceData_ #[34] 53 #[.slice none 0 0]).run Tryd.prog w.drew = .ok (.pointer none) w.drew := rfl
  go_enter Tryd.func7, Tryd.ntmps7
  go_wp2
  go_region
  all_goals (go_wp2; go_ret; exact ⟨rfl, rfl⟩)
set_option maxHeartbeats 2000000 in
set_option maxRecDepth 100000 in
theorem string_room_in (b o : Nat) (cs : Array Value) (T : TypeId) (g cap : Nat) (hc0 : cap ≠ 0) (w : World) (hat : w.heap[b]? = some (.cells cs T (0, 0))) (hcv : cs[o + 1]? = some (.slice (some ⟨g, 0, none⟩) 0 cap)) :
    Calls Tryd.prog 7 #[.pointer (some ⟨b, o, none⟩)] w fun e w' => e = .returned (.string ⟨#[]⟩) ∧ w' = w.drew := by
  have hUS := us_none
  have c1 : w.drew.cell? ⟨b, o + 1, none⟩ = some (.slice (some ⟨g, 0, none⟩) 0 cap) := cell_at hat hcv
  have hSD : (Builtin.unsafeSliceData_ #[34] 53 #[.slice (some ⟨g, 0, none⟩) 0 cap]).run Tryd.prog w.drew = .ok (.pointer (some ⟨g, 0, none⟩)) w.drew := Lib.run_unsafeSliceData_row _ _ _ _ _ _ hc0
  clear hc0
  go_enter Tryd.func7, Tryd.ntmps7
  go_wp2
  go_region
  all_goals (go_wp2; go_ret; exact ⟨rfl, rfl⟩)
set_option maxHeartbeats 2000000 in
set_option maxRecDepth 100000 in
theorem string_noroom_in (b o : Nat) (cs : Array Value) (T : TypeId) (g : Nat) (cur : Array Value) (fz : Nat × Nat) (w : World) (hat : w.heap[b]? = some (.cells cs T (0, 0))) (hcv : cs[o + 1]? = some (.slice (some ⟨g, 0, none⟩) 0 0)) (hg : w.heap[g]? = some (.cells cur 5 fz)) :
    Calls Tryd.prog 7 #[.pointer (some ⟨b, o, none⟩)] w fun e w' => e = .returned (.string ⟨#[]⟩) ∧ Below w.heap.size w w' := by
  have hUS := us_none
  have hlt := block_lt hat
  have c1 : w.drew.cell? ⟨b, o + 1, none⟩ = some (.slice (some ⟨g, 0, none⟩) 0 0) := cell_at hat hcv
  have hSD : (Builtin.unsafeSliceData_ #[34] 53 #[.slice (some ⟨g, 0, none⟩) 0 0]).run Tryd.prog w.drew = .ok (.pointer (some ⟨w.drew.heap.size, 0, none⟩)) (w.drew.alloc (.view ⟨g, 0, none⟩ 5)) :=
    Lib.run_unsafeSliceData_zero w.drew _ _ 5 Tryd.underlying53 ⟨g, 0, none⟩ 0 (5, cur.size) (by have hg' : w.drew.heap[g]? = some (.cells cur 5 fz) := hg; simp [World.shape?, hg'])
  have c2 : (w.drew.alloc (.view ⟨g, 0, none⟩ 5)).cell? ⟨b, o + 1, none⟩ = some (.slice (some ⟨g, 0, none⟩) 0 0) := by
    have : (w.drew.alloc (.view ⟨g, 0, none⟩ 5)).heap[b]? = _ := (Lib.alloc_old w.drew _ b hlt).trans hat
    exact cell_at this hcv
  have c3 : (w.alloc (.view ⟨g, 0, none⟩ 5)).drew.cell? ⟨b, o + 1, none⟩ = some (.slice (some ⟨g, 0, none⟩) 0 0) := c2
  have c0 : w.cell? ⟨b, o + 1, none⟩ = some (.slice (some ⟨g, 0, none⟩) 0 0) := c1
  go_enter Tryd.func7, Tryd.ntmps7
  go_wp2
  go_region
  all_goals (go_wp2; go_ret; exact ⟨rfl, (Below.drew (Below.refl _ w)).alloc (Nat.le_refl _) _⟩)
theorem string_any_in (base b o : Nat) (cs : Array Value) (T : TypeId) (p v : Value) (l : List UInt8) (w : World) (h : InB w base b o cs T p v l) :
    Calls Tryd.prog 7 #[.pointer (some ⟨b, o, none⟩)] w fun e w' => e = .returned (.string (bs l)) ∧ w'.heap[b]? = some (.cells cs T (0, 0)) ∧ Below base w w' ∧
      ∀ k, k < w.heap.size → k ≠ b → v.ownBlock ≠ some k → w'.heap[k]? = w.heap[k]? := by
  have hlt := block_lt h.at_
  have hbase : base ≤ w.heap.size := by have := h.lo; omega
  cases l with
  | cons x r => exact (string_in base b o cs T p v (x :: r) w h (by simp)).mono (fun e w' ⟨h1, h2, h3, h4⟩ => ⟨h1, h2, h3, fun k _ h5 h6 => h4 k h5 h6⟩)
  | nil =>
    have fin : ∀ e w', (e = Ending.returned (.string ⟨#[]⟩) ∧ Below w.heap.size w w') → (e = .returned (.string (bs [])) ∧ w'.heap[b]? = some (.cells cs T (0, 0)) ∧ Below base w w' ∧ ∀ k, k < w.heap.size → k ≠ b → v.ownBlock ≠ some k → w'.heap[k]? = w.heap[k]?) := by
      rintro e w' ⟨rfl, hb⟩
      exact ⟨rfl, (hb.block b hlt).trans h.at_, hb.mono hbase, fun k hk _ _ => hb.block k hk⟩
    have hcv := h.cv
    rcases h.own.2 with ⟨hv, h0⟩ | ⟨g, cap, cur, fz, hv, _, hg, _⟩
    · rw [hv] at hcv
      exact (string_nil_in b o cs T 0 rfl w h.at_ hcv).mono (fun e w' ⟨h1, h2⟩ => fin e w' ⟨h1, by rw [h2]; exact (Below.refl _ w).drew⟩)
    · rw [hv] at hcv
      by_cases hc0 : cap = 0
      · subst hc0
        exact (string_noroom_in b o cs T g cur fz w h.at_ hcv hg).mono (fun e w' h1 => fin e w' h1)
      · exact (string_room_in b o cs T g cap hc0 w h.at_ hcv).mono (fun e w' ⟨h1, h2⟩ => fin e w' ⟨h1, by rw [h2]; exact (Below.refl _ w).drew⟩)
end Go.Proofs.YthhdhlehcblghaaDoor
