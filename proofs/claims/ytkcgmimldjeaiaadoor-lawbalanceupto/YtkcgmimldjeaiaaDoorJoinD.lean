/-
  Parts of the walk, joined: LacksP.
-/
import Derived.Test.YtkcgmimldjeaiaaDoorJoinA
/-
  policy.Check: the parts of lists and tables: its walk.
-/
namespace Go.Proofs.YtkcgmimldjeaiaaDoor
open Go.RowKit Go.Lib Own

set_option maxHeartbeats 8000000 in
set_option maxRecDepth 100000 in
theorem lacksParts_any (vn : Value) (names : List (List UInt8)) (w : World) (hn : Words w vn names) :
    Calls Tryd.prog 70 #[vn] w fun e w' => e = .returned (.bool (partsP names)) ∧ Below w.heap.size w w' := by
  have hb := (Below.refl w.heap.size w).alloc (Nat.le_refl _) (.cells #[vn] 23)
  have hw := heap_alloc_new w (.cells #[vn] 23)
  have hone := fun X => partsOne_any X w.heap.size vn names _ (cell_at hw rfl) (hn.below hb)
  obtain ⟨np, nc, rfl, _⟩ := hn.len
  obtain ⟨f, hf⟩ : ∃ f : ByteArray → Bool, (fun X : ByteArray => names.contains X.toList) = f := ⟨_, rfl⟩
  have hone2 : ∀ X : ByteArray, Calls Tryd.prog 108 #[.string X, .pointer (some ⟨w.heap.size, 0, none⟩)] (w.alloc (.cells #[.slice np names.length nc] 23)) fun e w' => e = .returned (.bool (f X)) ∧ w' = w.alloc (.cells #[.slice np names.length nc] 23) := fun X => by rw [← hf]; exact hone X
  unfold partsP
  have eul : names.contains [117, 108] = f ⟨#[117, 108]⟩ := by rw [← hf]; show _ = names.contains (bs [117, 108]).toList; rw [bs_toList]
  have eol : names.contains [111, 108] = f ⟨#[111, 108]⟩ := by rw [← hf]; show _ = names.contains (bs [111, 108]).toList; rw [bs_toList]
  have eli : names.contains [108, 105] = f ⟨#[108, 105]⟩ := by rw [← hf]; show _ = names.contains (bs [108, 105]).toList; rw [bs_toList]
  have eta : names.contains [116, 97, 98, 108, 101] = f ⟨#[116, 97, 98, 108, 101]⟩ := by rw [← hf]; show _ = names.contains (bs [116, 97, 98, 108, 101]).toList; rw [bs_toList]
  have etb : names.contains [116, 98, 111, 100, 121] = f ⟨#[116, 98, 111, 100, 121]⟩ := by rw [← hf]; show _ = names.contains (bs [116, 98, 111, 100, 121]).toList; rw [bs_toList]
  have etr : names.contains [116, 114] = f ⟨#[116, 114]⟩ := by rw [← hf]; show _ = names.contains (bs [116, 114]).toList; rw [bs_toList]
  have etd : names.contains [116, 100] = f ⟨#[116, 100]⟩ := by rw [← hf]; show _ = names.contains (bs [116, 100]).toList; rw [bs_toList]
  rw [eul, eol, eli, eta, etb, etr, etd]
  obtain ⟨ul, hul⟩ : ∃ ul, f ⟨#[117, 108]⟩ = ul := ⟨_, rfl⟩
  obtain ⟨ol, hol⟩ : ∃ ol, f ⟨#[111, 108]⟩ = ol := ⟨_, rfl⟩
  obtain ⟨li, hli⟩ : ∃ li, f ⟨#[108, 105]⟩ = li := ⟨_, rfl⟩
  obtain ⟨ta, hta⟩ : ∃ ta, f ⟨#[116, 97, 98, 108, 101]⟩ = ta := ⟨_, rfl⟩
  obtain ⟨tb, htb⟩ : ∃ tb, f ⟨#[116, 98, 111, 100, 121]⟩ = tb := ⟨_, rfl⟩
  obtain ⟨tr, htr⟩ : ∃ tr, f ⟨#[116, 114]⟩ = tr := ⟨_, rfl⟩
  obtain ⟨td, htd⟩ : ∃ td, f ⟨#[116, 100]⟩ = td := ⟨_, rfl⟩
  rw [hul, hol, hli, hta, htb, htr, htd]
  have HONE := hid hone2
  have HB := hid hb
  have hmf : ∀ (fn : Fn) (first cap : Array Value) (w : World), (Instr.makeFunc fn first cap).run Tryd.prog w = .ok (.func fn first cap) w := fun _ _ _ _ => rfl
  have eg := enters_of Tryd.func108 (by kernel_rfl) rfl
  clear hone hone2 hf hn hw hb eul eol eli eta etb etr etd
  cases ul
  · cases ol
    · cases ta
      · go_enter Tryd.func70, Tryd.ntmps70
        go_wp2_with (go_at_call 108; refine (HONE.out _).mono ?_; rintro e w' ⟨rfl, rfl⟩)
        go_ret
        exact ⟨ret_bool (by simp), HB.out⟩
      · cases tb
        · go_enter Tryd.func70, Tryd.ntmps70
          go_wp2_with (go_at_call 108; refine (HONE.out _).mono ?_; rintro e w' ⟨rfl, rfl⟩)
          go_ret
          exact ⟨ret_bool (by simp), HB.out⟩
        · cases tr
          · go_enter Tryd.func70, Tryd.ntmps70
            go_wp2_with (go_at_call 108; refine (HONE.out _).mono ?_; rintro e w' ⟨rfl, rfl⟩)
            go_ret
            exact ⟨ret_bool (by simp), HB.out⟩
          · cases td
            · go_enter Tryd.func70, Tryd.ntmps70
              go_wp2_with (go_at_call 108; refine (HONE.out _).mono ?_; rintro e w' ⟨rfl, rfl⟩)
              go_ret
              exact ⟨ret_bool (by simp), HB.out⟩
            · go_enter Tryd.func70, Tryd.ntmps70
              go_wp2_with (go_at_call 108; refine (HONE.out _).mono ?_; rintro e w' ⟨rfl, rfl⟩)
              go_ret
              exact ⟨ret_bool (by simp), HB.out⟩
    · cases li
      · go_enter Tryd.func70, Tryd.ntmps70
        go_wp2_with (go_at_call 108; refine (HONE.out _).mono ?_; rintro e w' ⟨rfl, rfl⟩)
        go_ret
        exact ⟨ret_bool (by simp), HB.out⟩
      · cases ta
        · go_enter Tryd.func70, Tryd.ntmps70
          go_wp2_with (go_at_call 108; refine (HONE.out _).mono ?_; rintro e w' ⟨rfl, rfl⟩)
          go_ret
          exact ⟨ret_bool (by simp), HB.out⟩
        · cases tb
          · go_enter Tryd.func70, Tryd.ntmps70
            go_wp2_with (go_at_call 108; refine (HONE.out _).mono ?_; rintro e w' ⟨rfl, rfl⟩)
            go_ret
            exact ⟨ret_bool (by simp), HB.out⟩
          · cases tr
            · go_enter Tryd.func70, Tryd.ntmps70
              go_wp2_with (go_at_call 108; refine (HONE.out _).mono ?_; rintro e w' ⟨rfl, rfl⟩)
              go_ret
              exact ⟨ret_bool (by simp), HB.out⟩
            · cases td
              · go_enter Tryd.func70, Tryd.ntmps70
                go_wp2_with (go_at_call 108; refine (HONE.out _).mono ?_; rintro e w' ⟨rfl, rfl⟩)
                go_ret
                exact ⟨ret_bool (by simp), HB.out⟩
              · go_enter Tryd.func70, Tryd.ntmps70
                go_wp2_with (go_at_call 108; refine (HONE.out _).mono ?_; rintro e w' ⟨rfl, rfl⟩)
                go_ret
                exact ⟨ret_bool (by simp), HB.out⟩
  · cases li
    · go_enter Tryd.func70, Tryd.ntmps70
      go_wp2_with (go_at_call 108; refine (HONE.out _).mono ?_; rintro e w' ⟨rfl, rfl⟩)
      go_ret
      exact ⟨ret_bool (by simp), HB.out⟩
    · cases ta
      · go_enter Tryd.func70, Tryd.ntmps70
        go_wp2_with (go_at_call 108; refine (HONE.out _).mono ?_; rintro e w' ⟨rfl, rfl⟩)
        go_ret
        exact ⟨ret_bool (by simp), HB.out⟩
      · cases tb
        · go_enter Tryd.func70, Tryd.ntmps70
          go_wp2_with (go_at_call 108; refine (HONE.out _).mono ?_; rintro e w' ⟨rfl, rfl⟩)
          go_ret
          exact ⟨ret_bool (by simp), HB.out⟩
        · cases tr
          · go_enter Tryd.func70, Tryd.ntmps70
            go_wp2_with (go_at_call 108; refine (HONE.out _).mono ?_; rintro e w' ⟨rfl, rfl⟩)
            go_ret
            exact ⟨ret_bool (by simp), HB.out⟩
          · cases td
            · go_enter Tryd.func70, Tryd.ntmps70
              go_wp2_with (go_at_call 108; refine (HONE.out _).mono ?_; rintro e w' ⟨rfl, rfl⟩)
              go_ret
              exact ⟨ret_bool (by simp), HB.out⟩
            · go_enter Tryd.func70, Tryd.ntmps70
              go_wp2_with (go_at_call 108; refine (HONE.out _).mono ?_; rintro e w' ⟨rfl, rfl⟩)
              go_ret
              exact ⟨ret_bool (by simp), HB.out⟩
end Go.Proofs.YtkcgmimldjeaiaaDoor
