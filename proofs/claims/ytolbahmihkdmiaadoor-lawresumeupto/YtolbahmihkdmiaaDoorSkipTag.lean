/-
  The reader's skipTag, beginSkip: their walks.
-/
import Derived.Test.YtolbahmihkdmiaaDoorReadByte
namespace Go.Proofs.YtolbahmihkdmiaaDoor
open Go.RowKit Go.Lib Own

theorem Rdr.drewN {W : World} {base b : Nat} {win : Int} {data : ByteArray} {pos mode scan : Int} {eat : Bool} {evs : List Ev} {pend : List UInt8} (h : Rdr W base b win data pos mode scan eat evs pend) (n : Nat) : Rdr (W.drewN n) base b win data pos mode scan eat evs pend := by
  obtain ⟨ev, p, v, hS⟩ := h.it
  obtain ⟨ev', p', v', xs, hev, hin, hrow, hevs, hap⟩ := hS.it
  exact ⟨ev, p, v, ⟨ev', p', v', xs, hev, ⟨hin.at_, hin.lo, hin.cp, hin.cv, hin.hp, hin.own, hin.ne⟩, hrow, evs_mono (W := W) (W' := W.drewN n) (fun _ _ _ h => h) xs evs hevs, hap⟩⟩
theorem Rdr.setScan {W : World} {base b : Nat} {win : Int} {data : ByteArray} {pos mode scan : Int} {eat : Bool} {evs : List Ev} {pend : List UInt8} (h : Rdr W base b win data pos mode scan eat evs pend) (q : Int) :
    Rdr (W.setCell ⟨b, 4, none⟩ (.int .i64 q)) base b win data pos mode q eat evs pend ∧ Below base W (W.setCell ⟨b, 4, none⟩ (.int .i64 q)) := by
  obtain ⟨ev, p, v, hS⟩ := h.it
  obtain ⟨hat, hlo⟩ := hS.heap
  exact ⟨⟨ev, p, v, hS.stored (rd_T _ _ _ _ _ _ _ _ _) 4 (by omega) (.int .i64 q)⟩, (just_set (j := 4) hat (.int .i64 q)).below hlo⟩
theorem Rdr.setEat {W : World} {base b : Nat} {win : Int} {data : ByteArray} {pos mode scan : Int} {eat : Bool} {evs : List Ev} {pend : List UInt8} (h : Rdr W base b win data pos mode scan eat evs pend) (q : Bool) :
    Rdr (W.setCell ⟨b, 5, none⟩ (.bool q)) base b win data pos mode scan q evs pend ∧ Below base W (W.setCell ⟨b, 5, none⟩ (.bool q)) := by
  obtain ⟨ev, p, v, hS⟩ := h.it
  obtain ⟨hat, hlo⟩ := hS.heap
  exact ⟨⟨ev, p, v, hS.stored (rd_T _ _ _ _ _ _ _ _ _) 5 (by omega) (.bool q)⟩, (just_set (j := 5) hat (.bool q)).below hlo⟩

set_option maxHeartbeats 1000000 in
set_option maxRecDepth 10000 in
theorem beginSkip_any (base b : Nat) (win : Int) (data : ByteArray) (pos : Nat) (mode scan : Int) (eat : Bool) (evs : List Ev) (pend : List UInt8) (w : World) (h : Rdr w base b win data pos mode scan eat evs pend) (hd : data.size ≤ 10000000) (hp : pos ≤ data.size) (q : Int) :
    Calls Tryd.prog 64 #[.pointer (some ⟨b, 0, none⟩), .int .i64 q] w fun e w' => e = .returned (.tuple #[]) ∧
      Rdr w' base b win data ((pos : Int) + 2) mode q false evs pend ∧ Below base w w' := by
  obtain ⟨⟨c0, c1, c2, c3, c4, c5⟩, hf, _⟩ := h.cells
  have f2 := hf 2
  have f4 := hf 4
  have f5 := hf 5
  have hwr : IntKind.i64.wrap ((pos : Int) + 2) = (pos : Int) + 2 := by rw [IntKind.wrap_i64]; omega
  obtain ⟨r1, b1⟩ := h.setPos ((pos : Int) + 2)
  obtain ⟨r2, b2⟩ := r1.setScan q
  obtain ⟨r3, b3⟩ := r2.setEat false
  obtain ⟨_, hf1, _⟩ := r1.cells
  obtain ⟨_, hf2, _⟩ := r2.cells
  have g4 := hf1 4
  have g5 := hf2 5
  have HR := hid r3
  have HB := hid ((b1.trans b2).trans b3)
  clear r1 r2 r3 b1 b2 b3 hf hf1 hf2 h
  go_enter Tryd.func64, Tryd.ntmps64
  go_wp2
  go_end0
  exact ⟨rfl, HR.out, HB.out⟩

set_option maxHeartbeats 2000000 in
set_option maxRecDepth 10000 in
theorem skipTag_any (base b : Nat) (win : Int) (data : ByteArray) (pos s : Nat) (mode : Int) (eat : Bool) (evs : List Ev) (pend : List UInt8) (w : World) (h : Rdr w base b win data pos mode s eat evs pend) (hT : TagTabs w) (hd : data.size ≤ 10000000) (hp : pos ≤ data.size) (hs : 3 ≤ s ∧ s ≤ 10) :
    Calls Tryd.prog 27 #[.pointer (some ⟨b, 0, none⟩)] w fun e w' => e = .returned (.bool true) ∧
      Rdr w' base b win data ((pos + (passL s (data.data.toList.drop pos)).1 : Nat) : Int) mode ((passL s (data.data.toList.drop pos)).2 : Int) eat evs pend ∧ Below base w w' := by
  obtain ⟨⟨c0, c1, c2, c3, c4, c5⟩, hf, _⟩ := h.cells
  have f2 := hf 2
  have f4 := hf 4
  have hpass := fun W hTW => pass_any data pos s W (by omega) hp (.inr hs) hTW
  generalize pos + (passL s (data.data.toList.drop pos)).1 = E at hpass ⊢
  generalize (passL s (data.data.toList.drop pos)).2 = S at hpass ⊢
  have HP := hid hpass
  have HT := hid hT
  have HR := hid h
  clear hpass hT h hf
  go_enter Tryd.func27, Tryd.ntmps27
  go_wp2_with fail
  go_region_law (go_simp; go_at_call 47; refine (HP.out _ (by exact HT.out)).mono ?_; rintro e w1 ⟨rfl, nd, rfl⟩)
  all_goals
    go_wp2
    go_ret
    exact ⟨rfl, (((HR.out.drewN _).setPos _).1.setScan _).1, ((below_drewN (Below.refl base w) _).trans ((HR.out.drewN _).setPos _).2).trans (((HR.out.drewN _).setPos _).1.setScan _).2⟩
end Go.Proofs.YtolbahmihkdmiaaDoor
