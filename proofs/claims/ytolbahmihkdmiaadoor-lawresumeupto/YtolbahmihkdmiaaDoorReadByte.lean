/-
  The reader's readByte: its walk.
-/
import Derived.Test.YtolbahmihkdmiaaDoorReader
namespace Go.Proofs.YtolbahmihkdmiaaDoor
open Go.RowKit Go.Lib Own

theorem StreamAt.drew {W : World} {base b o : Nat} {cs : Array Value} {T : TypeId} {evs : List Ev} {pend : List UInt8} (h : StreamAt W base b o cs T evs pend) : StreamAt W.drew base b o cs T evs pend := by
  obtain ⟨ev, p, v, xs, hev, hin, hrow, hevs, hap⟩ := h.it
  exact ⟨ev, p, v, xs, hev, ⟨hin.at_, hin.lo, hin.cp, hin.cv, hin.hp, hin.own, hin.ne⟩, hrow, evs_mono (W := W) (W' := W.drew) (fun _ _ _ h => h) xs evs hevs, hap⟩
theorem Rdr.drew {W : World} {base b : Nat} {win : Int} {data : ByteArray} {pos mode scan : Int} {eat : Bool} {evs : List Ev} {pend : List UInt8} (h : Rdr W base b win data pos mode scan eat evs pend) : Rdr W.drew base b win data pos mode scan eat evs pend := by
  obtain ⟨ev, p, v, hS⟩ := h.it
  exact ⟨ev, p, v, hS.drew⟩
theorem Rdr.cells {W : World} {base b : Nat} {win : Int} {data : ByteArray} {pos mode scan : Int} {eat : Bool} {evs : List Ev} {pend : List UInt8} (h : Rdr W base b win data pos mode scan eat evs pend) : RdAt W b win data pos mode scan eat ∧ (∀ j, W.frozen? ⟨b, j, none⟩ = false) ∧ base ≤ b := by
  obtain ⟨ev, p, v, hS⟩ := h.it
  obtain ⟨hat, hlo⟩ := hS.heap
  exact ⟨⟨cell_at hat rfl, cell_at hat rfl, cell_at hat rfl, cell_at hat rfl, cell_at hat rfl, cell_at hat rfl⟩, fun j => free_at hat j, hlo⟩
theorem Rdr.setPos {W : World} {base b : Nat} {win : Int} {data : ByteArray} {pos mode scan : Int} {eat : Bool} {evs : List Ev} {pend : List UInt8} (h : Rdr W base b win data pos mode scan eat evs pend) (q : Int) :
    Rdr (W.setCell ⟨b, 2, none⟩ (.int .i64 q)) base b win data q mode scan eat evs pend ∧ Below base W (W.setCell ⟨b, 2, none⟩ (.int .i64 q)) := by
  obtain ⟨ev, p, v, hS⟩ := h.it
  obtain ⟨hat, hlo⟩ := hS.heap
  exact ⟨⟨ev, p, v, hS.stored (rd_T _ _ _ _ _ _ _ _ _) 2 (by omega) (.int .i64 q)⟩, (just_set (j := 2) hat (.int .i64 q)).below hlo⟩

set_option maxHeartbeats 1000000 in
set_option maxRecDepth 10000 in
theorem readByte_any (base b : Nat) (win : Int) (data : ByteArray) (pos : Nat) (mode scan : Int) (eat : Bool) (evs : List Ev) (pend : List UInt8) (w : World) (h : Rdr w base b win data pos mode scan eat evs pend) (hlen : pend.length + 1 ≤ 140737488355328) (hd : data.size ≤ 10000000)
    (hp : pos < data.size) (x : UInt8) (hx : data.data.toList[pos]? = some x) :
    Calls Tryd.prog 24 #[.pointer (some ⟨b, 0, none⟩)] w fun e w' => e = .returned (.tuple #[]) ∧
      Rdr w' base b win data ((pos : Int) + 1) mode scan false evs (if eat = true ∧ [x] = [10] then pend else pend ++ [x]) ∧ Below base w w' := by
  obtain ⟨⟨c0, c1, c2, c3, c4, c5⟩, _, _⟩ := h.cells
  obtain ⟨s, hs⟩ : ∃ s, data.extract pos (pos + 1) = s := ⟨_, rfl⟩
  have hsl : s.data.toList = [x] := by
    rw [← hs, part_slice, part_more _ pos pos x (Nat.le_refl _) hx, List.drop_of_length_le (by rw [List.length_take]; omega)]
    rfl
  have hsz : s.size = 1 := by rw [size_eq, hsl]; rfl
  have hu := fun W hW => unit_any base b win data pos mode scan eat evs pend s W hW (by omega)
  rw [hsl] at hu
  generalize (if eat = true ∧ [x] = [10] then pend else pend ++ [x]) = P at hu ⊢
  have hwr : IntKind.i64.wrap ((pos : Int) + 1) = (pos : Int) + 1 := by rw [IntKind.wrap_i64]; omega
  have hq0 : 0 ≤ (pos : Int) + 1 := by omega
  have hq1 : (pos : Int) + 1 ≤ (data.size : Int) := by omega
  have hq2 : (pos : Int) ≤ (pos : Int) + 1 := by omega
  have HU := hid hu
  have HR := hid h
  clear hu h hsl hsz hx
  go_enter Tryd.func24, Tryd.ntmps24
  go_wp2_with fail
  go_region_law (go_simp; go_at_call 21; refine (HU.out _ (by exact HR.out.drew)).mono ?_; rintro e w1 ⟨rfl, hr1, b1⟩; obtain ⟨⟨k0, k1, k2, k3, k4, k5⟩, kf, _⟩ := hr1.cells; have kf2 := kf 2; clear kf)
  all_goals
    obtain ⟨r2, b2⟩ := hr1.setPos ((pos : Int) + 1)
    have bb : Below base w w1 := ⟨b1.os, b1.tape, b1.output, b1.size, b1.block⟩
    have H2 := hid r2
    have HB := hid (bb.trans b2)
    clear hr1 r2 b1 b2 bb
    go_wp2
    go_end0
    exact ⟨rfl, H2.out, HB.out⟩
end Go.Proofs.YtolbahmihkdmiaaDoor
