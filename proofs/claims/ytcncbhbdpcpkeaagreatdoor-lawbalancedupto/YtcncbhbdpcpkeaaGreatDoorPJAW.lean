/-
  Parts of the walk, joined: FoldC.
-/
import Derived.Test.YtcncbhbdpcpkeaaGreatDoorPJAV
import Derived.Test.YtcncbhbdpcpkeaaGreatDoorPJAH
/-
  The code's folder: the end of a text, a text: walks.
-/
namespace Go.Proofs.YtcncbhbdpcpkeaaGreatDoor
open Go.RowKit Go.Lib Own

/-- the cells of a folder -/
def fldC (nv : Value) (d td : Nat) (p v : Value) : Array Value := #[nv, .int .i64 d, p, v, .int .i64 td]
theorem fld_lies : liesAt Tryz.prog Tryz.prog.depth 87 ((fldC (.slice none 0 0) 0 0 (.pointer none) (.slice none 0 0)).size / Tryz.prog.cellsOf 87) 2 67 1 = true := by kernel_rfl
/-- a folder at block b -/
structure FldAt (W : World) (base b : Nat) (prs : List (EvP × Value)) (d td : Nat) (pend : List UInt8) : Prop where
  it : ∃ nv p v, InB W base b 2 (fldC nv d td p v) 87 p v pend ∧ MadeN W base nv prs
theorem inB_below {W W' : World} {base b o : Nat} {cs : Array Value} {T : TypeId} {p v : Value} {l : List UInt8} (h : InB W base b o cs T p v l) (hb : Below W.heap.size W W') : InB W' base b o cs T p v l :=
  ⟨(hb.block b (block_lt h.at_)).trans h.at_, h.lo, h.cp, h.cv, h.hp, h.own.kept (row := none) ⟨hb.os, hb.tape, hb.output, hb.size, fun k hk _ => hb.block k hk⟩ (by cases v.ownBlock <;> simp), h.ne⟩
theorem FldAt.below {W W' : World} {base b : Nat} {prs : List (EvP × Value)} {d td : Nat} {pend : List UInt8} (h : FldAt W base b prs d td pend) (hb : Below W.heap.size W W') : FldAt W' base b prs d td pend := by
  obtain ⟨nv, p, v, h1, h2⟩ := h.it
  exact ⟨nv, p, v, inB_below h1 hb, h2.below hb⟩
/-- an answer of a call on a folder -/
def FldTo (w w' : World) (base b : Nat) (ns : List EvP) (d td : Nat) (pend : List UInt8) (n : Nat) : Prop := ∃ prs, FldAt w' base b prs d td pend ∧ prs.map Prod.fst = ns ∧ prs.length ≤ n ∧ Below base w w'
theorem fld_node {d td : Nat} {nv nv2 p v : Value} {W : World} {b : Nat} (h : W.heap[b]? = some (.cells (fldC nv d td p v) 87 (0, 0))) : Just W (W.setCell ⟨b, 0, none⟩ nv2) b (fldC nv2 d td p v) 87 :=
  just_put h nv2 (by simp [fldC])
theorem fld_cells {d td : Nat} {nv p v : Value} {W : World} {b : Nat} (h : W.heap[b]? = some (.cells (fldC nv d td p v) 87 (0, 0))) :
    W.cell? ⟨b, 0, none⟩ = some nv ∧ W.cell? ⟨b, 1, none⟩ = some (.int .i64 d) ∧ W.cell? ⟨b, 4, none⟩ = some (.int .i64 td) ∧ W.frozen? ⟨b, 0, none⟩ = false ∧ W.frozen? ⟨b, 1, none⟩ = false ∧ W.frozen? ⟨b, 4, none⟩ = false :=
  ⟨cell_at h rfl, cell_at h rfl, cell_at h rfl, free_at h 0, free_at h 1, free_at h 4⟩
theorem made_others {w w9 : World} {base b : Nat} {nv p v : Value} {d td : Nat} {prs : List (EvP × Value)} {pend : List UInt8} (hin : InB w base b 2 (fldC nv d td p v) 87 p v pend) (hm : MadeN w base nv prs)
    (hk : ∀ k, k < w.heap.size → k ≠ b → v.ownBlock ≠ some k → w9.heap[k]? = w.heap[k]?) : MadeN w9 base nv prs :=
  hm.keep (fun _ _ _ hr => row_keep hr hin.at_ (by decide) hin.own (by decide) hk) (fun _ _ _ hr => row_keep hr hin.at_ (by decide) hin.own (by decide) hk)
theorem made_just {W W' : World} {base b : Nat} {nv : Value} {cs : Array Value} {prs : List (EvP × Value)} (hb : W.heap[b]? = some (.cells cs 87 (0, 0))) (hm : MadeN W base nv prs) (hk : ∀ k, k ≠ b → W'.heap[k]? = W.heap[k]?) : MadeN W' base nv prs :=
  hm.keep (fun _ _ _ hr => row_just hr hb (by decide) hk) (fun _ _ _ hr => row_just hr hb (by decide) hk)

set_option maxHeartbeats 4000000 in
set_option maxRecDepth 100000 in
theorem fldEnd_full (base b : Nat) (prs : List (EvP × Value)) (d td : Nat) (pend : List UInt8) (w : World) (h : FldAt w base b prs d td pend) (h0 : pend ≠ []) (hlen : prs.length ≤ 1000000000) :
    Calls Tryz.prog 37 #[.pointer (some ⟨b, 0, none⟩)] w fun e w' => e = .returned (.tuple #[]) ∧ FldAt w' base b (prs ++ [(⟨td, [], [], pend⟩, .slice none 0 0)]) d td [] ∧ Below base w w' := by
  obtain ⟨i0, hi, hz0, hz1, hz2⟩ := info_parts info_node
  obtain ⟨nv, p, v, hin, hm⟩ := h.it
  have hlen0 := fun W hW => len_in base b 2 (fldC nv d td p v) 87 p v pend W hW
  have hn0 : ((pend.length : Int) == 0) = false := beq_eq_false_iff_ne.2 (by have := List.length_pos_iff.2 h0; omega)
  have hstr := fun W hW => string_in base b 2 (fldC nv d td p v) 87 p v pend W hW h0
  obtain ⟨c0, c1, c4, f0, f1, f4⟩ := fld_cells hin.at_
  have HL := hid hlen0
  have HS := hid hstr
  have HI := hid hin
  have HM := hid hm
  have hneb : nv.ownBlock ≠ some b := row_ne hm.row hin.at_ (by decide)
  clear hlen0 hstr hin hm h c1 f1 f4
  go_enter Tryz.func37, Tryz.ntmps37
  go_wp2_with (go_at_call 83; refine (HL.out _ HI.out).mono ?_; rintro e w1 ⟨rfl, rfl⟩)
  have hbs : base ≤ w1.heap.size := by have := (Array.getElem?_eq_some_iff.1 HI.out.at_).1; have := HI.out.lo; omega
  go_region_law (first
    | (go_simp; go_at_call 33; refine (HS.out _ (by exact ⟨HI.out.at_, HI.out.lo, HI.out.cp, HI.out.cv, HI.out.hp, HI.out.own, HI.out.ne⟩)).mono ?_; rintro e w9 ⟨rfl, hb9, bel9, k9⟩; have hbs9 := (Array.getElem?_eq_some_iff.1 hb9).1; have hsz9 := bel9.size; have hsz9' : w1.heap.size ≤ w9.heap.size := (by exact hsz9); obtain ⟨ce9, -, ct9, fe9, -, -⟩ := fld_cells hb9; have hm9 : MadeN w9 base nv prs := (by exact made_others HI.out HM.out (fun k _ h2 h3 => k9 k h2 h3)); have hrow9 := hm9.row)
    | (refine step_append_lies _ rfl (.tmp 11) (.tmp 21) 29 rfl base 38 i0 (.agg #[.int .i64 0, .string ⟨#[]⟩, .slice none 0 0, .string ⟨#[]⟩]) 4 64 Tryz.underlying29 hi hz0 hz1 hz2 rfl (by decide) nv prs.length (ecells prs) (by simp [Act.eval]) (by exact hrow9.alloc _) ⟨_, 0, none⟩ 1 1 [.int .i64 td, .string ⟨#[]⟩, .slice none 0 0, .string (bs pend)] (by simp [Act.eval]) rfl (cells_newV _ _ _) (by simp [Value.oneCell', bs]) (by omega) (by unfold maxLen; omega) (by omega) (by simp; omega) _ rfl ?_; rintro g cap w10 hrow10 hgrow10 - -; have hb10 : w10.heap[b]? = some (.cells (fldC nv d td p v) 87 (0, 0)) := ((hgrow10.block b (by simp; omega) (fun e => hneb e.symm)).trans (alloc_old _ _ b (by exact hbs9))).trans (by exact hb9); obtain ⟨ce10, -, -, fe10, -, -⟩ := fld_cells hb10))
  all_goals
    have j1 := fld_node (nv2 := .slice (some ⟨g, 0, none⟩) (prs.length + 1) cap) hb10
    have hlo := HI.out.lo
    have hres := reset_in base b 2 (fldC (.slice (some ⟨g, 0, none⟩) (prs.length + 1) cap) d td p v) 87 p v _ j1.at_ hlo rfl rfl
    have HR := hid hres
    clear hres
    have hkx := j1.other
    have hbx := j1.below hlo
    clear j1
    go_wp2_with (go_at_call 84; refine HR.out.mono ?_; rintro e w11 ⟨rfl, hin11, bel11, k11⟩)
    go_end0
    have hk : ∀ k, k ≠ b → w11.heap[k]? = w10.heap[k]? := fun k h => (k11 k h).trans (hkx k h)
    have b9 : Below base w1 w9 := ⟨bel9.os, bel9.tape, bel9.output, bel9.size, bel9.block⟩
    have b10 : Below base w1 w10 := (b9.alloc (by omega) _).grown hgrow10 (by simp; omega) (fun k hk => (hrow9.lt k hk).1)
    have m10 := hm9.more (x := (⟨td, [], [], pend⟩, .slice none 0 0)) (World.ownsRow_nil _ _ _ _) (fun g hg => by cases hg) hgrow10 hrow10
    exact ⟨rfl, ⟨_, _, _, hin11, made_just hb10 m10 hk⟩, b10.trans (hbx.trans bel11)⟩

set_option maxHeartbeats 1000000 in
theorem fldEnd_none (base b : Nat) (prs : List (EvP × Value)) (d td : Nat) (w : World) (h : FldAt w base b prs d td []) :
    Calls Tryz.prog 37 #[.pointer (some ⟨b, 0, none⟩)] w fun e w' => e = .returned (.tuple #[]) ∧ w' = w := by
  obtain ⟨nv, p, v, hin, hm⟩ := h.it
  have hlen0 : Calls Tryz.prog 83 #[.pointer (some ⟨b, 2, none⟩)] w fun e w' => e = .returned (.int .i64 0) ∧ w' = w := len_in base b 2 _ _ p v [] w hin
  have HL := hid hlen0
  clear hlen0 hin hm h
  go_enter Tryz.func37, Tryz.ntmps37
  go_wp2_with (go_at_call 83; refine HL.out.mono ?_; rintro e w1 ⟨rfl, rfl⟩)
  refine bodyPost_ret (v := .tuple #[]) ?_ rfl ⟨rfl, rfl⟩
  simp [results, Tryz.results37]
theorem fldEnd_any (base b : Nat) (prs : List (EvP × Value)) (d td : Nat) (pend : List UInt8) (w : World) (h : FldAt w base b prs d td pend) (hlen : prs.length ≤ 1000000000) :
    Calls Tryz.prog 37 #[.pointer (some ⟨b, 0, none⟩)] w fun e w' => e = .returned (.tuple #[]) ∧ FldTo w w' base b (prs.map Prod.fst ++ pendN td pend) d td [] (prs.length + 1) := by
  by_cases h0 : pend = []
  · subst h0
    refine (fldEnd_none base b prs d td w h).mono ?_
    rintro e w' ⟨rfl, rfl⟩
    exact ⟨rfl, prs, h, by simp [pendN], by omega, Below.refl _ _⟩
  · refine (fldEnd_full base b prs d td pend w h h0 hlen).mono ?_
    rintro e w' ⟨rfl, h1, h2⟩
    exact ⟨rfl, _, h1, by simp [pendN, h0], by simp, h2⟩

end Go.Proofs.YtcncbhbdpcpkeaaGreatDoor
