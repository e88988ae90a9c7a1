/-
  Parts of the walk, joined: FoldC, FoldS, FreshN, WrAll, PolOpen, EvOpen.
-/
import Derived.Test.YtkcgmimldjeaiaaDoorJoinD
import Derived.Test.YtkcgmimldjeaiaaDoorEndText
import Derived.Test.YtkcgmimldjeaiaaDoorPutEv
import Derived.Test.YtkcgmimldjeaiaaDoorJoinC
import Derived.Test.YtkcgmimldjeaiaaDoorJoinA
import Derived.Test.YtkcgmimldjeaiaaDoorRows
import Derived.Test.YtkcgmimldjeaiaaDoorJoinB
import Derived.Lib.LaidU8
import Derived.SliceStrings
import Derived.Lib.SmallJoins
import Derived.Deep.SlicePairs
import Derived.ChangeMaps5
import Derived.ChangeSame
/-
  The code's folder: the end of a text, a text: walks.
-/
namespace Go.Proofs.YtkcgmimldjeaiaaDoor
open Go.RowKit Go.Lib Own

/-- the cells of a folder -/
def fldC (nv : Value) (d td : Nat) (p v : Value) : Array Value := #[nv, .int .i64 d, p, v, .int .i64 td]
theorem fld_lies : liesAt Tryd.prog Tryd.prog.depth 95 ((fldC (.slice none 0 0) 0 0 (.pointer none) (.slice none 0 0)).size / Tryd.prog.cellsOf 95) 2 59 1 = true := by kernel_rfl
/-- a folder at block b -/
structure FldAt (W : World) (base b : Nat) (prs : List (EvP × Value)) (d td : Nat) (pend : List UInt8) : Prop where
  it : ∃ nv p v, InB W base b 2 (fldC nv d td p v) 95 p v pend ∧ MadeN W base nv prs
theorem inB_below {W W' : World} {base b o : Nat} {cs : Array Value} {T : TypeId} {p v : Value} {l : List UInt8} (h : InB W base b o cs T p v l) (hb : Below W.heap.size W W') : InB W' base b o cs T p v l :=
  ⟨(hb.block b (block_lt h.at_)).trans h.at_, h.lo, h.cp, h.cv, h.hp, h.own.kept (row := none) ⟨hb.os, hb.tape, hb.output, hb.size, fun k hk _ => hb.block k hk⟩ (by cases v.ownBlock <;> simp), h.ne⟩
theorem FldAt.below {W W' : World} {base b : Nat} {prs : List (EvP × Value)} {d td : Nat} {pend : List UInt8} (h : FldAt W base b prs d td pend) (hb : Below W.heap.size W W') : FldAt W' base b prs d td pend := by
  obtain ⟨nv, p, v, h1, h2⟩ := h.it
  exact ⟨nv, p, v, inB_below h1 hb, h2.below hb⟩
/-- an answer of a call on a folder -/
def FldTo (w w' : World) (base b : Nat) (ns : List EvP) (d td : Nat) (pend : List UInt8) (n : Nat) : Prop := ∃ prs, FldAt w' base b prs d td pend ∧ prs.map Prod.fst = ns ∧ prs.length ≤ n ∧ Below base w w'
theorem fld_node {d td : Nat} {nv nv2 p v : Value} {W : World} {b : Nat} (h : W.heap[b]? = some (.cells (fldC nv d td p v) 95 (0, 0))) : Just W (W.setCell ⟨b, 0, none⟩ nv2) b (fldC nv2 d td p v) 95 :=
  just_put h nv2 (by simp [fldC])
theorem fld_cells {d td : Nat} {nv p v : Value} {W : World} {b : Nat} (h : W.heap[b]? = some (.cells (fldC nv d td p v) 95 (0, 0))) :
    W.cell? ⟨b, 0, none⟩ = some nv ∧ W.cell? ⟨b, 1, none⟩ = some (.int .i64 d) ∧ W.cell? ⟨b, 4, none⟩ = some (.int .i64 td) ∧ W.frozen? ⟨b, 0, none⟩ = false ∧ W.frozen? ⟨b, 1, none⟩ = false ∧ W.frozen? ⟨b, 4, none⟩ = false :=
  ⟨cell_at h rfl, cell_at h rfl, cell_at h rfl, free_at h 0, free_at h 1, free_at h 4⟩
theorem made_others {w w9 : World} {base b : Nat} {nv p v : Value} {d td : Nat} {prs : List (EvP × Value)} {pend : List UInt8} (hin : InB w base b 2 (fldC nv d td p v) 95 p v pend) (hm : MadeN w base nv prs)
    (hk : ∀ k, k < w.heap.size → k ≠ b → v.ownBlock ≠ some k → w9.heap[k]? = w.heap[k]?) : MadeN w9 base nv prs :=
  hm.keep (fun _ _ _ hr => row_keep hr hin.at_ (by decide) hin.own (by decide) hk) (fun _ _ _ hr => row_keep hr hin.at_ (by decide) hin.own (by decide) hk)
theorem made_just {W W' : World} {base b : Nat} {nv : Value} {cs : Array Value} {prs : List (EvP × Value)} (hb : W.heap[b]? = some (.cells cs 95 (0, 0))) (hm : MadeN W base nv prs) (hk : ∀ k, k ≠ b → W'.heap[k]? = W.heap[k]?) : MadeN W' base nv prs :=
  hm.keep (fun _ _ _ hr => row_just hr hb (by decide) hk) (fun _ _ _ hr => row_just hr hb (by decide) hk)

set_option maxHeartbeats 4000000 in
set_option maxRecDepth 100000 in
theorem fldEnd_full (base b : Nat) (prs : List (EvP × Value)) (d td : Nat) (pend : List UInt8) (w : World) (h : FldAt w base b prs d td pend) (h0 : pend ≠ []) (hlen : prs.length ≤ 100000000) :
    Calls Tryd.prog 47 #[.pointer (some ⟨b, 0, none⟩)] w fun e w' => e = .returned (.tuple #[]) ∧ FldAt w' base b (prs ++ [(⟨td, [], [], pend⟩, .slice none 0 0)]) d td [] ∧ Below base w w' := by
  obtain ⟨i0, hi, hz0, hz1, hz2⟩ := info_parts info_node
  obtain ⟨nv, p, v, hin, hm⟩ := h.it
  have hlen0 := fun W hW => len_in base b 2 (fldC nv d td p v) 95 p v pend W hW
  have hn0 : ((pend.length : Int) == 0) = false := beq_eq_false_iff_ne.2 (by have := List.length_pos_iff.2 h0; omega)
  have hstr := fun W hW => string_in base b 2 (fldC nv d td p v) 95 p v pend W hW h0
  obtain ⟨c0, c1, c4, f0, f1, f4⟩ := fld_cells hin.at_
  have HL := hid hlen0
  have HS := hid hstr
  have HI := hid hin
  have HM := hid hm
  have hneb : nv.ownBlock ≠ some b := row_ne hm.row hin.at_ (by decide)
  clear hlen0 hstr hin hm h c1 f1 f4
  go_enter Tryd.func47, Tryd.ntmps47
  go_wp2_with (go_at_call 80; refine (HL.out _ HI.out).mono ?_; rintro e w1 ⟨rfl, rfl⟩)
  have hbs : base ≤ w1.heap.size := by have := (Array.getElem?_eq_some_iff.1 HI.out.at_).1; have := HI.out.lo; omega
  go_region_law (first
    | (go_simp; go_at_call 45; refine (HS.out _ (by exact ⟨HI.out.at_, HI.out.lo, HI.out.cp, HI.out.cv, HI.out.hp, HI.out.own, HI.out.ne⟩)).mono ?_; rintro e w9 ⟨rfl, hb9, bel9, k9⟩; have hbs9 := (Array.getElem?_eq_some_iff.1 hb9).1; have hsz9 := bel9.size; have hsz9' : w1.heap.size ≤ w9.heap.size := (by exact hsz9); obtain ⟨ce9, -, ct9, fe9, -, -⟩ := fld_cells hb9; have hm9 : MadeN w9 base nv prs := (by exact made_others HI.out HM.out (fun k _ h2 h3 => k9 k h2 h3)); have hrow9 := hm9.row)
    | (refine step_append_lies _ rfl (.tmp 11) (.tmp 21) 44 rfl base 84 i0 (.agg #[.int .i64 0, .string ⟨#[]⟩, .slice none 0 0, .string ⟨#[]⟩]) 4 64 Tryd.underlying44 hi hz0 hz1 hz2 rfl (by decide) nv prs.length (ecells prs) (by simp [Act.eval]) (by exact hrow9.alloc _) ⟨_, 0, none⟩ 1 1 [.int .i64 td, .string ⟨#[]⟩, .slice none 0 0, .string (bs pend)] (by simp [Act.eval]) rfl (cells_newV _ _ _) (by simp [Value.oneCell', bs]) (by omega) (by unfold maxLen; omega) (by omega) (by simp; omega) _ rfl ?_; rintro g cap w10 hrow10 hgrow10 - -; have hb10 : w10.heap[b]? = some (.cells (fldC nv d td p v) 95 (0, 0)) := ((hgrow10.block b (by simp; omega) (fun e => hneb e.symm)).trans (alloc_old _ _ b (by exact hbs9))).trans (by exact hb9); obtain ⟨ce10, -, -, fe10, -, -⟩ := fld_cells hb10))
  all_goals
    have j1 := fld_node (nv2 := .slice (some ⟨g, 0, none⟩) (prs.length + 1) cap) hb10
    have hlo := HI.out.lo
    have hres := reset_in base b 2 (fldC (.slice (some ⟨g, 0, none⟩) (prs.length + 1) cap) d td p v) 95 p v _ j1.at_ hlo rfl rfl
    have HR := hid hres
    clear hres
    have hkx := j1.other
    have hbx := j1.below hlo
    clear j1
    go_wp2_with (go_at_call 81; refine HR.out.mono ?_; rintro e w11 ⟨rfl, hin11, bel11, k11⟩)
    go_end0
    have hk : ∀ k, k ≠ b → w11.heap[k]? = w10.heap[k]? := fun k h => (k11 k h).trans (hkx k h)
    have b9 : Below base w1 w9 := ⟨bel9.os, bel9.tape, bel9.output, bel9.size, bel9.block⟩
    have b10 : Below base w1 w10 := (b9.alloc (by omega) _).grown hgrow10 (by simp; omega) (fun k hk => (hrow9.lt k hk).1)
    have m10 := hm9.more (x := (⟨td, [], [], pend⟩, .slice none 0 0)) (World.ownsRow_nil _ _ _ _) (fun g hg => by cases hg) hgrow10 hrow10
    exact ⟨rfl, ⟨_, _, _, hin11, made_just hb10 m10 hk⟩, b10.trans (hbx.trans bel11)⟩

set_option maxHeartbeats 1000000 in
theorem fldEnd_none (base b : Nat) (prs : List (EvP × Value)) (d td : Nat) (w : World) (h : FldAt w base b prs d td []) :
    Calls Tryd.prog 47 #[.pointer (some ⟨b, 0, none⟩)] w fun e w' => e = .returned (.tuple #[]) ∧ w' = w := by
  obtain ⟨nv, p, v, hin, hm⟩ := h.it
  have hlen0 : Calls Tryd.prog 80 #[.pointer (some ⟨b, 2, none⟩)] w fun e w' => e = .returned (.int .i64 0) ∧ w' = w := len_in base b 2 _ _ p v [] w hin
  have HL := hid hlen0
  clear hlen0 hin hm h
  go_enter Tryd.func47, Tryd.ntmps47
  go_wp2_with (go_at_call 80; refine HL.out.mono ?_; rintro e w1 ⟨rfl, rfl⟩)
  refine bodyPost_ret (v := .tuple #[]) ?_ rfl ⟨rfl, rfl⟩
  simp [results, Tryd.results47]
theorem fldEnd_any (base b : Nat) (prs : List (EvP × Value)) (d td : Nat) (pend : List UInt8) (w : World) (h : FldAt w base b prs d td pend) (hlen : prs.length ≤ 100000000) :
    Calls Tryd.prog 47 #[.pointer (some ⟨b, 0, none⟩)] w fun e w' => e = .returned (.tuple #[]) ∧ FldTo w w' base b (prs.map Prod.fst ++ pendN td pend) d td [] (prs.length + 1) := by
  by_cases h0 : pend = []
  · subst h0
    refine (fldEnd_none base b prs d td w h).mono ?_
    rintro e w' ⟨rfl, rfl⟩
    exact ⟨rfl, prs, h, by simp [pendN], by omega, Below.refl _ _⟩
  · refine (fldEnd_full base b prs d td pend w h h0 hlen).mono ?_
    rintro e w' ⟨rfl, h1, h2⟩
    exact ⟨rfl, _, h1, by simp [pendN, h0], by simp, h2⟩

end Go.Proofs.YtkcgmimldjeaiaaDoor

/-
  The reference's Fold: its walk.
-/
namespace Go.Proofs.YtkcgmimldjeaiaaDoor
open Go.RowKit Go.Lib Own

theorem box_set {W : World} {b : Nat} {e : EvP} {u : Value} {T : TypeId} (h : W.heap[b]? = some (.cells (evC e u) T (0, 0))) (l : List UInt8) : Just W (W.setCell ⟨b, 3, none⟩ (.string (bs l))) b (evC ⟨e.k, e.n, e.a, l⟩ u) T :=
  just_put h _ (by simp [evC])
theorem empty_of {l : List UInt8} (h : l = []) : (bs l).toList.isEmpty = true := by rw [bs_toList, h]; rfl
theorem full_of {l : List UInt8} (h : l ≠ []) : (bs l).toList.isEmpty = false := by rw [bs_toList]; cases l with | nil => exact absurd rfl h | cons _ _ => rfl

set_option maxHeartbeats 16000000 in
set_option maxRecDepth 100000 in
theorem refFold_any (ev : Value) (es : List EvP) (w : World) (h : EvsR w ev es) (hs : bulkE es ≤ 4000000) :
    Calls Tryd.prog 16 #[ev] w fun r w' => ∃ v, r = .returned v ∧ EvsR w' v (foldP es) ∧ Below w.heap.size w w' := by
  have hpi := pieces_any ev es w h hs
  have hpb := pieces_bulk es 0
  obtain ⟨ep, en, ec, rfl⟩ := h.shape
  obtain ⟨i0, hi, hz0, hz1, hz2⟩ := info_parts info_node
  obtain ⟨i8, hi8, h8z0, h8z1, h8z2⟩ := info_parts info_u8
  obtain ⟨R, hR⟩ : ∃ R, foldP es = R := ⟨_, rfl⟩
  rw [hR]
  unfold foldP at hR
  generalize piecesL 0 es = P at hpi hpb hR
  have HPI := hid hpi
  have hPl := bulkE_len P
  have HPB := hid (show bulkE P ≤ 4000000 by omega)
  have hPn : P.length ≤ 4000000 := by omega
  have HRR := hid (fun (_ : True) => hR)
  clear hpi hpb hR h hs hPl
  go_enter Tryd.func16, Tryd.ntmps16
  go_wp2_with fail
  refine HPI.out.mono ?_
  rintro r w1 ⟨pv, pprs, rfl, hmade, hpp, hb1⟩
  have hev := hmade.evs
  rw [hpp] at hev
  obtain ⟨pp, pc, rfl, hpl, hpm, hcell⟩ := hev
  have HC := hid hcell
  have HB1 := hid hb1
  clear HPI hmade hpp hcell hb1 pprs
  go_wp2_with fail
  go_loopw [4, 5] (fun nv iv wr => ∃ (k : Nat) (prs : List (EvP × Value)), iv = .int .i64 k ∧ k ≤ P.length ∧ Hid (wr.ownsRow w1.heap.size 84 4 nv prs.length (ecells prs) ∧ (∀ x ∈ prs, AttrsR w1 x.2 x.1.a) ∧ Below w1.heap.size w1 wr ∧ prs.length ≤ k) ∧ Hid (True → prs.map Prod.fst ++ joinN (P.drop k) = R)) (fun _ iv _ => P.length - (RowKit.intOf iv).toNat)
  case atStart => exact ⟨0, [], rfl, Nat.zero_le _, hid ⟨World.ownsRow_nil _ _ _ _, by simp, Below.refl _ _, by simp⟩, HRR⟩
  case round =>
    obtain ⟨k, prs, rfl, hk, HX, HK⟩ := hrel
    obtain ⟨np, nc, rfl⟩ := row_shape HX.out.1
    clear HRR
    obtain ⟨wo, hwo⟩ : ∃ wo, wo = wr := ⟨_, rfl⟩
    subst hwo
    by_cases hkl : k < P.length
    · obtain ⟨n, hn⟩ : ∃ n, P[k]? = some n := ⟨_, List.getElem?_eq_getElem hkl⟩
      obtain ⟨b, o, u, rfl, q0, q1, q2, q3, q4⟩ := HC.out k n hn
      obtain ⟨hrow, hat, hbw, hpl2⟩ := HX.out
      have hab := bulkE_get hn
      have hPB := HPB.out
      replace q0 := cell_low q0 hbw (cell_block q0)
      replace q1 := cell_low q1 hbw (cell_block q1)
      replace q2 := cell_low q2 hbw (cell_block q2)
      replace q3 := cell_low q3 hbw (cell_block q3)
      obtain ⟨up, uc, rfl⟩ := q4.len
      have hd := HK.out trivial
      rw [drop_at hn, joinN_cons] at hd
      obtain ⟨W4, hW4⟩ : ∃ W4, wo.alloc (.cells (evC n (.slice up n.a.length uc)) 84) = W4 := ⟨_, rfl⟩
      have hsz4 : W4.heap.size = wo.heap.size + 1 := by rw [← hW4]; simp
      have hb4 : Below wo.heap.size wo W4 := by rw [← hW4]; exact (Below.refl _ _).alloc (Nat.le_refl _) _
      have hn4 : W4.heap[wo.heap.size]? = some (.cells (evC n (.slice up n.a.length uc)) 84 (0, 0)) := by rw [← hW4]; exact heap_alloc_new _ _
      obtain ⟨d0, d1, d2, d3⟩ := evC_at hn4
      have hS0m : (bs n.t).size ≤ maxLen := by rw [bs_size]; unfold maxLen; omega
      have hconv := Go.Lib.run_convert_string_bytes (P := Tryd.prog) W4 9 50 5 (bs n.t) Tryd.underlying9 Tryd.underlying50 Tryd.underlying5
      have hN0 := ownsN_bytes W4 5 (bs n.t) hS0m
      have hb5 : Below wo.heap.size W4 (bytesWorld W4 5 (bs n.t)) := ⟨rfl, rfl, rfl, by rw [bytesWorld_size]; omega, fun k hk => bytesWorld_at_old W4 5 _ k (by omega)⟩
      have hn5 := (bytesWorld_at_old W4 5 (bs n.t) wo.heap.size (by omega)).trans hn4
      generalize bytesWorld W4 5 (bs n.t) = W5 at hconv hN0 hb5 hn5
      generalize grownCap W4 (bs n.t).size 0 5 = cap0 at hconv hN0
      rw [show strCells (bs n.t) = byteCells n.t from strCells_byte _, bs_size] at hN0
      rw [bs_size] at hconv
      rw [hsz4] at hN0
      have HI0 := hid (And.intro hN0 (And.intro (show wo.heap.size < wo.heap.size + 1 by omega) (And.intro (hb4.trans hb5) hn5)))
      have HD := hid (fun (_ : True) => hd)
      have HX2 := hid (And.intro hrow (And.intro hat (And.intro hbw (And.intro hpl2 q4))))
      have hnt : n.t.length ≤ 4000000 := by omega
      unfold evC at hW4
      clear hrow hat hbw hab hPB hd hb4 hn4 hS0m hN0 hb5 hn5 hpl2 q4 HX HK hn
      go_upto_region 6 with fail
      clear hW4 q0 q1 q2 q3
      go_wp2_with fail
      go_loopw [5, 7] (fun iv bv wr => ∃ (j g cap : Nat) (acc : List UInt8), iv = .int .i64 j ∧ k < j ∧ j ≤ P.length ∧ bv = .slice (some ⟨g, 0, none⟩) acc.length cap ∧ Hid (ownsN wr 5 g acc.length cap (byteCells acc) ∧ wo.heap.size < g ∧ Below wo.heap.size wo wr ∧ wr.heap[wo.heap.size]? = some (.cells (evC n (.slice up n.a.length uc)) 84 (0, 0))) ∧ Hid (True → jn ⟨n.k, n.n, n.a, acc⟩ (joinN (P.drop j)) = jn n (joinN (P.drop (k + 1)))) ∧ acc.length ≤ 4000000 * j) (fun iv _ _ => P.length - (RowKit.intOf iv).toNat)
      case atStart => exact ⟨k + 1, wo.heap.size + 1, cap0, n.t, by simp, by omega, by omega, rfl, HI0, fun _ => rfl, by omega⟩
      case round =>
        obtain ⟨j, g, cap, acc, rfl, hkj, hj, rfl, HI, HJ, hacc⟩ := hrel
        have hacc2 : acc.length ≤ 16000000000000 := by omega
        obtain ⟨d0, d1, d2, d3⟩ := evC_at HI.out.2.2.2
        by_cases hm : ∃ m, P[j]? = some m ∧ meetsN n m
        · obtain ⟨m, hm1, hm2⟩ := hm
          obtain ⟨b2, o2, u2, hbo, p0, p1, p2, p3, _⟩ := HC.out j m hm1
          obtain ⟨rfl, rfl⟩ : b = b2 ∧ o = o2 := by cases hbo; exact ⟨rfl, rfl⟩
          have hbx := HX2.out.2.2.1.trans (HI.out.2.2.1.mono HX2.out.2.2.1.size)
          replace p0 := cell_low p0 hbx (cell_block p0)
          replace p1 := cell_low p1 hbx (cell_block p1)
          replace p3 := cell_low p3 hbx (cell_block p3)
          have hjl : j < P.length := (List.getElem?_eq_some_iff.1 hm1).1
          have hab := bulkE_get hm1
          have hPB := HPB.out
          have e1 := empty_of hm2.1
          have e2 := empty_of hm2.2.1
          have e3 : (m.k == n.k) = true := by rw [hm2.2.2]; simp
          have HJ2 := hid (fun (_ : True) => (by have := HJ.out trivial; rw [drop_at hm1, joinN_cons, jn_meet (n := ⟨n.k, n.n, n.a, acc⟩) (m := m) hm2] at this; exact this : jn ⟨n.k, n.n, n.a, acc ++ m.t⟩ (joinN (P.drop (j + 1))) = jn n (joinN (P.drop (k + 1)))))
          have hS : (bs m.t).size ≤ 4000000 := by rw [bs_size]; omega
          have hmt : m.t.length ≤ 4000000 := by omega
          have hNx := HI.out.1
          obtain ⟨S, hSe⟩ : ∃ S, bs m.t = S := ⟨_, rfl⟩
          rw [hSe] at p3 hS
          have HSE := hid hSe
          clear hm1 hm2 hbo hbx hab hPB HJ hSe d2 d3
          go_wp2_with fail
          go_quiet (fail)
          have HIq : Hid (ownsN (wr.drewN nq) 5 g acc.length cap (byteCells acc) ∧ wo.heap.size < g ∧ Below wo.heap.size wo (wr.drewN nq) ∧ (wr.drewN nq).heap[wo.heap.size]? = some (.cells (evC n (.slice up n.a.length uc)) 84 (0, 0))) := ⟨HI.out.1, HI.out.2.1, below_drewN HI.out.2.2.1 nq, HI.out.2.2.2⟩
          have p3q : (wr.drewN nq).cell? ⟨b, o + j * 4 + 3, none⟩ = some (.string S) := p3
          generalize wr.drewN nq = wq at HIq p3q ⊢
          have hNq := HIq.out.1
          clear HI d0 d1 p0 p1 p3 hNx
          go_wp2_with (at_builtin; refine wpList_append_marked _ rfl (.tmp 50) (.tmp 55) 50 9 rfl 5 i8 Tryd.underlying50 Tryd.underlying9 hi8 h8z0 h8z1 h8z2 g acc.length cap (byteCells acc) rfl (by exact hNq) S rfl (by omega) ?_)
          intro g' cap' w' ho4 hg4 hor
          have ho5 := ownsN_cat HSE.out ho4
          have hl4 : acc.length + S.size = (acc ++ m.t).length := by rw [List.length_append, ← HSE.out, bs_size]
          obtain ⟨m1, m2, m3, m4⟩ := HIq.out
          have hb5 : Below wo.heap.size wo w' := m3.trans ⟨hg4.os, hg4.tape, hg4.output, hg4.size, fun k hk => hg4.block k (Nat.lt_of_lt_of_le hk m3.size) (fun h => by cases h; omega)⟩
          have hn5 := (hg4.block wo.heap.size (block_lt m4) (fun h => by cases h; omega)).trans m4
          have hlt5 : wo.heap.size < g' := by have := block_lt m4; rcases hor with h | h <;> omega
          have HZ := hid (And.intro ho5 (And.intro hlt5 (And.intro hb5 hn5)))
          have HL4 := hid (fun (_ : True) => hl4)
          have hal4 : (acc ++ m.t).length ≤ 4000000 * (j + 1) := by rw [List.length_append]; omega
          clear ho4 ho5 hg4 hor m1 m2 m3 m4 hb5 hn5 hlt5 hl4 hNq HIq p3q
          go_wp2
          go_roundw
          case rel => exact ⟨j + 1, g', cap', acc ++ m.t, rfl, by omega, by omega, by rw [← HL4.out trivial], HZ, HJ2, hal4⟩
          case measure => simp [RowKit.intOf]; omega
        · have hstop : jn ⟨n.k, n.n, n.a, acc⟩ (joinN (P.drop j)) = ⟨n.k, n.n, n.a, acc⟩ :: joinN (P.drop j) := by
            rcases Nat.lt_or_ge j P.length with h1 | h1
            · obtain ⟨m, hm1⟩ : ∃ m, P[j]? = some m := ⟨_, List.getElem?_eq_getElem h1⟩
              rw [drop_at hm1, joinN_cons]
              exact jn_apart (n := ⟨n.k, n.n, n.a, acc⟩) (fun q => hm ⟨m, hm1, q⟩) _
            · rw [List.drop_of_length_le h1]
              rfl
          have hfacts : ((bs n.n).toList.isEmpty = false) ∨ ((bs n.n).toList.isEmpty = true ∧ decide (j < P.length) = false) ∨ (∃ mk mn, (bs n.n).toList.isEmpty = true ∧ j < P.length ∧ wr.cell? ⟨b, o + j * 4 + 1, none⟩ = some (.string (bs mn)) ∧ wr.cell? ⟨b, o + j * 4, none⟩ = some (.int .i64 mk) ∧ (bs mn).toList.isEmpty = false) ∨
              (∃ (mk : Int) (mn : List UInt8), (bs n.n).toList.isEmpty = true ∧ j < P.length ∧ wr.cell? ⟨b, o + j * 4 + 1, none⟩ = some (.string (bs mn)) ∧ wr.cell? ⟨b, o + j * 4, none⟩ = some (.int .i64 mk) ∧ (bs mn).toList.isEmpty = true ∧ (mk == n.k) = false) := by
            by_cases h1 : n.n = []
            · rcases Nat.lt_or_ge j P.length with h2 | h2
              · obtain ⟨m, hm1⟩ : ∃ m, P[j]? = some m := ⟨_, List.getElem?_eq_getElem h2⟩
                obtain ⟨b2, o2, u2, hbo, p0, p1, p2, p3, _⟩ := HC.out j m hm1
                obtain ⟨rfl, rfl⟩ : b = b2 ∧ o = o2 := by cases hbo; exact ⟨rfl, rfl⟩
                have hbx := HX2.out.2.2.1.trans (HI.out.2.2.1.mono HX2.out.2.2.1.size)
                by_cases h3 : m.n = []
                · exact .inr (.inr (.inr ⟨m.k, m.n, empty_of h1, h2, cell_low p1 hbx (cell_block p1), cell_low p0 hbx (cell_block p0), empty_of h3, beq_eq_false_iff_ne.2 (fun e => hm ⟨m, hm1, h1, h3, e⟩)⟩))
                · exact .inr (.inr (.inl ⟨m.k, m.n, empty_of h1, h2, cell_low p1 hbx (cell_block p1), cell_low p0 hbx (cell_block p0), full_of h3⟩))
              · exact .inr (.inl ⟨empty_of h1, decide_eq_false (by omega)⟩)
            · exact .inl (full_of h1)
          clear hm
          rcases hfacts with e1 | ⟨e1, e2⟩ | ⟨mk, mn, e1, e2, p1, p0, e3⟩ | ⟨mk, mn, e1, e2, p1, p0, e3, e4⟩
          all_goals
            go_wp2_with fail
            go_quiet (fail)
            have HIq := hid (And.intro HI.out.1 (And.intro HI.out.2.1 (And.intro (below_drewN HI.out.2.2.1 nq) HI.out.2.2.2)))
            replace HIq : Hid (ownsN (wr.drewN nq) 5 g acc.length cap (byteCells acc) ∧ wo.heap.size < g ∧ Below wo.heap.size wo (wr.drewN nq) ∧ (wr.drewN nq).heap[wo.heap.size]? = some (.cells (evC n (.slice up n.a.length uc)) 84 (0, 0))) := HIq
            generalize wr.drewN nq = wq at HIq ⊢
            clear HI d0 d1 d2 d3
            obtain ⟨d0, d1, d2, d3⟩ := evC_at HIq.out.2.2.2
            have f3 := free_at HIq.out.2.2.2 3
            have hacl : acc.length ≤ 16000000000000 := hacc2
            have ht := own_textN wq g cap acc HIq.out.1
            have hjb := box_set HIq.out.2.2.2 acc
            have hrow2 := row_below HX2.out.1 HIq.out.2.2.1
            have hrow3 := row_of_block hrow2 (fun g2 hg2 => hjb.other g2 (by have := (HX2.out.1.lt g2 hg2).2; omega))
            have hb3 : Below w1.heap.size w1 (wq.setCell ⟨wo.heap.size, 3, none⟩ (.string (bs acc))) := (HX2.out.2.2.1.trans (HIq.out.2.2.1.mono HX2.out.2.2.1.size)).trans (just_low hjb HX2.out.2.2.1.size)
            have hJ : prs.map Prod.fst ++ ⟨n.k, n.n, n.a, acc⟩ :: joinN (P.drop j) = R := by
              have h1 := HD.out trivial
              rw [← HJ.out trivial, hstop] at h1
              exact h1
            have HRW := hid (And.intro hrow3 (And.intro hb3 (And.intro HX2.out.2.1 (And.intro HX2.out.2.2.2.1 HX2.out.2.2.2.2))))
            have HJJ := hid (fun (_ : True) => hJ)
            have hb3s := hb3.size
            obtain ⟨Y, hY⟩ : ∃ Y, bs acc = Y := ⟨_, rfl⟩
            rw [hY] at ht
            have hjat := hjb.at_
            rw [hY] at HRW hjat hb3s
            have HYY := hid hY
            have HJB := hid hjat
            clear hjb hrow2 hrow3 hb3 hJ hY hstop HJ hjat
            go_upto_region 12 with fail
            generalize wq.setCell ⟨wo.heap.size, 3, none⟩ (.string Y) = W8 at HRW HJB hb3s ⊢
            clear d0 d1 d2 d3 f3 ht HIq
            obtain ⟨d0, d1, d2, d3⟩ := evC_at HJB.out
            simp only [HYY.out] at d3
            obtain ⟨hrow3, hb3, hat3, hpl3, q4⟩ := HRW.out
            have hpl4 : prs.length ≤ 4000000 := by omega
            go_wp2_with (at_builtin; refine wpList_append_own _ rfl (.tmp 62) (.tmp 64) 44 rfl w1.heap.size 84 i0 (.agg #[.int .i64 0, .string ⟨#[]⟩, .slice none 0 0, .string ⟨#[]⟩]) 4 64 Tryd.underlying44 hi hz0 hz1 hz2 rfl (by decide) _ _ _ rfl (hrow3.alloc _) ⟨_, 0, none⟩ 1 1 [.int .i64 n.k, .string (bs n.n), .slice up n.a.length uc, .string Y] rfl rfl (cells_newV _ _ _) (by simp [Value.oneCell', bs]) (by unfold maxLen; omega) (by omega) (by simp; omega) ?_)
            intro v10 W10 hown10 hgrow10 _
            rw [← HYY.out] at hown10
            have hown11 : W10.ownsRow w1.heap.size 84 4 v10 (prs ++ [((⟨n.k, n.n, n.a, acc⟩ : EvP), Value.slice up n.a.length uc)]).length (ecells (prs ++ [((⟨n.k, n.n, n.a, acc⟩ : EvP), Value.slice up n.a.length uc)])) := by rw [List.length_append, ecells_app]; exact hown10
            have hat11 : ∀ x ∈ prs ++ [((⟨n.k, n.n, n.a, acc⟩ : EvP), Value.slice up n.a.length uc)], AttrsR w1 x.2 x.1.a := by
              intro x hx
              rcases List.mem_append.1 hx with h1 | h1
              · exact hat3 x h1
              · rw [List.mem_singleton] at h1
                subst h1
                exact q4
            have hb11 : Below w1.heap.size w1 W10 := (hb3.alloc hb3s _).grown hgrow10 (by simp; omega) (fun k hk => (hrow3.lt k hk).1)
            have hl11 : (prs ++ [((⟨n.k, n.n, n.a, acc⟩ : EvP), Value.slice up n.a.length uc)]).length ≤ j := by rw [List.length_append, List.length_singleton]; omega
            have hm11 : (prs ++ [((⟨n.k, n.n, n.a, acc⟩ : EvP), Value.slice up n.a.length uc)]).map Prod.fst ++ joinN (P.drop j) = R := by rw [List.map_append, List.append_assoc]; exact HJJ.out trivial
            generalize prs ++ [((⟨n.k, n.n, n.a, acc⟩ : EvP), Value.slice up n.a.length uc)] = prs3 at hown11 hat11 hl11 hm11
            have HZ := hid (And.intro hown11 (And.intro hat11 (And.intro hb11 hl11)))
            have HE := hid (fun (_ : True) => hm11)
            clear hown10 hgrow10 hown11 hat11 hb11 hl11 hm11 hrow3 hb3 hat3 hpl3 q4 HRW HJJ HYY d0 d1 d2 d3 HJB
            go_wp2_with fail
            go_roundw
            case rel => exact ⟨j, prs3, rfl, hj, HZ, HE⟩
            case measure => simp [RowKit.intOf]; omega
    · have hfin : prs.map Prod.fst = R := by
        have := HK.out trivial
        rw [List.drop_of_length_le (by omega), show joinN [] = [] from rfl, List.append_nil] at this
        exact this
      have hev : EvsR wo (.slice np prs.length nc) R := by rw [← hfin]; exact evsR_row HX.out.1 (fun x hx => (HX.out.2.1 x hx).below HX.out.2.2.1)
      have HY := hid (And.intro hev (HB1.out.trans (HX.out.2.2.1.mono HB1.out.size)))
      clear HX HK HC hfin hev
      go_wp2_with fail
      go_ret
      exact ⟨_, rfl, HY.out.1, HY.out.2⟩
end Go.Proofs.YtkcgmimldjeaiaaDoor

/-
  The statements' freshNodes: its walk.
-/
namespace Go.Proofs.YtkcgmimldjeaiaaDoor
open Go.RowKit Go.Lib Own

/-- what freshNodes holds on its way -/
structure FrN (w W : World) (base : Nat) (gv : Value) (prs : List (EvP × Value)) (lgv : Value) (i : Nat) : Prop where
  be : Below base w W
  got : MadeN W base gv prs
  lg : W.ownsRow base 37 1 lgv i ((prs.map Prod.snd).take i)
theorem FrN.list {w W w2 : World} {base : Nat} {prs : List (EvP × Value)} {gv lgv lgv2 v : Value} {i : Nat} {X : Obj} (h : FrN w W base gv prs lgv i) (hb : base ≤ w.heap.size) (hv : (prs.map Prod.snd)[i]? = some v)
    (h2 : w2.ownsRow base 37 1 lgv2 (i + 1) ((prs.map Prod.snd).take i ++ [v])) (hg : (W.alloc X).grownBy w2 lgv.ownBlock) : FrN w w2 base gv prs lgv2 (i + 1) := by
  have hbs := h.be.size
  have hlg := h.lg.alloc X
  refine ⟨h.be.trans (((Below.refl base W).alloc (by omega) X).grown hg (by simp; omega) (fun k hk => (hlg.lt k hk).1)), ?_, ?_⟩
  · exact h.got.keep (fun v n xs hr => (hr.alloc X).kept hg (rows_ne (hr.alloc X) hlg (by decide))) (fun v n xs hr => (hr.alloc X).kept hg (rows_ne (hr.alloc X) hlg (by decide)))
  · rw [List.take_add_one, hv]
    exact h2

set_option maxHeartbeats 4000000 in
set_option maxRecDepth 100000 in
theorem freshN_any (base : Nat) (gv dv : Value) (prs : List (EvP × Value)) (a : Option Addr) (mc : Nat) (ss : List ByteArray) (w : World) (hg : MadeN w base gv prs) (hd : EvsR w dv (prs.map Prod.fst))
    (hJ : prs.length ≤ 5000000) (hA : ∀ x ∈ prs, x.1.a.length ≤ 5000000) (hb : base ≤ w.heap.size) (hs : ss.length ≤ 5000000) (hw : WordsAt w base a ss) (hP : PowB base w) :
    Calls Tryd.prog 20 #[gv, dv, .slice a ss.length mc] w fun e w' => e = .returned (.bool true) ∧ Below base w w' := by
  have hsame := sameNodesR_any gv dv (prs.map Prod.fst) w hg.evs hd
  obtain ⟨p, c, rfl⟩ := row_shape hg.row
  obtain ⟨dp, dn, dc, rfl⟩ := hd.shape
  obtain ⟨li0, lhi, lhz0, lhz1, lhz2⟩ := info_parts info_list
  have hend : ∀ (lv : Value) (W : World), FrN w W base (.slice p prs.length c) prs lv prs.length → Calls Tryd.prog 30 #[lv, .slice a ss.length mc] W fun e w' => e = .returned (.bool true) ∧ Below base w w' := fun lv W h => by
    have hl := h.lg
    have hbs := h.be.size
    rw [List.take_of_length_le (by rw [List.length_map]; exact Nat.le_refl _)] at hl
    have hfam : Fam W base (prs.map Prod.snd) (fun k => (prs[k]?.map fun x => x.1.a.length).getD 0) 0 := ⟨fun k v hk => by
      rw [List.getElem?_map] at hk
      obtain ⟨x, hx, rfl⟩ := Option.map_eq_some_iff.1 hk
      refine ⟨fun h => absurd h (Nat.not_lt_zero _), attrsV x.1.a, ?_⟩
      simp only [hx, Option.map_some, Option.getD_some]
      exact h.got.own k x hx⟩
    have := apart_any base lv (prs.map Prod.snd) (fun k => (prs[k]?.map fun x => x.1.a.length).getD 0) a mc ss W (by rw [List.length_map]; exact hl) hfam h.got.ap (fun k hk => by
      rw [List.length_map] at hk
      simp only [List.getElem?_eq_getElem hk, Option.map_some, Option.getD_some]
      exact hA _ (List.getElem_mem hk)) (by rw [List.length_map]; exact hJ) (by omega) hs (hw.below h.be) (hP.below h.be)
    exact this.mono fun e w' h2 => ⟨h2.1, h.be.trans h2.2.1⟩
  have H0 : ∀ nd, FrN w (w.drewN nd) base (.slice p prs.length c) prs (.slice none 0 0) 0 := fun nd => ⟨below_drewN (Below.refl base w) nd, hg.drewN nd, World.ownsRow_nil _ _ _ _⟩
  have HS := hid hsame
  have H0 := hid H0
  have HEND := hid hend
  clear hsame hend hg hd hA hw hP
  go_enter Tryd.func20, Tryd.ntmps20
  go_wp2_with fail
  refine HS.out.mono ?_
  rintro e w1 ⟨rfl, nd, rfl⟩
  go_wp2_with fail
  go_loopw [7, 15] (fun lgv iv wr => ∃ (i : Nat), iv = .int .i64 i ∧ i ≤ prs.length ∧ Hid (FrN w wr base (.slice p prs.length c) prs lgv i)) (fun _ iv _ => prs.length - (RowKit.intOf iv).toNat)
  case atStart => exact ⟨0, rfl, Nat.zero_le _, hid (H0.out nd)⟩
  case round =>
    obtain ⟨i, rfl, hi, HX⟩ := hrel
    obtain ⟨lgp, lgc, rfl⟩ := row_shape HX.out.lg
    by_cases hiN : i < prs.length
    · obtain ⟨x, hx⟩ : ∃ x, prs[i]? = some x := ⟨_, List.getElem?_eq_getElem hiN⟩
      have hv : (prs.map Prod.snd)[i]? = some x.2 := by rw [List.getElem?_map, hx]; rfl
      obtain ⟨xp, xc, hxe⟩ := row_shape (HX.out.got.own i x hx)
      rw [hxe] at hv
      obtain ⟨g, cap, e0, hg1, hg2, hgc⟩ := row_at HX.out.got.row (by omega)
      cases e0
      have hec := (ecells_at prs i x hx).2.2.1
      have hel : i * 4 + 2 < (ecells prs).length := (List.getElem?_eq_some_iff.1 hec).1
      have c2 := (hgc (i * 4 + 2) (by omega)).trans hec
      rw [hxe] at c2
      have hlg := HX.out.lg
      have hbs := HX.out.be.size
      have HV := hid hv
      clear hv hgc hec hel hx hxe H0
      go_wp2_with (at_builtin; refine wpList_append_own _ rfl (.tmp 18) (.tmp 24) 25 rfl base 37 li0 (.slice none 0 0) 1 24 Tryd.underlying25 lhi lhz0 lhz1 lhz2 rfl (by decide) _ _ _ rfl (hlg.alloc _) ⟨_, 0, none⟩ 1 1 [.slice xp x.1.a.length xc] rfl rfl (cells_newV _ _ _) (by simp [Value.oneCell']) (by unfold maxLen; omega) (by omega) (by simp; omega) ?_)
      intro v' w2 hown2 hgrow2 _
      have F2 := hid (HX.out.list hb HV.out hown2 hgrow2)
      clear hown2 hgrow2 HX HV hlg
      go_wp2_with fail
      go_roundw
      case rel => first | exact ⟨i + 1, rfl, by omega, F2⟩ | ((repeat apply Exists.intro); exact ⟨⟨i + 1, rfl, by omega, F2⟩, rfl⟩)
      case measure => simp [RowKit.intOf]; omega
    · obtain rfl : i = prs.length := by omega
      have HE := hid (HEND.out _ _ HX.out)
      clear HX HEND H0
      go_wp2_with fail
      refine HE.out.mono ?_
      rintro e w3 ⟨rfl, b3⟩
      have HZ := hid b3
      clear b3 HE
      go_wp2_with fail
      go_ret
      exact ⟨rfl, HZ.out⟩
end Go.Proofs.YtkcgmimldjeaiaaDoor

/-
  markup.Write: its walk.
-/
namespace Go.Proofs.YtkcgmimldjeaiaaDoor
open Go.RowKit Go.Lib Own

/-- the cells of a markup.writer -/
def mwC (eat : Bool) (p v : Value) : Array Value := #[.bool eat, p, v]
theorem mw_lies : liesAt Tryd.prog Tryd.prog.depth 91 ((mwC false (.pointer none) (.slice none 0 0)).size / Tryd.prog.cellsOf 91) 1 59 1 = true := by kernel_rfl
/-- a markup.writer at block b -/
structure MwAt (w : World) (base b : Nat) (eat : Bool) (acc : List UInt8) : Prop where
  it : ∃ p v, InB w base b 1 (mwC eat p v) 91 p v acc
theorem takeW_len (eat : Bool) (e : EvP) : (takeW eat e).2.length ≤ 6 * (e.n.length + e.t.length + bulkA e.a) + 3 := by
  have h1 := attrs_len e.a
  have h2 := esc_len false _ e.t (Nat.le_refl _)
  have h3 : (openL e.n e.a).length = 2 + e.n.length + (e.a.flatMap attrL).length := by unfold openL; simp only [List.length_append, List.length_cons, List.length_nil]; omega
  have h4 : (etagL e.n).length = 3 + e.n.length := by unfold etagL; simp only [List.length_append, List.length_cons, List.length_nil]; omega
  unfold takeW textW
  split
  · simp only; omega
  · split
    · simp only; omega
    · split
      · split
        · simp
        · simp only [List.length_append]
          split
          · simp only [List.length_cons, List.length_nil]; omega
          · simp only [List.length_nil]; omega
      · simp

set_option maxHeartbeats 4000000 in
set_option maxRecDepth 100000 in
theorem mwTake_any (base b : Nat) (eat : Bool) (acc : List UInt8) (e : EvP) (u : Value) (m : Int) (w0 w : World) (h : MwAt w base b eat acc) (hu0 : AttrsR w0 u e.a) (hb0 : Below w0.heap.size w0 w) (hlo : w0.heap.size ≤ base) (hs : e.n.length + e.t.length + bulkA e.a ≤ 100000000)
    (hm0 : w0.cell? ⟨10, 0, none⟩ = some (.int .i64 m)) (hal : acc.length ≤ 100000000000) :
    Calls Tryd.prog 44 #[.pointer (some ⟨b, 0, none⟩), .agg (evC e u)] w fun r w' => r = .returned (.tuple #[]) ∧ MwAt w' base b (takeW eat e).1 (acc ++ (takeW eat e).2) ∧ Below w0.heap.size w0 w' := by
  obtain ⟨p, v, hI⟩ := h.it
  have hlo2 : w0.heap.size ≤ b := Nat.le_trans hlo hI.lo
  have hbs := block_lt hI.at_
  have hB := (Below.refl w.heap.size w).alloc (Nat.le_refl _) (.cells (evC e u) 39)
  have hn := heap_alloc_new w (.cells (evC e u) 39)
  obtain ⟨W1, hW1⟩ : ∃ W1, w.alloc (.cells (evC e u) 39) = W1 := ⟨_, rfl⟩
  rw [hW1] at hB hn
  have hI1 : EatAt W1 b 0 (mwC eat p v) 91 eat := ⟨(hB.block b hbs).trans hI.at_, rfl⟩
  have hI2 : EatAt W1.drew b 0 (mwC eat p v) 91 eat := ⟨hI1.at_, hI1.c⟩
  have hbw := hb0.trans (hB.mono hb0.size)
  have htk := wTake_any b 0 (mwC eat p v) 91 eat e u m w0 W1.drew hI2 hu0 hbw.drew hlo2 hs hm0
  have hlen := takeW_len eat e
  generalize takeW eat e = tw at htk hlen ⊢
  obtain ⟨t1, t2⟩ := tw
  simp only at htk hlen ⊢
  have hown1 : W1.ownsRowF base 5 1 v acc.length (byteCells acc) := hI.own.kept (row := none) ⟨hB.os, hB.tape, hB.output, hB.size, fun k hk _ => hB.block k hk⟩ (by cases v.ownBlock <;> simp)
  have hwr : ∀ W, W.heap[b]? = some (.cells ((mwC eat p v).setIfInBounds 0 (.bool t1)) 91 (0, 0)) → W1.drew.grownBy W (some b) → InB W base b 1 (mwC t1 p v) 91 p v acc := fun W ha hg =>
    ⟨ha, hI.lo, rfl, rfl, hI.hp, (show W1.drew.ownsRowF base 5 1 v acc.length (byteCells acc) from hown1).kept hg (.inr hI.ne), hI.ne⟩
  have hws := fun W h1 => write_in base b 1 (mwC t1 p v) 91 p v acc (bs t2) W h1 mw_lies (by decide) (by rw [bs_size]; omega)
  rw [bs_data] at hws
  obtain ⟨c0, c1, c2, c3⟩ := evC_at (show W1.drew.heap[w.heap.size]? = _ from hn)
  have HTK := hid htk
  have HWR := hid hwr
  have HWS := hid hws
  have HBW := hid hbw
  have hlb := hI.lo
  have fin : ∀ W W', W1.drew.grownBy W (some b) → Below base W W' → Below w0.heap.size w0 W' := fun W W' hg hb => by
    have h1 : Below w0.heap.size w0 W := Below.grown hbw.drew hg hbw.size (fun k hk => by cases hk; exact hlo2)
    exact h1.trans (hb.mono hlo)
  have FIN := hid fin
  obtain ⟨up, uc, rfl⟩ := hu0.len
  unfold evC at hW1 ⊢
  unfold evC at HTK
  clear htk hwr hws hbw fin hn hI hI1 hI2 hB hown1 hu0 h hlen
  go_enter Tryd.func44, Tryd.ntmps44
  go_wp2_with fail
  go_region_with (first | (go_at_call 77; refine HTK.out.mono ?_; rintro r W2 ⟨rfl, a2, g2⟩; have H2 := hid (HWR.out W2 a2 g2); have HG2 := hid g2; clear a2 g2) | (go_at_call 76; refine (HWS.out _ H2.out).mono ?_; rintro r W3 ⟨rfl, v', i3, b3, k3⟩))
  all_goals (go_end0; exact ⟨rfl, ⟨_, v', i3⟩, FIN.out _ _ HG2.out b3⟩)

theorem write_step (eat : Bool) (e : EvP) (r : List EvP) : writeW eat (e :: r) = (takeW eat e).2 ++ writeW (takeW eat e).1 r := rfl
theorem writeW_len : ∀ (es : List EvP) (eat : Bool), (writeW eat es).length ≤ 6 * bulkE es
  | [], _ => by simp [writeW]
  | e :: r, eat => by
    have h1 := takeW_len eat e
    have h2 := writeW_len r (takeW eat e).1
    rw [write_step, List.length_append, bulkE_cons]
    omega

set_option maxHeartbeats 4000000 in
set_option maxRecDepth 100000 in
theorem write_any (ev : Value) (es : List EvP) (m : Int) (w : World) (h : EvsR w ev es) (hs : bulkE es ≤ 100000000) (hm : w.cell? ⟨10, 0, none⟩ = some (.int .i64 m)) :
    Calls Tryd.prog 18 #[ev] w fun e w' => e = .returned (.string (bs (writeW false es))) ∧ Below w.heap.size w w' := by
  obtain ⟨p, c, rfl, hl, hcm, hcell⟩ := h
  have hlen := bulkE_len es
  have hwl := writeW_len es false
  obtain ⟨R, hR⟩ : ∃ R, writeW false es = R := ⟨_, rfl⟩
  rw [hR] at hwl ⊢
  have hb1 := (Below.refl w.heap.size w).alloc (Nat.le_refl _) (.cells (mwC false (.pointer none) (.slice none 0 0)) 91)
  have hn1 := heap_alloc_new w (.cells (mwC false (.pointer none) (.slice none 0 0)) 91)
  have H0 : Hid (MwAt (w.alloc (.cells (mwC false (.pointer none) (.slice none 0 0)) 91)) w.heap.size w.heap.size false [] ∧ Below w.heap.size w (w.alloc (.cells (mwC false (.pointer none) (.slice none 0 0)) 91))) :=
    ⟨⟨_, _, ⟨hn1, Nat.le_refl _, rfl, rfl, .inl rfl, ⟨rfl, .inl ⟨rfl, rfl⟩⟩, by simp [Value.ownBlock]⟩⟩, hb1⟩
  have HC := hid hcell
  have HM := hid hm
  have HS := hid hs
  have HWL := hid hwl
  have HR := hid (fun (_ : True) => hR)
  have hln : es.length ≤ 100000000 := by omega
  unfold mwC at H0
  clear hcell hm hs hwl hR hb1 hn1 hlen
  go_enter Tryd.func18, Tryd.ntmps18
  go_wp2_with fail
  go_loopw [8] (fun iv wr => ∃ (k : Nat) (eat : Bool) (acc : List UInt8), iv = .int .i64 k ∧ k ≤ es.length ∧ Hid (MwAt wr w.heap.size w.heap.size eat acc ∧ Below w.heap.size w wr) ∧ Hid (True → acc ++ writeW eat (es.drop k) = R)) (fun iv _ => es.length - (RowKit.intOf iv).toNat)
  case atStart => exact ⟨0, false, [], rfl, Nat.zero_le _, H0, HR⟩
  case round =>
    obtain ⟨k, eat, acc, rfl, hk, HX, HK⟩ := hrel
    by_cases hkl : k < es.length
    · obtain ⟨e, he⟩ : ∃ e, es[k]? = some e := ⟨_, List.getElem?_eq_getElem hkl⟩
      obtain ⟨b, o, u, rfl, q0, q1, q2, q3, q4⟩ := HC.out k e he
      have hab := bulkE_get he
      have hd := HK.out trivial
      rw [drop_at he, write_step] at hd
      have hdl := congrArg List.length hd
      have hHS := HS.out
      have hWL := HWL.out
      simp only [List.length_append] at hdl
      have hbx := HX.out.2
      have hlo := cell_block q0
      replace q0 := cell_low q0 hbx hlo
      replace q1 := cell_low q1 hbx hlo
      replace q2 := cell_low q2 hbx hlo
      replace q3 := cell_low q3 hbx hlo
      obtain ⟨up, uc, rfl⟩ := q4.len
      have hB1 := (Below.refl wr.heap.size wr).alloc (Nat.le_refl _) (.cells (evC e (.slice up e.a.length uc)) 39)
      have htk := mwTake_any w.heap.size w.heap.size eat acc e (.slice up e.a.length uc) m w (wr.alloc (.cells (evC e (.slice up e.a.length uc)) 39)) (by
        obtain ⟨p', v', hI⟩ := HX.out.1.it
        exact ⟨p', v', ⟨(hB1.block _ (block_lt hI.at_)).trans hI.at_, hI.lo, hI.cp, hI.cv, hI.hp, hI.own.kept (row := none) ⟨hB1.os, hB1.tape, hB1.output, hB1.size, fun k hk _ => hB1.block k hk⟩ (by cases v'.ownBlock <;> simp), hI.ne⟩⟩) q4 (hbx.trans (hB1.mono hbx.size)) (Nat.le_refl _) (by omega) HM.out (by omega)
      generalize takeW eat e = tw at htk hd
      obtain ⟨t1, t2⟩ := tw
      simp only at htk hd
      unfold evC at htk
      have HTK := hid htk
      have HD := hid (fun (_ : True) => hd)
      clear htk hd hdl hHS hWL hbx hlo hab he q4 HK HC hB1 H0
      go_wp2_with (go_at_call 44; refine HTK.out.mono ?_; rintro r W2 ⟨rfl, a2, b2⟩)
      have HZ := hid (And.intro a2 b2)
      have HE := hid (fun (_ : True) => (by have := HD.out trivial; rwa [← List.append_assoc] at this : (acc ++ t2) ++ writeW t1 (es.drop (k + 1)) = R))
      clear a2 b2 HX HTK HD q0 q1 q2 q3
      go_roundw
      case rel => first | exact ⟨k + 1, _, _, rfl, by omega, HZ, HE⟩ | ((repeat apply Exists.intro); exact ⟨⟨k + 1, _, _, rfl, by omega, HZ, HE⟩, rfl⟩)
      case measure => simp [RowKit.intOf]; omega
    · obtain rfl : acc = R := by
        have := HK.out trivial
        rw [List.drop_of_length_le (by omega)] at this
        rwa [show writeW eat [] = [] from rfl, List.append_nil] at this
      obtain ⟨p', v', hI⟩ := HX.out.1.it
      have HST := hid (string_any_in w.heap.size w.heap.size 1 _ _ p' v' acc wr hI)
      clear HK HC H0 hI
      go_wp2_with (go_at_call 45; refine HST.out.mono ?_; rintro r W2 ⟨rfl, _, b2, _⟩)
      have HY := hid (HX.out.2.trans b2)
      clear b2 HX
      go_ret
      exact ⟨rfl, HY.out⟩
end Go.Proofs.YtkcgmimldjeaiaaDoor

/-
  From what a row says of a policy and of words to what lies in memory.
-/
namespace Go.Proofs.YtkcgmimldjeaiaaDoor
open Go.RowKit Go.Lib Go.ChangeShapes Go.WideShapes Go.Joins Go.Deep Go.ChangeAt

section
variable {H : Type} {enc : TypeId × Value → H} {W : World}

theorem bulk_pos (d : DataW H) : 1 ≤ Rows.uptoBulk d := by
  cases d with
  | lit l => cases l <;> simp [Rows.uptoBulk]
  | _ => simp [Rows.uptoBulk]
theorem bulkAll_mem : ∀ (l : List (DataW H)) (d : DataW H), d ∈ l → Rows.uptoBulk d ≤ Rows.uptoBulkAll l
  | [], d, h => by simp at h
  | x :: r, d, h => by
    simp only [Rows.uptoBulkAll]
    rcases List.mem_cons.1 h with rfl | h1
    · omega
    · have := bulkAll_mem r d h1
      omega
theorem bulkAll_len : ∀ l : List (DataW H), l.length ≤ Rows.uptoBulkAll l
  | [] => by simp
  | x :: r => by
    have h1 := bulkAll_len r
    have h2 := bulk_pos x
    simp only [Rows.uptoBulkAll, List.length_cons]
    omega
theorem add_none (b o : Nat) (n : Nat) : (⟨b, o, none⟩ : Addr).add n = ⟨b, o + n, none⟩ := by unfold Addr.add; split <;> simp_all
theorem add_zero' (a : Addr) : a.add 0 = a := by simp [Addr.add]

/-- a []string that is read -/
theorem words_of {held : Bool} {fuel : Nat} {v : Value} {x : DataW H × List MemPlace} (h : DataW.trod enc Tryd.prog W 0 (fun _ => true) held fuel 23 [v] = some x) (hb : Rows.uptoBulk x.1 ≤ 1048576) :
    ∃ ss, Words W v ss ∧ ss.length ≤ 1048576 ∧ ∀ s ∈ ss, s.length ≤ 1048576 := by
  rcases open_strings Tryd.underlying23 Tryd.underlying9 (by kernel_rfl) h with ⟨hcs, hx⟩ | ⟨a, len, cap, ss, hcs, _, hl, hm9, hz, hx, hcell, hsz⟩
  · obtain rfl := (List.cons.inj hcs).1
    exact ⟨[], Words.nil W, by simp, fun s hs => by simp at hs⟩
  · obtain rfl := (List.cons.inj hcs).1
    subst hx
    simp only [if_true] at hz
    have hlen : ((ss.take len).map fun s => s.data.toList).length = len := by rw [List.length_map, List.length_take]; omega
    simp only [Rows.uptoBulk] at hb
    have hb1 := bulkAll_len (H := H) (strs (ss.take len))
    have hsl : (strs (H := H) (ss.take len)).length = len := by unfold strs; rw [List.length_map, List.length_take]; omega
    rw [hsl] at hb1
    refine ⟨(ss.take len).map fun s => s.data.toList, ⟨some a, cap, by rw [hlen], by rw [hlen]; exact hl, by unfold maxLen at hm9; omega, fun j s hj => ?_, fun h => by cases h⟩, by omega, fun s hs => ?_⟩
    · have hjl : j < len := by rw [← hlen]; exact (List.getElem?_eq_some_iff.1 hj).1
      rw [List.getElem?_map] at hj
      obtain ⟨s0, hs0, rfl⟩ := Option.map_eq_some_iff.1 hj
      rw [List.getElem?_take_of_lt hjl] at hs0
      have hc0 := hcell 0 (by omega)
      have hc := hcell j (by omega)
      obtain ⟨b, o, sp⟩ := a
      rw [add_zero'] at hc0
      obtain rfl := cell_spot hc0
      rw [add_none] at hc
      refine ⟨b, o, rfl, ?_⟩
      rw [hc, List.getD_eq_getElem?_getD, hs0]
      rfl
    · obtain ⟨s0, hs0, rfl⟩ := List.mem_map.1 hs
      have hm := bulkAll_mem (H := H) (strs (ss.take len)) (.lit (.string s0.data.toList)) (List.mem_map.2 ⟨s0, hs0, rfl⟩)
      simp only [Rows.uptoBulk] at hm
      omega
/-- a []Rule that is read -/
theorem rules_of {held : Bool} {fuel : Nat} {v : Value} {x : DataW H × List MemPlace} (h : DataW.trod enc Tryd.prog W 0 (fun _ => true) held fuel 33 [v] = some x) (hb : Rows.uptoBulk x.1 ≤ 1048576) :
    ∃ rs, RulesR W v rs ∧ rs.length ≤ 1048576 ∧ ∀ r ∈ rs, r.2.length ≤ 1048576 ∧ r.1.length ≤ 1048576 ∧ ∀ a ∈ r.2, a.length ≤ 1048576 := by
  rcases open_slice_pairs Tryd.underlying33 Tryd.underlying73 (by kernel_rfl) rfl rfl (by kernel_rfl) (by kernel_rfl) h with ⟨hcs, hx⟩ | ⟨a, len, cap, m, n, V0, V1, D0, D1, P0, P1, hcs, _, hl, hm9, hm, hx, hall⟩
  · obtain rfl := (List.cons.inj hcs).1
    exact ⟨[], ⟨none, 0, rfl, Nat.le_refl _, by omega, fun j r hj => by simp at hj⟩, by simp, fun r hr => by simp at hr⟩
  · obtain rfl := (List.cons.inj hcs).1
    subst hx
    simp only [if_true] at hm
    subst hm
    simp only [Rows.uptoBulk] at hb
    have hb1 := bulkAll_len (H := H) ((List.range len).map fun i => .agg [D0 i, D1 i])
    rw [List.length_map, List.length_range] at hb1
    have each : ∀ i, i < len → ∃ q : RuleP, V0 i = .string (bs q.1) ∧ Words W (V1 i) q.2 ∧ q.2.length ≤ 1048576 ∧ q.1.length ≤ 1048576 ∧ ∀ a ∈ q.2, a.length ≤ 1048576 := fun i hi => by
      obtain ⟨_, _, h0, h1⟩ := hall i (by omega)
      have hbi := bulkAll_mem (H := H) ((List.range len).map fun i => .agg [D0 i, D1 i]) (.agg [D0 i, D1 i]) (List.mem_map.2 ⟨i, by simpa using hi, rfl⟩)
      simp only [Rows.uptoBulk, Rows.uptoBulkAll] at hbi
      obtain ⟨s, e0, e1, _⟩ := DataW.trod_string Tryd.underlying9 h0
      obtain ⟨ss, w1, w2, w3⟩ := words_of h1 (by show Rows.uptoBulk (D1 i) ≤ _; omega)
      simp only [Prod.mk.injEq] at e1
      rw [e1.1] at hbi
      simp only [Rows.uptoBulk] at hbi
      exact ⟨(s.data.toList, ss), (List.cons.inj e0).1, w1, w2, by show s.data.toList.length ≤ _; omega, w3⟩
    obtain ⟨Q, hQ⟩ := choose_lt each
    have hlen : ((List.range len).map Q).length = len := by simp
    refine ⟨(List.range len).map Q, ⟨some a, m, by rw [hlen], by rw [hlen]; exact hl, by unfold maxLen at hm9; omega, fun j r hj => ?_⟩, by rw [hlen]; omega, fun r hr => ?_⟩
    · have hjl : j < len := by rw [← hlen]; exact (List.getElem?_eq_some_iff.1 hj).1
      rw [List.getElem?_map, List.getElem?_range hjl] at hj
      obtain rfl := Option.some.inj hj
      obtain ⟨hc0, _, _, _⟩ := hall 0 (by omega)
      obtain ⟨k0, k1, _, _⟩ := hall j (by omega)
      obtain ⟨q0, q1, _⟩ := hQ j hjl
      obtain ⟨b, o, sp⟩ := a
      rw [Nat.zero_mul, add_zero'] at hc0
      obtain rfl := cell_spot hc0
      rw [add_none] at k0 k1
      exact ⟨b, o, V1 j, rfl, by rw [k0, q0], by rw [Nat.add_assoc]; exact k1, q1⟩
    · obtain ⟨i, hi, rfl⟩ := List.mem_map.1 hr
      obtain ⟨_, _, q2, q3, q4⟩ := hQ i (by simpa using hi)
      exact ⟨q2, q3, q4⟩
theorem i64_wf {n : Int} (h : (Lit.int .i64 n).wf = true) : -9223372036854775808 ≤ n ∧ n ≤ 9223372036854775807 := by
  simp only [Lit.wf, Bool.and_eq_true, decide_eq_true_eq] at h
  first | exact h | simpa [IntKind.min, IntKind.max] using h
theorem array5 {α : Type} {cs : Array α} (h : cs.size = 5) : ∃ c0 c1 c2 c3 c4, cs = #[c0, c1, c2, c3, c4] := by
  obtain ⟨l⟩ := cs
  match l, h with
  | [c0, c1, c2, c3, c4], _ => exact ⟨c0, c1, c2, c3, c4, rfl⟩
set_option maxRecDepth 100000 in
/-- a policy that is read -/
theorem policy_of {r : Reach} {b0 : Nat} {held : Bool} {v : Value} {d : DataW H} {p : List MemPlace} (hv : Value.okWide Tryd.prog W r b0 35 v) (h : DataW.Trod enc Tryd.prog W 0 (fun _ => true) held 35 v d p) (hb : Rows.uptoBulk d ≤ 1048576) :
    ∃ (vr vs vd : Value) (P : PolP), v = .agg (polC vr vs vd P) ∧ PolR W vr vs vd P ∧ P.Few := by
  obtain ⟨cs, rfl, hsz⟩ := okWide_struct Tryd.underlying35 hv
  obtain ⟨c0, c1, c2, c3, c4, rfl⟩ := array5 (hsz.trans (by kernel_rfl))
  obtain ⟨fuel, hf⟩ := h
  obtain ⟨xs, n, _, hx, hl, hlen, hfs⟩ := DataW.trod_struct Tryd.underlying35 hf
  match xs, hlen with
  | [y0, y1, y2, y3, y4], _ =>
    have k22 : Tryd.prog.cellsOf 33 = 1 := by kernel_rfl
    have k23 : Tryd.prog.cellsOf 23 = 1 := by kernel_rfl
    have k3 : Tryd.prog.cellsOf 3 = 1 := by kernel_rfl
    have g0 : DataW.trod enc Tryd.prog W 0 (fun _ => true) held n 33 [c0] = some y0 := by
      have := hfs 0 _ rfl
      simpa [Value.cells, k22] using this
    have g1 : DataW.trod enc Tryd.prog W 0 (fun _ => true) held n 23 [c1] = some y1 := by
      have := hfs 1 _ rfl
      simpa [Value.cells, k23] using this
    have g2 : DataW.trod enc Tryd.prog W 0 (fun _ => true) held n 23 [c2] = some y2 := by
      have := hfs 2 _ rfl
      simpa [Value.cells, k23] using this
    have g3 : DataW.trod enc Tryd.prog W 0 (fun _ => true) held n 3 [c3] = some y3 := by
      have := hfs 3 _ rfl
      simpa [Value.cells, k3] using this
    have g4 : DataW.trod enc Tryd.prog W 0 (fun _ => true) held n 3 [c4] = some y4 := by
      have := hfs 4 _ rfl
      simpa [Value.cells, k3] using this
    simp only [Prod.mk.injEq, List.map_cons, List.map_nil] at hx
    rw [hx.1] at hb
    simp only [Rows.uptoBulk, Rows.uptoBulkAll] at hb
    obtain ⟨rs, r1, r2, r3⟩ := rules_of g0 (by omega)
    obtain ⟨ss, s1, s2, s3⟩ := words_of g1 (by omega)
    obtain ⟨ds, d1, d2, d3⟩ := words_of g2 (by omega)
    obtain ⟨z3, e3, _, h3⟩ := DataW.trod_int Tryd.underlying3 g3
    obtain ⟨z4, e4, _, h4⟩ := DataW.trod_int Tryd.underlying3 g4
    obtain rfl := (List.cons.inj e3).1
    obtain rfl := (List.cons.inj e4).1
    refine ⟨c0, c1, c2, ⟨rs, ss, ds, z3, z4⟩, rfl, ⟨r1, s1, d1⟩, ?_⟩
    exact ⟨Nat.le_trans r2 (by omega), Nat.le_trans s2 (by omega), Nat.le_trans d2 (by omega), fun r hr => Nat.le_trans (r3 r hr).1 (by omega), fun r hr => ⟨Nat.le_trans (r3 r hr).2.1 (by omega), fun a ha => Nat.le_trans ((r3 r hr).2.2 a ha) (by omega)⟩, fun x hx => Nat.le_trans (s3 x hx) (by omega), fun x hx => Nat.le_trans (d3 x hx) (by omega), (i64_wf h3).1, (i64_wf h3).2, (i64_wf h4).1, (i64_wf h4).2⟩
end
end Go.Proofs.YtkcgmimldjeaiaaDoor

/-
  From what a row says of events, of nodes and of their attributes to what lies in memory.
-/
namespace Go.Proofs.YtkcgmimldjeaiaaDoor
open Go.RowKit Go.Lib Go.ChangeShapes Go.WideShapes Go.Joins Go.Deep Go.ChangeAt

section
variable {H : Type} {enc : TypeId × Value → H} {W : World}

theorem sum_bulk {D : Nat → DataW H} {f : Nat → Nat} : ∀ l : List Nat, (∀ i ∈ l, f i ≤ Rows.uptoBulk (D i)) → (l.map f).sum ≤ Rows.uptoBulkAll (l.map D)
  | [], _ => by simp
  | i :: l, h => by
    have h1 := sum_bulk l (fun j hj => h j (List.mem_cons_of_mem _ hj))
    have h2 := h i (List.mem_cons_self ..)
    simp only [List.map_cons, List.sum_cons, Rows.uptoBulkAll]
    omega
/-- a []Attr that is read -/
theorem attrs_of {held : Bool} {fuel : Nat} {v : Value} {x : DataW H × List MemPlace} (h : DataW.trod enc Tryd.prog W 0 (fun _ => true) held fuel 37 [v] = some x) : ∃ al, AttrsR W v al ∧ bulkA al ≤ Rows.uptoBulk x.1 := by
  rcases open_slice_pairs Tryd.underlying37 Tryd.underlying101 (by kernel_rfl) rfl rfl (by kernel_rfl) (by kernel_rfl) h with ⟨hcs, hx⟩ | ⟨a, len, cap, m, n, V0, V1, D0, D1, P0, P1, hcs, _, hl, hm9, hm, hx, hall⟩
  · obtain rfl := (List.cons.inj hcs).1
    exact ⟨[], AttrsR.nil W, Nat.zero_le _⟩
  · obtain rfl := (List.cons.inj hcs).1
    subst hx
    simp only [if_true] at hm
    subst hm
    have each : ∀ i, i < len → ∃ q : AttrP, V0 i = .string (bs q.1) ∧ V1 i = .string (bs q.2) ∧ q.1.length + q.2.length + 1 ≤ Rows.uptoBulk (.agg [D0 i, D1 i]) := fun i hi => by
      obtain ⟨_, _, h0, h1⟩ := hall i (by omega)
      obtain ⟨s, e0, e1, _⟩ := DataW.trod_string Tryd.underlying9 h0
      obtain ⟨s', e0', e1', _⟩ := DataW.trod_string Tryd.underlying9 h1
      simp only [Prod.mk.injEq] at e1 e1'
      refine ⟨(s.data.toList, s'.data.toList), (List.cons.inj e0).1, (List.cons.inj e0').1, ?_⟩
      rw [e1.1, e1'.1]
      simp only [Rows.uptoBulk, Rows.uptoBulkAll]
      omega
    obtain ⟨Q, hQ⟩ := choose_lt each
    have hlen : ((List.range len).map Q).length = len := by simp
    refine ⟨(List.range len).map Q, ⟨some a, m, by rw [hlen], by rw [hlen]; exact hl, by unfold maxLen at hm9; omega, fun j r hj => ?_, fun e => by cases e⟩, ?_⟩
    · have hjl : j < len := by rw [← hlen]; exact (List.getElem?_eq_some_iff.1 hj).1
      rw [List.getElem?_map, List.getElem?_range hjl] at hj
      obtain rfl := Option.some.inj hj
      obtain ⟨hc0, _, _, _⟩ := hall 0 (by omega)
      obtain ⟨k0, k1, _, _⟩ := hall j (by omega)
      obtain ⟨q0, q1, _⟩ := hQ j hjl
      obtain ⟨b, o, sp⟩ := a
      rw [Nat.zero_mul, add_zero'] at hc0
      obtain rfl := cell_spot hc0
      rw [add_none] at k0 k1
      exact ⟨b, o, rfl, by rw [k0, q0], by rw [Nat.add_assoc, k1, q1]⟩
    · have h1 := sum_bulk (D := fun i => .agg [D0 i, D1 i]) (f := fun i => (Q i).1.length + (Q i).2.length + 1) (List.range len) (fun i hi => (hQ i (by simpa using hi)).2.2)
      unfold bulkA
      rw [List.map_map]
      simp only [Rows.uptoBulk]
      exact Nat.le_trans h1 (by omega)
instance : Inhabited EvP := ⟨⟨0, [], [], []⟩⟩
set_option maxRecDepth 100000 in
/-- a slice of structs of a number, a name, attributes and a text -/
theorem recs_of {t e : TypeId} {f0 f1 f2 f3 : Field} (ht : Tryd.prog.underlying t = some (.slice e)) (he : Tryd.prog.underlying e = some (.struct #[f0, f1, f2, f3])) (ce : Tryd.prog.cellsOf e = 4) (o : f0.offset = 0 ∧ f1.offset = 1 ∧ f2.offset = 2 ∧ f3.offset = 3)
    (g : f0.type = 3 ∧ f1.type = 9 ∧ f2.type = 37 ∧ f3.type = 9)
    {held : Bool} {fuel : Nat} {v : Value} {x : DataW H × List MemPlace} (h : DataW.trod enc Tryd.prog W 0 (fun _ => true) held fuel t [v] = some x) : ∃ es, EvsR W v es ∧ bulkE es ≤ Rows.uptoBulk x.1 ∧ ∀ e ∈ es, -9223372036854775808 ≤ e.k ∧ e.k ≤ 9223372036854775807 := by
  rcases open_slice ht h with ⟨hcs, hx⟩ | ⟨a, len, cap, m, n, D, Pl, hcs, _, hl, hm9, hm, hx, hall⟩
  · obtain rfl := (List.cons.inj hcs).1
    exact ⟨[], EvsR.nil W, Nat.zero_le _, fun e h => by cases h⟩
  · obtain rfl := (List.cons.inj hcs).1
    subst hx
    simp only [if_true] at hm
    subst hm
    have ci : Tryd.prog.cellsOf 3 = 1 := by kernel_rfl
    have cs1 : Tryd.prog.cellsOf 9 = 1 := by kernel_rfl
    have ca : Tryd.prog.cellsOf 37 = 1 := by kernel_rfl
    obtain ⟨o0, o1, o2, o3⟩ := o
    obtain ⟨g0, g1, g2, g3⟩ := g
    have each : ∀ i, i < len → ∃ q : EvP × Value, W.cell? (a.add (i * 4)) = some (.int .i64 q.1.k) ∧ W.cell? (a.add (i * 4 + 1)) = some (.string (bs q.1.n)) ∧ W.cell? (a.add (i * 4 + 2)) = some q.2 ∧ W.cell? (a.add (i * 4 + 3)) = some (.string (bs q.1.t)) ∧ AttrsR W q.2 q.1.a ∧
        q.1.n.length + q.1.t.length + bulkA q.1.a + 1 ≤ Rows.uptoBulk (D i) ∧ (-9223372036854775808 ≤ q.1.k ∧ q.1.k ≤ 9223372036854775807) := by
      intro i hi
      obtain ⟨cs', h1, h2⟩ := hall i (by omega)
      rw [ce] at h1
      obtain ⟨_, hlen, hcell⟩ := World.cells?_some h1
      obtain ⟨xs, k, hk, hxy, _, hxl, hf⟩ := DataW.trod_struct he h2
      match xs, hxl, cs', hlen with
      | [y0, y1, y2, y3], _, [v0, v1, v2, v3], _ =>
        have q0 := hf 0 f0 rfl
        have q1 := hf 1 f1 rfl
        have q2 := hf 2 f2 rfl
        have q3 := hf 3 f3 rfl
        simp [o0, o1, o2, o3, g0, g1, g2, g3, ci, cs1, ca] at q0 q1 q2 q3
        have e0 := hcell 0 (by omega)
        have e1 := hcell 1 (by omega)
        have e2 := hcell 2 (by omega)
        have e3 := hcell 3 (by omega)
        rw [add_add] at e0 e1 e2 e3
        simp only [Prod.mk.injEq] at hxy
        obtain ⟨z, w0, w1, wf⟩ := DataW.trod_int Tryd.underlying3 q0
        obtain ⟨s, s0, s1, _⟩ := DataW.trod_string Tryd.underlying9 q1
        obtain ⟨al, al1, al2⟩ := attrs_of q2
        obtain ⟨t', t0, t1, _⟩ := DataW.trod_string Tryd.underlying9 q3
        obtain rfl := (List.cons.inj w0).1
        obtain rfl := (List.cons.inj s0).1
        obtain rfl := (List.cons.inj t0).1
        refine ⟨(⟨z, s.data.toList, al, t'.data.toList⟩, v2), by simpa using e0, by rw [bs_of]; simpa using e1, by simpa using e2, by rw [bs_of]; simpa using e3, al1, ?_, i64_wf wf⟩
        rw [hxy.1]
        simp only [List.map_cons, List.map_nil, Rows.uptoBulk, Rows.uptoBulkAll, w1, s1, t1]
        omega
    obtain ⟨Q, hQ⟩ := choose_lt each
    have hlen : ((List.range len).map fun i => (Q i).1).length = len := by simp
    refine ⟨(List.range len).map fun i => (Q i).1, ⟨some a, m, by rw [hlen], by rw [hlen]; exact hl, by unfold maxLen at hm9; omega, fun j r hj => ?_⟩, ?_, fun e he => ?_⟩
    · have hjl : j < len := by rw [← hlen]; exact (List.getElem?_eq_some_iff.1 hj).1
      rw [List.getElem?_map, List.getElem?_range hjl] at hj
      obtain rfl := Option.some.inj hj
      obtain ⟨q0, q1, q2, q3, q4, _⟩ := hQ j hjl
      obtain ⟨b, o, sp⟩ := a
      have hc0 := (hQ 0 (by omega)).1
      rw [Nat.zero_mul, add_zero'] at hc0
      obtain rfl := cell_spot hc0
      rw [add_none] at q0 q1 q2 q3
      exact ⟨b, o, (Q j).2, rfl, q0, by rw [Nat.add_assoc]; exact q1, by rw [Nat.add_assoc]; exact q2, by rw [Nat.add_assoc]; exact q3, q4⟩
    · have h1 := sum_bulk (D := D) (f := fun i => (Q i).1.n.length + (Q i).1.t.length + bulkA (Q i).1.a + 1) (List.range len) (fun i hi => (hQ i (by simpa using hi)).2.2.2.2.2.1)
      unfold bulkE
      rw [List.map_map]
      simp only [Rows.uptoBulk]
      exact Nat.le_trans h1 (by omega)
    · obtain ⟨i, hi, rfl⟩ := List.mem_map.1 he
      exact (hQ i (by simpa using hi)).2.2.2.2.2.2
theorem events_of {held : Bool} {fuel : Nat} {v : Value} {x : DataW H × List MemPlace} (h : DataW.trod enc Tryd.prog W 0 (fun _ => true) held fuel 22 [v] = some x) : ∃ es, EvsR W v es ∧ bulkE es ≤ Rows.uptoBulk x.1 ∧ ∀ e ∈ es, -9223372036854775808 ≤ e.k ∧ e.k ≤ 9223372036854775807 :=
  recs_of Tryd.underlying22 Tryd.underlying39 (by kernel_rfl) ⟨rfl, rfl, rfl, rfl⟩ ⟨rfl, rfl, rfl, rfl⟩ h
theorem nodes_of {held : Bool} {fuel : Nat} {v : Value} {x : DataW H × List MemPlace} (h : DataW.trod enc Tryd.prog W 0 (fun _ => true) held fuel 44 [v] = some x) : ∃ es, EvsR W v es ∧ bulkE es ≤ Rows.uptoBulk x.1 ∧ ∀ e ∈ es, -9223372036854775808 ≤ e.k ∧ e.k ≤ 9223372036854775807 :=
  recs_of Tryd.underlying44 Tryd.underlying84 (by kernel_rfl) ⟨rfl, rfl, rfl, rfl⟩ ⟨rfl, rfl, rfl, rfl⟩ h
end
end Go.Proofs.YtkcgmimldjeaiaaDoor
