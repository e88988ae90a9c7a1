/-
  Parts of the walk, joined: RpO, SerB.
-/
import Derived.Lib.OthersKept
import Derived.Test.YtcncbhbdpcpkeaaGreatDoorPJBF
import Derived.Test.YtcncbhbdpcpkeaaGreatDoorPJAJ
import Derived.Test.YtcncbhbdpcpkeaaGreatDoorPJBA
import Derived.Test.YtcncbhbdpcpkeaaGreatDoorPJAG
/-
  The reference's parser in memory.
-/
namespace Go.Proofs.YtcncbhbdpcpkeaaGreatDoor
open Go.RowKit Go.Lib Own

theorem words_frontN {W : World} {base : Nat} {p : Option Addr} {n c k : Nat} {op : List (List UInt8)} (h : W.ownsRow base 9 1 (.slice p n c) op.length (op.map fun x => .string (bs x))) (hk : k ≤ op.length) (hn : n = op.length) :
    W.ownsRow base 9 1 (.slice p k c) (op.take k).length ((op.take k).map fun x => .string (bs x)) := by
  subst hn
  have h1 := row_shorter h hk
  rw [Nat.mul_one, ← List.map_take] at h1
  rw [List.length_take, Nat.min_eq_left hk]
  exact h1
structure GrS (K : Nat → Array Value → Prop) (w0 W : World) (b : Nat) (op : List (List UInt8)) (prs : List (EvP × Value)) (eat : Bool) (ov nv : Value) : Prop where
  at_ : W.heap[b]? = some (.cells #[ov, nv, .bool eat] 110 (0, 0))
  row : W.ownsRow w0.heap.size 9 1 ov op.length (op.map fun x => .string (bs x))
  nodes : MadeN W w0.heap.size nv prs
  few : op.length ≤ 900000
  be : Below w0.heap.size w0 W
  lo : w0.heap.size ≤ b
  kp : ∀ E cs, K E cs → W.heap[E]? = some (.cells cs 112 (0, 0))
variable {K : Nat → Array Value → Prop} {w0 W W' : World} {b : Nat} {op : List (List UInt8)} {prs : List (EvP × Value)} {eat : Bool} {ov nv : Value}
theorem GrS.below (h : GrS K w0 W b op prs eat ov nv) (hb : Below W.heap.size W W') : GrS K w0 W' b op prs eat ov nv :=
  ⟨(hb.block b (block_lt h.at_)).trans h.at_, row_below h.row hb, h.nodes.below hb, h.few, h.be.trans (hb.mono h.be.size), h.lo, fun E cs hk => (hb.block E (block_lt (h.kp E cs hk))).trans (h.kp E cs hk)⟩
theorem GrS.base (h : GrS K w0 W b op prs eat ov nv) : w0.heap.size ≤ W.heap.size := h.be.size
/-- one node more -/
theorem GrS.node {w10 : World} {X : Obj} {x : EvP × Value} {nv' : Value} (h : GrS K w0 W b op prs eat ov nv) (hx : W.ownsRow w0.heap.size 122 2 x.2 x.1.a.length (attrsV x.1.a)) (hn : ∀ g, x.2.ownBlock = some g → ∀ (k : Nat) y, prs[k]? = some y → y.2.ownBlock ≠ some g)
    (hg : (W.alloc X).grownBy w10 nv.ownBlock) (hv : w10.ownsRow w0.heap.size 38 4 nv' (prs.length + 1) (ecells prs ++ [.int .i64 x.1.k, .string (bs x.1.n), x.2, .string (bs x.1.t)])) :
    GrS K w0 (w10.setCell ⟨b, 1, none⟩ nv') b op (prs ++ [x]) eat ov nv' := by
  have hbl := block_lt h.at_
  have hne := row_ne h.nodes.row h.at_ (by decide)
  have hb4 := (alloc_old W X b hbl).trans h.at_
  have hb10 := (hg.block b (by simp; omega) (fun e => hne e.symm)).trans hb4
  have hj := just_put (j := 1) hb10 nv' rfl
  have hm := MadeN.more h.nodes hx hn hg hv
  have hbase := h.be.size
  refine ⟨hj.at_, ?_, hm.keep (fun _ _ _ hr => row_just hr hb10 (by decide) hj.other) (fun _ _ _ hr => row_just hr hb10 (by decide) hj.other), h.few, ?_, h.lo, ?_⟩
  · exact row_just ((h.row.alloc X).kept hg (rows_ne3 (h.row.alloc X) (h.nodes.row.alloc X) (by decide))) hb10 (by decide) hj.other
  · exact ((h.be.alloc hbase X).grown hg (by simp; omega) (fun k hk => (h.nodes.row.lt k hk).1)).trans (just_low hj h.lo)
  · intro E cs hk
    have hE := h.kp E cs hk
    exact (hj.other E (fun e => ev_ne hE h.at_ (by decide) e)).trans (grown_at hg ((alloc_old W X E (block_lt hE)).trans hE) (row_ne (h.nodes.row.alloc X) ((alloc_old W X E (block_lt hE)).trans hE) (by decide)))
/-- one element more -/
theorem GrS.push {w10 : World} {X : Obj} {x : List UInt8} {ov' : Value} (h : GrS K w0 W b op prs eat ov nv) (hf : op.length + 1 ≤ 900000)
    (hg : (W.alloc X).grownBy w10 ov.ownBlock) (hv : w10.ownsRow w0.heap.size 9 1 ov' (op.length + 1) ((op.map fun x => Value.string (bs x)) ++ [.string (bs x)])) :
    GrS K w0 (w10.setCell ⟨b, 0, none⟩ ov') b (op ++ [x]) prs eat ov' nv := by
  have hbl := block_lt h.at_
  have hne := row_ne h.row h.at_ (by decide)
  have hb4 := (alloc_old W X b hbl).trans h.at_
  have hb10 := (hg.block b (by simp; omega) (fun e => hne e.symm)).trans hb4
  have hj := just_put (j := 0) hb10 ov' rfl
  have hbase := h.be.size
  refine ⟨hj.at_, ?_, ?_, by rw [List.length_append, List.length_singleton]; exact hf, ?_, h.lo, ?_⟩
  · rw [List.length_append, List.length_singleton, List.map_append]
    exact row_just hv hb10 (by decide) hj.other
  · have hm : MadeN w10 w0.heap.size nv prs := h.nodes.keep (fun _ _ _ hr => (hr.alloc X).kept hg (rows_ne3 (hr.alloc X) (h.row.alloc X) (by decide))) (fun _ _ _ hr => (hr.alloc X).kept hg (rows_ne3 (hr.alloc X) (h.row.alloc X) (by decide)))
    exact hm.keep (fun _ _ _ hr => row_just hr hb10 (by decide) hj.other) (fun _ _ _ hr => row_just hr hb10 (by decide) hj.other)
  · exact ((h.be.alloc hbase X).grown hg (by simp; omega) (fun k hk => (h.row.lt k hk).1)).trans (just_low hj h.lo)
  · intro E cs hk
    have hE := h.kp E cs hk
    exact (hj.other E (fun e => ev_ne hE h.at_ (by decide) e)).trans (grown_at hg ((alloc_old W X E (block_lt hE)).trans hE) (row_ne (h.row.alloc X) ((alloc_old W X E (block_lt hE)).trans hE) (by decide)))
/-- the innermost is shut -/
theorem GrS.shut {p : Option Addr} {n c : Nat} (h : GrS K w0 W b op prs eat (.slice p n c) nv) (hn : n = op.length) (h0 : 1 ≤ op.length) : GrS K w0 (W.setCell ⟨b, 0, none⟩ (.slice p (n - 1) c)) b op.dropLast prs eat (.slice p (n - 1) c) nv := by
  have hj := just_put (j := 0) h.at_ (.slice p (n - 1) c) rfl
  have hfr := words_frontN h.row (k := n - 1) (by omega) hn
  have hdl : op.dropLast = op.take (n - 1) := by rw [hn, List.dropLast_eq_take]
  rw [hdl]
  refine ⟨hj.at_, row_just hfr h.at_ (by decide) hj.other, h.nodes.keep (fun _ _ _ hr => row_just hr h.at_ (by decide) hj.other) (fun _ _ _ hr => row_just hr h.at_ (by decide) hj.other), by rw [List.length_take]; have := h.few; omega, h.be.trans (just_low hj h.lo), h.lo, fun E cs hk => (hj.other E (fun e => ev_ne (h.kp E cs hk) h.at_ (by decide) e)).trans (h.kp E cs hk)⟩
/-- a box more that stays -/
theorem GrS.more (h : GrS K w0 W b op prs eat ov nv) {E : Nat} {cs : Array Value} (hE : W.heap[E]? = some (.cells cs 112 (0, 0))) : GrS (fun k c => K k c ∨ (k = E ∧ c = cs)) w0 W b op prs eat ov nv :=
  ⟨h.at_, h.row, h.nodes, h.few, h.be, h.lo, fun k c hk => by
    rcases hk with hk | ⟨rfl, rfl⟩
    · exact h.kp k c hk
    · exact hE⟩
theorem GrS.less {K2 : Nat → Array Value → Prop} (h : GrS K w0 W b op prs eat ov nv) (hk : ∀ k c, K2 k c → K k c) : GrS K2 w0 W b op prs eat ov nv :=
  ⟨h.at_, h.row, h.nodes, h.few, h.be, h.lo, fun k c h2 => h.kp k c (hk k c h2)⟩
/-- the flag is set -/
theorem GrS.flag (h : GrS K w0 W b op prs eat ov nv) (e : Bool) : GrS K w0 (W.setCell ⟨b, 2, none⟩ (.bool e)) b op prs e ov nv := by
  have hj := just_put (j := 2) h.at_ (.bool e) rfl
  exact ⟨hj.at_, row_just h.row h.at_ (by decide) hj.other, h.nodes.keep (fun _ _ _ hr => row_just hr h.at_ (by decide) hj.other) (fun _ _ _ hr => row_just hr h.at_ (by decide) hj.other), h.few, h.be.trans (just_low hj h.lo), h.lo, fun E cs hk => (hj.other E (fun e => ev_ne (h.kp E cs hk) h.at_ (by decide) e)).trans (h.kp E cs hk)⟩
theorem GrS.words (h : GrS K w0 W b op prs eat ov nv) : Words W ov op := Words.row h.row
/-- what stands behind a step -/
structure GTake (K : Nat → Array Value → Prop) (w0 w' : World) (b : Nat) (s : PS) (tok : Ev) (e : Ending) : Prop where
  ans : e = .returned (.int .i64 (stepP s tok).1)
  st : (stepP s tok).1 = 0 → ∃ prs' ov' nv', GrS K w0 w' b (stepP s tok).2.op prs' (stepP s tok).2.eat ov' nv' ∧ prs'.map Prod.fst = (stepP s tok).2.ns
  be : Below w0.heap.size w0 w'
  kp : ∀ E cs, K E cs → w'.heap[E]? = some (.cells cs 112 (0, 0))
theorem GrS.no {K2 : Nat → Array Value → Prop} {s : PS} {tok : Ev} {v : Nat} (h : GrS K2 w0 W b op prs eat ov nv) (hk : ∀ k c, K k c → K2 k c) (hs : (stepP s tok).1 = v) (hv : v ≠ 0) : GTake K w0 W b s tok (.returned (.int .i64 v)) :=
  ⟨by rw [hs], fun e => absurd (hs.symm.trans e) hv, h.be, fun E cs hK => h.kp E cs (hk E cs hK)⟩
theorem GrS.yes {K2 : Nat → Array Value → Prop} {s s' : PS} {tok : Ev} (h : GrS K2 w0 W b op prs eat ov nv) (hk : ∀ k c, K k c → K2 k c) (hs : stepP s tok = (0, s')) (h1 : s'.op = op) (h2 : s'.ns = prs.map Prod.fst) (h3 : s'.eat = eat) : GTake K w0 W b s tok (.returned (.int .i64 0)) := by
  subst h1
  subst h3
  exact ⟨by rw [hs]; rfl, fun _ => ⟨prs, ov, nv, by rw [hs]; exact h.less hk, by rw [hs]; exact h2.symm⟩, h.be, fun E cs hK => h.kp E cs (hk E cs hK)⟩
end Go.Proofs.YtcncbhbdpcpkeaaGreatDoor

/-
  The tree's writer in memory; its take: its walk.
-/
namespace Go.Proofs.YtcncbhbdpcpkeaaGreatDoor
open Go.RowKit Go.Lib Own

/-- the cells of a treeWriter -/
def twC (eat : Bool) (p v ov : Value) : Array Value := #[.bool eat, p, v, ov]
theorem tw_lies0 : liesAt Tryz.prog Tryz.prog.depth 103 ((twC false (.pointer none) (.slice none 0 0) (.slice none 0 0)).size / Tryz.prog.cellsOf 103) 1 67 1 = true := by kernel_rfl
theorem tw_lies (eat : Bool) (p v ov : Value) : liesAt Tryz.prog Tryz.prog.depth 103 ((twC eat p v ov).size / Tryz.prog.cellsOf 103) 1 67 1 = true := by
  have h : (twC eat p v ov).size = (twC false (.pointer none) (.slice none 0 0) (.slice none 0 0)).size := rfl
  rw [h, tw_lies0]
theorem blk_ne {W : World} {E b : Nat} {cs cs2 : Array Value} {t t2 : TypeId} {f f2 : Nat × Nat} (h : W.heap[E]? = some (.cells cs t f)) (h2 : W.heap[b]? = some (.cells cs2 t2 f2)) (hne : t ≠ t2) : E ≠ b := by
  rintro rfl
  rw [h] at h2
  cases h2
  exact hne rfl
theorem rowF_apart {W : World} {B E : Nat} {e t : TypeId} {v : Value} {n : Nat} {xs : List Value} {cs : Array Value} {f : Nat × Nat} (h : W.ownsRowF B e 1 v n xs) (hE : W.heap[E]? = some (.cells cs t f)) (hne : t ≠ e) : v.ownBlock ≠ some E := by
  intro hg
  obtain ⟨c, fz, h2⟩ := ownsRowF_kind h E hg
  exact blk_ne hE h2 hne rfl
/-- a treeWriter at block b: what is written, and what is open; the boxes K stay -/
structure TwAt (K : Nat → Array Value → Prop) (w : World) (base b : Nat) (eat : Bool) (acc : List UInt8) (op : List (List UInt8)) (ov : Value) : Prop where
  it : ∃ p v, InB w base b 1 (twC eat p v ov) 103 p v acc
  row : w.ownsRow base 9 1 ov op.length (op.map fun x => .string (bs x))
  kp : ∀ E cs, K E cs → w.heap[E]? = some (.cells cs 38 (0, 0))
theorem TwAt.below {K : Nat → Array Value → Prop} {w w' : World} {base b : Nat} {eat : Bool} {acc : List UInt8} {op : List (List UInt8)} {ov : Value} (h : TwAt K w base b eat acc op ov) (hb : Below w.heap.size w w') : TwAt K w' base b eat acc op ov := by
  obtain ⟨p, v, hI⟩ := h.it
  exact ⟨⟨p, v, ⟨(hb.block _ (block_lt hI.at_)).trans hI.at_, hI.lo, hI.cp, hI.cv, hI.hp, hI.own.kept (row := none) ⟨hb.os, hb.tape, hb.output, hb.size, fun k hk _ => hb.block k hk⟩ (by cases v.ownBlock <;> simp), hI.ne⟩⟩, row_below h.row hb, fun E cs hk => (hb.block E (block_lt (h.kp E cs hk))).trans (h.kp E cs hk)⟩
set_option maxHeartbeats 4000000 in
set_option maxRecDepth 100000 in
theorem twTake_any (K : Nat → Array Value → Prop) (base b : Nat) (eat : Bool) (acc : List UInt8) (op : List (List UInt8)) (ov : Value) (e : EvP) (u : Value) (m : Int) (w0 w : World) (h : TwAt K w base b eat acc op ov) (hu0 : AttrsR w0 u e.a) (hb0 : Below w0.heap.size w0 w) (hlo : w0.heap.size ≤ base) (hs : e.n.length + e.t.length + bulkA e.a ≤ 100000000)
    (hm0 : w0.cell? ⟨4, 0, none⟩ = some (.int .i64 m)) (hal : acc.length ≤ 100000000000) :
    Calls Tryz.prog 32 #[.pointer (some ⟨b, 0, none⟩), .agg (evC e u)] w fun r w' => r = .returned (.tuple #[]) ∧ TwAt K w' base b (takeW eat e).1 (acc ++ (takeW eat e).2) op ov ∧ Below w0.heap.size w0 w' := by
  obtain ⟨p, v, hI⟩ := h.it
  have hrow := h.row
  have hkp := h.kp
  have hkb : ∀ E cs, K E cs → E ≠ b := fun E cs hk => blk_ne (hkp E cs hk) hI.at_ (by decide)
  have hkv : ∀ E cs, K E cs → v.ownBlock ≠ some E := fun E cs hk => rowF_apart hI.own (hkp E cs hk) (by decide)
  have hneo := row_ne hrow hI.at_ (by decide)
  have hnev : v.ownBlock = none ∨ v.ownBlock ≠ ov.ownBlock := rowF_ne hI.own hrow (by decide)
  have hlo2 : w0.heap.size ≤ b := Nat.le_trans hlo hI.lo
  have hbs := block_lt hI.at_
  have hB := (Below.refl w.heap.size w).alloc (Nat.le_refl _) (.cells (evC e u) 60)
  have hn := heap_alloc_new w (.cells (evC e u) 60)
  obtain ⟨W1, hW1⟩ : ∃ W1, w.alloc (.cells (evC e u) 60) = W1 := ⟨_, rfl⟩
  rw [hW1] at hB hn
  have hI1 : EatAt W1 b 0 (twC eat p v ov) 103 eat := ⟨(hB.block b hbs).trans hI.at_, rfl⟩
  have hI2 : EatAt W1.drew b 0 (twC eat p v ov) 103 eat := ⟨hI1.at_, hI1.c⟩
  have hbw := hb0.trans (hB.mono hb0.size)
  have htk := wTake_any b 0 (twC eat p v ov) 103 eat e u m w0 W1.drew hI2 hu0 hbw.drew hlo2 hs hm0
  have hlen := takeW_len eat e
  generalize takeW eat e = tw at htk hlen ⊢
  obtain ⟨t1, t2⟩ := tw
  simp only at htk hlen ⊢
  have hrow1 : W1.ownsRow base 9 1 ov op.length (op.map fun x => .string (bs x)) := row_below hrow hB
  have hown1 : W1.ownsRowF base 5 1 v acc.length (byteCells acc) := hI.own.kept (row := none) ⟨hB.os, hB.tape, hB.output, hB.size, fun k hk _ => hB.block k hk⟩ (by cases v.ownBlock <;> simp)
  have hwr : ∀ W, W.heap[b]? = some (.cells ((twC eat p v ov).setIfInBounds 0 (.bool t1)) 103 (0, 0)) → W1.drew.grownBy W (some b) → InB W base b 1 (twC t1 p v ov) 103 p v acc ∧ W.ownsRow base 9 1 ov op.length (op.map fun x => .string (bs x)) ∧ ∀ E cs, K E cs → W.heap[E]? = some (.cells cs 38 (0, 0)) := fun W ha hg =>
    ⟨⟨ha, hI.lo, rfl, rfl, hI.hp, (show W1.drew.ownsRowF base 5 1 v acc.length (byteCells acc) from hown1).kept hg (.inr hI.ne), hI.ne⟩, (show W1.drew.ownsRow base 9 1 ov op.length (op.map fun x => .string (bs x)) from hrow1).kept hg (.inr hneo), fun E cs hk => (hg.block E (by have := block_lt (hkp E cs hk); have := hB.size; exact Nat.lt_of_lt_of_le (by assumption) (by assumption)) (fun e => hkb E cs hk (Option.some.inj e))).trans ((hB.block E (block_lt (hkp E cs hk))).trans (hkp E cs hk))⟩
  have hws := fun W h1 => write_in base b 1 (twC t1 p v ov) 103 p v acc (bs t2) W h1 (tw_lies t1 p v ov) (by decide) (by rw [bs_size]; omega)
  rw [bs_data] at hws
  obtain ⟨c0, c1, c2, c3⟩ := evC_at (show W1.drew.heap[w.heap.size]? = _ from hn)
  have HTK := hid htk
  have HWR := hid hwr
  have HWS := hid hws
  have HBW := hid hbw
  have hlb := hI.lo
  have fin : ∀ W W', W1.drew.grownBy W (some b) → Below base W W' → Below w0.heap.size w0 W' := fun W W' hg hb => by
    have h1 : Below w0.heap.size w0 W := Below.grown hbw.drew hg hbw.size (fun k hk => by cases hk; exact hlo2)
    exact h1.trans (hb.mono hlo)
  have FIN := hid fin
  have rfin : ∀ W W' : World, W.ownsRow base 9 1 ov op.length (op.map fun x => .string (bs x)) → (∀ k, k < W.heap.size → k ≠ b → v.ownBlock ≠ some k → W'.heap[k]? = W.heap[k]?) → W'.ownsRow base 9 1 ov op.length (op.map fun x => .string (bs x)) := fun W W' hr hk =>
    row_of_block hr (fun g hg => hk g (hr.lt g hg).2 (fun e => hneo (by rw [hg, e])) (fun e => hnev.elim (fun h0 => by rw [h0] at e; cases e) (fun h0 => h0 (by rw [e, hg]))))
  have RFIN := hid rfin
  have kfin : ∀ W W' : World, (∀ E cs, K E cs → W.heap[E]? = some (.cells cs 38 (0, 0))) → (∀ k, k < W.heap.size → k ≠ b → v.ownBlock ≠ some k → W'.heap[k]? = W.heap[k]?) → ∀ E cs, K E cs → W'.heap[E]? = some (.cells cs 38 (0, 0)) := fun W W' h1 h2 E cs hk => (h2 E (block_lt (h1 E cs hk)) (hkb E cs hk) (hkv E cs hk)).trans (h1 E cs hk)
  have KFIN := hid kfin
  obtain ⟨up, uc, rfl⟩ := hu0.len
  unfold evC at hW1 ⊢
  unfold evC at HTK
  clear htk hwr hws hbw fin rfin kfin hkp hkb hkv hn hI hI1 hI2 hB hown1 hrow1 hu0 h hlen hrow hneo hnev
  go_enter Tryz.func32, Tryz.ntmps32
  go_wp2_with fail
  go_region_with (first | (go_at_call 70; refine HTK.out.mono ?_; rintro r W2 ⟨rfl, a2, g2⟩; have H2 := hid (HWR.out W2 a2 g2); have HG2 := hid g2; clear a2 g2) | (go_at_call 69; refine (HWS.out _ H2.out.1).mono ?_; rintro r W3 ⟨rfl, v', i3, b3, k3⟩))
  all_goals (go_end0; exact ⟨rfl, ⟨⟨_, v', i3⟩, RFIN.out _ _ H2.out.2.1 k3, KFIN.out _ _ H2.out.2.2 k3⟩, FIN.out _ _ HG2.out b3⟩)
end Go.Proofs.YtcncbhbdpcpkeaaGreatDoor
