/-
  Parts of the walk, joined: ParR, SerA, SerB, BalA, TabsN.
-/
import Derived.Lib.OthersKept
import Derived.BigQuiet
import Derived.Test.YtcncbhbdpcpkeaaGreatDoorPJBE
import Derived.Test.YtcncbhbdpcpkeaaGreatDoorPJAR
import Derived.Test.YtcncbhbdpcpkeaaGreatDoorPJBA
import Derived.Test.YtcncbhbdpcpkeaaGreatDoorPJAV
import Derived.Test.YtcncbhbdpcpkeaaGreatDoorPJBC
import Derived.Test.YtcncbhbdpcpkeaaGreatDoorPJAD
import Derived.Test.YtcncbhbdpcpkeaaGreatDoorPJAT
import Derived.Test.YtcncbhbdpcpkeaaGreatDoorPJAG
import Derived.Test.YtcncbhbdpcpkeaaGreatDoorPJAB
import Derived.Test.YtcncbhbdpcpkeaaGreatDoorPJAK
/-
  What Parse accepts is read again from its own writing. Plain.
-/
namespace Go.Proofs.YtcncbhbdpcpkeaaGreatDoor
open Go.RowKit Go.Lib Own

/-- an event of a plain list as one that is written -/
def toP (e : Ev) : EvP := ⟨(evK e : Nat), evN e, evA e, evT e⟩
def wEv (eat : Bool) (l : List Ev) : List UInt8 := writeW eat (l.map toP)
theorem wEv_nil (eat : Bool) : wEv eat [] = [] := rfl
theorem wEv_stop (eat : Bool) (n : List UInt8) (r : List Ev) : wEv eat (.stop n :: r) = etagL n ++ wEv false r := rfl

/-- the events of a tree -/
def treeE : List (List UInt8) → List EvP → List Ev
  | op, [] => closeE 0 op
  | op, n :: r => closeE n.k.toNat op ++ (if n.n = [] then .text n.t else .start n.n n.a) :: treeE (if n.n = [] ∨ modX n.n = 9 then op.take n.k.toNat else op.take n.k.toNat ++ [n.n]) r
/-- may this list of nodes stand behind these open elements? -/
def shapeB (deep : Int) : List EvP → Bool
  | [] => true
  | n :: r => if n.k < 0 ∨ deep < n.k then false else if n.n = [] ∧ n.a ≠ [] then false else if n.n ≠ [] ∧ n.t ≠ [] then false else shapeB (if n.n = [] ∨ modX n.n = 9 then n.k else n.k + 1) r
theorem closeE_snoc0 {op : List (List UInt8)} {x : List UInt8} (h : op.getLast? = some x) {k : Nat} (hk : k ≤ op.length - 1) : closeE k op = .stop x :: closeE k op.dropLast ∧ op.take k = op.dropLast.take k := by
  have hne : op ≠ [] := by rintro rfl; cases h
  have hx : op.getLast hne = x := by
    rw [List.getLast?_eq_some_getLast hne] at h
    exact Option.some.inj h
  have hop := List.dropLast_concat_getLast hne
  rw [hx] at hop
  have hl : op.dropLast.length = op.length - 1 := List.length_dropLast
  have h1 : closeE k (op.dropLast ++ [x]) = .stop x :: closeE k op.dropLast := by
    unfold closeE
    rw [List.drop_append_of_le_length (by omega), List.reverse_append]
    rfl
  have h2 : (op.dropLast ++ [x]).take k = op.dropLast.take k := List.take_append_of_le_length (by omega)
  rw [hop] at h1 h2
  exact ⟨h1, h2⟩
/-- a tree as it is written -/
def serL (N : List EvP) : List UInt8 := wEv false (treeE [] N)
end Go.Proofs.YtcncbhbdpcpkeaaGreatDoor

/-
  tree.IsShaped: its walk.
-/
namespace Go.Proofs.YtcncbhbdpcpkeaaGreatDoor
open Go.RowKit Go.Lib Own

theorem shape_cons (d : Int) (n : EvP) (r : List EvP) : shapeB d (n :: r) = if n.k < 0 ∨ d < n.k then false else if n.n = [] ∧ n.a ≠ [] then false else if n.n ≠ [] ∧ n.t ≠ [] then false else shapeB (if n.n = [] ∨ modX n.n = 9 then n.k else n.k + 1) r := rfl
theorem shape_drop {ns : List EvP} {k : Nat} {n : EvP} {d : Int} {R : Bool} (h : shapeB d (ns.drop k) = R) (he : ns[k]? = some n) : (if n.k < 0 ∨ d < n.k then false else if n.n = [] ∧ n.a ≠ [] then false else if n.n ≠ [] ∧ n.t ≠ [] then false else shapeB (if n.n = [] ∨ voidL n.n = true then n.k else n.k + 1) (ns.drop (k + 1))) = R := by
  rw [drop_at he, shape_cons] at h
  rw [← h]
  simp only [void_mod, beq_iff_eq]
set_option maxHeartbeats 4000000 in
set_option maxRecDepth 100000 in
theorem shaped_any (v : Value) (ns : List EvP) (w : World) (h : EvsR w v ns) (hK : KindsTab w) :
    Calls Tryz.prog 52 #[v] w fun e w' => e = .returned (.bool (shapeB 0 ns)) ∧ Below w.heap.size w w' := by
  obtain ⟨p, c, rfl, hlc, hcm, hcell⟩ := h
  obtain ⟨R, hR⟩ : ∃ R, shapeB 0 ns = R := ⟨_, rfl⟩
  rw [hR]
  have HR := hid hR
  have HC := hid hcell
  have HK := hid hK
  clear hR hcell hK
  go_enter Tryz.func52, Tryz.ntmps52
  go_wp2_with fail
  go_loopw [3, 9] (fun dv iv wr => ∃ (k : Nat) (d : Int), dv = .int .i64 d ∧ iv = .int .i64 k ∧ k ≤ ns.length ∧ d ≤ (k : Int) ∧ Hid (shapeB d (ns.drop k) = R) ∧ Hid (Below w.heap.size w wr)) (fun _ iv _ => ns.length - (RowKit.intOf iv).toNat)
  case atStart => exact ⟨0, 0, rfl, rfl, Nat.zero_le _, Int.le_refl _, HR, hid (Below.refl _ _)⟩
  case round =>
    clear HR
    obtain ⟨k, d, rfl, rfl, hk, hd, HD, HB⟩ := hrel
    by_cases hkl : k < ns.length
    · obtain ⟨n, hn⟩ : ∃ n, ns[k]? = some n := ⟨_, List.getElem?_eq_getElem hkl⟩
      obtain ⟨b, o, u, rfl, q0, q1, q2, q3, q4⟩ := HC.out k n hn
      obtain ⟨up, uc, rfl⟩ := q4.len
      have hbb := HB.out
      have hlo := cell_block q0
      replace q0 := cell_low q0 hbb hlo
      replace q1 := cell_low q1 hbb hlo
      replace q2 := cell_low q2 hbb hlo
      replace q3 := cell_low q3 hbb hlo
      have hst := shape_drop HD.out hn
      have hv := fun W (hW : KindsTab W) => isVoid_any (bs n.n) W hW
      rw [bs_toList] at hv
      have e1 : ((bs n.n).toList == []) = decide (n.n = []) := by rw [bs_toList, Bool.eq_iff_iff, beq_iff_eq, decide_eq_true_iff]
      have e3 : ((bs n.t).toList == []) = decide (n.t = []) := by rw [bs_toList, Bool.eq_iff_iff, beq_iff_eq, decide_eq_true_iff]
      obtain ⟨Kd, hKd⟩ : ∃ K, n.k = K := ⟨_, rfl⟩
      obtain ⟨BN, hBN⟩ : ∃ K, bs n.n = K := ⟨_, rfl⟩
      obtain ⟨BT, hBT⟩ : ∃ K, bs n.t = K := ⟨_, rfl⟩
      obtain ⟨AL, hAL⟩ : ∃ K, n.a.length = K := ⟨_, rfl⟩
      rw [hKd] at q0 hst
      rw [hBN] at q1 e1 hv
      rw [hBT] at q3 e3
      rw [hAL] at q2
      have ha : n.a ≠ [] ↔ 0 < AL := by rw [← hAL]; exact List.length_pos_iff.symm
      generalize voidL n.n = VB at hv hst
      have HV := hid hv
      have hb1 : Below w.heap.size w (wr.alloc (.cells #[.int .i64 Kd, .string BN, .slice up AL uc, .string BT] 38)) := HB.out.alloc HB.out.size _
      have HB1 := hid hb1
      have hkb := HK.out.below hb1
      have HKB := hid hkb
      clear hbb hv hkb hb1 hn hKd hBN hBT hAL q4 HD HC HK HB
      by_cases c1 : Kd < 0
      · rw [if_pos (.inl c1)] at hst
        subst hst
        have d1 : decide (Kd < 0) = true := decide_eq_true c1
        clear c1 HV HKB ha
        go_wp2_with fail
        go_ret
        exact ⟨rfl, HB1.out⟩
      · have d1 : decide (Kd < 0) = false := decide_eq_false c1
        by_cases c2 : d < Kd
        · rw [if_pos (.inr c2)] at hst
          subst hst
          have d2 : decide (d < Kd) = true := decide_eq_true c2
          clear c1 c2 HV HKB ha
          go_wp2_with fail
          go_ret
          exact ⟨rfl, HB1.out⟩
        · have d2 : decide (d < Kd) = false := decide_eq_false c2
          rw [if_neg (fun h => h.elim c1 c2)] at hst
          by_cases c3 : n.n = []
          · rw [decide_eq_true c3] at e1
            by_cases c4 : 0 < AL
            · rw [if_pos ⟨c3, ha.2 c4⟩] at hst
              subst hst
              have d3 : decide (0 < AL) = true := decide_eq_true c4
              have d4 : decide ((0 : Int) < (AL : Int)) = true := decide_eq_true (by omega)
              have d5 : decide ((AL : Int) > 0) = true := decide_eq_true (by omega)
              clear c1 c2 c3 c4 HV HKB ha
              go_wp2_with fail
              go_ret
              exact ⟨rfl, HB1.out⟩
            · rw [if_neg (fun h => c4 (ha.1 h.2)), if_neg (fun h => h.1 c3), if_pos (.inl c3)] at hst
              have HN := hid hst
              have d3 : decide (0 < AL) = false := decide_eq_false c4
              have d4 : decide ((0 : Int) < (AL : Int)) = false := decide_eq_false (by omega)
              have d5 : decide ((AL : Int) > 0) = false := decide_eq_false (by omega)
              clear hst c3 c4 HV HKB ha
              go_wp2_with fail
              go_roundw
              case rel => exact ⟨k + 1, Kd, rfl, rfl, by omega, by omega, HN, HB1⟩
              case measure => simp [RowKit.intOf]; omega
          · rw [decide_eq_false c3] at e1
            rw [if_neg (fun h => c3 h.1)] at hst
            by_cases c5 : n.t = []
            · rw [decide_eq_true c5] at e3
              have e4 : (BT.toList != []) = false := by rw [bne, e3]; rfl
              rw [if_neg (fun h => h.2 c5)] at hst
              have HN := hid (fun (_ : True) => hst)
              have HC3 := hid (fun (_ : True) => c3)
              clear hst c3 c5 ha
              go_wp2_with fail
              refine (HV.out _ HKB.out).mono ?_
              rintro e W2 ⟨rfl, hb2⟩
              have HB2 := hid (HB1.out.trans (hb2.mono HB1.out.size))
              clear hb2 HB1 HV HKB
              have hn := HN.out trivial
              cases VB with
              | true =>
                rw [if_pos (.inr rfl)] at hn
                have HN2 := hid hn
                clear hn HN
                go_wp2_with fail
                go_roundw
                case rel => exact ⟨k + 1, Kd, rfl, rfl, by omega, by omega, HN2, HB2⟩
                case measure => simp [RowKit.intOf]; omega
              | false =>
                rw [if_neg (fun h => h.elim (HC3.out trivial) (fun h => by cases h))] at hn
                have HN2 := hid hn
                have hw : IntKind.i64.wrap (Kd + 1) = Kd + 1 := by rw [IntKind.wrap_i64]; omega
                clear hn HN
                go_wp2_with fail
                go_roundw
                case rel => exact ⟨k + 1, Kd + 1, rfl, rfl, by omega, by omega, HN2, HB2⟩
                case measure => simp [RowKit.intOf]; omega
            · rw [decide_eq_false c5] at e3
              have e4 : (BT.toList != []) = true := by rw [bne, e3]; rfl
              rw [if_pos ⟨c3, c5⟩] at hst
              subst hst
              clear c1 c2 c3 c5 HV HKB ha
              go_wp2_with fail
              go_ret
              exact ⟨rfl, HB1.out⟩
    · have hr : R = true := by
        have := HD.out
        rw [List.drop_of_length_le (by omega)] at this
        exact this.symm
      subst hr
      have z1 : decide ((k : Int) < (ns.length : Int)) = false := decide_eq_false (by omega)
      have z2 : decide (k < ns.length) = false := decide_eq_false hkl
      have HZ := HB
      clear HD HB HC HK
      go_wp2_with fail
      go_ret
      exact ⟨rfl, HZ.out⟩
end Go.Proofs.YtcncbhbdpcpkeaaGreatDoor

/-
  The tree's writer in memory; its take: its walk.
-/
namespace Go.Proofs.YtcncbhbdpcpkeaaGreatDoor
open Go.RowKit Go.Lib Own

/-- the cells of a treeWriter -/
def twC (eat : Bool) (p v ov : Value) : Array Value := #[.bool eat, p, v, ov]
theorem tw_lies0 : liesAt Tryz.prog Tryz.prog.depth 103 ((twC false (.pointer none) (.slice none 0 0) (.slice none 0 0)).size / Tryz.prog.cellsOf 103) 1 67 1 = true := by kernel_rfl
theorem tw_lies (eat : Bool) (p v ov : Value) : liesAt Tryz.prog Tryz.prog.depth 103 ((twC eat p v ov).size / Tryz.prog.cellsOf 103) 1 67 1 = true := by
  have h : (twC eat p v ov).size = (twC false (.pointer none) (.slice none 0 0) (.slice none 0 0)).size := rfl
  rw [h, tw_lies0]
theorem blk_ne {W : World} {E b : Nat} {cs cs2 : Array Value} {t t2 : TypeId} {f f2 : Nat × Nat} (h : W.heap[E]? = some (.cells cs t f)) (h2 : W.heap[b]? = some (.cells cs2 t2 f2)) (hne : t ≠ t2) : E ≠ b := by
  rintro rfl
  rw [h] at h2
  cases h2
  exact hne rfl
theorem rowF_apart {W : World} {B E : Nat} {e t : TypeId} {v : Value} {n : Nat} {xs : List Value} {cs : Array Value} {f : Nat × Nat} (h : W.ownsRowF B e 1 v n xs) (hE : W.heap[E]? = some (.cells cs t f)) (hne : t ≠ e) : v.ownBlock ≠ some E := by
  intro hg
  obtain ⟨c, fz, h2⟩ := ownsRowF_kind h E hg
  exact blk_ne hE h2 hne rfl
/-- a treeWriter at block b: what is written, and what is open; the boxes K stay -/
structure TwAt (K : Nat → Array Value → Prop) (w : World) (base b : Nat) (eat : Bool) (acc : List UInt8) (op : List (List UInt8)) (ov : Value) : Prop where
  it : ∃ p v, InB w base b 1 (twC eat p v ov) 103 p v acc
  row : w.ownsRow base 9 1 ov op.length (op.map fun x => .string (bs x))
  kp : ∀ E cs, K E cs → w.heap[E]? = some (.cells cs 38 (0, 0))
theorem TwAt.below {K : Nat → Array Value → Prop} {w w' : World} {base b : Nat} {eat : Bool} {acc : List UInt8} {op : List (List UInt8)} {ov : Value} (h : TwAt K w base b eat acc op ov) (hb : Below w.heap.size w w') : TwAt K w' base b eat acc op ov := by
  obtain ⟨p, v, hI⟩ := h.it
  exact ⟨⟨p, v, ⟨(hb.block _ (block_lt hI.at_)).trans hI.at_, hI.lo, hI.cp, hI.cv, hI.hp, hI.own.kept (row := none) ⟨hb.os, hb.tape, hb.output, hb.size, fun k hk _ => hb.block k hk⟩ (by cases v.ownBlock <;> simp), hI.ne⟩⟩, row_below h.row hb, fun E cs hk => (hb.block E (block_lt (h.kp E cs hk))).trans (h.kp E cs hk)⟩
set_option maxHeartbeats 4000000 in
set_option maxRecDepth 100000 in
theorem twTake_any (K : Nat → Array Value → Prop) (base b : Nat) (eat : Bool) (acc : List UInt8) (op : List (List UInt8)) (ov : Value) (e : EvP) (u : Value) (m : Int) (w0 w : World) (h : TwAt K w base b eat acc op ov) (hu0 : AttrsR w0 u e.a) (hb0 : Below w0.heap.size w0 w) (hlo : w0.heap.size ≤ base) (hs : e.n.length + e.t.length + bulkA e.a ≤ 100000000)
    (hm0 : w0.cell? ⟨4, 0, none⟩ = some (.int .i64 m)) (hal : acc.length ≤ 100000000000) :
    Calls Tryz.prog 32 #[.pointer (some ⟨b, 0, none⟩), .agg (evC e u)] w fun r w' => r = .returned (.tuple #[]) ∧ TwAt K w' base b (takeW eat e).1 (acc ++ (takeW eat e).2) op ov ∧ Below w0.heap.size w0 w' := by
  obtain ⟨p, v, hI⟩ := h.it
  have hrow := h.row
  have hkp := h.kp
  have hkb : ∀ E cs, K E cs → E ≠ b := fun E cs hk => blk_ne (hkp E cs hk) hI.at_ (by decide)
  have hkv : ∀ E cs, K E cs → v.ownBlock ≠ some E := fun E cs hk => rowF_apart hI.own (hkp E cs hk) (by decide)
  have hneo := row_ne hrow hI.at_ (by decide)
  have hnev : v.ownBlock = none ∨ v.ownBlock ≠ ov.ownBlock := rowF_ne hI.own hrow (by decide)
  have hlo2 : w0.heap.size ≤ b := Nat.le_trans hlo hI.lo
  have hbs := block_lt hI.at_
  have hB := (Below.refl w.heap.size w).alloc (Nat.le_refl _) (.cells (evC e u) 60)
  have hn := heap_alloc_new w (.cells (evC e u) 60)
  obtain ⟨W1, hW1⟩ : ∃ W1, w.alloc (.cells (evC e u) 60) = W1 := ⟨_, rfl⟩
  rw [hW1] at hB hn
  have hI1 : EatAt W1 b 0 (twC eat p v ov) 103 eat := ⟨(hB.block b hbs).trans hI.at_, rfl⟩
  have hI2 : EatAt W1.drew b 0 (twC eat p v ov) 103 eat := ⟨hI1.at_, hI1.c⟩
  have hbw := hb0.trans (hB.mono hb0.size)
  have htk := wTake_any b 0 (twC eat p v ov) 103 eat e u m w0 W1.drew hI2 hu0 hbw.drew hlo2 hs hm0
  have hlen := takeW_len eat e
  generalize takeW eat e = tw at htk hlen ⊢
  obtain ⟨t1, t2⟩ := tw
  simp only at htk hlen ⊢
  have hrow1 : W1.ownsRow base 9 1 ov op.length (op.map fun x => .string (bs x)) := row_below hrow hB
  have hown1 : W1.ownsRowF base 5 1 v acc.length (byteCells acc) := hI.own.kept (row := none) ⟨hB.os, hB.tape, hB.output, hB.size, fun k hk _ => hB.block k hk⟩ (by cases v.ownBlock <;> simp)
  have hwr : ∀ W, W.heap[b]? = some (.cells ((twC eat p v ov).setIfInBounds 0 (.bool t1)) 103 (0, 0)) → W1.drew.grownBy W (some b) → InB W base b 1 (twC t1 p v ov) 103 p v acc ∧ W.ownsRow base 9 1 ov op.length (op.map fun x => .string (bs x)) ∧ ∀ E cs, K E cs → W.heap[E]? = some (.cells cs 38 (0, 0)) := fun W ha hg =>
    ⟨⟨ha, hI.lo, rfl, rfl, hI.hp, (show W1.drew.ownsRowF base 5 1 v acc.length (byteCells acc) from hown1).kept hg (.inr hI.ne), hI.ne⟩, (show W1.drew.ownsRow base 9 1 ov op.length (op.map fun x => .string (bs x)) from hrow1).kept hg (.inr hneo), fun E cs hk => (hg.block E (by have := block_lt (hkp E cs hk); have := hB.size; exact Nat.lt_of_lt_of_le (by assumption) (by assumption)) (fun e => hkb E cs hk (Option.some.inj e))).trans ((hB.block E (block_lt (hkp E cs hk))).trans (hkp E cs hk))⟩
  have hws := fun W h1 => write_in base b 1 (twC t1 p v ov) 103 p v acc (bs t2) W h1 (tw_lies t1 p v ov) (by decide) (by rw [bs_size]; omega)
  rw [bs_data] at hws
  obtain ⟨c0, c1, c2, c3⟩ := evC_at (show W1.drew.heap[w.heap.size]? = _ from hn)
  have HTK := hid htk
  have HWR := hid hwr
  have HWS := hid hws
  have HBW := hid hbw
  have hlb := hI.lo
  have fin : ∀ W W', W1.drew.grownBy W (some b) → Below base W W' → Below w0.heap.size w0 W' := fun W W' hg hb => by
    have h1 : Below w0.heap.size w0 W := Below.grown hbw.drew hg hbw.size (fun k hk => by cases hk; exact hlo2)
    exact h1.trans (hb.mono hlo)
  have FIN := hid fin
  have rfin : ∀ W W' : World, W.ownsRow base 9 1 ov op.length (op.map fun x => .string (bs x)) → (∀ k, k < W.heap.size → k ≠ b → v.ownBlock ≠ some k → W'.heap[k]? = W.heap[k]?) → W'.ownsRow base 9 1 ov op.length (op.map fun x => .string (bs x)) := fun W W' hr hk =>
    row_of_block hr (fun g hg => hk g (hr.lt g hg).2 (fun e => hneo (by rw [hg, e])) (fun e => hnev.elim (fun h0 => by rw [h0] at e; cases e) (fun h0 => h0 (by rw [e, hg]))))
  have RFIN := hid rfin
  have kfin : ∀ W W' : World, (∀ E cs, K E cs → W.heap[E]? = some (.cells cs 38 (0, 0))) → (∀ k, k < W.heap.size → k ≠ b → v.ownBlock ≠ some k → W'.heap[k]? = W.heap[k]?) → ∀ E cs, K E cs → W'.heap[E]? = some (.cells cs 38 (0, 0)) := fun W W' h1 h2 E cs hk => (h2 E (block_lt (h1 E cs hk)) (hkb E cs hk) (hkv E cs hk)).trans (h1 E cs hk)
  have KFIN := hid kfin
  obtain ⟨up, uc, rfl⟩ := hu0.len
  unfold evC at hW1 ⊢
  unfold evC at HTK
  clear htk hwr hws hbw fin rfin kfin hkp hkb hkv hn hI hI1 hI2 hB hown1 hrow1 hu0 h hlen hrow hneo hnev
  go_enter Tryz.func32, Tryz.ntmps32
  go_wp2_with fail
  go_region_with (first | (go_at_call 70; refine HTK.out.mono ?_; rintro r W2 ⟨rfl, a2, g2⟩; have H2 := hid (HWR.out W2 a2 g2); have HG2 := hid g2; clear a2 g2) | (go_at_call 69; refine (HWS.out _ H2.out.1).mono ?_; rintro r W3 ⟨rfl, v', i3, b3, k3⟩))
  all_goals (go_end0; exact ⟨rfl, ⟨⟨_, v', i3⟩, RFIN.out _ _ H2.out.2.1 k3, KFIN.out _ _ H2.out.2.2 k3⟩, FIN.out _ _ HG2.out b3⟩)
end Go.Proofs.YtcncbhbdpcpkeaaGreatDoor

/-
  The balancer's small functions: the nesting table, models, implied elements, walls, whitespace taken off: their walks.
-/
namespace Go.Proofs.YtcncbhbdpcpkeaaGreatDoor
open Go.RowKit Go.Lib Own

/-- the nesting table lies where its variable does -/
def NestTab (w : World) : Prop := w.rangeAt 1 0 ((nestT.flatMap id).map fun n : Nat => Value.int .i64 (n : Int))
theorem NestTab.below {w w' : World} (h : NestTab w) (hb : Below w.heap.size w w') : NestTab w' := rangeAt_below h hb
theorem nest_flat : ∀ i < 8, ∀ j < 7, (nestT.flatMap id)[i * 7 + j]? = some ((nestT.getD i []).getD j 0) := by decide +kernel
theorem nest_cell {w : World} (h : NestTab w) {i j : Nat} (hi : i < 8) (hj : j < 7) : w.cell? ⟨1, i * 7 + j, none⟩ = some (.int .i64 (nestP (i + 1) (j + 1) : Nat)) := by
  have h1 := h (i * 7 + j) (.int .i64 (nestP (i + 1) (j + 1) : Nat)) (by
    rw [List.getElem?_map, nest_flat i hi j hj]
    unfold nestP
    rw [if_neg (by omega)]
    rfl)
  rw [Nat.zero_add] at h1
  exact h1
set_option maxHeartbeats 4000000 in
theorem nest_any (m c : Nat) (w : World) (hT : NestTab w) (hm : m ≤ 100) (hc : c ≤ 100) :
    Calls Tryz.prog 128 #[.int .i64 m, .int .i64 c] w fun e w' => e = .returned (.int .i64 (nestP m c : Nat)) ∧ w' = w := by
  by_cases h1 : m < 1
  · have e : nestP m c = 0 := by unfold nestP; rw [if_pos (by omega)]
    rw [e]
    go_enter Tryz.func128, Tryz.ntmps128
    go_wp2
    go_ret
    exact ⟨rfl, rfl⟩
  by_cases h2 : 8 < m
  · have e : nestP m c = 0 := by unfold nestP; rw [if_pos (by omega)]
    rw [e]
    go_enter Tryz.func128, Tryz.ntmps128
    go_wp2
    go_ret
    exact ⟨rfl, rfl⟩
  by_cases h3 : c < 1
  · have e : nestP m c = 0 := by unfold nestP; rw [if_pos (by omega)]
    rw [e]
    go_enter Tryz.func128, Tryz.ntmps128
    go_wp2
    go_ret
    exact ⟨rfl, rfl⟩
  by_cases h4 : 7 < c
  · have e : nestP m c = 0 := by unfold nestP; rw [if_pos (by omega)]
    rw [e]
    go_enter Tryz.func128, Tryz.ntmps128
    go_wp2
    go_ret
    exact ⟨rfl, rfl⟩
  obtain ⟨i, rfl⟩ : ∃ i, m = i + 1 := ⟨m - 1, by omega⟩
  obtain ⟨j, rfl⟩ : ∃ j, c = j + 1 := ⟨c - 1, by omega⟩
  have hcell := nest_cell hT (i := i) (j := j) (by omega) (by omega)
  have w1 : IntKind.i64.wrap (((i + 1 : Nat) : Int) - 1) = (i : Int) := by rw [IntKind.wrap_i64]; omega
  have w2 : IntKind.i64.wrap (((j + 1 : Nat) : Int) - 1) = (j : Int) := by rw [IntKind.wrap_i64]; omega
  have i1 : i < 8 := by omega
  have j1 : j < 7 := by omega
  go_enter Tryz.func128, Tryz.ntmps128
  go_wp2
  go_ret
  exact ⟨rfl, rfl⟩
/-- the cells of open elements -/
def elems (op : List (List UInt8)) : List Value := op.flatMap fun x => [.string (bs x), .int .i64 (clsX x : Nat), .int .i64 (modX x : Nat)]
theorem elems_app (a b : List (List UInt8)) : elems (a ++ b) = elems a ++ elems b := List.flatMap_append
theorem elems_at : ∀ (a : List (List UInt8)) (k : Nat) (x : List UInt8), a[k]? = some x → (elems a)[k * 3]? = some (.string (bs x)) ∧ (elems a)[k * 3 + 1]? = some (.int .i64 (clsX x : Nat)) ∧ (elems a)[k * 3 + 2]? = some (.int .i64 (modX x : Nat))
  | [], k, x, h => by simp at h
  | y :: r, 0, x, h => by
    simp only [List.getElem?_cons_zero, Option.some.injEq] at h
    subst h
    exact ⟨rfl, rfl, rfl⟩
  | y :: r, k + 1, x, h => by
    rw [List.getElem?_cons_succ] at h
    obtain ⟨h1, h2, h3⟩ := elems_at r k x h
    exact ⟨by rw [show (k + 1) * 3 = k * 3 + 1 + 1 + 1 by omega]; exact h1, by rw [show (k + 1) * 3 + 1 = k * 3 + 1 + 1 + 1 + 1 by omega]; exact h2, by rw [show (k + 1) * 3 + 2 = k * 3 + 2 + 1 + 1 + 1 by omega]; exact h3⟩
theorem elems_take : ∀ (a : List (List UInt8)) (k : Nat), (elems a).take (k * 3) = elems (a.take k)
  | [], k => by simp [elems]
  | x :: r, 0 => by simp [elems]
  | x :: r, k + 1 => by
    have := elems_take r k
    show ((_ :: _ :: _ :: elems r : List Value)).take _ = (_ :: _ :: _ :: elems (r.take k) : List Value)
    rw [show (k + 1) * 3 = k * 3 + 1 + 1 + 1 by omega, List.take_succ_cons, List.take_succ_cons, List.take_succ_cons, this]
/-- open elements in a row -/
def OpenR (W : World) (base : Nat) (v : Value) (op : List (List UInt8)) : Prop := W.ownsRow base 172 3 v op.length (elems op)
theorem row_shorter {W : World} {base : Nat} {e : TypeId} {size n k c : Nat} {p : Option Addr} {xs : List Value} (h : W.ownsRow base e size (.slice p n c) n xs) (hk : k ≤ n) : W.ownsRow base e size (.slice p k c) k (xs.take (k * size)) := by
  refine ⟨by rw [List.length_take, h.1]; exact Nat.min_eq_left (Nat.mul_le_mul_right _ hk), ?_⟩
  rcases h.2 with ⟨e1, e2⟩ | ⟨g, cap, cur, e1, e2, e3, e4, e5, e6, e7⟩
  · cases e1
    obtain rfl : k = 0 := by omega
    exact .inl ⟨rfl, rfl⟩
  · cases e1
    refine .inr ⟨g, c, cur, rfl, e2, e3, by omega, e5, e6, ?_⟩
    rw [← e7, List.take_take, Nat.min_eq_left (Nat.mul_le_mul_right _ hk)]
theorem OpenR.front {W : World} {base n k c : Nat} {p : Option Addr} {op : List (List UInt8)} (h : OpenR W base (.slice p n c) op) (hk : k ≤ op.length) (hn : n = op.length) : OpenR W base (.slice p k c) (op.take k) := by
  subst hn
  have h1 := row_shorter h hk
  rw [elems_take] at h1
  unfold OpenR
  rw [List.length_take, Nat.min_eq_left hk]
  exact h1
theorem OpenR.shape {W : World} {base : Nat} {v : Value} {op : List (List UInt8)} (h : OpenR W base v op) : ∃ p c, v = .slice p op.length c := row_shape h
set_option maxHeartbeats 1000000 in
theorem modIn_any (base : Nat) (v : Value) (op : List (List UInt8)) (w : World) (h : OpenR w base v op) (hl : op.length ≤ 1000000) :
    Calls Tryz.prog 129 #[v] w fun e w' => e = .returned (.int .i64 (modO op : Nat)) ∧ w' = w := by
  obtain ⟨p, c, rfl⟩ := h.shape
  by_cases h0 : op.length = 0
  · obtain rfl := List.length_eq_zero_iff.1 h0
    go_enter Tryz.func129, Tryz.ntmps129
    go_wp2
    go_ret
    exact ⟨rfl, rfl⟩
  · obtain ⟨x, hx⟩ : ∃ x, op[op.length - 1]? = some x := ⟨_, List.getElem?_eq_getElem (by omega)⟩
    obtain ⟨g, cap, e3, _, _, hcell⟩ := row_at h (by omega)
    cases e3
    obtain ⟨_, _, a3⟩ := elems_at op _ x hx
    have c3 := (hcell _ (by omega)).trans a3
    have hm : modO op = modX x := by unfold modO; rw [List.getLast?_eq_getElem?, hx]
    obtain ⟨n, hn⟩ : ∃ n, op.length = n + 1 := ⟨op.length - 1, by omega⟩
    rw [hm]
    rw [hn, Nat.add_sub_cancel] at c3
    rw [hn] at hl ⊢
    have w1 : IntKind.i64.wrap (((n + 1 : Nat) : Int) - 1) = (n : Int) := by rw [IntKind.wrap_i64]; omega
    have hz : (((n + 1 : Nat) : Int) == 0) = false := by rw [Bool.eq_false_iff]; intro h; rw [beq_iff_eq] at h; omega
    have hle := (row_cap h).2
    rw [hn] at hle
    clear hm hx a3 hcell h h0 hn
    go_enter Tryz.func129, Tryz.ntmps129
    go_wp2
    go_ret
    exact ⟨rfl, rfl⟩
end Go.Proofs.YtcncbhbdpcpkeaaGreatDoor

/-
  From what a row says of the nesting table to what lies in memory.
-/
namespace Go.Proofs.YtcncbhbdpcpkeaaGreatDoor
open Go.RowKit Go.Lib Go.ChangeShapes Go.Deep

set_option maxRecDepth 100000 in
theorem nest_of {w : World} (h : VarReads Tryz.prog w "scrub/vocabulary.nesting" (.agg (nestT.map fun r => .agg (r.map fun n : Nat => .lit (.int .i64 (n : Int)))))) : NestTab w := by
  obtain ⟨g', t', cs, fuel, p, hg', hty, hvar, hd⟩ := h
  obtain rfl := Option.some.inj ((show Tryz.prog.globalNamed "scrub/vocabulary.nesting" = some 1 by kernel_rfl).symm.trans hg')
  obtain rfl := Option.some.inj ((show (Tryz.prog.globals[1]?).map (·.type) = some 217 by kernel_rfl).symm.trans hty)
  have k7 : Tryz.prog.cellsOf 216 = 7 := by kernel_rfl
  have k1 : Tryz.prog.cellsOf 175 = 1 := by kernel_rfl
  refine range_ofK (by kernel_rfl) hvar (fun j v hv => ?_)
  rw [List.getElem?_map] at hv
  obtain ⟨n, hn, rfl⟩ := Option.map_eq_some_iff.1 hv
  have hj : j < 56 := (List.getElem?_eq_some_iff.1 hn).1
  have hi : j / 7 < 8 := by omega
  have hk : j % 7 < 7 := Nat.mod_lt _ (by decide)
  have hf := nest_flat (j / 7) hi (j % 7) hk
  rw [show j / 7 * 7 + j % 7 = j by omega, hn] at hf
  have hall : ∀ i < 8, nestT[i]? = some (nestT.getD i []) ∧ ∀ k < 7, (nestT.getD i [])[k]? = some ((nestT.getD i []).getD k 0) := by decide +kernel
  obtain ⟨h1, h2⟩ := hall _ hi
  have h3 := h2 _ hk
  rw [← Option.some.inj hf] at h3
  obtain ⟨f1, d1, q1, e1, t1⟩ := array_elem Tryz.underlying217 hd (j / 7) hi
  rw [List.getElem?_map, h1] at e1
  simp only [Option.map_some, Option.some.injEq] at e1
  subst e1
  rw [k7] at t1
  obtain ⟨f2, d2, q2, e2, t2⟩ := array_elem Tryz.underlying216 t1 (j % 7) hk
  rw [List.getElem?_map, h3] at e2
  simp only [Option.map_some, Option.some.injEq] at e2
  subst e2
  rw [k1, Nat.mul_one] at t2
  obtain ⟨m, c1, e3, _⟩ := DataW.trod_int Tryz.underlying175 t2
  simp only [Prod.mk.injEq, DataW.lit.injEq, Lit.int.injEq, true_and] at e3
  have h4 := one_atK c1
  rw [List.getElem?_take_of_lt hk, List.getElem?_drop, show j / 7 * 7 + j % 7 = j by omega] at h4
  rw [h4, ← e3.1]
end Go.Proofs.YtcncbhbdpcpkeaaGreatDoor
