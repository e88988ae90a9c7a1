/-
  Parts of the walk, joined: SerC, SerD.
-/
import Derived.BigRegion
import Derived.Test.YtcncbhbdpcpkeaaGreatDoorPJBF
import Derived.Test.YtcncbhbdpcpkeaaGreatDoorPJBK
import Derived.Test.YtcncbhbdpcpkeaaGreatDoorPJAJ
/-
  The tree's writer closes elements: its walk.
-/
namespace Go.Proofs.YtcncbhbdpcpkeaaGreatDoor
open Go.RowKit Go.Lib Own

theorem TwAt.cut {K : Nat → Array Value → Prop} {w : World} {base b n k c : Nat} {eat : Bool} {acc : List UInt8} {op : List (List UInt8)} {p : Option Addr} (h : TwAt K w base b eat acc op (.slice p n c)) (hk : k ≤ op.length) (hn : n = op.length) : TwAt K (w.setCell ⟨b, 3, none⟩ (.slice p k c)) base b eat acc (op.take k) (.slice p k c) := by
  subst hn
  obtain ⟨q, v, hI⟩ := h.it
  have hj := just_put (j := 3) hI.at_ (.slice p k c) rfl
  have hrow := row_shorter h.row (k := k) (by omega)
  have hneo := row_ne h.row hI.at_ (by decide)
  refine ⟨⟨q, v, ⟨hj.at_, hI.lo, rfl, rfl, hI.hp, hI.own.kept hj.grown (.inr hI.ne), hI.ne⟩⟩, ?_, fun E cs hk => (hj.other E (blk_ne (h.kp E cs hk) hI.at_ (by decide))).trans (h.kp E cs hk)⟩
  rw [List.length_take, Nat.min_eq_left hk, List.map_take]
  have h2 : w.ownsRow base 9 1 (.slice p k c) k ((op.map fun x => Value.string (bs x)).take k) := by
    rw [Nat.mul_one] at hrow
    exact hrow
  exact row_just h2 hI.at_ (by decide) hj.other
theorem closeE_step {c n : Nat} {op : List (List UInt8)} {x : List UInt8} (hx : op[n]? = some x) (hc : c ≤ n) : closeE c (op.take (n + 1)) = .stop x :: closeE c (op.take n) := by
  have hlt := (List.getElem?_eq_some_iff.1 hx).1
  have h1 : (op.take (n + 1)).getLast? = some x := by
    rw [List.getLast?_eq_getElem?, List.length_take, Nat.min_eq_left (by omega), Nat.add_sub_cancel, List.getElem?_take, if_pos (by omega), hx]
  have h2 := (closeE_snoc0 h1 (k := c) (by rw [List.length_take]; omega)).1
  rw [h2, List.dropLast_eq_take, List.length_take, Nat.min_eq_left (by omega), Nat.add_sub_cancel, List.take_take, Nat.min_eq_left (by omega)]
theorem TwAt.cutB {K : Nat → Array Value → Prop} {w0 w : World} {base b n k c : Nat} {eat : Bool} {acc : List UInt8} {op : List (List UInt8)} {p : Option Addr} (h : TwAt K w base b eat acc op (.slice p n c)) (hb : Below w0.heap.size w0 w) (hlo : w0.heap.size ≤ base) : Below w0.heap.size w0 (w.setCell ⟨b, 3, none⟩ (.slice p k c)) := by
  obtain ⟨q, v, hI⟩ := h.it
  exact hb.trans (just_low (just_put (j := 3) hI.at_ (.slice p k c) rfl) (Nat.le_trans hlo hI.lo))
theorem TwAt.free {K : Nat → Array Value → Prop} {w : World} {base b : Nat} {eat : Bool} {acc : List UInt8} {op : List (List UInt8)} {ov : Value} (h : TwAt K w base b eat acc op ov) : w.cell? ⟨b, 3, none⟩ = some ov ∧ w.frozen? ⟨b, 3, none⟩ = false := by
  obtain ⟨q, v, hI⟩ := h.it
  exact ⟨cell_at hI.at_ (j := 3) rfl, free_at hI.at_ 3⟩
theorem closeE_none {c : Nat} {op : List (List UInt8)} (h : op.length ≤ c) : closeE c op = [] := by
  unfold closeE
  rw [List.drop_of_length_le h]
  rfl
/-- what closeTo leaves -/
structure CloseOut (K : Nat → Array Value → Prop) (w0 w' : World) (base b c : Nat) (eat : Bool) (acc : List UInt8) (op : List (List UInt8)) : Prop where
  it : ∃ eat' acc' ov', TwAt K w' base b eat' acc' (op.take c) ov' ∧ (∀ rest, acc ++ wEv eat (closeE c op ++ rest) = acc' ++ wEv eat' rest) ∧ Below w0.heap.size w0 w'
set_option maxHeartbeats 4000000 in
set_option maxRecDepth 100000 in
theorem serClose_any (K : Nat → Array Value → Prop) (w0 : World) (base b c : Nat) (eat : Bool) (acc : List UInt8) (op : List (List UInt8)) (ov : Value) (m : Int) (w : World) (h : TwAt K w base b eat acc op ov) (hb0 : Below w0.heap.size w0 w) (hlo : w0.heap.size ≤ base) (hs : ∀ x ∈ op, x.length ≤ 100000000)
    (hm0 : w0.cell? ⟨4, 0, none⟩ = some (.int .i64 m)) (hal : (acc ++ wEv eat (closeE c op)).length ≤ 100000000000) (hop : op.length ≤ 100000000) (hc : c ≤ 100000000) :
    Calls Tryz.prog 56 #[.pointer (some ⟨b, 0, none⟩), .int .i64 c] w fun r w' => r = .returned (.tuple #[]) ∧ CloseOut K w0 w' base b c eat acc op := by
  obtain ⟨q, v, hI⟩ := h.it
  obtain ⟨p, oc, rfl⟩ := row_shape h.row
  have c3 : w.cell? ⟨b, 3, none⟩ = some (.slice p op.length oc) := cell_at hI.at_ (j := 3) rfl
  have H0 := hid (And.intro h hb0)
  have HS := hid hs
  have HM := hid hm0
  have HAL := hid hal
  have HLO := hid hlo
  have hw0 : IntKind.i64.wrap ((op.length : Int) - 1) = (op.length : Int) - 1 := by rw [IntKind.wrap_i64]; omega
  clear h hb0 hs hm0 hal hI hlo
  go_enter Tryz.func56, Tryz.ntmps56
  go_wp2_with fail
  clear c3 hw0
  go_loopw [4] (fun iv wr => ∃ (k : Nat) (eat' : Bool) (acc' : List UInt8) (ov' : Value), iv = .int .i64 ((k : Int) - 1) ∧ k ≤ op.length ∧ (k = op.length ∨ c ≤ k) ∧ Hid (TwAt K wr base b eat' acc' (op.take k) ov' ∧ Below w0.heap.size w0 wr ∧ ∀ rest, acc ++ wEv eat (closeE c op ++ rest) = acc' ++ wEv eat' (closeE c (op.take k) ++ rest))) (fun iv _ => (RowKit.intOf iv + 1).toNat)
  case atStart => exact ⟨op.length, eat, acc, _, rfl, Nat.le_refl _, .inl rfl, hid ⟨by rw [List.take_length]; exact H0.out.1, H0.out.2, fun rest => by rw [List.take_length]⟩⟩
  case round =>
    clear H0
    obtain ⟨k, eat', acc', ov', rfl, hk, hkc, HX⟩ := hrel
    by_cases hck : c < k
    · obtain ⟨n, rfl⟩ : ∃ n, k = n + 1 := ⟨k - 1, by omega⟩
      obtain ⟨x, hx⟩ : ∃ x, op[n]? = some x := ⟨_, List.getElem?_eq_getElem (by omega)⟩
      have w1 : ((n + 1 : Nat) : Int) - 1 = (n : Int) := by omega
      have w2 : IntKind.i64.wrap ((n : Int) - 1) = (n : Int) - 1 := by rw [IntKind.wrap_i64]; omega
      rw [w1]
      have d1 : decide ((c : Int) ≤ (n : Int)) = true := decide_eq_true (by omega)
      have d2 : decide ((n : Int) ≥ (c : Int)) = true := decide_eq_true (by omega)
      have d3 : decide (c ≤ n) = true := decide_eq_true (by omega)
      have hstep := closeE_step hx (show c ≤ n by omega)
      have hln : (op.take (n + 1)).length = n + 1 := by rw [List.length_take]; omega
      have hxx : (op.take (n + 1))[n]? = some x := by rw [List.getElem?_take, if_pos (by omega), hx]
      obtain ⟨q, v, hI⟩ := HX.out.1.it
      have hrow := HX.out.1.row
      obtain ⟨g, cap, e3, _, _, hcell⟩ := row_at hrow (by omega)
      subst e3
      rw [hln] at hcell
      have k0 := (hcell n (by omega)).trans (show ((op.take (n + 1)).map fun x => Value.string (bs x))[n]? = some (.string (bs x)) by rw [List.getElem?_map, hxx]; rfl)
      have hcap := (row_cap hrow).2
      have c3 : wr.cell? ⟨b, 3, none⟩ = some (.slice (some ⟨g, 0, none⟩) (n + 1) cap) := by
        have := cell_at hI.at_ (j := 3) rfl
        rw [hln] at this
        exact this
      have hxl : x.length ≤ 100000000 := HS.out x (List.mem_of_getElem? hx)
      have hfin := HX.out.2.2
      have hacc : acc'.length ≤ 100000000000 := by
        have h1 := HX.out.2.2 []
        have h2 := HAL.out
        rw [List.append_nil] at h1
        rw [h1, List.length_append] at h2
        omega
      have hta := twTake_any K base b eat' acc' (op.take (n + 1)) _ ⟨2, x, [], []⟩ (.slice none 0 0) m w0 wr.drew (HX.out.1.below (below_drewN (Below.refl _ _) 1)) (AttrsR.nil w0) HX.out.2.1.drew HLO.out (by show x.length + 0 + 0 ≤ _; omega) HM.out hacc
      rw [show takeW eat' ⟨2, x, [], []⟩ = (false, etagL x) from rfl] at hta
      unfold evC at hta
      rw [hln] at hta
      have HT := hid hta
      have HST := hid (And.intro hstep hfin)
      have hz : (⟨#[]⟩ : ByteArray) = bs [] := rfl
      rw [hln] at hcap
      clear hta hstep hfin hacc hxl hcell hrow hI hxx HX hx HAL HS
      simp only [← hz] at HT
      clear hz
      go_wp2_with fail
      go_region_with (go_at_call 32; refine HT.out.mono ?_; rintro r W2 ⟨rfl, h2, hb2⟩)
      all_goals
        have hcut := h2.cut (k := n) (by rw [hln]; omega) hln.symm
        rw [List.take_take, Nat.min_eq_left (by omega)] at hcut
        have hcb := h2.cutB (k := n) hb2 HLO.out
        obtain ⟨c3b, f3b⟩ := h2.free
        have HZ := hid (And.intro hcut (And.intro hcb (fun rest => (by rw [HST.out.2 rest, HST.out.1, List.cons_append, wEv_stop, List.append_assoc] : acc ++ wEv eat (closeE c op ++ rest) = (acc' ++ etagL x) ++ wEv false (closeE c (op.take n) ++ rest)))))
        clear hcut hcb h2 hb2 HST HT c3
        go_wp2_with fail
        go_roundw
        case rel => exact ⟨n, _, _, _, rfl, by omega, .inr (by omega), HZ⟩
        case measure => simp [RowKit.intOf]
    · have d1 : decide ((c : Int) ≤ (k : Int) - 1) = false := decide_eq_false (by omega)
      have d2 : decide ((k : Int) - 1 ≥ (c : Int)) = false := decide_eq_false (by omega)
      have HZ : Hid (CloseOut K w0 wr base b c eat acc op) := hid ⟨_, _, _, by
        have h1 := HX.out.1
        have h2 : op.take c = op.take k := by
          rcases hkc with rfl | hkc
          · rw [List.take_length, List.take_of_length_le (by omega)]
          · rw [show c = k by omega]
        rw [h2]
        exact h1, fun rest => by rw [HX.out.2.2 rest, closeE_none (by rw [List.length_take]; omega), List.nil_append], HX.out.2.1⟩
      clear HX HS HM HAL
      go_wp2_with fail
      go_end0
      exact ⟨rfl, HZ.out⟩
end Go.Proofs.YtcncbhbdpcpkeaaGreatDoor

/-
  The tree's writer takes a node: its walk.
-/
namespace Go.Proofs.YtcncbhbdpcpkeaaGreatDoor
open Go.RowKit Go.Lib Own

def nodeE (n : EvP) : Ev := if n.n = [] then .text n.t else .start n.n n.a
def nodeO (op : List (List UInt8)) (n : EvP) : List (List UInt8) := if n.n = [] ∨ modX n.n = 9 then op.take n.k.toNat else op.take n.k.toNat ++ [n.n]
theorem tree_cons (op : List (List UInt8)) (n : EvP) (r : List EvP) : treeE op (n :: r) = closeE n.k.toNat op ++ nodeE n :: treeE (nodeO op n) r := rfl
/-- what add leaves -/
structure AddOut (K : Nat → Array Value → Prop) (w0 w' : World) (base b : Nat) (eat : Bool) (acc : List UInt8) (op : List (List UInt8)) (n : EvP) : Prop where
  it : ∃ eat' acc' ov', TwAt K w' base b eat' acc' (nodeO op n) ov' ∧ (∀ rest, acc ++ wEv eat (closeE n.k.toNat op ++ nodeE n :: rest) = acc' ++ wEv eat' rest) ∧ Below w0.heap.size w0 w'
theorem TwAt.more {K : Nat → Array Value → Prop} {w : World} {base b : Nat} {eat : Bool} {acc : List UInt8} {op : List (List UInt8)} {ov : Value} (h : TwAt K w base b eat acc op ov) {E : Nat} {cs : Array Value} (hE : w.heap[E]? = some (.cells cs 38 (0, 0))) : TwAt (fun k c => K k c ∨ (k = E ∧ c = cs)) w base b eat acc op ov :=
  ⟨h.it, h.row, fun k c hk => by
    rcases hk with hk | ⟨rfl, rfl⟩
    · exact h.kp k c hk
    · exact hE⟩
theorem TwAt.less {K K2 : Nat → Array Value → Prop} {w : World} {base b : Nat} {eat : Bool} {acc : List UInt8} {op : List (List UInt8)} {ov : Value} (h : TwAt K w base b eat acc op ov) (hk : ∀ k c, K2 k c → K k c) : TwAt K2 w base b eat acc op ov := ⟨h.it, h.row, fun k c h2 => h.kp k c (hk k c h2)⟩
/-- one open element more -/
theorem TwAt.push {K : Nat → Array Value → Prop} {w0 w w10 : World} {base b : Nat} {eat : Bool} {acc x : List UInt8} {op : List (List UInt8)} {ov ov' : Value} {X : Obj} (h : TwAt K w base b eat acc op ov) (hbe : Below w0.heap.size w0 w) (hlo : w0.heap.size ≤ base) (hg : (w.alloc X).grownBy w10 ov.ownBlock)
    (hv : w10.ownsRow base 9 1 ov' (op.length + 1) ((op.map fun x => Value.string (bs x)) ++ [.string (bs x)])) : TwAt K (w10.setCell ⟨b, 3, none⟩ ov') base b eat acc (op ++ [x]) ov' ∧ Below w0.heap.size w0 (w10.setCell ⟨b, 3, none⟩ ov') := by
  obtain ⟨q, v, hI⟩ := h.it
  have hbl := block_lt hI.at_
  have hne := row_ne h.row hI.at_ (by decide)
  have hb4 := (alloc_old w X b hbl).trans hI.at_
  have hb10 := grown_at hg hb4 hne
  have hj := just_put (j := 3) hb10 ov' rfl
  have hnev : v.ownBlock = none ∨ v.ownBlock ≠ ov.ownBlock := rowF_ne hI.own h.row (by decide)
  have hown : w10.ownsRowF base 5 1 v acc.length (byteCells acc) := (hI.own.kept (World.grownBy_alloc w X none) (by cases v.ownBlock <;> simp)).kept hg hnev
  refine ⟨⟨⟨q, v, ⟨hj.at_, hI.lo, rfl, rfl, hI.hp, hown.kept hj.grown (.inr hI.ne), hI.ne⟩⟩, ?_, fun E cs hk => ?_⟩, ?_⟩
  · rw [List.length_append, List.length_singleton, List.map_append]
    exact row_just hv hb10 (by decide) hj.other
  · have hE := h.kp E cs hk
    have hE4 := (alloc_old w X E (block_lt hE)).trans hE
    exact (hj.other E (blk_ne hE hI.at_ (by decide))).trans (grown_at hg hE4 (row_ne (h.row.alloc X) hE4 (by decide)))
  · have hbase := hbe.size
    exact ((hbe.alloc hbase X).grown hg (by simp; omega) (fun k hk => Nat.le_trans hlo (h.row.lt k hk).1)).trans (just_low hj (Nat.le_trans hlo hI.lo))
theorem wEv_step (eat : Bool) (e : Ev) (r : List Ev) : wEv eat (e :: r) = (takeW eat (toP e)).2 ++ wEv (takeW eat (toP e)).1 r := rfl
theorem wEv_part : ∀ (a : List Ev) (eat : Bool) (b : List Ev), ∃ eat', wEv eat (a ++ b) = wEv eat a ++ wEv eat' b
  | [], eat, b => ⟨eat, rfl⟩
  | e :: r, eat, b => by
    obtain ⟨eat', h⟩ := wEv_part r (takeW eat (toP e)).1 b
    exact ⟨eat', by rw [List.cons_append, wEv_step, h, wEv_step, List.append_assoc]⟩
theorem wEv_front (a : List Ev) (eat : Bool) (b : List Ev) : (wEv eat a).length ≤ (wEv eat (a ++ b)).length := by
  obtain ⟨eat', h⟩ := wEv_part a eat b
  rw [h, List.length_append]
  omega
set_option maxHeartbeats 8000000 in
set_option maxRecDepth 100000 in
theorem addN_any (K : Nat → Array Value → Prop) (w0 : World) (base b kd : Nat) (eat : Bool) (acc : List UInt8) (op : List (List UInt8)) (ov : Value) (n : EvP) (u : Value) (m : Int) (w : World) (h : TwAt K w base b eat acc op ov) (hb0 : Below w0.heap.size w0 w) (hlo : w0.heap.size ≤ base) (hs : ∀ x ∈ op, x.length ≤ 100000000)
    (hm0 : w0.cell? ⟨4, 0, none⟩ = some (.int .i64 m)) (hu0 : AttrsR w0 u n.a) (hkd : n.k = (kd : Int)) (hal : (acc ++ wEv eat (closeE kd op ++ [nodeE n])).length ≤ 100000000000) (hop : op.length ≤ 100000000) (hc : kd ≤ 100000000) (hn : n.n.length + n.t.length + bulkA n.a ≤ 100000000) (hKT : KindsTab w0) :
    Calls Tryz.prog 55 #[.pointer (some ⟨b, 0, none⟩), .agg (evC n u)] w fun r w' => r = .returned (.tuple #[]) ∧ AddOut K w0 w' base b eat acc op n := by
  obtain ⟨up, uc, rfl⟩ := hu0.len
  have hkn : n.k.toNat = kd := by rw [hkd]; rfl
  have hev : evC n (.slice up n.a.length uc) = #[.int .i64 kd, .string (bs n.n), .slice up n.a.length uc, .string (bs n.t)] := by unfold evC; rw [hkd]
  rw [hev]
  have e1n : ((bs n.n).toList == []) = decide (n.n = []) := by rw [bs_toList, Bool.eq_iff_iff, beq_iff_eq, decide_eq_true_iff]
  obtain ⟨BN, hBN⟩ : ∃ K, bs n.n = K := ⟨_, rfl⟩
  obtain ⟨BT, hBT⟩ : ∃ K, bs n.t = K := ⟨_, rfl⟩
  obtain ⟨AL, hAL⟩ : ∃ K, n.a.length = K := ⟨_, rfl⟩
  have HX := hid (fun (_ : True) => And.intro hBN (And.intro hBT hAL))
  rw [hBN, hBT, hAL]
  rw [hBN] at e1n
  clear hBN hBT hAL hev
  obtain ⟨W1, hW1⟩ : ∃ W1, w.alloc (.cells #[.int .i64 kd, .string BN, .slice up AL uc, .string BT] 38) = W1 := ⟨_, rfl⟩
  have hb1 : Below w.heap.size w W1 := by rw [← hW1]; exact (Below.refl _ _).alloc (Nat.le_refl _) _
  have n1 : W1.heap[w.heap.size]? = some (.cells #[.int .i64 kd, .string BN, .slice up AL uc, .string BT] 38 (0, 0)) := by rw [← hW1]; exact heap_alloc_new _ _
  obtain ⟨K', hin, hsub, h1⟩ : ∃ K' : Nat → Array Value → Prop, K' w.heap.size #[.int .i64 kd, .string BN, .slice up AL uc, .string BT] ∧ (∀ k c, K k c → K' k c) ∧ TwAt K' W1 base b eat acc op ov := ⟨_, .inr ⟨rfl, rfl⟩, fun _ _ hk => .inl hk, (h.below hb1).more n1⟩
  have hb01 := hb0.trans (hb1.mono hb0.size)
  have hc1 : (acc ++ wEv eat (closeE kd op)).length ≤ 100000000000 := by
    have h2 := hal
    have h3 := wEv_front (closeE kd op) eat [nodeE n]
    rw [List.length_append] at h2 ⊢
    omega
  have hct := serClose_any K' w0 base b kd eat acc op ov m W1 h1 hb01 hlo hs hm0 hc1 hop hc
  have e0 := cell_at n1 (j := 0) rfl
  have e1 := cell_at n1 (j := 1) rfl
  have e2 := cell_at n1 (j := 2) rfl
  have e3 := cell_at n1 (j := 3) rfl
  have HCT := hid hct
  have HAL := hid hal
  have HK := hid (And.intro hin hsub)
  have HG := hid (And.intro hlo (And.intro hm0 (And.intro hu0 (And.intro hKT hkn))))
  clear hct h h1 n1 hb1 hb0 hb01 hlo hs hm0 hu0 hal hc1 hKT hkd hkn hin hsub
  go_enter Tryz.func55, Tryz.ntmps55
  go_wp2_with fail
  refine HCT.out.mono ?_
  rintro e W2 ⟨rfl, eat1, acc1, ov1, h2, hre, hb2⟩
  have n2 := h2.kp _ _ HK.out.1
  clear e0 e1 e2 e3 HCT hW1
  have e1 : W2.cell? ⟨w.heap.size, 1, none⟩ = some (.string BN) := cell_at n2 (j := 1) rfl
  have e2 : W2.cell? ⟨w.heap.size, 2, none⟩ = some (.slice up AL uc) := cell_at n2 (j := 2) rfl
  have e3 : W2.cell? ⟨w.heap.size, 3, none⟩ = some (.string BT) := cell_at n2 (j := 3) rfl
  have hac1 : acc1.length ≤ 100000000000 := by
    have h3 := HAL.out
    rw [hre [nodeE n], List.length_append] at h3
    omega
  by_cases h0 : n.n = []
  · rw [decide_eq_true h0] at e1n
    have hta := twTake_any _ base b eat1 acc1 (op.take kd) ov1 ⟨3, [], [], n.t⟩ (.slice none 0 0) m w0 W2.drew (h2.below (below_drewN (Below.refl _ _) 1)) (AttrsR.nil w0) hb2.drew HG.out.1 (by show 0 + n.t.length + 0 ≤ _; omega) HG.out.2.1 hac1
    have hno : nodeE n = .text n.t := if_pos h0
    have hop2 : nodeO op n = op.take kd := by unfold nodeO; rw [if_pos (.inl h0), HG.out.2.2.2.2]
    unfold evC at hta
    rw [(HX.out trivial).2.1, show bs ([] : List UInt8) = ⟨#[]⟩ from rfl] at hta
    have HT := hid hta
    have HR := hid (And.intro hre (And.intro hno hop2))
    clear hta hre hno hop2 h2 hb2 hac1 n2 h0 HAL
    go_wp2_with fail
    go_region_with (go_at_call 32; refine HT.out.mono ?_; rintro r W3 ⟨rfl, h3, hb3⟩)
    all_goals
      have HZ : Hid (AddOut K w0 W3 base b eat acc op n) := hid ⟨_, _, ov1, by rw [HR.out.2.2]; exact h3.less HK.out.2, fun rest => by rw [HG.out.2.2.2.2, HR.out.2.1, HR.out.1 (.text n.t :: rest), wEv_step, List.append_assoc]; rfl, hb3⟩
      clear h3 hb3 HT HR
      go_wp2_with fail
      (try simp only [Exit.inBlock, Exit.then]); refine bodyPost_ret (results_none rfl _ _ _) rfl ?_
      exact ⟨rfl, HZ.out⟩
  · rw [decide_eq_false h0] at e1n
    have hta := twTake_any _ base b eat1 acc1 (op.take kd) ov1 ⟨1, n.n, n.a, []⟩ (.slice up n.a.length uc) m w0 W2.drew (h2.below (below_drewN (Below.refl _ _) 1)) HG.out.2.2.1 hb2.drew HG.out.1 (by show n.n.length + 0 + bulkA n.a ≤ _; omega) HG.out.2.1 hac1
    have hno : nodeE n = .start n.n n.a := if_neg h0
    have hvd := fun W (hW : KindsTab W) => isVoid_any BN W hW
    rw [← (HX.out trivial).1, bs_toList, void_mod, (HX.out trivial).1] at hvd
    unfold evC at hta
    rw [(HX.out trivial).1, (HX.out trivial).2.2, show bs ([] : List UInt8) = ⟨#[]⟩ from rfl] at hta
    have HT := hid hta
    have HV := hid hvd
    have HR := hid (And.intro hre (And.intro hno h0))
    clear hta hvd hre hno h2 hb2 hac1 n2 h0 HAL
    go_wp2_with fail
    go_region_with (go_at_call 32; refine HT.out.mono ?_; rintro r W3 ⟨rfl, h3, hb3⟩)
    all_goals
      have n3 := h3.kp _ _ HK.out.1
      have e1 : W3.cell? ⟨w.heap.size, 1, none⟩ = some (.string BN) := cell_at n3 (j := 1) rfl
      have hkt := HG.out.2.2.2.1.below hb3
      have H3 := hid (And.intro h3 hb3)
      clear h3 hb3 n3 HT
      go_wp2_with fail
      refine (HV.out _ hkt).mono ?_
      rintro e W4 ⟨rfl, hb4⟩
      have h4 := H3.out.1.below hb4
      have hb5 := H3.out.2.trans (hb4.mono H3.out.2.size)
      have hre2 : ∀ rest, acc ++ wEv eat (closeE kd op ++ nodeE n :: rest) = (acc1 ++ (takeW eat1 ⟨1, n.n, n.a, []⟩).2) ++ wEv (takeW eat1 ⟨1, n.n, n.a, []⟩).1 rest := fun rest => by
        rw [HR.out.2.1, HR.out.1 (.start n.n n.a :: rest), wEv_step, List.append_assoc]; rfl
      have H4 := hid (And.intro h4 (And.intro hb5 hre2))
      have hrow := h4.row
      clear h4 hb5 hre2 hb4 H3 HV hkt
      by_cases h9 : modX n.n = 9
      · have hop2 : nodeO op n = op.take kd := by unfold nodeO; rw [if_pos (.inr h9), HG.out.2.2.2.2]
        have HZ : Hid (AddOut K w0 W4 base b eat acc op n) := hid ⟨_, _, ov1, by rw [hop2]; exact H4.out.1.less HK.out.2, fun rest => by rw [HG.out.2.2.2.2]; exact H4.out.2.2 rest, H4.out.2.1⟩
        have q9 : (modX n.n == 9) = true := beq_iff_eq.2 h9
        clear hop2 hrow H4 HR h9
        go_wp2_with fail
        go_end0
        exact ⟨rfl, HZ.out⟩
      · have hop2 : nodeO op n = op.take kd ++ [n.n] := by unfold nodeO; rw [if_neg (fun h => h.elim HR.out.2.2 h9), HG.out.2.2.2.2]
        have HO := hid (fun (_ : True) => hop2)
        have q9 : (modX n.n == 9) = false := beq_eq_false_iff_ne.2 h9
        obtain ⟨i0, hi, hz0, hz1, hz2⟩ := info_parts info_str
        obtain ⟨OP, hOP⟩ : ∃ OP, op.take kd = OP := ⟨_, rfl⟩
        have hol : OP.length ≤ 100000000 := by rw [← hOP, List.length_take]; omega
        have HOP := hid (fun (_ : True) => hOP)
        rw [hOP] at hrow H4
        obtain ⟨sp, sc, rfl⟩ := row_shape hrow
        obtain ⟨p5, v5, hI5⟩ := H4.out.1.it
        have hb3 := hI5.at_
        have hbs3 := block_lt hb3
        have hneb := row_ne hrow hb3 (by decide)
        have hbase : base ≤ W4.heap.size := by have := hI5.lo; omega
        have c3 : W4.cell? ⟨b, 3, none⟩ = some (.slice sp OP.length sc) := cell_at hb3 (j := 3) rfl
        have f3 := free_at hb3 3
        have n4 := H4.out.1.kp _ _ HK.out.1
        have e1 : W4.cell? ⟨w.heap.size, 1, none⟩ = some (.string BN) := cell_at n4 (j := 1) rfl
        have hrl : (OP.map fun x => Value.string (bs x)).length = OP.length := List.length_map ..
        obtain ⟨XS, hXS⟩ : ∃ XS, (OP.map fun x => Value.string (bs x)) = XS := ⟨_, rfl⟩
        have HXS := hid (fun (_ : True) => hXS)
        rw [hXS] at hrow hrl
        unfold twC at hb3
        obtain ⟨EE, hEE⟩ : ∃ EE, (takeW eat1 ⟨1, n.n, n.a, []⟩).1 = EE := ⟨_, rfl⟩
        rw [hEE] at hb3
        clear hop2 h9 hOP n4 hXS hI5
        go_wp2_with fail
        go_region_law (refine step_append_lies _ rfl (.tmp 35) (.tmp 38) 41 rfl base 9 i0 (.string ⟨#[]⟩) 1 16 Tryz.underlying41 hi hz0 hz1 hz2 rfl (by decide) (.slice sp OP.length sc) OP.length XS (by simp [Act.eval]) (by exact World.ownsRow.alloc hrow _) ⟨_, 0, none⟩ 1 1 [.string BN] (by simp [Act.eval]) rfl (cells_newV _ _ _) (by simp [Value.oneCell']) (by omega) (by unfold maxLen; omega) (by omega) (by simp; omega) _ rfl ?_; rintro g cap w10 hrow10 hgrow10 - -; have hb10 : w10.heap[b]? = some (.cells #[.bool EE, p5, v5, .slice sp OP.length sc] 103 (0, 0)) := ((hgrow10.block b (by simp; omega) (fun e => hneb e.symm)).trans (alloc_old _ _ b (by exact hbs3))).trans (by exact hb3); have ce10 : w10.cell? ⟨b, 3, none⟩ = some (.slice sp OP.length sc) := cell_at hb10 (j := 3) rfl; have fe10 := free_at hb10 3)
        all_goals
          rw [← HXS.out trivial, ← (HX.out trivial).1] at hrow10
          have hpu := TwAt.push (w := W4.drew) (H4.out.1.below (below_drewN (Below.refl _ _) 1)) H4.out.2.1.drew HG.out.1 hgrow10 hrow10
          have HZ : Hid (AddOut K w0 (w10.setCell ⟨b, 3, none⟩ (.slice (some ⟨g, 0, none⟩) (OP.length + 1) cap)) base b eat acc op n) := hid ⟨_, _, _, by rw [HO.out trivial, HOP.out trivial]; exact hpu.1.less HK.out.2, fun rest => by rw [HG.out.2.2.2.2]; exact H4.out.2.2 rest, hpu.2⟩
          clear hpu hrow10 hgrow10 hb10 ce10 fe10 H4
          go_end0
          exact ⟨rfl, HZ.out⟩
end Go.Proofs.YtcncbhbdpcpkeaaGreatDoor
