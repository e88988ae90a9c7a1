/-
  Parts of the walk, joined: SerE.
-/
import Derived.Test.YtcncbhbdpcpkeaaGreatDoorPJBM
/-
  markup.Serialize: its walk.
-/
namespace Go.Proofs.YtcncbhbdpcpkeaaGreatDoor
open Go.RowKit Go.Lib Own

def opB (op : List (List UInt8)) : Nat := (op.map fun x => x.length + 1).sum
theorem opB_app (a b : List (List UInt8)) : opB (a ++ b) = opB a + opB b := by unfold opB; rw [List.map_append, List.sum_append]
theorem opB_take (op : List (List UInt8)) (k : Nat) : opB (op.take k) + opB (op.drop k) = opB op := by rw [← opB_app, List.take_append_drop]
theorem opB_get {op : List (List UInt8)} {x : List UInt8} (h : x ∈ op) : x.length + 1 ≤ opB op := by
  induction op with
  | nil => cases h
  | cons y r ih =>
    have e : opB (y :: r) = y.length + 1 + opB r := rfl
    rcases List.mem_cons.1 h with rfl | h
    · omega
    · have := ih h; omega
theorem opB_len (op : List (List UInt8)) : op.length ≤ opB op := by
  induction op with
  | nil => exact Nat.le_refl _
  | cons y r ih =>
    have e : opB (y :: r) = y.length + 1 + opB r := rfl
    rw [List.length_cons]
    omega
theorem bulk_close (op : List (List UInt8)) : bulkE ((op.reverse.map Ev.stop).map toP) = opB op := by
  unfold bulkE opB
  rw [List.map_map, List.map_map, List.map_reverse, List.sum_reverse]
  refine congrArg List.sum (List.map_congr_left fun x _ => ?_)
  show x.length + 0 + 0 + 1 = x.length + 1
  omega
theorem bulkE_app (a b : List EvP) : bulkE (a ++ b) = bulkE a + bulkE b := by unfold bulkE; rw [List.map_append, List.sum_append]
theorem node_bulk (n : EvP) : bulkE [toP (nodeE n)] ≤ n.n.length + n.t.length + bulkA n.a + 1 := by
  rw [bulkE_cons]
  unfold nodeE
  split
  · show 0 + n.t.length + 0 + 1 + 0 ≤ _; omega
  · show n.n.length + 0 + bulkA n.a + 1 + 0 ≤ _; omega
theorem nodeO_bulk (op : List (List UInt8)) (n : EvP) : opB (nodeO op n) ≤ opB (op.take n.k.toNat) + (n.n.length + 1) := by
  unfold nodeO
  split
  · omega
  · rw [opB_app]
    show _ + (n.n.length + 1 + 0) ≤ _
    omega
theorem tree_bulk : ∀ (ns : List EvP) (op : List (List UInt8)), bulkE ((treeE op ns).map toP) ≤ opB op + 2 * bulkE ns
  | [], op => by
    show bulkE ((closeE 0 op).map toP) ≤ _
    unfold closeE
    rw [List.drop_zero, bulk_close]
    omega
  | n :: r, op => by
    have ih := tree_bulk r (nodeO op n)
    have h1 := nodeO_bulk op n
    have h2 := opB_take op n.k.toNat
    have h3 := node_bulk n
    have h4 : bulkE ((closeE n.k.toNat op).map toP) = opB (op.drop n.k.toNat) := bulk_close _
    rw [tree_cons, List.map_append, List.map_cons, bulkE_app, ← List.singleton_append, bulkE_app, h4]
    have h5 := bulkE_cons n r
    omega
theorem tree_len (ns : List EvP) (op : List (List UInt8)) (eat : Bool) : (wEv eat (treeE op ns)).length ≤ 6 * (opB op + 2 * bulkE ns) :=
  Nat.le_trans (writeW_len _ _) (Nat.mul_le_mul_left 6 (tree_bulk ns op))
theorem nodeO_len {op : List (List UInt8)} {n : EvP} (h : n.k.toNat ≤ op.length) (h0 : 0 ≤ n.k) : ((nodeO op n).length : Int) = if n.n = [] ∨ modX n.n = 9 then n.k else n.k + 1 := by
  unfold nodeO
  split
  · rw [List.length_take]; omega
  · rw [List.length_append, List.length_take, List.length_singleton]; omega
theorem shape_next {n : EvP} {r : List EvP} {op : List (List UInt8)} (h : shapeB (op.length : Int) (n :: r) = true) : 0 ≤ n.k ∧ n.k.toNat ≤ op.length ∧ shapeB ((nodeO op n).length : Int) r = true := by
  rw [shape_cons] at h
  split at h
  · cases h
  rename_i h1
  have h0 : 0 ≤ n.k := by omega
  have h2 : n.k.toNat ≤ op.length := by omega
  split at h
  · cases h
  split at h
  · cases h
  rw [nodeO_len h2 h0]
  exact ⟨h0, h2, h⟩
/-- what Serialize writes -/
def serP (ns : List EvP) : List UInt8 := if shapeB 0 ns = true then serL ns else []
/-- the writer at work, and what is left to write -/
structure SerAt (w W0 wr : World) (b : Nat) (ns : List EvP) (R : List UInt8) (eat : Bool) (acc : List UInt8) (op : List (List UInt8)) (ov : Value) (N : Nat) : Prop where
  tw : TwAt (fun _ _ => False) wr w.heap.size b eat acc op ov
  be : Below w.heap.size w wr
  res : acc ++ wEv eat (treeE op ns) = R
  sh : shapeB (op.length : Int) ns = true
  bk : opB op + bulkE ns ≤ N
set_option maxHeartbeats 4000000 in
set_option maxRecDepth 100000 in
theorem serialize_any (v : Value) (ns : List EvP) (m : Int) (w : World) (h : EvsR w v ns) (hs : bulkE ns ≤ 10000000) (hm : w.cell? ⟨4, 0, none⟩ = some (.int .i64 m)) (hK : KindsTab w) :
    Calls Tryz.prog 20 #[v] w fun e w' => e = .returned (.string (bs (serP ns))) ∧ Below w.heap.size w w' := by
  have hsp := shaped_any v ns w h hK
  obtain ⟨p, c, rfl, hlc, hcm, hcell⟩ := h
  have hlen := bulkE_len ns
  have hnl : ns.length ≤ 10000000 := by omega
  obtain ⟨R, hR⟩ : ∃ R, serP ns = R := ⟨_, rfl⟩
  rw [hR]
  unfold serP at hR
  have HSP := hid hsp
  have HR := hid (fun (_ : True) => hR)
  have HC := hid hcell
  have HG := hid (And.intro hm (And.intro hK hs))
  clear hsp hR hcell hm hK hs hlen
  cases hsb : shapeB 0 ns with
  | false =>
    have hr := HR.out trivial
    rw [hsb, if_neg Bool.false_ne_true] at hr
    subst hr
    rw [hsb] at HSP
    clear hsb HR HC HG
    go_enter Tryz.func20, Tryz.ntmps20
    go_wp2_with fail
    refine HSP.out.mono ?_
    rintro e W1 ⟨rfl, hb1⟩
    have HZ := hid hb1
    clear hb1 HSP
    go_wp2_with fail
    go_ret
    exact ⟨rfl, HZ.out⟩
  | true =>
    have hr := HR.out trivial
    rw [hsb, if_pos rfl] at hr
    have hRl : R.length ≤ 12 * bulkE ns := by
      rw [← hr]
      have := tree_len ns [] false
      unfold serL
      have h0 : opB [] = 0 := rfl
      omega
    rw [hsb] at HSP
    have HRR := hid (fun (_ : True) => hr)
    have HSB := hid (fun (_ : True) => hsb)
    have HRL := hid hRl
    clear hsb HR hr hRl
    go_enter Tryz.func20, Tryz.ntmps20
    go_wp2_with fail
    refine HSP.out.mono ?_
    rintro e W1 ⟨rfl, hb1⟩
    go_upto_region 4 with fail
    obtain ⟨W2, hW2⟩ : ∃ W2, W1.alloc (.cells #[.bool false, .pointer none, .slice none 0 0, .slice none 0 0] 103) = W2 := ⟨_, rfl⟩
    have n2 : W2.heap[W1.heap.size]? = some (.cells (twC false (.pointer none) (.slice none 0 0) (.slice none 0 0)) 103 (0, 0)) := by rw [← hW2]; exact heap_alloc_new _ _
    have hb2 : Below W1.heap.size W1 W2 := by rw [← hW2]; exact (Below.refl _ _).alloc (Nat.le_refl _) _
    have hb12 := hb1.trans (hb2.mono hb1.size)
    simp only [hW2]
    clear hW2
    obtain ⟨B, hB⟩ : ∃ B, W1.heap.size = B := ⟨_, rfl⟩
    have hlo : w.heap.size ≤ B := by rw [← hB]; exact hb1.size
    rw [hB] at n2
    simp only [hB]
    have H2 : Hid (SerAt w w W2 B ns R false [] [] (.slice none 0 0) (bulkE ns)) := hid ⟨⟨⟨_, _, ⟨n2, hlo, rfl, rfl, .inl rfl, World.ownsRowF_nil _ _ _ _, by simp [Value.ownBlock]⟩⟩, World.ownsRow_nil _ _ _ _, fun _ _ h => h.elim⟩, hb12, HRR.out trivial, HSB.out trivial, by show 0 + _ ≤ _; omega⟩
    clear hb1 hb2 hb12 n2 hB HSP HRR HSB
    go_wp2_with fail
    go_loopw [11] (fun iv wr => ∃ (k : Nat) (eat : Bool) (acc : List UInt8) (op : List (List UInt8)) (ov : Value), iv = .int .i64 k ∧ k ≤ ns.length ∧ Hid (SerAt w w wr B (ns.drop k) R eat acc op ov (bulkE ns))) (fun iv _ => ns.length - (RowKit.intOf iv).toNat)
    case atStart => exact ⟨0, false, [], [], _, rfl, Nat.zero_le _, H2⟩
    case round =>
      clear H2
      obtain ⟨k, eat, acc, op, ov, rfl, hk, HX⟩ := hrel
      by_cases hkl : k < ns.length
      · obtain ⟨n, hn⟩ : ∃ n, ns[k]? = some n := ⟨_, List.getElem?_eq_getElem hkl⟩
        obtain ⟨b, o, u, rfl, q0, q1, q2, q3, q4⟩ := HC.out k n hn
        obtain ⟨up, uc, rfl⟩ := q4.len
        have hbb := HX.out.be
        have hcl := cell_block q0
        replace q0 := cell_low q0 hbb hcl
        replace q1 := cell_low q1 hbb hcl
        replace q2 := cell_low q2 hbb hcl
        replace q3 := cell_low q3 hbb hcl
        have hx := HX.out
        rw [drop_at hn] at hx
        have hnx := shape_next hx.sh
        obtain ⟨kd, hkd⟩ : ∃ kd : Nat, n.k = (kd : Int) := ⟨n.k.toNat, by omega⟩
        have hkt : n.k.toNat = kd := by rw [hkd]; rfl
        have hbn := hx.bk
        have hbk := bulkE_cons n (ns.drop (k + 1))
        rw [hbk] at hbn
        have hbig := HG.out.2.2
        have hoL := opB_len op
        have hal : (acc ++ wEv eat (closeE kd op ++ [nodeE n])).length ≤ 100000000000 := by
          have h1 := congrArg List.length hx.res
          rw [tree_cons, hkt] at h1
          have h2 := wEv_front (closeE kd op ++ [nodeE n]) eat (treeE (nodeO op n) (ns.drop (k + 1)))
          rw [List.append_assoc, List.singleton_append] at h2
          have h3 := HRL.out
          rw [List.length_append] at h1 ⊢
          omega
        have hb1 := hbb.alloc hbb.size (.cells (evC n (.slice up n.a.length uc)) 38)
        have hadd := addN_any (fun _ _ => False) w w.heap.size B kd eat acc op ov n (.slice up n.a.length uc) m (wr.alloc (.cells (evC n (.slice up n.a.length uc)) 38)) (hx.tw.below ((Below.refl _ _).alloc (Nat.le_refl _) _)) hb1 (Nat.le_refl _) (fun x hx => by have := opB_get hx; omega) HG.out.1 q4 hkd hal (by omega) (by omega) (by omega) HG.out.2.1
        have hfin : ∀ eat' acc', (∀ rest, acc ++ wEv eat (closeE n.k.toNat op ++ nodeE n :: rest) = acc' ++ wEv eat' rest) → acc' ++ wEv eat' (treeE (nodeO op n) (ns.drop (k + 1))) = R := fun eat' acc' h => by
          have h1 := hx.res
          rw [tree_cons] at h1
          rw [← h, h1]
        have hbo : opB (nodeO op n) + bulkE (ns.drop (k + 1)) ≤ bulkE ns := by
          have h1 := nodeO_bulk op n
          have h2 := opB_take op n.k.toNat
          omega
        unfold evC at hadd
        have HA := hid hadd
        have HF := hid (And.intro hfin (And.intro hnx.2.2 hbo))
        clear hadd hfin hbo hal hnx hbn hbk hbig hoL hkd hkt hb1 hx hbb hn q4 HC HX
        go_wp2_with fail
        refine HA.out.mono ?_
        rintro e W3 ⟨rfl, eat', acc', ov', h3, hre, hb3⟩
        have HN : Hid (SerAt w w W3 B (ns.drop (k + 1)) R eat' acc' (nodeO op n) ov' (bulkE ns)) := hid ⟨h3, hb3, HF.out.1 _ _ hre, HF.out.2.1, HF.out.2.2⟩
        clear h3 hre hb3 HA HF q0 q1 q2 q3
        go_wp2_with fail
        go_roundw
        case rel => exact ⟨k + 1, _, _, _, _, rfl, by omega, HN⟩
        case measure => simp [RowKit.intOf]; omega
      · have hx := HX.out
        rw [List.drop_of_length_le (by omega)] at hx
        have hte : treeE op [] = closeE 0 op := rfl
        have hre := hx.res
        rw [hte] at hre
        have hoL := opB_len op
        have hbk := hx.bk
        have hbig := HG.out.2.2
        have hct : Calls Tryz.prog 56 #[.pointer (some ⟨B, 0, none⟩), .int .i64 0] wr fun r w' => r = .returned (.tuple #[]) ∧ CloseOut (fun _ _ => False) w w' w.heap.size B 0 eat acc op := serClose_any (fun _ _ => False) w w.heap.size B 0 eat acc op ov m wr hx.tw hx.be (Nat.le_refl _) (fun x hx => by have := opB_get hx; omega) HG.out.1 (by rw [hre]; have := HRL.out; omega) (by omega) (by omega)
        have HCT := hid hct
        have HRE := hid (fun (_ : True) => hre)
        have z1 : decide ((k : Int) < (ns.length : Int)) = false := decide_eq_false (by omega)
        have z2 : decide (k < ns.length) = false := decide_eq_false hkl
        clear hct hx hte hre hoL hbk hbig HC HX HG
        go_wp2_with fail
        refine HCT.out.mono ?_
        rintro e W3 ⟨rfl, eat', acc', ov', h3, hr3, hb3⟩
        obtain ⟨p', v', hI⟩ := h3.it
        have hacc : acc' = R := by
          have h1 := hr3 []
          rw [List.append_nil, HRE.out trivial, wEv_nil, List.append_nil] at h1
          exact h1.symm
        subst hacc
        have HST := hid (string_any_in w.heap.size B 1 _ _ p' v' acc' W3 hI)
        have HB3 := hid hb3
        clear hb3 hr3 h3 hI HCT HRE
        go_wp2_with (go_at_call 33; refine HST.out.mono ?_; rintro r W4 ⟨rfl, _, b4, _⟩)
        have HY := hid (HB3.out.trans b4)
        clear b4 HB3
        go_ret
        exact ⟨rfl, HY.out⟩
end Go.Proofs.YtcncbhbdpcpkeaaGreatDoor
