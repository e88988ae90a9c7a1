/-
  Parts of the walk, joined: FtJ.
-/
import Derived.Maps.AppendAt
import Derived.Laws.AppendOwnNone
import Derived.Test.YtcncbhbdpcpkeaaGreatDoorPJBG
import Derived.Test.YtcncbhbdpcpkeaaGreatDoorPJBN
import Derived.Test.YtcncbhbdpcpkeaaGreatDoorPJAT
import Derived.Test.YtcncbhbdpcpkeaaGreatDoorPJBP
/-
  The reference's treeEvents: its walk.
-/
namespace Go.Proofs.YtcncbhbdpcpkeaaGreatDoor
open Go.RowKit Go.Lib Own

/-! ## plain: the ends behind a node -/

/-- how deep the node at k stands; behind the last: not at all -/
def nextP (ns : List EvP) (k : Nat) : Nat := match ns[k]? with
  | none => 0
  | some n => n.k.toNat
/-- what is open behind a node -/
def openO (op : List (List UInt8)) (n : EvP) : List (List UInt8) := if n.n = [] ∨ voidL n.n = true then op else op ++ [n.n]
def nodeV (n : EvP) : Ev := if n.n = [] then .text n.t else .start n.n n.a
theorem treeE_cons (op : List (List UInt8)) (n : EvP) (r : List EvP) : treeE op (n :: r) = closeE n.k.toNat op ++ nodeV n :: treeE (openO (op.take n.k.toNat) n) r := by
  show _ ++ _ :: treeE _ r = _
  unfold openO nodeV
  simp only [void_mod, beq_iff_eq]
theorem tree_close (op : List (List UInt8)) (ns : List EvP) (k : Nat) : treeE op (ns.drop k) = closeE (nextP ns k) op ++ treeE (op.take (nextP ns k)) (ns.drop k) := by
  unfold nextP
  cases h : ns[k]? with
  | none =>
    rw [List.drop_of_length_le (List.getElem?_eq_none_iff.1 h)]
    show closeE 0 op = closeE 0 op ++ closeE 0 (op.take 0)
    rw [List.take_zero]
    show _ = _ ++ []
    rw [List.append_nil]
  | some n =>
    rw [drop_at h, treeE_cons, treeE_cons]
    simp only
    rw [closeE_none (op := op.take n.k.toNat) (by rw [List.length_take]; omega), List.take_take, Nat.min_self, List.nil_append]
theorem tree_node {ns : List EvP} {k : Nat} {n : EvP} (h : ns[k]? = some n) (op : List (List UInt8)) : treeE (op.take (nextP ns k)) (ns.drop k) = nodeV n :: treeE (openO (op.take n.k.toNat) n) (ns.drop (k + 1)) := by
  have e : nextP ns k = n.k.toNat := by unfold nextP; rw [h]
  rw [e, drop_at h, treeE_cons, closeE_none (by rw [List.length_take]; omega), List.take_take, Nat.min_self, List.nil_append]
theorem openO_len (op : List (List UInt8)) (n : EvP) : (openO op n).length ≤ op.length + 1 := by
  unfold openO
  split
  · omega
  · rw [List.length_append, List.length_singleton]; omega
theorem shape_open {op : List (List UInt8)} {ns : List EvP} {k : Nat} {n : EvP} (h : shapeB (op.length : Int) (ns.drop k) = true) (he : ns[k]? = some n) : 0 ≤ n.k ∧ n.k.toNat ≤ op.length ∧ shapeB ((openO (op.take n.k.toNat) n).length : Int) (ns.drop (k + 1)) = true := by
  have h1 := shape_drop h he
  split at h1
  · exact absurd h1 (by simp)
  · rename_i hk
    split at h1
    · exact absurd h1 (by simp)
    · split at h1
      · exact absurd h1 (by simp)
      · refine ⟨by omega, by omega, ?_⟩
        have e : ((openO (op.take n.k.toNat) n).length : Int) = if n.n = [] ∨ voidL n.n = true then n.k else n.k + 1 := by
          unfold openO
          split
          · rw [List.length_take]; omega
          · rw [List.length_append, List.length_take, List.length_singleton]; omega
        rw [e]
        exact h1
theorem next_le {op : List (List UInt8)} {ns : List EvP} {k : Nat} (h : shapeB (op.length : Int) (ns.drop k) = true) : nextP ns k ≤ op.length := by
  unfold nextP
  cases he : ns[k]? with
  | none => exact Nat.zero_le _
  | some n => exact (shape_open h he).2.1
theorem tree_lenB : ∀ (ns : List EvP) (op : List (List UInt8)), (treeE op ns).length ≤ op.length + 2 * ns.length
  | [], op => by
    show (closeE 0 op).length ≤ _
    unfold closeE
    simp
  | n :: r, op => by
    rw [treeE_cons, List.length_append, List.length_cons]
    have h1 := tree_lenB r (openO (op.take n.k.toNat) n)
    have h2 : (closeE n.k.toNat op).length = op.length - n.k.toNat := by unfold closeE; simp
    have h3 := openO_len (op.take n.k.toNat) n
    rw [List.length_take] at h3
    rw [List.length_cons]
    omega
theorem bulk_closeJ (op : List (List UInt8)) (k : Nat) : bulkE ((closeE k op).map toP) ≤ opB (op.drop k) := by
  have h : ∀ l : List (List UInt8), bulkE ((l.map Ev.stop).map toP) = opB l := fun l => by
    induction l with
    | nil => rfl
    | cons x l ih =>
      show ((x.length + 0 + 0 + 1) :: _).sum = ((x.length + 1) :: _).sum
      rw [List.sum_cons, List.sum_cons]
      unfold bulkE opB at ih
      rw [ih]
  unfold closeE
  rw [h]
  unfold opB
  rw [List.map_reverse, List.sum_reverse]
  exact Nat.le_refl _
theorem bulkE_app2 (a b : List EvP) : bulkE (a ++ b) = bulkE a + bulkE b := by unfold bulkE; rw [List.map_append, List.sum_append]
theorem bulk_tree : ∀ (ns : List EvP) (op : List (List UInt8)), bulkE ((treeE op ns).map toP) ≤ opB op + 2 * bulkE ns
  | [], op => by
    show bulkE ((closeE 0 op).map toP) ≤ _
    have := bulk_closeJ op 0
    rw [List.drop_zero] at this
    omega
  | n :: r, op => by
    rw [treeE_cons, List.map_append, List.map_cons, bulkE_app2]
    have h1 := bulk_tree r (openO (op.take n.k.toNat) n)
    have h2 := bulk_closeJ op n.k.toNat
    have h3 := opB_take op n.k.toNat
    have h4 : opB (openO (op.take n.k.toNat) n) ≤ opB (op.take n.k.toNat) + (n.n.length + 1) := by
      unfold openO
      split
      · omega
      · rw [opB_app]; exact Nat.le_refl _
    have h5 : bulkE (toP (nodeV n) :: (treeE (openO (op.take n.k.toNat) n) r).map toP) = bulkE [toP (nodeV n)] + bulkE ((treeE (openO (op.take n.k.toNat) n) r).map toP) := bulkE_app2 [_] _
    have h6 : bulkE [toP (nodeV n)] ≤ n.n.length + n.t.length + bulkA n.a + 1 := by
      unfold nodeV
      split
      · show (0 + n.t.length + 0 + 1) + 0 ≤ _; omega
      · show (n.n.length + 0 + bulkA n.a + 1) + 0 ≤ _; omega
    have h7 : bulkE (n :: r) = (n.n.length + n.t.length + bulkA n.a + 1) + bulkE r := by unfold bulkE; rw [List.map_cons, List.sum_cons]
    rw [h5]
    omega

/-! ## the two lists under way -/

structure TrE (w W : World) (ev pv : Value) (prs : List (EvP × Value)) (op : List (List UInt8)) : Prop where
  r1 : W.ownsRow w.heap.size 60 4 ev prs.length (ecells prs)
  r2 : W.ownsRow w.heap.size 9 1 pv op.length (wordsV op)
  at_ : ∀ x ∈ prs, AttrsR w x.2 x.1.a
  be : Below w.heap.size w W
theorem TrE.below {w W W' : World} {ev pv : Value} {prs : List (EvP × Value)} {op : List (List UInt8)} (h : TrE w W ev pv prs op) (hb : Below W.heap.size W W') : TrE w W' ev pv prs op := ⟨row_below h.r1 hb, row_below h.r2 hb, h.at_, h.be.trans (hb.mono h.be.size)⟩
theorem TrE.add {w W w' : World} {ev pv v' : Value} {prs : List (EvP × Value)} {op : List (List UInt8)} {X : Obj} {x : EvP × Value} (h : TrE w W ev pv prs op) (hr : w'.ownsRow w.heap.size 60 4 v' (prs.length + 1) (ecells prs ++ [.int .i64 x.1.k, .string (bs x.1.n), x.2, .string (bs x.1.t)]))
    (hg : (W.alloc X).grownBy w' ev.ownBlock) (ha : AttrsR w x.2 x.1.a) : TrE w w' v' pv (prs ++ [x]) op := by
  refine ⟨?_, (h.r2.alloc X).kept hg (rows_ne (h.r2.alloc X) (h.r1.alloc X) (by decide)), fun y hy => ?_, (h.be.alloc h.be.size X).grown hg (by have := h.be.size; simp; omega) (fun k hk => (h.r1.lt k hk).1)⟩
  · rw [List.length_append, List.length_singleton, ecells_app]
    exact hr
  · rcases List.mem_append.1 hy with hy | hy
    · exact h.at_ y hy
    · rw [List.mem_singleton.1 hy]; exact ha
theorem TrE.push {w W w' : World} {ev pv v' : Value} {prs : List (EvP × Value)} {op : List (List UInt8)} {X : Obj} {x : List UInt8} (h : TrE w W ev pv prs op) (hr : w'.ownsRow w.heap.size 9 1 v' (op.length + 1) (wordsV op ++ [.string (bs x)]))
    (hg : (W.alloc X).grownBy w' pv.ownBlock) : TrE w w' ev v' prs (op ++ [x]) := by
  refine ⟨(h.r1.alloc X).kept hg (rows_ne (h.r1.alloc X) (h.r2.alloc X) (by decide)), ?_, h.at_, (h.be.alloc h.be.size X).grown hg (by have := h.be.size; simp; omega) (fun k hk => (h.r2.lt k hk).1)⟩
  rw [List.length_append, List.length_singleton, wordsV_app]
  exact hr
theorem TrE.cut {w W : World} {ev : Value} {p : Option Addr} {n c k : Nat} {prs : List (EvP × Value)} {op : List (List UInt8)} (h : TrE w W ev (.slice p n c) prs op) (hk : k ≤ op.length) (hn : n = op.length) : TrE w W ev (.slice p k c) prs (op.take k) := by
  subst hn
  refine ⟨h.r1, ?_, h.at_, h.be⟩
  have h1 := row_shorter h.r2 hk
  rw [Nat.mul_one] at h1
  rw [List.length_take, Nat.min_eq_left hk]
  have e : (wordsV op).take k = wordsV (op.take k) := by unfold wordsV; rw [List.map_take]
  rw [← e]
  exact h1
theorem TrE.evs {w W : World} {ev pv : Value} {prs : List (EvP × Value)} {op : List (List UInt8)} (h : TrE w W ev pv prs op) : EvsR W ev (prs.map Prod.fst) := evsR_row h.r1 (fun x hx => (h.at_ x hx).below h.be)
theorem TrE.start (w W : World) (hb : Below w.heap.size w W) : TrE w W (.slice none 0 0) (.slice none 0 0) [] [] := ⟨⟨rfl, .inl ⟨rfl, rfl⟩⟩, ⟨rfl, .inl ⟨rfl, rfl⟩⟩, (fun _ h => absurd h List.not_mem_nil), hb⟩

set_option maxHeartbeats 8000000 in
set_option maxRecDepth 100000 in
theorem treeEvents_any (v : Value) (ns : List EvP) (w : World) (h : EvsR w v ns) (hs : bulkE ns ≤ 4000000) (hsh : shapeB 0 ns = true) :
    Calls Tryz.prog 47 #[v] w fun e w' => ∃ ev, e = .returned ev ∧ EvsR w' ev ((treeE [] ns).map toP) ∧ Below w.heap.size w w' := by
  obtain ⟨p, c, rfl, hlc, hcm, hcell⟩ := h
  have hlen := bulkE_len ns
  have hln : ns.length ≤ 4000000 := by omega
  obtain ⟨i0, hi, hz0, hz1, hz2⟩ := info_parts info_event
  obtain ⟨si, hsi, hs0, hs1, hs2⟩ := info_parts info_str
  have htl := tree_lenB ns []
  obtain ⟨T, hT⟩ : ∃ T, (treeE [] ns).map toP = T := ⟨_, rfl⟩
  have hTl : T.length ≤ 8000000 := by rw [← hT, List.length_map]; simp only [List.length_nil] at htl; omega
  have hst0 : ([] : List (EvP × Value)).map Prod.fst ++ (treeE (([] : List (List UInt8)).take (nextP ns 0)) (ns.drop 0)).map toP = T := by rw [List.take_nil, ← hT]; rfl
  rw [hT]
  have HS0 := hid (And.intro (show shapeB ((([] : List (List UInt8)).length : Nat) : Int) (ns.drop 0) = true from hsh) hst0)
  have HC := hid hcell
  have HTL := hid hTl
  clear hcell htl hT hTl hst0 hsh hs hlen
  go_enter Tryz.func47, Tryz.ntmps47
  go_wp2_with fail
  go_loopw [3, 4, 5] (fun ev pv iv wr => ∃ (k : Nat) (prs : List (EvP × Value)) (op : List (List UInt8)), iv = .int .i64 k ∧ k ≤ ns.length ∧ op.length ≤ k ∧ Hid (TrE w wr ev pv prs op) ∧ Hid (shapeB (op.length : Int) (ns.drop k) = true ∧ prs.map Prod.fst ++ (treeE (op.take (nextP ns k)) (ns.drop k)).map toP = T)) (fun _ _ iv _ => ns.length - (RowKit.intOf iv).toNat)
  case atStart => exact ⟨0, [], [], rfl, Nat.zero_le _, Nat.le_refl _, hid (TrE.start w w (Below.refl _ _)), HS0⟩
  case round =>
    clear HS0
    obtain ⟨k, prs, op, rfl, hk, hok, HX, HD⟩ := hrel
    by_cases hkl : k < ns.length
    · obtain ⟨n, hn⟩ : ∃ n, ns[k]? = some n := ⟨_, List.getElem?_eq_getElem hkl⟩
      obtain ⟨b, o, u, rfl, q0, q1, q2, q3, q4⟩ := HC.out k n hn
      have q4' := q4
      obtain ⟨up, uc, rfl⟩ := q4.len
      have hbb := HX.out.be
      have hlo := cell_block q0
      replace q0 := cell_low q0 hbb hlo
      replace q1 := cell_low q1 hbb hlo
      replace q2 := cell_low q2 hbb hlo
      replace q3 := cell_low q3 hbb hlo
      obtain ⟨s1, s2, s3⟩ := shape_open HD.out.1 hn
      have hnd := HD.out.2
      rw [tree_node hn] at hnd
      obtain ⟨d, hd⟩ : ∃ d : Nat, n.k.toNat = d := ⟨_, rfl⟩
      have hdk : n.k = (d : Int) := by omega
      rw [hd] at s2 s3 hnd
      rw [hdk] at q0
      obtain ⟨pp, pc, rfl⟩ := row_shape HX.out.r2
      obtain ⟨vp, vc, rfl⟩ := row_shape HX.out.r1
      have hcap := (row_cap HX.out.r2).2
      have hcut := HX.out.cut s2 rfl
      obtain ⟨OQ, hOQ⟩ : ∃ O, op.take d = O := ⟨_, rfl⟩
      have hOl : OQ.length = d := by rw [← hOQ, List.length_take]; omega
      rw [hOQ] at hcut s3 hnd
      obtain ⟨OP, hOP⟩ : ∃ O, openO OQ n = O := ⟨_, rfl⟩
      rw [hOP] at s3 hnd
      have hnv : nodeV n = if n.n = [] then .text n.t else .start n.n n.a := rfl
      have hoo : OP = if n.n = [] ∨ voidL n.n = true then OQ else OQ ++ [n.n] := by rw [← hOP]; rfl
      obtain ⟨BN, hBN⟩ : ∃ K, bs n.n = K := ⟨_, rfl⟩
      obtain ⟨BT, hBT⟩ : ∃ K, bs n.t = K := ⟨_, rfl⟩
      obtain ⟨AL, hAL⟩ : ∃ K, n.a.length = K := ⟨_, rfl⟩
      rw [hBN] at q1
      rw [hBT] at q3
      rw [hAL] at q2 q4'
      have eN : BN.toList.isEmpty = decide (n.n = []) := by rw [← hBN, bs_toList, Bool.eq_iff_iff, List.isEmpty_iff, decide_eq_true_iff]
      have hvo := fun W => refVoid_any BN W
      rw [← hBN, bs_toList, hBN] at hvo
      obtain ⟨W1, hW1⟩ : ∃ W1, wr.alloc (.cells #[.int .i64 d, .string BN, .slice up AL uc, .string BT] 38) = W1 := ⟨_, rfl⟩
      have hb1 : Below wr.heap.size wr W1 := by rw [← hW1]; exact (Below.refl wr.heap.size wr).alloc (Nat.le_refl _) _
      have n1 : W1.heap[wr.heap.size]? = some (.cells #[.int .i64 d, .string BN, .slice up AL uc, .string BT] 38 (0, 0)) := by rw [← hW1]; exact heap_alloc_new wr _
      have hX1 := hcut.below hb1
      have d0 : W1.cell? ⟨wr.heap.size, 0, none⟩ = some (.int .i64 d) := cell_at n1 (j := 0) rfl
      have d1 : W1.cell? ⟨wr.heap.size, 1, none⟩ = some (.string BN) := cell_at n1 (j := 1) rfl
      have d2 : W1.cell? ⟨wr.heap.size, 2, none⟩ = some (.slice up AL uc) := cell_at n1 (j := 2) rfl
      have d3 : W1.cell? ⟨wr.heap.size, 3, none⟩ = some (.string BT) := cell_at n1 (j := 3) rfl
      have hown := hX1.r1
      have hbs1 := hX1.be.size
      have hpb : prs.length ≤ 8000000 := by
        have := HTL.out
        rw [← hnd, List.length_append, List.length_map] at this
        omega
      have hcap2 : d ≤ pc := by omega
      have hle : k < c := by omega
      have HX1 := hid (And.intro hX1 n1)
      have HQ4 := hid q4'
      have HD1 := hid (And.intro s3 (And.intro hnd (And.intro hBN (And.intro hBT (And.intro (And.intro hOl (And.intro hok s2)) (And.intro hnv hoo))))))
      have HVO := hid hvo
      clear hbb hlo s3 hnd hcut hOQ hOl hX1 hb1 n1 hBN hBT hAL hvo HX HD hn hd hdk q4 q4' s1 hnv hoo hOP
      go_upto_region 8 with fail
      clear hW1 q0 q1 q2 q3
      by_cases hn0 : n.n = []
      · rw [decide_eq_true hn0] at eN
        have hoq := HD1.out.2.2.2.2.2.2
        rw [if_pos (.inl hn0)] at hoq
        have hnq := HD1.out.2.1
        rw [HD1.out.2.2.2.2.2.1, if_pos hn0] at hnq
        have HQ := hid (And.intro hoq hnq)
        clear hoq hnq hn0
        go_wp2_with (at_builtin; refine wpList_append_own _ rfl (.tmp 26) (.tmp 30) 22 rfl w.heap.size 60 i0 (.agg #[.int .i64 0, .string ⟨#[]⟩, .slice none 0 0, .string ⟨#[]⟩]) 4 64 Tryz.underlying22 hi hz0 hz1 hz2 rfl (by decide) _ _ _ rfl (hown.alloc _) ⟨_, 0, none⟩ 1 1 [.int .i64 3, .string ⟨#[]⟩, .slice none 0 0, .string BT] rfl rfl (cells_newV _ _ _) (by simp [Value.oneCell']) (by unfold maxLen; omega) (by omega) (by simp; omega) ?_)
        intro v3 W3 hown3 hgrow3 _
        have hma := hown.alloc (.cells #[.int .i64 3, .string ⟨#[]⟩, .slice none 0 0, .string BT] 60)
        have hn1 := HX1.out.2
        have hn2 := (Go.Lib.alloc_old W1 (.cells #[.int .i64 3, .string ⟨#[]⟩, .slice none 0 0, .string BT] 60) _ (block_lt hn1)).trans hn1
        have n3 := grown_at hgrow3 hn2 (row_ne hma hn2 (by decide))
        have hX3 := HX1.out.1.add (x := (⟨3, [], [], n.t⟩, .slice none 0 0)) (by rw [show bs ([] : List UInt8) = ⟨#[]⟩ from rfl, HD1.out.2.2.2.1]; exact hown3) hgrow3 (AttrsR.nil w)
        have d1 := cell_at n3 (j := 1) rfl
        obtain ⟨prs3, hprs3⟩ : ∃ q, prs ++ [((⟨3, [], [], n.t⟩, .slice none 0 0) : EvP × Value)] = q := ⟨_, rfl⟩
        rw [hprs3] at hX3
        have hnd3 : prs3.map Prod.fst ++ (treeE OP (ns.drop (k + 1))).map toP = T := by
          rw [← hprs3, List.map_append, List.append_assoc]
          exact HQ.out.2
        rw [← HQ.out.1] at hX3
        obtain ⟨vp3, vc3, rfl⟩ := row_shape hX3.r1
        have hpl : d = OP.length := by rw [HQ.out.1]; exact HD1.out.2.2.2.2.1.1.symm
        have hsh3 := HD1.out.1
        have hOPl : OP.length ≤ OQ.length + 1 := by rw [HD1.out.2.2.2.2.2.2]; split <;> simp
        obtain ⟨pl, hpl2⟩ : ∃ pl, d = pl := ⟨_, rfl⟩
        clear hma hn1 hn2 hprs3 hown3 hgrow3 n3
        go_upto_region 13 with fail
        clear d0 d1 d2 d3
        rw [hpl2] at hX3 hpl
        simp only [hpl2]
        clear hpl2
        obtain ⟨pc3, hpc3⟩ : ∃ q, pc = q := ⟨_, rfl⟩
        rw [hpc3] at hX3
        simp only [hpc3]
        clear hpc3
        have HZ3 := hid (And.intro hX3 hnd3)
        have hnl := next_le hsh3
        have hwk : IntKind.i64.wrap ((k : Int) + 1) = (k : Int) + 1 := by rw [IntKind.wrap_i64]; omega
        have hplb : pl ≤ 5000000 := by obtain ⟨y1, y2, y3⟩ := HD1.out.2.2.2.2.1; have := hOPl; omega
        have hwp : IntKind.i64.wrap ((pl : Int) - 1) = (pl : Int) - 1 := by rw [IntKind.wrap_i64]; omega
        have HSH := hid hsh3
        have hlk : OP.length ≤ k + 1 := by obtain ⟨y1, y2, y3⟩ := HD1.out.2.2.2.2.1; omega
        have HLK := hid hlk
        obtain ⟨cn, hcn⟩ : ∃ cn, nextP ns (k + 1) = cn := ⟨_, rfl⟩
        rw [hcn] at hnl
        have HPL := hid (fun (_ : True) => And.intro hpl (And.intro hcn hnl))
        have hstart : prs3.map Prod.fst ++ (closeE cn (OP.take OP.length) ++ treeE (OP.take cn) (ns.drop (k + 1))).map toP = T := by
          rw [List.take_length, ← hcn, ← tree_close]
          exact hnd3
        have HST := hid hstart
        clear hpl hX3 hnd3 hsh3 hnl hcn hstart hOPl hlk
        by_cases hk1 : k + 1 < ns.length
        case pos =>
          obtain ⟨m, hm⟩ : ∃ m, ns[k + 1]? = some m := ⟨_, List.getElem?_eq_getElem hk1⟩
          obtain ⟨b', o', u', he, r0, _, _, _, _⟩ := HC.out (k + 1) m hm
          cases he
          replace r0 := cell_low r0 HZ3.out.1.be (cell_block r0)
          have hmk : m.k = (cn : Int) := by
            have h1 := (shape_open HSH.out hm).1
            have h2 := (HPL.out trivial).2.1
            unfold nextP at h2
            rw [hm] at h2
            simp only at h2
            omega
          rw [hmk] at r0
          have f1 : decide (k + 1 < ns.length) = true := decide_eq_true hk1
          have f2 : decide ((k : Int) + 1 < (ns.length : Int)) = true := decide_eq_true (by omega)
          have g1 : k + 1 < c := by omega
          have g2 : (k : Int) + 1 < (ns.length : Int) := by omega
          have g3 : (0 : Int) ≤ (k : Int) + 1 := by omega
          have hti : ((k : Int) + 1).toNat = k + 1 := by omega
          clear hm hmk
          go_upto_region 17 with fail
          clear r0 hk1
          go_loopw [3, 8] (fun ev dv w9 => ∃ (e : Nat) (z : Int) (prs9 : List (EvP × Value)), dv = .int .i64 z ∧ e ≤ OP.length ∧ Hid (z = (e : Int) - 1 ∧ cn ≤ e) ∧ Hid (TrE w w9 ev (.slice pp pl pc3) prs9 OP ∧ prs9.map Prod.fst ++ (closeE cn (OP.take e) ++ treeE (OP.take cn) (ns.drop (k + 1))).map toP = T)) (fun _ dv _ => ((RowKit.intOf dv) + 1).toNat)
          case atStart => exact ⟨OP.length, _, prs3, rfl, Nat.le_refl _, hid ⟨by rw [(HPL.out trivial).1], (HPL.out trivial).2.2⟩, hid ⟨HZ3.out.1, HST.out⟩⟩
          case round =>
            clear HST HZ3
            obtain ⟨e, z, prs9, rfl, he, HE, HY⟩ := hrel
            by_cases hce : cn < e
            case pos =>
              obtain ⟨f, rfl⟩ : ∃ f, e = f + 1 := ⟨e - 1, by omega⟩
              have hz : z = (f : Int) := by have := HE.out.1; omega
              subst hz
              obtain ⟨x, hx⟩ : ∃ x, OP[f]? = some x := ⟨_, List.getElem?_eq_getElem (by omega)⟩
              have hwd : Words _ _ OP := Words.row HY.out.1.r2
              obtain ⟨p', c', he', _, _, hcell, _⟩ := hwd
              cases he'
              obtain ⟨b2, o2, rfl, x0⟩ := hcell f x hx
              have hnd := HY.out.2
              rw [closeE_step hx (by omega)] at hnd
              obtain ⟨BX, hBX⟩ : ∃ B, bs x = B := ⟨_, rfl⟩
              rw [hBX] at x0
              obtain ⟨v9p, v9c, rfl⟩ := row_shape HY.out.1.r1
              have hown := HY.out.1.r1
              have hbs9 := HY.out.1.be.size
              have hpb : prs9.length ≤ 8000000 := by
                have := HTL.out
                rw [← hnd, List.length_append, List.length_map] at this
                omega
              have hpll := (HPL.out trivial).1
              have j1 : decide ((f : Int) ≥ (cn : Int)) = true := decide_eq_true (by omega)
              have j2 : decide ((cn : Int) ≤ (f : Int)) = true := decide_eq_true (by omega)
              have j3 : decide (cn ≤ f) = true := decide_eq_true (by omega)
              have j4 : f < OP.length := by omega
              have j5 : IntKind.i64.wrap ((f : Int) - 1) = (f : Int) - 1 := by rw [IntKind.wrap_i64]; omega
              have HY2 := hid (And.intro HY.out.1 (And.intro hnd hBX))
              have hfb : f ≤ OP.length := by omega
              have hcf : cn ≤ f := by omega
              have HF := hid (And.intro hfb hcf)
              clear hpll hx hcell hnd hBX HY HE hce he hfb hcf
              go_wp2_with (at_builtin; refine wpList_append_own _ rfl (.tmp 73) (.tmp 79) 22 rfl w.heap.size 60 i0 (.agg #[.int .i64 0, .string ⟨#[]⟩, .slice none 0 0, .string ⟨#[]⟩]) 4 64 Tryz.underlying22 hi hz0 hz1 hz2 rfl (by decide) _ _ _ rfl (hown.alloc _) ⟨_, 0, none⟩ 1 1 [.int .i64 2, .string BX, .slice none 0 0, .string ⟨#[]⟩] rfl rfl (cells_newV _ _ _) (by simp [Value.oneCell']) (by unfold maxLen; omega) (by omega) (by simp; omega) ?_)
              intro v10 W10 hown10 hgrow10 _
              have hX10 := HY2.out.1.add (x := (⟨2, x, [], []⟩, .slice none 0 0)) (by rw [show bs ([] : List UInt8) = ⟨#[]⟩ from rfl, HY2.out.2.2]; exact hown10) hgrow10 (AttrsR.nil w)
              have hnd10 : (prs9 ++ [((⟨2, x, [], []⟩, .slice none 0 0) : EvP × Value)]).map Prod.fst ++ (closeE cn (OP.take f) ++ treeE (OP.take cn) (ns.drop (k + 1))).map toP = T := by
                rw [List.map_append, List.append_assoc]
                exact HY2.out.2.1
              have HZ := hid (And.intro hX10 hnd10)
              clear hX10 hnd10 hown hown10 hgrow10 hbs9 hpb HY2 x0
              go_wp2_with fail
              go_roundw
              case rel => exact ⟨f, _, _, rfl, HF.out.1, hid ⟨rfl, HF.out.2⟩, HZ⟩
              case measure => first | (simp [RowKit.intOf]; done) | (simp [RowKit.intOf]; omega)
            case neg =>
              have hce2 := HE.out.2
              have hez : e = cn := by omega
              have hz := HE.out.1
              rw [hez] at hz
              have j1 : decide (z ≥ (cn : Int)) = false := decide_eq_false (by omega)
              have j2 : decide ((cn : Int) ≤ z) = false := decide_eq_false (by omega)
              have hnd := HY.out.2
              rw [hez, closeE_none (by rw [List.length_take]; omega), List.nil_append] at hnd
              have hpll := (HPL.out trivial).1
              have HZ := hid (And.intro HSH.out (by rw [(HPL.out trivial).2.1]; exact hnd : prs9.map Prod.fst ++ (treeE (OP.take (nextP ns (k + 1))) (ns.drop (k + 1))).map toP = T))
              have HX9 := hid HY.out.1
              have hlk : OP.length ≤ k + 1 := HLK.out
              clear hce2 hez hz hnd hpll hce HE HY HSH HPL
              go_wp2_with fail
              go_roundw
              case rel => exact ⟨k + 1, prs9, OP, rfl, by omega, hlk, HX9, HZ⟩
              case measure => first | (simp [RowKit.intOf]; done) | (simp [RowKit.intOf]; omega)
        case neg =>
          have hc0 : cn = 0 := by
            have h2 := (HPL.out trivial).2.1
            unfold nextP at h2
            rw [List.getElem?_eq_none_iff.2 (by omega)] at h2
            exact h2.symm
          have f1 : decide (k + 1 < ns.length) = false := decide_eq_false hk1
          have f2 : decide ((k : Int) + 1 < (ns.length : Int)) = false := decide_eq_false (by omega)
          subst hc0
          clear hk1
          go_upto_region 17 with fail
          go_loopw [3, 8] (fun ev dv w9 => ∃ (e : Nat) (z : Int) (prs9 : List (EvP × Value)), dv = .int .i64 z ∧ e ≤ OP.length ∧ Hid (z = (e : Int) - 1 ∧ 0 ≤ e) ∧ Hid (TrE w w9 ev (.slice pp pl pc3) prs9 OP ∧ prs9.map Prod.fst ++ (closeE 0 (OP.take e) ++ treeE (OP.take 0) (ns.drop (k + 1))).map toP = T)) (fun _ dv _ => ((RowKit.intOf dv) + 1).toNat)
          case atStart => exact ⟨OP.length, _, prs3, rfl, Nat.le_refl _, hid ⟨by rw [(HPL.out trivial).1], (HPL.out trivial).2.2⟩, hid ⟨HZ3.out.1, HST.out⟩⟩
          case round =>
            clear HST HZ3
            obtain ⟨e, z, prs9, rfl, he, HE, HY⟩ := hrel
            by_cases hce : 0 < e
            case pos =>
              obtain ⟨f, rfl⟩ : ∃ f, e = f + 1 := ⟨e - 1, by omega⟩
              have hz : z = (f : Int) := by have := HE.out.1; omega
              subst hz
              obtain ⟨x, hx⟩ : ∃ x, OP[f]? = some x := ⟨_, List.getElem?_eq_getElem (by omega)⟩
              have hwd : Words _ _ OP := Words.row HY.out.1.r2
              obtain ⟨p', c', he', _, _, hcell, _⟩ := hwd
              cases he'
              obtain ⟨b2, o2, rfl, x0⟩ := hcell f x hx
              have hnd := HY.out.2
              rw [closeE_step hx (by omega)] at hnd
              obtain ⟨BX, hBX⟩ : ∃ B, bs x = B := ⟨_, rfl⟩
              rw [hBX] at x0
              obtain ⟨v9p, v9c, rfl⟩ := row_shape HY.out.1.r1
              have hown := HY.out.1.r1
              have hbs9 := HY.out.1.be.size
              have hpb : prs9.length ≤ 8000000 := by
                have := HTL.out
                rw [← hnd, List.length_append, List.length_map] at this
                omega
              have hpll := (HPL.out trivial).1
              have j1 : decide ((f : Int) ≥ (0 : Int)) = true := decide_eq_true (by omega)
              have j2 : decide ((0 : Int) ≤ (f : Int)) = true := decide_eq_true (by omega)
              have j3 : decide (0 ≤ f) = true := decide_eq_true (by omega)
              have j4 : f < OP.length := by omega
              have j5 : IntKind.i64.wrap ((f : Int) - 1) = (f : Int) - 1 := by rw [IntKind.wrap_i64]; omega
              have HY2 := hid (And.intro HY.out.1 (And.intro hnd hBX))
              have hfb : f ≤ OP.length := by omega
              have hcf : 0 ≤ f := by omega
              have HF := hid (And.intro hfb hcf)
              clear hpll hx hcell hnd hBX HY HE hce he hfb hcf
              go_wp2_with (at_builtin; refine wpList_append_own _ rfl (.tmp 73) (.tmp 79) 22 rfl w.heap.size 60 i0 (.agg #[.int .i64 0, .string ⟨#[]⟩, .slice none 0 0, .string ⟨#[]⟩]) 4 64 Tryz.underlying22 hi hz0 hz1 hz2 rfl (by decide) _ _ _ rfl (hown.alloc _) ⟨_, 0, none⟩ 1 1 [.int .i64 2, .string BX, .slice none 0 0, .string ⟨#[]⟩] rfl rfl (cells_newV _ _ _) (by simp [Value.oneCell']) (by unfold maxLen; omega) (by omega) (by simp; omega) ?_)
              intro v10 W10 hown10 hgrow10 _
              have hX10 := HY2.out.1.add (x := (⟨2, x, [], []⟩, .slice none 0 0)) (by rw [show bs ([] : List UInt8) = ⟨#[]⟩ from rfl, HY2.out.2.2]; exact hown10) hgrow10 (AttrsR.nil w)
              have hnd10 : (prs9 ++ [((⟨2, x, [], []⟩, .slice none 0 0) : EvP × Value)]).map Prod.fst ++ (closeE 0 (OP.take f) ++ treeE (OP.take 0) (ns.drop (k + 1))).map toP = T := by
                rw [List.map_append, List.append_assoc]
                exact HY2.out.2.1
              have HZ := hid (And.intro hX10 hnd10)
              clear hX10 hnd10 hown hown10 hgrow10 hbs9 hpb HY2 x0
              go_wp2_with fail
              go_roundw
              case rel => exact ⟨f, _, _, rfl, HF.out.1, hid ⟨rfl, HF.out.2⟩, HZ⟩
              case measure => first | (simp [RowKit.intOf]; done) | (simp [RowKit.intOf]; omega)
            case neg =>
              have hce2 := HE.out.2
              have hez : e = 0 := by omega
              have hz := HE.out.1
              rw [hez] at hz
              have j1 : decide (z ≥ (0 : Int)) = false := decide_eq_false (by omega)
              have j2 : decide ((0 : Int) ≤ z) = false := decide_eq_false (by omega)
              have hnd := HY.out.2
              rw [hez, closeE_none (by rw [List.length_take]; omega), List.nil_append] at hnd
              have hpll := (HPL.out trivial).1
              have HZ := hid (And.intro HSH.out (by rw [(HPL.out trivial).2.1]; exact hnd : prs9.map Prod.fst ++ (treeE (OP.take (nextP ns (k + 1))) (ns.drop (k + 1))).map toP = T))
              have HX9 := hid HY.out.1
              have hlk : OP.length ≤ k + 1 := HLK.out
              clear hce2 hez hz hnd hpll hce HE HY HSH HPL
              go_wp2_with fail
              go_roundw
              case rel => exact ⟨k + 1, prs9, OP, rfl, by omega, hlk, HX9, HZ⟩
              case measure => first | (simp [RowKit.intOf]; done) | (simp [RowKit.intOf]; omega)
      · rw [decide_eq_false hn0] at eN
        have hoq := HD1.out.2.2.2.2.2.2
        have hnq := HD1.out.2.1
        rw [HD1.out.2.2.2.2.2.1, if_neg hn0] at hnq
        go_wp2_with (at_builtin; refine wpList_append_own _ rfl (.tmp 32) (.tmp 38) 22 rfl w.heap.size 60 i0 (.agg #[.int .i64 0, .string ⟨#[]⟩, .slice none 0 0, .string ⟨#[]⟩]) 4 64 Tryz.underlying22 hi hz0 hz1 hz2 rfl (by decide) _ _ _ rfl (hown.alloc _) ⟨_, 0, none⟩ 1 1 [.int .i64 1, .string BN, .slice up AL uc, .string ⟨#[]⟩] rfl rfl (cells_newV _ _ _) (by simp [Value.oneCell']) (by unfold maxLen; omega) (by omega) (by simp; omega) ?_)
        intro v3 W3 hown3 hgrow3 _
        have hma := hown.alloc (.cells #[.int .i64 1, .string BN, .slice up AL uc, .string ⟨#[]⟩] 60)
        have hn1 := HX1.out.2
        have hn2 := (Go.Lib.alloc_old W1 (.cells #[.int .i64 1, .string BN, .slice up AL uc, .string ⟨#[]⟩] 60) _ (block_lt hn1)).trans hn1
        have n3 := grown_at hgrow3 hn2 (row_ne hma hn2 (by decide))
        have hX3 := HX1.out.1.add (x := (⟨1, n.n, n.a, []⟩, .slice up AL uc)) (by rw [show bs ([] : List UInt8) = ⟨#[]⟩ from rfl, HD1.out.2.2.1]; exact hown3) hgrow3 HQ4.out
        have d1 := cell_at n3 (j := 1) rfl
        obtain ⟨prs3, hprs3⟩ : ∃ q, prs ++ [((⟨1, n.n, n.a, []⟩, .slice up AL uc) : EvP × Value)] = q := ⟨_, rfl⟩
        rw [hprs3] at hX3
        have hnd3 : prs3.map Prod.fst ++ (treeE OP (ns.drop (k + 1))).map toP = T := by
          rw [← hprs3, List.map_append, List.append_assoc]
          exact hnq
        obtain ⟨vp3, vc3, rfl⟩ := row_shape hX3.r1
        have hsh3 := HD1.out.1
        have hOPl : OP.length ≤ OQ.length + 1 := by rw [HD1.out.2.2.2.2.2.2]; split <;> simp
        have HX3 := hid (And.intro hX3 hnd3)
        clear hma hn1 hn2 hprs3 hown3 hgrow3 n3 hX3 hnd3 hnq hown
        obtain ⟨VD, hVD⟩ : ∃ V, voidL n.n = V := ⟨_, rfl⟩
        rw [hVD] at hoq HVO
        have HNE := hid hn0
        clear hn0 hVD
        go_upto_region 11 with fail
        clear d0 d2 d3
        go_wp2_with fail
        refine (HVO.out _).mono ?_
        rintro r W5 ⟨rfl, rfl⟩
        cases VD with
        | true =>
          rw [if_pos (.inr rfl)] at hoq
          have hX3 := HX3.out.1
          have hnd3 := HX3.out.2
          rw [← hoq] at hX3
          have HPL0 := hid (show d = OP.length by rw [hoq]; exact HD1.out.2.2.2.2.1.1.symm)
          have HX3b := hid (And.intro hX3 hnd3)
          clear hoq HX3 hX3 hnd3
          go_upto_region 13 with fail
          clear d1
          have hX3 := HX3b.out.1
          have hnd3 := HX3b.out.2
          have hpl := HPL0.out
          obtain ⟨pl, hpl2⟩ : ∃ pl, d = pl := ⟨_, rfl⟩
          clear HX3b HPL0
          rw [hpl2] at hX3 hpl
          (try simp only [hpl2])
          clear hpl2
          obtain ⟨pc3, hpc3⟩ : ∃ q, pc = q := ⟨_, rfl⟩
          rw [hpc3] at hX3
          (try simp only [hpc3])
          clear hpc3
          have HZ3 := hid (And.intro hX3 hnd3)
          have hnl := next_le hsh3
          have hwk : IntKind.i64.wrap ((k : Int) + 1) = (k : Int) + 1 := by rw [IntKind.wrap_i64]; omega
          have hplb : pl ≤ 5000000 := by obtain ⟨y1, y2, y3⟩ := HD1.out.2.2.2.2.1; have := hOPl; omega
          have hwp : IntKind.i64.wrap ((pl : Int) - 1) = (pl : Int) - 1 := by rw [IntKind.wrap_i64]; omega
          have HSH := hid hsh3
          have hlk : OP.length ≤ k + 1 := by obtain ⟨y1, y2, y3⟩ := HD1.out.2.2.2.2.1; omega
          have HLK := hid hlk
          obtain ⟨cn, hcn⟩ : ∃ cn, nextP ns (k + 1) = cn := ⟨_, rfl⟩
          rw [hcn] at hnl
          have HPL := hid (fun (_ : True) => And.intro hpl (And.intro hcn hnl))
          have hstart : prs3.map Prod.fst ++ (closeE cn (OP.take OP.length) ++ treeE (OP.take cn) (ns.drop (k + 1))).map toP = T := by
            rw [List.take_length, ← hcn, ← tree_close]
            exact hnd3
          have HST := hid hstart
          clear hpl hX3 hnd3 hsh3 hnl hcn hstart hOPl hlk
          by_cases hk1 : k + 1 < ns.length
          case pos =>
            obtain ⟨m, hm⟩ : ∃ m, ns[k + 1]? = some m := ⟨_, List.getElem?_eq_getElem hk1⟩
            obtain ⟨b', o', u', he, r0, _, _, _, _⟩ := HC.out (k + 1) m hm
            cases he
            replace r0 := cell_low r0 HZ3.out.1.be (cell_block r0)
            have hmk : m.k = (cn : Int) := by
              have h1 := (shape_open HSH.out hm).1
              have h2 := (HPL.out trivial).2.1
              unfold nextP at h2
              rw [hm] at h2
              simp only at h2
              omega
            rw [hmk] at r0
            have f1 : decide (k + 1 < ns.length) = true := decide_eq_true hk1
            have f2 : decide ((k : Int) + 1 < (ns.length : Int)) = true := decide_eq_true (by omega)
            have g1 : k + 1 < c := by omega
            have g2 : (k : Int) + 1 < (ns.length : Int) := by omega
            have g3 : (0 : Int) ≤ (k : Int) + 1 := by omega
            have hti : ((k : Int) + 1).toNat = k + 1 := by omega
            clear hm hmk
            go_upto_region 17 with fail
            clear r0 hk1
            go_loopw [3, 8] (fun ev dv w9 => ∃ (e : Nat) (z : Int) (prs9 : List (EvP × Value)), dv = .int .i64 z ∧ e ≤ OP.length ∧ Hid (z = (e : Int) - 1 ∧ cn ≤ e) ∧ Hid (TrE w w9 ev (.slice pp pl pc3) prs9 OP ∧ prs9.map Prod.fst ++ (closeE cn (OP.take e) ++ treeE (OP.take cn) (ns.drop (k + 1))).map toP = T)) (fun _ dv _ => ((RowKit.intOf dv) + 1).toNat)
            case atStart => exact ⟨OP.length, _, prs3, rfl, Nat.le_refl _, hid ⟨by rw [(HPL.out trivial).1], (HPL.out trivial).2.2⟩, hid ⟨HZ3.out.1, HST.out⟩⟩
            case round =>
              clear HST HZ3
              obtain ⟨e, z, prs9, rfl, he, HE, HY⟩ := hrel
              by_cases hce : cn < e
              case pos =>
                obtain ⟨f, rfl⟩ : ∃ f, e = f + 1 := ⟨e - 1, by omega⟩
                have hz : z = (f : Int) := by have := HE.out.1; omega
                subst hz
                obtain ⟨x, hx⟩ : ∃ x, OP[f]? = some x := ⟨_, List.getElem?_eq_getElem (by omega)⟩
                have hwd : Words _ _ OP := Words.row HY.out.1.r2
                obtain ⟨p', c', he', _, _, hcell, _⟩ := hwd
                cases he'
                obtain ⟨b2, o2, rfl, x0⟩ := hcell f x hx
                have hnd := HY.out.2
                rw [closeE_step hx (by omega)] at hnd
                obtain ⟨BX, hBX⟩ : ∃ B, bs x = B := ⟨_, rfl⟩
                rw [hBX] at x0
                obtain ⟨v9p, v9c, rfl⟩ := row_shape HY.out.1.r1
                have hown := HY.out.1.r1
                have hbs9 := HY.out.1.be.size
                have hpb : prs9.length ≤ 8000000 := by
                  have := HTL.out
                  rw [← hnd, List.length_append, List.length_map] at this
                  omega
                have hpll := (HPL.out trivial).1
                have j1 : decide ((f : Int) ≥ (cn : Int)) = true := decide_eq_true (by omega)
                have j2 : decide ((cn : Int) ≤ (f : Int)) = true := decide_eq_true (by omega)
                have j3 : decide (cn ≤ f) = true := decide_eq_true (by omega)
                have j4 : f < OP.length := by omega
                have j5 : IntKind.i64.wrap ((f : Int) - 1) = (f : Int) - 1 := by rw [IntKind.wrap_i64]; omega
                have HY2 := hid (And.intro HY.out.1 (And.intro hnd hBX))
                have hfb : f ≤ OP.length := by omega
                have hcf : cn ≤ f := by omega
                have HF := hid (And.intro hfb hcf)
                clear hpll hx hcell hnd hBX HY HE hce he hfb hcf
                go_wp2_with (at_builtin; refine wpList_append_own _ rfl (.tmp 73) (.tmp 79) 22 rfl w.heap.size 60 i0 (.agg #[.int .i64 0, .string ⟨#[]⟩, .slice none 0 0, .string ⟨#[]⟩]) 4 64 Tryz.underlying22 hi hz0 hz1 hz2 rfl (by decide) _ _ _ rfl (hown.alloc _) ⟨_, 0, none⟩ 1 1 [.int .i64 2, .string BX, .slice none 0 0, .string ⟨#[]⟩] rfl rfl (cells_newV _ _ _) (by simp [Value.oneCell']) (by unfold maxLen; omega) (by omega) (by simp; omega) ?_)
                intro v10 W10 hown10 hgrow10 _
                have hX10 := HY2.out.1.add (x := (⟨2, x, [], []⟩, .slice none 0 0)) (by rw [show bs ([] : List UInt8) = ⟨#[]⟩ from rfl, HY2.out.2.2]; exact hown10) hgrow10 (AttrsR.nil w)
                have hnd10 : (prs9 ++ [((⟨2, x, [], []⟩, .slice none 0 0) : EvP × Value)]).map Prod.fst ++ (closeE cn (OP.take f) ++ treeE (OP.take cn) (ns.drop (k + 1))).map toP = T := by
                  rw [List.map_append, List.append_assoc]
                  exact HY2.out.2.1
                have HZ := hid (And.intro hX10 hnd10)
                clear hX10 hnd10 hown hown10 hgrow10 hbs9 hpb HY2 x0
                go_wp2_with fail
                go_roundw
                case rel => exact ⟨f, _, _, rfl, HF.out.1, hid ⟨rfl, HF.out.2⟩, HZ⟩
                case measure => first | (simp [RowKit.intOf]; done) | (simp [RowKit.intOf]; omega)
              case neg =>
                have hce2 := HE.out.2
                have hez : e = cn := by omega
                have hz := HE.out.1
                rw [hez] at hz
                have j1 : decide (z ≥ (cn : Int)) = false := decide_eq_false (by omega)
                have j2 : decide ((cn : Int) ≤ z) = false := decide_eq_false (by omega)
                have hnd := HY.out.2
                rw [hez, closeE_none (by rw [List.length_take]; omega), List.nil_append] at hnd
                have hpll := (HPL.out trivial).1
                have HZ := hid (And.intro HSH.out (by rw [(HPL.out trivial).2.1]; exact hnd : prs9.map Prod.fst ++ (treeE (OP.take (nextP ns (k + 1))) (ns.drop (k + 1))).map toP = T))
                have HX9 := hid HY.out.1
                have hlk : OP.length ≤ k + 1 := HLK.out
                clear hce2 hez hz hnd hpll hce HE HY HSH HPL
                go_wp2_with fail
                go_roundw
                case rel => exact ⟨k + 1, prs9, OP, rfl, by omega, hlk, HX9, HZ⟩
                case measure => first | (simp [RowKit.intOf]; done) | (simp [RowKit.intOf]; omega)
          case neg =>
            have hc0 : cn = 0 := by
              have h2 := (HPL.out trivial).2.1
              unfold nextP at h2
              rw [List.getElem?_eq_none_iff.2 (by omega)] at h2
              exact h2.symm
            have f1 : decide (k + 1 < ns.length) = false := decide_eq_false hk1
            have f2 : decide ((k : Int) + 1 < (ns.length : Int)) = false := decide_eq_false (by omega)
            subst hc0
            clear hk1
            go_upto_region 17 with fail
            go_loopw [3, 8] (fun ev dv w9 => ∃ (e : Nat) (z : Int) (prs9 : List (EvP × Value)), dv = .int .i64 z ∧ e ≤ OP.length ∧ Hid (z = (e : Int) - 1 ∧ 0 ≤ e) ∧ Hid (TrE w w9 ev (.slice pp pl pc3) prs9 OP ∧ prs9.map Prod.fst ++ (closeE 0 (OP.take e) ++ treeE (OP.take 0) (ns.drop (k + 1))).map toP = T)) (fun _ dv _ => ((RowKit.intOf dv) + 1).toNat)
            case atStart => exact ⟨OP.length, _, prs3, rfl, Nat.le_refl _, hid ⟨by rw [(HPL.out trivial).1], (HPL.out trivial).2.2⟩, hid ⟨HZ3.out.1, HST.out⟩⟩
            case round =>
              clear HST HZ3
              obtain ⟨e, z, prs9, rfl, he, HE, HY⟩ := hrel
              by_cases hce : 0 < e
              case pos =>
                obtain ⟨f, rfl⟩ : ∃ f, e = f + 1 := ⟨e - 1, by omega⟩
                have hz : z = (f : Int) := by have := HE.out.1; omega
                subst hz
                obtain ⟨x, hx⟩ : ∃ x, OP[f]? = some x := ⟨_, List.getElem?_eq_getElem (by omega)⟩
                have hwd : Words _ _ OP := Words.row HY.out.1.r2
                obtain ⟨p', c', he', _, _, hcell, _⟩ := hwd
                cases he'
                obtain ⟨b2, o2, rfl, x0⟩ := hcell f x hx
                have hnd := HY.out.2
                rw [closeE_step hx (by omega)] at hnd
                obtain ⟨BX, hBX⟩ : ∃ B, bs x = B := ⟨_, rfl⟩
                rw [hBX] at x0
                obtain ⟨v9p, v9c, rfl⟩ := row_shape HY.out.1.r1
                have hown := HY.out.1.r1
                have hbs9 := HY.out.1.be.size
                have hpb : prs9.length ≤ 8000000 := by
                  have := HTL.out
                  rw [← hnd, List.length_append, List.length_map] at this
                  omega
                have hpll := (HPL.out trivial).1
                have j1 : decide ((f : Int) ≥ (0 : Int)) = true := decide_eq_true (by omega)
                have j2 : decide ((0 : Int) ≤ (f : Int)) = true := decide_eq_true (by omega)
                have j3 : decide (0 ≤ f) = true := decide_eq_true (by omega)
                have j4 : f < OP.length := by omega
                have j5 : IntKind.i64.wrap ((f : Int) - 1) = (f : Int) - 1 := by rw [IntKind.wrap_i64]; omega
                have HY2 := hid (And.intro HY.out.1 (And.intro hnd hBX))
                have hfb : f ≤ OP.length := by omega
                have hcf : 0 ≤ f := by omega
                have HF := hid (And.intro hfb hcf)
                clear hpll hx hcell hnd hBX HY HE hce he hfb hcf
                go_wp2_with (at_builtin; refine wpList_append_own _ rfl (.tmp 73) (.tmp 79) 22 rfl w.heap.size 60 i0 (.agg #[.int .i64 0, .string ⟨#[]⟩, .slice none 0 0, .string ⟨#[]⟩]) 4 64 Tryz.underlying22 hi hz0 hz1 hz2 rfl (by decide) _ _ _ rfl (hown.alloc _) ⟨_, 0, none⟩ 1 1 [.int .i64 2, .string BX, .slice none 0 0, .string ⟨#[]⟩] rfl rfl (cells_newV _ _ _) (by simp [Value.oneCell']) (by unfold maxLen; omega) (by omega) (by simp; omega) ?_)
                intro v10 W10 hown10 hgrow10 _
                have hX10 := HY2.out.1.add (x := (⟨2, x, [], []⟩, .slice none 0 0)) (by rw [show bs ([] : List UInt8) = ⟨#[]⟩ from rfl, HY2.out.2.2]; exact hown10) hgrow10 (AttrsR.nil w)
                have hnd10 : (prs9 ++ [((⟨2, x, [], []⟩, .slice none 0 0) : EvP × Value)]).map Prod.fst ++ (closeE 0 (OP.take f) ++ treeE (OP.take 0) (ns.drop (k + 1))).map toP = T := by
                  rw [List.map_append, List.append_assoc]
                  exact HY2.out.2.1
                have HZ := hid (And.intro hX10 hnd10)
                clear hX10 hnd10 hown hown10 hgrow10 hbs9 hpb HY2 x0
                go_wp2_with fail
                go_roundw
                case rel => exact ⟨f, _, _, rfl, HF.out.1, hid ⟨rfl, HF.out.2⟩, HZ⟩
                case measure => first | (simp [RowKit.intOf]; done) | (simp [RowKit.intOf]; omega)
              case neg =>
                have hce2 := HE.out.2
                have hez : e = 0 := by omega
                have hz := HE.out.1
                rw [hez] at hz
                have j1 : decide (z ≥ (0 : Int)) = false := decide_eq_false (by omega)
                have j2 : decide ((0 : Int) ≤ z) = false := decide_eq_false (by omega)
                have hnd := HY.out.2
                rw [hez, closeE_none (by rw [List.length_take]; omega), List.nil_append] at hnd
                have hpll := (HPL.out trivial).1
                have HZ := hid (And.intro HSH.out (by rw [(HPL.out trivial).2.1]; exact hnd : prs9.map Prod.fst ++ (treeE (OP.take (nextP ns (k + 1))) (ns.drop (k + 1))).map toP = T))
                have HX9 := hid HY.out.1
                have hlk : OP.length ≤ k + 1 := HLK.out
                clear hce2 hez hz hnd hpll hce HE HY HSH HPL
                go_wp2_with fail
                go_roundw
                case rel => exact ⟨k + 1, prs9, OP, rfl, by omega, hlk, HX9, HZ⟩
                case measure => first | (simp [RowKit.intOf]; done) | (simp [RowKit.intOf]; omega)
        | false =>
          rw [if_neg (fun h => h.elim HNE.out (fun h => by cases h))] at hoq
          have hown := HX3.out.1.r2
          have hbs1 := HX3.out.1.be.size
          have hOl := HD1.out.2.2.2.2.1.1
          have hokk := HD1.out.2.2.2.2.1
          have HOQ := hid hoq
          clear hoq
          go_wp2_with (at_builtin; refine wpList_append_own _ rfl (.tmp 49) (.tmp 52) 41 rfl w.heap.size 9 si (.string ⟨#[]⟩) 1 16 Tryz.underlying41 hsi hs0 hs1 hs2 rfl (by decide) _ _ _ rfl (hown.alloc _) ⟨_, 0, none⟩ 1 1 [.string BN] rfl rfl (cells_newV _ _ _) (by simp [Value.oneCell']) (by unfold maxLen; omega) (by omega) (by simp; omega) ?_)
          intro v4 W4 hown4 hgrow4 _
          have hX3 := HX3.out.1.push (x := n.n) (by rw [HD1.out.2.2.1, hOl]; exact hown4) hgrow4
          rw [← HOQ.out] at hX3
          have hnd3 := HX3.out.2
          obtain ⟨pp3, pc3, rfl⟩ := row_shape hX3.r2
          obtain ⟨pl, hpl2⟩ : ∃ pl, OP.length = pl := ⟨_, rfl⟩
          have hpl : pl = OP.length := hpl2.symm
          clear hown hown4 hgrow4 HX3 hokk hOl
          go_upto_region 13 with fail
          clear d1
          rw [hpl2] at hX3
          (try simp only [hpl2])
          clear hpl2
          have HZ3 := hid (And.intro hX3 hnd3)
          have hnl := next_le hsh3
          have hwk : IntKind.i64.wrap ((k : Int) + 1) = (k : Int) + 1 := by rw [IntKind.wrap_i64]; omega
          have hplb : pl ≤ 5000000 := by obtain ⟨y1, y2, y3⟩ := HD1.out.2.2.2.2.1; have := hOPl; omega
          have hwp : IntKind.i64.wrap ((pl : Int) - 1) = (pl : Int) - 1 := by rw [IntKind.wrap_i64]; omega
          have HSH := hid hsh3
          have hlk : OP.length ≤ k + 1 := by obtain ⟨y1, y2, y3⟩ := HD1.out.2.2.2.2.1; omega
          have HLK := hid hlk
          obtain ⟨cn, hcn⟩ : ∃ cn, nextP ns (k + 1) = cn := ⟨_, rfl⟩
          rw [hcn] at hnl
          have HPL := hid (fun (_ : True) => And.intro hpl (And.intro hcn hnl))
          have hstart : prs3.map Prod.fst ++ (closeE cn (OP.take OP.length) ++ treeE (OP.take cn) (ns.drop (k + 1))).map toP = T := by
            rw [List.take_length, ← hcn, ← tree_close]
            exact hnd3
          have HST := hid hstart
          clear hpl hX3 hnd3 hsh3 hnl hcn hstart hOPl hlk
          by_cases hk1 : k + 1 < ns.length
          case pos =>
            obtain ⟨m, hm⟩ : ∃ m, ns[k + 1]? = some m := ⟨_, List.getElem?_eq_getElem hk1⟩
            obtain ⟨b', o', u', he, r0, _, _, _, _⟩ := HC.out (k + 1) m hm
            cases he
            replace r0 := cell_low r0 HZ3.out.1.be (cell_block r0)
            have hmk : m.k = (cn : Int) := by
              have h1 := (shape_open HSH.out hm).1
              have h2 := (HPL.out trivial).2.1
              unfold nextP at h2
              rw [hm] at h2
              simp only at h2
              omega
            rw [hmk] at r0
            have f1 : decide (k + 1 < ns.length) = true := decide_eq_true hk1
            have f2 : decide ((k : Int) + 1 < (ns.length : Int)) = true := decide_eq_true (by omega)
            have g1 : k + 1 < c := by omega
            have g2 : (k : Int) + 1 < (ns.length : Int) := by omega
            have g3 : (0 : Int) ≤ (k : Int) + 1 := by omega
            have hti : ((k : Int) + 1).toNat = k + 1 := by omega
            clear hm hmk
            go_upto_region 17 with fail
            clear r0 hk1
            go_loopw [3, 8] (fun ev dv w9 => ∃ (e : Nat) (z : Int) (prs9 : List (EvP × Value)), dv = .int .i64 z ∧ e ≤ OP.length ∧ Hid (z = (e : Int) - 1 ∧ cn ≤ e) ∧ Hid (TrE w w9 ev (.slice pp3 pl pc3) prs9 OP ∧ prs9.map Prod.fst ++ (closeE cn (OP.take e) ++ treeE (OP.take cn) (ns.drop (k + 1))).map toP = T)) (fun _ dv _ => ((RowKit.intOf dv) + 1).toNat)
            case atStart => exact ⟨OP.length, _, prs3, rfl, Nat.le_refl _, hid ⟨by rw [(HPL.out trivial).1], (HPL.out trivial).2.2⟩, hid ⟨HZ3.out.1, HST.out⟩⟩
            case round =>
              clear HST HZ3
              obtain ⟨e, z, prs9, rfl, he, HE, HY⟩ := hrel
              by_cases hce : cn < e
              case pos =>
                obtain ⟨f, rfl⟩ : ∃ f, e = f + 1 := ⟨e - 1, by omega⟩
                have hz : z = (f : Int) := by have := HE.out.1; omega
                subst hz
                obtain ⟨x, hx⟩ : ∃ x, OP[f]? = some x := ⟨_, List.getElem?_eq_getElem (by omega)⟩
                have hwd : Words _ _ OP := Words.row HY.out.1.r2
                obtain ⟨p', c', he', _, _, hcell, _⟩ := hwd
                cases he'
                obtain ⟨b2, o2, rfl, x0⟩ := hcell f x hx
                have hnd := HY.out.2
                rw [closeE_step hx (by omega)] at hnd
                obtain ⟨BX, hBX⟩ : ∃ B, bs x = B := ⟨_, rfl⟩
                rw [hBX] at x0
                obtain ⟨v9p, v9c, rfl⟩ := row_shape HY.out.1.r1
                have hown := HY.out.1.r1
                have hbs9 := HY.out.1.be.size
                have hpb : prs9.length ≤ 8000000 := by
                  have := HTL.out
                  rw [← hnd, List.length_append, List.length_map] at this
                  omega
                have hpll := (HPL.out trivial).1
                have j1 : decide ((f : Int) ≥ (cn : Int)) = true := decide_eq_true (by omega)
                have j2 : decide ((cn : Int) ≤ (f : Int)) = true := decide_eq_true (by omega)
                have j3 : decide (cn ≤ f) = true := decide_eq_true (by omega)
                have j4 : f < OP.length := by omega
                have j5 : IntKind.i64.wrap ((f : Int) - 1) = (f : Int) - 1 := by rw [IntKind.wrap_i64]; omega
                have HY2 := hid (And.intro HY.out.1 (And.intro hnd hBX))
                have hfb : f ≤ OP.length := by omega
                have hcf : cn ≤ f := by omega
                have HF := hid (And.intro hfb hcf)
                clear hpll hx hcell hnd hBX HY HE hce he hfb hcf
                go_wp2_with (at_builtin; refine wpList_append_own _ rfl (.tmp 73) (.tmp 79) 22 rfl w.heap.size 60 i0 (.agg #[.int .i64 0, .string ⟨#[]⟩, .slice none 0 0, .string ⟨#[]⟩]) 4 64 Tryz.underlying22 hi hz0 hz1 hz2 rfl (by decide) _ _ _ rfl (hown.alloc _) ⟨_, 0, none⟩ 1 1 [.int .i64 2, .string BX, .slice none 0 0, .string ⟨#[]⟩] rfl rfl (cells_newV _ _ _) (by simp [Value.oneCell']) (by unfold maxLen; omega) (by omega) (by simp; omega) ?_)
                intro v10 W10 hown10 hgrow10 _
                have hX10 := HY2.out.1.add (x := (⟨2, x, [], []⟩, .slice none 0 0)) (by rw [show bs ([] : List UInt8) = ⟨#[]⟩ from rfl, HY2.out.2.2]; exact hown10) hgrow10 (AttrsR.nil w)
                have hnd10 : (prs9 ++ [((⟨2, x, [], []⟩, .slice none 0 0) : EvP × Value)]).map Prod.fst ++ (closeE cn (OP.take f) ++ treeE (OP.take cn) (ns.drop (k + 1))).map toP = T := by
                  rw [List.map_append, List.append_assoc]
                  exact HY2.out.2.1
                have HZ := hid (And.intro hX10 hnd10)
                clear hX10 hnd10 hown hown10 hgrow10 hbs9 hpb HY2 x0
                go_wp2_with fail
                go_roundw
                case rel => exact ⟨f, _, _, rfl, HF.out.1, hid ⟨rfl, HF.out.2⟩, HZ⟩
                case measure => first | (simp [RowKit.intOf]; done) | (simp [RowKit.intOf]; omega)
              case neg =>
                have hce2 := HE.out.2
                have hez : e = cn := by omega
                have hz := HE.out.1
                rw [hez] at hz
                have j1 : decide (z ≥ (cn : Int)) = false := decide_eq_false (by omega)
                have j2 : decide ((cn : Int) ≤ z) = false := decide_eq_false (by omega)
                have hnd := HY.out.2
                rw [hez, closeE_none (by rw [List.length_take]; omega), List.nil_append] at hnd
                have hpll := (HPL.out trivial).1
                have HZ := hid (And.intro HSH.out (by rw [(HPL.out trivial).2.1]; exact hnd : prs9.map Prod.fst ++ (treeE (OP.take (nextP ns (k + 1))) (ns.drop (k + 1))).map toP = T))
                have HX9 := hid HY.out.1
                have hlk : OP.length ≤ k + 1 := HLK.out
                clear hce2 hez hz hnd hpll hce HE HY HSH HPL
                go_wp2_with fail
                go_roundw
                case rel => exact ⟨k + 1, prs9, OP, rfl, by omega, hlk, HX9, HZ⟩
                case measure => first | (simp [RowKit.intOf]; done) | (simp [RowKit.intOf]; omega)
          case neg =>
            have hc0 : cn = 0 := by
              have h2 := (HPL.out trivial).2.1
              unfold nextP at h2
              rw [List.getElem?_eq_none_iff.2 (by omega)] at h2
              exact h2.symm
            have f1 : decide (k + 1 < ns.length) = false := decide_eq_false hk1
            have f2 : decide ((k : Int) + 1 < (ns.length : Int)) = false := decide_eq_false (by omega)
            subst hc0
            clear hk1
            go_upto_region 17 with fail
            go_loopw [3, 8] (fun ev dv w9 => ∃ (e : Nat) (z : Int) (prs9 : List (EvP × Value)), dv = .int .i64 z ∧ e ≤ OP.length ∧ Hid (z = (e : Int) - 1 ∧ 0 ≤ e) ∧ Hid (TrE w w9 ev (.slice pp3 pl pc3) prs9 OP ∧ prs9.map Prod.fst ++ (closeE 0 (OP.take e) ++ treeE (OP.take 0) (ns.drop (k + 1))).map toP = T)) (fun _ dv _ => ((RowKit.intOf dv) + 1).toNat)
            case atStart => exact ⟨OP.length, _, prs3, rfl, Nat.le_refl _, hid ⟨by rw [(HPL.out trivial).1], (HPL.out trivial).2.2⟩, hid ⟨HZ3.out.1, HST.out⟩⟩
            case round =>
              clear HST HZ3
              obtain ⟨e, z, prs9, rfl, he, HE, HY⟩ := hrel
              by_cases hce : 0 < e
              case pos =>
                obtain ⟨f, rfl⟩ : ∃ f, e = f + 1 := ⟨e - 1, by omega⟩
                have hz : z = (f : Int) := by have := HE.out.1; omega
                subst hz
                obtain ⟨x, hx⟩ : ∃ x, OP[f]? = some x := ⟨_, List.getElem?_eq_getElem (by omega)⟩
                have hwd : Words _ _ OP := Words.row HY.out.1.r2
                obtain ⟨p', c', he', _, _, hcell, _⟩ := hwd
                cases he'
                obtain ⟨b2, o2, rfl, x0⟩ := hcell f x hx
                have hnd := HY.out.2
                rw [closeE_step hx (by omega)] at hnd
                obtain ⟨BX, hBX⟩ : ∃ B, bs x = B := ⟨_, rfl⟩
                rw [hBX] at x0
                obtain ⟨v9p, v9c, rfl⟩ := row_shape HY.out.1.r1
                have hown := HY.out.1.r1
                have hbs9 := HY.out.1.be.size
                have hpb : prs9.length ≤ 8000000 := by
                  have := HTL.out
                  rw [← hnd, List.length_append, List.length_map] at this
                  omega
                have hpll := (HPL.out trivial).1
                have j1 : decide ((f : Int) ≥ (0 : Int)) = true := decide_eq_true (by omega)
                have j2 : decide ((0 : Int) ≤ (f : Int)) = true := decide_eq_true (by omega)
                have j3 : decide (0 ≤ f) = true := decide_eq_true (by omega)
                have j4 : f < OP.length := by omega
                have j5 : IntKind.i64.wrap ((f : Int) - 1) = (f : Int) - 1 := by rw [IntKind.wrap_i64]; omega
                have HY2 := hid (And.intro HY.out.1 (And.intro hnd hBX))
                have hfb : f ≤ OP.length := by omega
                have hcf : 0 ≤ f := by omega
                have HF := hid (And.intro hfb hcf)
                clear hpll hx hcell hnd hBX HY HE hce he hfb hcf
                go_wp2_with (at_builtin; refine wpList_append_own _ rfl (.tmp 73) (.tmp 79) 22 rfl w.heap.size 60 i0 (.agg #[.int .i64 0, .string ⟨#[]⟩, .slice none 0 0, .string ⟨#[]⟩]) 4 64 Tryz.underlying22 hi hz0 hz1 hz2 rfl (by decide) _ _ _ rfl (hown.alloc _) ⟨_, 0, none⟩ 1 1 [.int .i64 2, .string BX, .slice none 0 0, .string ⟨#[]⟩] rfl rfl (cells_newV _ _ _) (by simp [Value.oneCell']) (by unfold maxLen; omega) (by omega) (by simp; omega) ?_)
                intro v10 W10 hown10 hgrow10 _
                have hX10 := HY2.out.1.add (x := (⟨2, x, [], []⟩, .slice none 0 0)) (by rw [show bs ([] : List UInt8) = ⟨#[]⟩ from rfl, HY2.out.2.2]; exact hown10) hgrow10 (AttrsR.nil w)
                have hnd10 : (prs9 ++ [((⟨2, x, [], []⟩, .slice none 0 0) : EvP × Value)]).map Prod.fst ++ (closeE 0 (OP.take f) ++ treeE (OP.take 0) (ns.drop (k + 1))).map toP = T := by
                  rw [List.map_append, List.append_assoc]
                  exact HY2.out.2.1
                have HZ := hid (And.intro hX10 hnd10)
                clear hX10 hnd10 hown hown10 hgrow10 hbs9 hpb HY2 x0
                go_wp2_with fail
                go_roundw
                case rel => exact ⟨f, _, _, rfl, HF.out.1, hid ⟨rfl, HF.out.2⟩, HZ⟩
                case measure => first | (simp [RowKit.intOf]; done) | (simp [RowKit.intOf]; omega)
              case neg =>
                have hce2 := HE.out.2
                have hez : e = 0 := by omega
                have hz := HE.out.1
                rw [hez] at hz
                have j1 : decide (z ≥ (0 : Int)) = false := decide_eq_false (by omega)
                have j2 : decide ((0 : Int) ≤ z) = false := decide_eq_false (by omega)
                have hnd := HY.out.2
                rw [hez, closeE_none (by rw [List.length_take]; omega), List.nil_append] at hnd
                have hpll := (HPL.out trivial).1
                have HZ := hid (And.intro HSH.out (by rw [(HPL.out trivial).2.1]; exact hnd : prs9.map Prod.fst ++ (treeE (OP.take (nextP ns (k + 1))) (ns.drop (k + 1))).map toP = T))
                have HX9 := hid HY.out.1
                have hlk : OP.length ≤ k + 1 := HLK.out
                clear hce2 hez hz hnd hpll hce HE HY HSH HPL
                go_wp2_with fail
                go_roundw
                case rel => exact ⟨k + 1, prs9, OP, rfl, by omega, hlk, HX9, HZ⟩
                case measure => first | (simp [RowKit.intOf]; done) | (simp [RowKit.intOf]; omega)
    · have hnd := HD.out.2
      have hnn : ns[k]? = none := List.getElem?_eq_none_iff.2 (by omega)
      have hnp : nextP ns k = 0 := by unfold nextP; rw [hnn]
      rw [hnp, List.take_zero, List.drop_of_length_le (by omega)] at hnd
      have hnd2 : prs.map Prod.fst = T := by rw [← hnd]; show _ = _ ++ []; rw [List.append_nil]
      have hev := HX.out.evs
      rw [hnd2] at hev
      have z1 : decide ((k : Int) < (ns.length : Int)) = false := decide_eq_false (by omega)
      have z2 : decide (k < ns.length) = false := decide_eq_false hkl
      have HZ := hid (And.intro hev HX.out.be)
      clear hnd hnn hnp hnd2 hev HX HD HC
      go_wp2_with fail
      go_ret
      exact ⟨_, rfl, HZ.out⟩
end Go.Proofs.YtcncbhbdpcpkeaaGreatDoor
