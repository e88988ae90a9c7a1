/-
  Parts of the walk, joined: RpQ, RpM.
-/
import Derived.Test.YtcncbhbdpcpkeaaGreatDoorPJBJ
import Derived.Test.YtcncbhbdpcpkeaaGreatDoorPJBR
import Derived.Test.YtcncbhbdpcpkeaaGreatDoorPJBP
import Derived.Test.YtcncbhbdpcpkeaaGreatDoorPJBL
import Derived.Test.YtcncbhbdpcpkeaaGreatDoorPJAY
/-
  The reference's take, of an end tag: its walk.
-/
namespace Go.Proofs.YtcncbhbdpcpkeaaGreatDoor
open Go.RowKit Go.Lib Own

theorem step_shut {op : List (List UInt8)} {ns : List EvP} {eat : Bool} {x : List UInt8} (h : op.getLast? = some x) : stepP ⟨op, ns, eat⟩ (.stop x) = (0, ⟨op.dropLast, ns, false⟩) := if_pos h
theorem step_in {op : List (List UInt8)} {ns : List EvP} {eat : Bool} {x : List UInt8} (h : op.getLast? ≠ some x) (h2 : modI op = 3) : (stepP ⟨op, ns, eat⟩ (.stop x)).1 = 1 := by
  unfold stepP
  dsimp only
  rw [if_neg h, if_pos h2]
theorem step_out {op : List (List UInt8)} {ns : List EvP} {eat : Bool} {x : List UInt8} (h : op.getLast? ≠ some x) (h2 : modI op ≠ 3) : (stepP ⟨op, ns, eat⟩ (.stop x)).1 = 9 := by
  unfold stepP
  dsimp only
  rw [if_neg h, if_neg h2]
set_option maxHeartbeats 8000000 in
set_option maxRecDepth 100000 in
theorem gTakeStop (K : Nat → Array Value → Prop) (w0 : World) (b : Nat) (op : List (List UInt8)) (prs : List (EvP × Value)) (eat : Bool) (ov nv : Value) (x : List UInt8) (av : Value) (sz : Int) (w : World) (h : GrS K w0 w b op prs eat ov nv) (hav : ∃ p n c, av = .slice p n c) :
    Calls Tryz.prog 61 #[.pointer (some ⟨b, 0, none⟩), .agg #[.int .i64 2, .string (bs x), av, .string ⟨#[]⟩, .int .i64 sz]] w fun e w' => GTake K w0 w' b ⟨op, prs.map Prod.fst, eat⟩ (.stop x) e := by
  obtain ⟨ap, an, ac, rfl⟩ := hav
  obtain ⟨np, nc, rfl⟩ := row_shape h.nodes.row
  obtain ⟨oq, oc, rfl⟩ := row_shape h.row
  obtain ⟨BX, hBX⟩ : ∃ n, bs x = n := ⟨_, rfl⟩
  rw [hBX]
  obtain ⟨W1, hW1⟩ : ∃ W1, w.alloc (.cells #[.int .i64 2, .string BX, .slice ap an ac, .string ⟨#[]⟩, .int .i64 sz] 112) = W1 := ⟨_, rfl⟩
  have hb1 : Below w.heap.size w W1 := by rw [← hW1]; exact (Below.refl _ _).alloc (Nat.le_refl _) _
  have n1 : W1.heap[w.heap.size]? = some (.cells #[.int .i64 2, .string BX, .slice ap an ac, .string ⟨#[]⟩, .int .i64 sz] 112 (0, 0)) := by rw [← hW1]; exact heap_alloc_new _ _
  have h1 := h.below hb1
  have hbE : w.heap.size ≠ b := fun e => by have := block_lt h.at_; omega
  have hop := h.few
  have p2 := cell_at h1.at_ (j := 2) rfl
  have pf2 := free_at h1.at_ 2
  obtain ⟨E, hE⟩ : ∃ E, w.heap.size = E := ⟨_, rfl⟩
  rw [hE] at n1 hbE
  have hj := just_put (j := 2) h1.at_ (.bool false) rfl
  have h2 := (h1.flag false).more ((hj.other E hbE).trans n1)
  have n2 := (hj.other E hbE).trans n1
  obtain ⟨W2, hW2⟩ : ∃ W2, W1.setCell ⟨b, 2, none⟩ (.bool false) = W2 := ⟨_, rfl⟩
  rw [hW2] at n2 h2
  have e0 := cell_at n2 (j := 0) rfl
  have e1 := cell_at n2 (j := 1) rfl
  have c0 := cell_at h2.at_ (j := 0) rfl
  have f0 := free_at h2.at_ 0
  have hst := @step_shut op (prs.map Prod.fst) eat x
  have hs1 := @step_in op (prs.map Prod.fst) eat x
  have hs9 := @step_out op (prs.map Prod.fst) eat x
  have H2 := hid h2
  have HSS := hid (And.intro hst (And.intro hs1 hs9))
  have hEE := hE
  clear hb1 n1 h1 hj n2 h2 hst hs1 hs9 hbE hE
  by_cases hl : op.getLast? = some x
  · have h1 : 1 ≤ op.length := by
      cases op with
      | nil => cases hl
      | cons a r => simp
    obtain ⟨n, hn⟩ : ∃ n, op.length = n + 1 := ⟨op.length - 1, by omega⟩
    have hnb : n ≤ 900000 := by omega
    have w2 : wrap64 (n : Int) = n := by unfold wrap64; omega
    have hx : op[n]? = some x := by
      rw [List.getLast?_eq_getElem?, hn] at hl
      exact hl
    obtain ⟨g, o, e3, hcell⟩ : ∃ g o, oq = some (⟨g, o, none⟩ : Addr) ∧ W2.cell? ⟨g, o + n, none⟩ = some (.string BX) := by
      obtain ⟨p, c, e, _, _, h3, _⟩ := H2.out.words
      cases e
      obtain ⟨g, o, e, hc⟩ := h3 n x hx
      exact ⟨g, o, e, by rw [← hBX]; exact hc⟩
    subst e3
    have w1 : IntKind.i64.wrap (((n + 1 : Nat) : Int) - 1) = (n : Int) := by rw [IntKind.wrap_i64]; omega
    have hcp : n + 1 ≤ oc := by
      have := H2.out.row
      rw [hn] at this
      exact (row_cap this).2
    have q1 : decide ((n : Int) < 0) = false := decide_eq_false (by omega)
    have q2 : (BX.toList != BX.toList) = false := by simp
    have HL := hid (And.intro hl (And.intro hn h1))
    rw [hn] at c0
    clear hl hn h1 hx hBX
    go_enter Tryz.func61, Tryz.ntmps61
    go_wp2_with fail
    go_quiet (fail)
    have H3 := hid (H2.out.below (below_drewN (Below.refl _ _) nq))
    clear H2 c0 f0 hcell e0 e1 p2 pf2
    generalize World.drewN _ nq = W3 at H3 ⊢
    have hb3 := H3.out.at_
    rw [HL.out.2.1] at hb3
    have c0 := cell_at hb3 (j := 0) rfl
    have f0 := free_at hb3 0
    have hsh := GrS.shut H3.out rfl HL.out.2.2
    rw [HL.out.2.1, Nat.add_sub_cancel] at hsh
    have HZ : Hid (GTake K w0 (W3.setCell ⟨b, 0, none⟩ (.slice (some ⟨g, o, none⟩) n oc)) b ⟨op, prs.map Prod.fst, eat⟩ (.stop x) (.returned (.int .i64 0))) := hid (hsh.yes (fun k c hk => .inl hk) (HSS.out.1 HL.out.1) rfl rfl rfl)
    clear hsh hb3 H3 HSS HL
    go_wp2_with fail
    go_ret
    exact HZ.out
  · by_cases h0 : op.length = 0
    · obtain rfl := List.length_eq_zero_iff.1 h0
      have w1 : IntKind.i64.wrap ((0 : Int) - 1) = -1 := by rw [IntKind.wrap_i64]; omega
      have w2 : wrap64 (-1) = -1 := by unfold wrap64; omega
      have HL := hid hl
      clear hl hBX
      simp only [List.length_nil] at c0
      go_enter Tryz.func61, Tryz.ntmps61
      go_wp2_with fail
      go_quiet (fail)
      have H3 := hid (H2.out.below (below_drewN (Below.refl _ _) nq))
      clear H2 c0 f0 e0 e1 p2 pf2
      generalize World.drewN _ nq = W3 at H3 ⊢
      have HZ := hid (H3.out.no (tok := .stop x) (s := ⟨[], prs.map Prod.fst, eat⟩) (K := K) (fun k c hk => .inl hk) (HSS.out.2.2 HL.out (by decide)) (by decide))
      clear H3 HSS HL
      go_wp2_with fail
      go_ret
      exact HZ.out
    · obtain ⟨n, hn⟩ : ∃ n, op.length = n + 1 := ⟨op.length - 1, by omega⟩
      have hnb : n ≤ 900000 := by omega
      have w2 : wrap64 (n : Int) = n := by unfold wrap64; omega
      obtain ⟨y, hy⟩ : ∃ y, op[n]? = some y := ⟨_, List.getElem?_eq_getElem (by omega)⟩
      have hly : op.getLast? = some y := by rw [List.getLast?_eq_getElem?, hn]; exact hy
      have hxy : y ≠ x := fun e => hl (by rw [hly, e])
      obtain ⟨BY, hBY⟩ : ∃ n, bs y = n := ⟨_, rfl⟩
      obtain ⟨g, o, e3, hcell⟩ : ∃ g o, oq = some (⟨g, o, none⟩ : Addr) ∧ W2.cell? ⟨g, o + n, none⟩ = some (.string BY) := by
        obtain ⟨p, c, e, _, _, h3, _⟩ := H2.out.words
        cases e
        obtain ⟨g, o, e, hc⟩ := h3 n y hy
        exact ⟨g, o, e, by rw [← hBY]; exact hc⟩
      subst e3
      have q2 : (BY.toList == BX.toList) = false := by rw [← hBX, ← hBY, bs_toList, bs_toList, beq_eq_false_iff_ne]; exact hxy
      have q3 : (BY.toList != BX.toList) = true := by rw [bne, q2]; rfl
      have hmi : modI op = modX y := by unfold modI; rw [hly]; rfl
      have qa : (BY.toList == [116, 101, 120, 116, 97, 114, 101, 97]) = decide (modI op = 3) := by
        rw [← hBY, bs_toList, hmi, Bool.eq_iff_iff, beq_iff_eq, decide_eq_true_iff]
        exact area_mod y
      have w1 : IntKind.i64.wrap (((n + 1 : Nat) : Int) - 1) = (n : Int) := by rw [IntKind.wrap_i64]; omega
      have q1 : decide ((n : Int) < 0) = false := decide_eq_false (by omega)
      have q4 : decide ((n : Int) ≥ 0) = true := decide_eq_true (by omega)
      have q5 : decide ((0 : Int) ≤ (n : Int)) = true := decide_eq_true (by omega)
      rw [hn] at c0
      have HY := hid (And.intro hy hBY)
      have HN := hid hn
      have HL := hid hl
      clear hly hy hxy hn hBX hBY h0 hmi hl
      go_enter Tryz.func61, Tryz.ntmps61
      go_wp2_with fail
      go_quiet (fail)
      have H3 := hid (H2.out.below (below_drewN (Below.refl _ _) nq))
      clear H2 c0 f0 hcell e0 e1 p2 pf2
      generalize World.drewN _ nq = W3 at H3 ⊢
      have hb3 := H3.out.at_
      rw [HN.out] at hb3
      have c0 := cell_at hb3 (j := 0) rfl
      have hcell : W3.cell? ⟨g, o + n, none⟩ = some (.string BY) := by
        obtain ⟨p, c, e, _, _, h3, _⟩ := H3.out.words
        cases e
        obtain ⟨g', o', e, hc⟩ := h3 n y HY.out.1
        cases e
        rw [← HY.out.2]
        exact hc
      clear hb3
      by_cases hm : modI op = 3
      · rw [decide_eq_true hm] at qa
        have HZ := hid (H3.out.no (tok := .stop x) (s := ⟨op, prs.map Prod.fst, eat⟩) (K := K) (fun k c hk => .inl hk) (HSS.out.2.1 HL.out hm) (by decide))
        clear hm H3 HSS HL
        go_wp2_with fail
        go_ret
        exact HZ.out
      · rw [decide_eq_false hm] at qa
        have HZ := hid (H3.out.no (tok := .stop x) (s := ⟨op, prs.map Prod.fst, eat⟩) (K := K) (fun k c hk => .inl hk) (HSS.out.2.2 HL.out hm) (by decide))
        clear hm H3 HSS HL
        go_wp2_with fail
        go_ret
        exact HZ.out
end Go.Proofs.YtcncbhbdpcpkeaaGreatDoor

/-
  The reference's tokenAt: plain facts on its rounds.
-/
namespace Go.Proofs.YtcncbhbdpcpkeaaGreatDoor
open Go.RowKit Go.Lib Own

theorem attrP_suf {r q : List UInt8} {a : AttrP} (h : attrP r = some (a, q)) : q = r.drop (r.length - q.length) := by
  have hl := attr_len h
  unfold attrP at h
  split at h
  · cases h
  split at h
  · cases h
  obtain ⟨v, hv, hx⟩ := Option.map_eq_some_iff.1 h
  simp only [Prod.mk.injEq] at hx
  obtain ⟨_, hq⟩ := hx
  rw [List.drop_drop] at hq
  generalize wordN [45] r + 2 + (((r.drop (wordN [45] r + 2)).takeWhile noQ).length + 1) = K at hq
  subst hq
  rw [List.length_drop]
  by_cases hK : K ≤ r.length
  · rw [show r.length - (r.length - K) = K by omega]
  · rw [show r.length - (r.length - K) = r.length by omega, List.drop_length, List.drop_of_length_le (by omega)]
/-- a round of the loop over the attributes -/
theorem attrsQ_W (l : List UInt8) (i : Nat) (h62 : (l.drop i).head? ≠ some 62) :
    (attrsQ (l.drop i) = if (attrW l i).2 = 0 then none else (attrsQ (l.drop (attrW l i).2)).map fun x => ((attrW l i).1 :: x.1, x.2)) ∧ ((attrW l i).2 ≠ 0 → i + 1 < (attrW l i).2 ∧ (attrW l i).2 ≤ l.length) := by
  by_cases h32 : (l.drop i).head? = some 32
  · rw [attrW_sp h32, attrsQ_step h32, List.tail_drop]
    cases ha : attrP (l.drop (i + 1)) with
    | none => exact ⟨(if_pos rfl).symm, fun h => absurd rfl h⟩
    | some x =>
      obtain ⟨a, q⟩ := x
      have hl := attr_len ha
      have hs := attrP_suf ha
      rw [List.length_drop] at hl
      rw [List.drop_drop, List.length_drop] at hs
      have e : i + 1 + (l.length - (i + 1) - q.length) = l.length - q.length := by omega
      rw [e] at hs
      simp only
      rw [if_neg (by omega), ← hs]
      exact ⟨rfl, fun _ => by omega⟩
  · rw [attrW_no h32, attrsQ_none h62 h32]
    exact ⟨(if_pos rfl).symm, fun h => absurd rfl h⟩
/-- where the loop stands: at place n, these attributes read -/
structure TkInv (Q : Option (List AttrP × List UInt8)) (l : List UInt8) (n : Nat) (al : List AttrP) : Prop where
  on : 1 < n → Q = (attrsQ (l.drop n)).map fun x => (al ++ x.1, x.2)
  off : ¬ 1 < n → Q = none
  le : n ≤ l.length
  few : 1 < n → al.length ≤ n
theorem TkInv.next {Q : Option (List AttrP × List UInt8)} {l : List UInt8} {n : Nat} {al : List AttrP} (h : TkInv Q l n al) (h1 : 1 < n) (h62 : (l.drop n).head? ≠ some 62) :
    TkInv Q l (attrW l n).2 (al ++ [(attrW l n).1]) ∧ ((attrW l n).2 = 0 ∨ n < (attrW l n).2) := by
  obtain ⟨e, hb⟩ := attrsQ_W l n h62
  have hq := h.on h1
  rw [e] at hq
  by_cases h0 : (attrW l n).2 = 0
  · rw [if_pos h0] at hq
    rw [h0]
    exact ⟨⟨fun h => absurd h (by omega), fun _ => hq, Nat.zero_le _, fun h => absurd h (by omega)⟩, .inl rfl⟩
  · rw [if_neg h0] at hq
    obtain ⟨b1, b2⟩ := hb h0
    refine ⟨⟨fun _ => ?_, fun h => absurd (by omega) h, b2, fun _ => ?_⟩, .inr (by omega)⟩
    · rw [hq]
      cases attrsQ (l.drop (attrW l n).2) with
      | none => rfl
      | some x => simp
    · have := h.few h1
      rw [List.length_append, List.length_singleton]
      omega
theorem TkInv.fin {Q : Option (List AttrP × List UInt8)} {l : List UInt8} {n : Nat} {al : List AttrP} (h : TkInv Q l n al) (h1 : 1 < n) (h62 : (l.drop n).head? = some 62) : Q = some (al, l.drop (n + 1)) := by
  rw [h.on h1, attrsQ_end h62, List.tail_drop]
  simp
theorem TkInv.out {Q : Option (List AttrP × List UInt8)} {l : List UInt8} {al : List AttrP} (h : TkInv Q l l.length al) (h1 : 1 < l.length) : Q = none := by
  rw [h.on h1, List.drop_length]
  rfl
/-- the attributes of a start tag whose name is w long -/
def tagQ (l : List UInt8) (w : Nat) : Option (List AttrP × List UInt8) := if w = 0 then none else attrsQ (l.drop (1 + w))
theorem TkInv.start {l : List UInt8} {w : Nat} (hw : 1 + w ≤ l.length) : TkInv (tagQ l w) l (1 + w) [] := by
  refine ⟨fun h => ?_, fun h => ?_, hw, fun _ => Nat.zero_le _⟩
  · unfold tagQ
    rw [if_neg (by omega)]
    cases attrsQ (l.drop (1 + w)) with
    | none => rfl
    | some x => simp
  · unfold tagQ
    rw [if_pos (by omega)]
theorem tok_startW {l : List UInt8} (h60 : l.head? = some 60) (h47 : l.tail.head? ≠ some 47) : tokP l = (tagQ l (wordN [] l.tail)).map fun x => (.start (l.tail.take (wordN [] l.tail)) x.1, x.2) := by
  unfold tokP tagQ
  rw [if_pos h60, if_neg h47]
  by_cases h0 : wordN [] l.tail = 0
  · rw [if_pos h0, if_pos h0]; rfl
  · rw [if_neg h0, if_neg h0]
    have hne : l ≠ [] := by rintro rfl; cases h60
    have hl := List.length_pos_iff.2 hne
    have e : l.tail.drop (wordN [] l.tail) = l.drop (1 + wordN [] l.tail) := by rw [← List.drop_one, List.drop_drop]
    rw [e]
    unfold attrsQ
    rw [attrsP_fuel (l.length + 1) ((l.drop (1 + wordN [] l.tail)).length + 1) _ (by rw [List.length_drop]; omega) (by omega)]
theorem tok_stopW {l : List UInt8} (h60 : l.head? = some 60) (h47 : l.tail.head? = some 47) : tokP l = if wordN [] (l.drop 2) = 0 ∨ (l.drop (2 + wordN [] (l.drop 2))).head? ≠ some 62 then none else some (.stop ((l.drop 2).take (wordN [] (l.drop 2))), l.drop (2 + wordN [] (l.drop 2) + 1)) := by
  unfold tokP
  rw [if_pos h60, if_pos h47, List.drop_drop, List.drop_drop]
  rfl
theorem tok_textW {l : List UInt8} (h60 : l.head? ≠ some 60) : tokP l = (decP (l.takeWhile noLt)).map fun t => (.text t, l.drop (l.takeWhile noLt).length) := by
  unfold tokP
  rw [if_neg h60]
/-- a token as tokenAt answers it: kind, name, attributes, text, size -/
structure TokV where
  k : Nat
  n : List UInt8
  al : List AttrP
  t : List UInt8
  sz : Nat
def tokV (l : List UInt8) : TokV := match tokP l with
  | none => ⟨0, [], [], [], 0⟩
  | some (t, r) => ⟨evK t, evN t, evA t, evT t, l.length - r.length⟩
theorem tokV_none {l : List UInt8} (h : tokP l = none) : tokV l = ⟨0, [], [], [], 0⟩ := by unfold tokV; rw [h]
theorem tokV_some {l r : List UInt8} {t : Ev} (h : tokP l = some (t, r)) : tokV l = ⟨evK t, evN t, evA t, evT t, l.length - r.length⟩ := by unfold tokV; rw [h]
theorem lt_until (L : List UInt8) : (L.takeWhile fun c => !([60] : List UInt8).contains c) = L.takeWhile noLt := by
  congr 1
  funext c
  have := u8_all (p := fun c => (!([60] : List UInt8).contains c) == noLt c) (by decide +kernel) c
  exact beq_iff_eq.1 this
end Go.Proofs.YtcncbhbdpcpkeaaGreatDoor
