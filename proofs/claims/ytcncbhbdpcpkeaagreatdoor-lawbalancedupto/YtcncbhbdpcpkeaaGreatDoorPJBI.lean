/-
  Parts of the walk, joined: ParM, ParN, ParO, ParP.
-/
import Derived.Test.YtcncbhbdpcpkeaaGreatDoorPJBF
import Derived.Test.YtcncbhbdpcpkeaaGreatDoorPJBH
import Derived.Test.YtcncbhbdpcpkeaaGreatDoorPJAU
/-
  The parser's looks at what is open: innermost, innermostTable, isInTextarea: their walks.
-/
namespace Go.Proofs.YtcncbhbdpcpkeaaGreatDoor
open Go.RowKit Go.Lib Own

/-- a parser in memory, what is open to be read -/
structure PrR (w : World) (base b : Nat) (op : List (List UInt8)) (ov nv : Value) (eat : Bool) : Prop where
  at_ : w.heap[b]? = some (.cells #[ov, nv, .bool eat] 82 (0, 0))
  row : OpenR w base ov op
  few : op.length ≤ 900000
theorem PrR.below {w w' : World} {base b : Nat} {op : List (List UInt8)} {ov nv : Value} {eat : Bool} (h : PrR w base b op ov nv eat) (hb : Below w.heap.size w w') : PrR w' base b op ov nv eat :=
  ⟨(hb.block b (block_lt h.at_)).trans h.at_, row_below h.row hb, h.few⟩
/-- an element by its name; of no name: the zero one -/
def elemV (x : List UInt8) : Value := .agg #[.string (bs x), .int .i64 (clsX x : Nat), .int .i64 (modX x : Nat)]
theorem cls_nil : clsX [] = 0 := by decide +kernel
theorem mod_nil : modX [] = 0 := by decide +kernel
theorem just3 {W : World} {b : Nat} {a0 a1 a2 : Value} {T : TypeId} (h : W.heap[b]? = some (.cells #[a0, a1, a2] T (0, 0))) (x0 x1 x2 : Value) :
    Just W (((W.setCell ⟨b, 0, none⟩ x0).setCell ⟨b, 1, none⟩ x1).setCell ⟨b, 2, none⟩ x2) b #[x0, x1, x2] T := by
  have h1 := just_put (j := 0) h x0 rfl
  have h2 := just_put (j := 1) h1.at_ x1 rfl
  have h3 := just_put (j := 2) h2.at_ x2 rfl
  exact (h1.andThen h2).andThen h3
theorem inn_last {op : List (List UInt8)} {x : List UInt8} (h : op.getLast? = some x) : op.getLast?.getD [] = x := by rw [h]; rfl
set_option maxHeartbeats 2000000 in
set_option maxRecDepth 100000 in
theorem inner_any (base b : Nat) (op : List (List UInt8)) (ov nv : Value) (eat : Bool) (w : World) (h : PrR w base b op ov nv eat) :
    Calls Tryz.prog 148 #[.pointer (some ⟨b, 0, none⟩)] w fun e w' => e = .returned (elemV (op.getLast?.getD [])) ∧ Below w.heap.size w w' := by
  obtain ⟨p, c, rfl⟩ := h.row.shape
  have hbl := block_lt h.at_
  have hn0 := heap_alloc_new w (.cells #[.string ⟨#[]⟩, .int .i64 0, .int .i64 0] 172)
  have hat0 := (alloc_old w (.cells #[.string ⟨#[]⟩, .int .i64 0, .int .i64 0] 172) b hbl).trans h.at_
  have c0 := cell_at hat0 (j := 0) rfl
  have hb0 : Below w.heap.size w (w.alloc (.cells #[.string ⟨#[]⟩, .int .i64 0, .int .i64 0] 172)) := (Below.refl _ _).alloc (Nat.le_refl _) _
  by_cases h0 : op.length = 0
  · obtain rfl := List.length_eq_zero_iff.1 h0
    have HZ := hid (And.intro hn0 hb0)
    have hv : elemV (([] : List (List UInt8)).getLast?.getD []) = .agg #[.string ⟨#[]⟩, .int .i64 0, .int .i64 0] := by
      show elemV [] = _
      unfold elemV
      rw [cls_nil, mod_nil]
      rfl
    rw [hv]
    have y0 := cell_at hn0 (j := 0) rfl
    have y1 := cell_at hn0 (j := 1) rfl
    have y2 := cell_at hn0 (j := 2) rfl
    have z0 := free_at hn0 0
    have z1 := free_at hn0 1
    have z2 := free_at hn0 2
    clear hv hn0 hat0 hb0 h
    go_enter Tryz.func148, Tryz.ntmps148
    go_wp2_with fail
    refine bodyPost_ret (v := .agg #[.string ⟨#[]⟩, .int .i64 0, .int .i64 0]) ?_ rfl ⟨rfl, HZ.out.2⟩
    exact results_cell_row rfl _ _ _ _ _ _ _ rfl HZ.out.1 Tryz.underlying172 rfl (by kernel_rfl)
  · obtain ⟨x, hx⟩ : ∃ x, op[op.length - 1]? = some x := ⟨_, List.getElem?_eq_getElem (by omega)⟩
    have hl : op.getLast? = some x := by rw [List.getLast?_eq_getElem?, hx]
    rw [inn_last hl]
    obtain ⟨g, cap, e3, _, _, hcell⟩ := row_at h.row (by omega)
    cases e3
    obtain ⟨a1, a2, a3⟩ := elems_at op _ x hx
    have k1 := (hcell _ (by omega)).trans a1
    have k2 := (hcell _ (by omega)).trans a2
    have k3 := (hcell _ (by omega)).trans a3
    replace k1 := cell_low k1 hb0 (cell_block k1)
    replace k2 := cell_low k2 hb0 (cell_block k2)
    replace k3 := cell_low k3 hb0 (cell_block k3)
    obtain ⟨n, hn⟩ : ∃ n, op.length = n + 1 := ⟨op.length - 1, by omega⟩
    rw [hn, Nat.add_sub_cancel] at k1 k2 k3
    have hfw := h.few
    have hle := (row_cap h.row).2
    rw [hn] at hfw hle c0
    have w1 : IntKind.i64.wrap (((n + 1 : Nat) : Int) - 1) = (n : Int) := by rw [IntKind.wrap_i64]; omega
    have hz : (((n + 1 : Nat) : Int) == 0) = false := by rw [Bool.eq_false_iff]; intro h; rw [beq_iff_eq] at h; omega
    unfold elemV
    generalize clsX x = CX at k2 ⊢
    generalize modX x = MX at k3 ⊢
    generalize bs x = BX at k1 ⊢
    have HZ := hid (And.intro (heap_alloc_new w (.cells #[.string BX, .int .i64 (CX : Nat), .int .i64 (MX : Nat)] 172)) ((Below.refl w.heap.size w).alloc (Nat.le_refl _) (.cells #[.string BX, .int .i64 (CX : Nat), .int .i64 (MX : Nat)] 172)))
    have y0 := cell_at hn0 (j := 0) rfl
    have y1 := cell_at hn0 (j := 1) rfl
    have y2 := cell_at hn0 (j := 2) rfl
    have z0 := free_at hn0 0
    have z1 := free_at hn0 1
    have z2 := free_at hn0 2
    have hgl := cell_block k1
    have hne : g ≠ w.heap.size := fun e => by
      have h3 := (h.row.lt g rfl).2
      omega
    clear hn0 hat0 hb0 h hx hl a1 a2 a3 hcell h0 hn
    go_enter Tryz.func148, Tryz.ntmps148
    go_wp2_with fail
    go_region
    all_goals
      go_wp2_with fail
      refine bodyPost_ret (v := .agg #[.string BX, .int .i64 (CX : Nat), .int .i64 (MX : Nat)]) ?_ rfl ⟨rfl, below_drewN HZ.out.2 1⟩
      exact results_cell_row rfl _ _ _ _ _ _ _ rfl HZ.out.1 Tryz.underlying172 rfl (by kernel_rfl)
theorem field_el (a b c : Value) (W : World) : (Instr.field 172 (.agg #[a, b, c]) 0).run Tryz.prog W = .ok a W ∧ (Instr.field 172 (.agg #[a, b, c]) 1).run Tryz.prog W = .ok b W ∧ (Instr.field 172 (.agg #[a, b, c]) 2).run Tryz.prog W = .ok c W := by
  refine ⟨?_, ?_, ?_⟩ <;> simp [Instr.field, asAgg, run_underlying Tryz.underlying172, go_sem]
set_option maxHeartbeats 2000000 in
set_option maxRecDepth 100000 in
theorem inText_any (base b : Nat) (op : List (List UInt8)) (ov nv : Value) (eat : Bool) (w : World) (h : PrR w base b op ov nv eat) :
    Calls Tryz.prog 144 #[.pointer (some ⟨b, 0, none⟩)] w fun e w' => e = .returned (.bool (modI op == 3)) ∧ Below w.heap.size w w' := by
  have hi := inner_any base b op ov nv eat w h
  have hm : modI op = modX (op.getLast?.getD []) := by
    unfold modI
    cases op.getLast? with
    | none => exact mod_nil.symm
    | some x => rfl
  rw [hm]
  unfold elemV at hi
  have hcast : ((modX (op.getLast?.getD []) : Int) == 3) = (modX (op.getLast?.getD []) == 3) := by
    rw [Bool.eq_iff_iff, beq_iff_eq, beq_iff_eq]; omega
  rw [← hcast]
  generalize ((modX (op.getLast?.getD []) : Nat) : Int) = M at hi ⊢
  generalize ((clsX (op.getLast?.getD []) : Nat) : Int) = C at hi
  generalize bs (op.getLast?.getD []) = X at hi
  have HI := hid hi
  have hf2 := fun W => (field_el (.string X) (.int .i64 C) (.int .i64 M) W).2.2
  clear hi hm hcast h
  go_enter Tryz.func144, Tryz.ntmps144
  go_wp2_with fail
  refine HI.out.mono ?_
  rintro e W1 ⟨rfl, hb1⟩
  have HB := hid hb1
  clear hb1 HI
  go_wp2_with fail
  go_ret
  exact ⟨rfl, HB.out⟩
end Go.Proofs.YtcncbhbdpcpkeaaGreatDoor

/-
  The parser's innermostTable: its walk.
-/
namespace Go.Proofs.YtcncbhbdpcpkeaaGreatDoor
open Go.RowKit Go.Lib Own

/-- the innermost table element; none: the empty name. The list is the innermost first -/
def innE : List (List UInt8) → List UInt8
  | [] => []
  | y :: r => if tableX y = true then y else innE r
theorem innE_mod : ∀ l : List (List UInt8), modX (innE l) = innR l
  | [] => mod_nil
  | y :: r => by
    unfold innE innR
    split
    · rfl
    · exact innE_mod r
/-- the table element among the k outermost -/
def innK (op : List (List UInt8)) (k : Nat) : List UInt8 := innE (op.take k).reverse
theorem innK_zero (op : List (List UInt8)) : innK op 0 = [] := rfl
theorem innK_all (op : List (List UInt8)) : innK op op.length = innE op.reverse := by unfold innK; rw [List.take_length]
theorem innK_step {op : List (List UInt8)} {k : Nat} {x : List UInt8} (h : op[k]? = some x) : innK op (k + 1) = if tableX x = true then x else innK op k := by
  unfold innK
  rw [List.take_add_one, h]
  simp only [Option.toList_some, List.reverse_append, List.reverse_cons, List.reverse_nil, List.nil_append, List.singleton_append]
  rfl
set_option maxHeartbeats 4000000 in
set_option maxRecDepth 100000 in
theorem innTab_any (base b : Nat) (op : List (List UInt8)) (ov nv : Value) (eat : Bool) (w : World) (h : PrR w base b op ov nv eat) :
    Calls Tryz.prog 150 #[.pointer (some ⟨b, 0, none⟩)] w fun e w' => e = .returned (elemV (innE op.reverse)) ∧ Below w.heap.size w w' := by
  obtain ⟨p, c, rfl⟩ := h.row.shape
  have hfw := h.few
  have hle := (row_cap h.row).2
  obtain ⟨R, hR⟩ : ∃ R, innE op.reverse = R := ⟨_, rfl⟩
  rw [hR]
  rw [← innK_all] at hR
  obtain ⟨ER, hER⟩ : ∃ ER, elemV R = ER := ⟨_, rfl⟩
  rw [hER]
  have HER := hid (fun (_ : True) => hER)
  clear hER
  have HR := hid (fun (_ : True) => hR)
  have HH := hid h
  have hbl := block_lt h.at_
  have hn0 := heap_alloc_new w (.cells #[.string ⟨#[]⟩, .int .i64 0, .int .i64 0] 172)
  have hb0 : Below w.heap.size w (w.alloc (.cells #[.string ⟨#[]⟩, .int .i64 0, .int .i64 0] 172)) := (Below.refl _ _).alloc (Nat.le_refl _) _
  have c0 := cell_at ((alloc_old w (.cells #[.string ⟨#[]⟩, .int .i64 0, .int .i64 0] 172) b hbl).trans h.at_) (j := 0) rfl
  have H0 := hid (And.intro hn0 hb0)
  have w0 : IntKind.i64.wrap ((op.length : Int) - 1) = (op.length : Int) - 1 := by rw [IntKind.wrap_i64]; omega
  clear h hR hn0 hb0
  go_enter Tryz.func150, Tryz.ntmps150
  go_wp2_with fail
  clear c0
  go_loopw [3] (fun iv wr => ∃ k : Nat, iv = .int .i64 ((k : Int) - 1) ∧ k ≤ op.length ∧ Hid (innK op k = R) ∧ wr.heap[w.heap.size]? = some (.cells #[.string ⟨#[]⟩, .int .i64 0, .int .i64 0] 172 (0, 0)) ∧ Below w.heap.size w wr) (fun iv _ => (RowKit.intOf iv + 1).toNat)
  case atStart => exact ⟨op.length, rfl, Nat.le_refl _, hid (HR.out trivial), H0.out.1, H0.out.2⟩
  case round =>
    clear H0 w0 HR
    obtain ⟨k, rfl, hk, HK, hres, hbw⟩ := hrel
    have hsz := block_lt hres
    have y0 := cell_at hres (j := 0) rfl
    have y1 := cell_at hres (j := 1) rfl
    have y2 := cell_at hres (j := 2) rfl
    have z0 := free_at hres 0
    have z1 := free_at hres 1
    have z2 := free_at hres 2
    have HP := HH.out.below (show Below w.heap.size w wr from hbw)
    have c0 := cell_at HP.at_ (j := 0) rfl
    cases k with
    | zero =>
      have hr := HK.out
      rw [innK_zero] at hr
      subst hr
      have hv : elemV [] = .agg #[.string ⟨#[]⟩, .int .i64 0, .int .i64 0] := by
        unfold elemV
        rw [cls_nil, mod_nil]
        rfl
      have HV := hid hv
      have hj := just3 hres (.string ⟨#[]⟩) (.int .i64 0) (.int .i64 0)
      have HZ := hid (And.intro hj.at_ (hbw.trans (just_low hj (Nat.le_refl _))))
      clear hv hj HP HH HK c0 hres
      go_wp2_with fail
      refine bodyPost_ret (v := .agg #[.string ⟨#[]⟩, .int .i64 0, .int .i64 0]) ?_ rfl ⟨by rw [← HER.out trivial, HV.out], HZ.out.2⟩
      exact results_cell_row rfl _ _ _ _ _ _ _ rfl HZ.out.1 Tryz.underlying172 rfl (by kernel_rfl)
    | succ n =>
      obtain ⟨x, hx⟩ : ∃ x, op[n]? = some x := ⟨_, List.getElem?_eq_getElem (by omega)⟩
      have hst := HK.out
      rw [innK_step hx] at hst
      obtain ⟨g, cap, e3, _, _, hcell⟩ := row_at HP.row (by omega)
      cases e3
      obtain ⟨a1, a2, a3⟩ := elems_at op _ x hx
      have k1 := (hcell _ (by omega)).trans a1
      have k2 := (hcell _ (by omega)).trans a2
      have k3 := (hcell _ (by omega)).trans a3
      have w1 : ((n + 1 : Nat) : Int) - 1 = (n : Int) := by omega
      have w2 : IntKind.i64.wrap ((n : Int) - 1) = (n : Int) - 1 := by rw [IntKind.wrap_i64]; omega
      rw [w1]
      have d1 : decide ((0 : Int) ≤ (n : Int)) = true := decide_eq_true (by omega)
      have d2 : decide ((n : Int) ≥ 0) = true := decide_eq_true (by omega)
      have it := fun W => isTab_any (.string (bs x)) (.int .i64 (clsX x : Nat)) (modX x) (modX_lt x) W
      have ht : decide (5 ≤ modX x ∧ modX x ≤ 8) = tableX x := rfl
      rw [ht] at it
      obtain ⟨EV, hEV⟩ : ∃ EV, elemV x = EV := ⟨_, rfl⟩
      have hEV2 := hEV
      unfold elemV at hEV2
      generalize clsX x = CX at *
      generalize modX x = MX at *
      generalize hBX : bs x = BX at *
      have hel := HP.row
      have HI := hid it
      cases hT : tableX x with
      | true =>
        rw [hT] at HI hst
        rw [if_pos rfl] at hst
        subst hst
        have HE := hid (hEV2.trans (hEV.symm.trans (HER.out trivial)))
        have HPP := hid HP
        clear it ht hT hx a1 a2 a3 hcell HK HH hEV hEV2 hBX HP hel
        go_wp2_with fail
        refine (HI.out _).mono ?_
        rintro e W1 ⟨rfl, hb1⟩
        have hres1 := (hb1.block _ hsz).trans hres
        replace k1 := cell_kept k1 hb1
        replace k2 := cell_kept k2 hb1
        replace k3 := cell_kept k3 hb1
        replace c0 := cell_kept c0 hb1
        have hbw1 := hbw.trans (hb1.mono hbw.size)
        have hj := just3 hres1 (.string BX) (.int .i64 (CX : Nat)) (.int .i64 (MX : Nat))
        have HZ := hid (And.intro hj.at_ (hbw1.trans (just_low hj (Nat.le_refl _))))
        have y0' := cell_at hres1 (j := 0) rfl
        have y1' := cell_at hres1 (j := 1) rfl
        have y2' := cell_at hres1 (j := 2) rfl
        have z0' := free_at hres1 0
        have z1' := free_at hres1 1
        have z2' := free_at hres1 2
        clear hj hres1 hbw1 hres hb1 y0 y1 y2 z0 z1 z2 hbw
        go_wp2_with fail
        refine bodyPost_ret (v := .agg #[.string BX, .int .i64 (CX : Nat), .int .i64 (MX : Nat)]) ?_ rfl ⟨by rw [← HE.out], HZ.out.2⟩
        exact results_cell_row rfl _ _ _ _ _ _ _ rfl HZ.out.1 Tryz.underlying172 rfl (by kernel_rfl)
      | false =>
        rw [hT] at HI hst
        rw [if_neg Bool.false_ne_true] at hst
        have HN := hid hst
        clear it ht hT hx a1 a2 a3 hcell HK hEV hEV2 hBX HP hel hst
        go_wp2_with fail
        refine (HI.out _).mono ?_
        rintro e W1 ⟨rfl, hb1⟩
        have hres1 := (hb1.block _ hsz).trans hres
        have hbw1 := hbw.trans (hb1.mono hbw.size)
        clear hres hbw hb1 k1 k2 k3 c0 y0 y1 y2 z0 z1 z2
        go_wp2_with fail
        go_roundw
        case rel => exact ⟨n, rfl, by omega, HN, hres1, hbw1⟩
        case measure => simp [RowKit.intOf]
end Go.Proofs.YtcncbhbdpcpkeaaGreatDoor

/-
  The parser's judgement on places: its walks.
-/
namespace Go.Proofs.YtcncbhbdpcpkeaaGreatDoor
open Go.RowKit Go.Lib Own

/-- an element of a name in memory: its cells read -/
theorem el_cells {w : World} {base : Nat} {op : List (List UInt8)} {p : Option Addr} {c n : Nat} {x : List UInt8} (h : OpenR w base (.slice p op.length c) op) (hx : op[n]? = some x) : ∃ g, p = some (⟨g, 0, none⟩ : Addr) ∧ w.cell? ⟨g, n * 3, none⟩ = some (.string (bs x)) ∧ w.cell? ⟨g, n * 3 + 1, none⟩ = some (.int .i64 (clsX x : Nat)) ∧ w.cell? ⟨g, n * 3 + 2, none⟩ = some (.int .i64 (modX x : Nat)) := by
  have hlt := (List.getElem?_eq_some_iff.1 hx).1
  obtain ⟨g, cap, e3, _, _, hcell⟩ := row_at h (by omega)
  cases e3
  obtain ⟨a1, a2, a3⟩ := elems_at op _ x hx
  exact ⟨g, rfl, (hcell _ (by omega)).trans a1, (hcell _ (by omega)).trans a2, (hcell _ (by omega)).trans a3⟩
theorem partOf_any (m : Nat) (w : World) : Calls Tryz.prog 198 #[.int .i64 m] w fun e w' => e = .returned (.int .i64 (partT m : Nat)) ∧ w' = w := by
  by_cases h5 : m = 5
  · subst h5
    go_enter Tryz.func198, Tryz.ntmps198
    go_wp2
    go_ret
    exact ⟨rfl, rfl⟩
  · have q5 : ((m : Int) == 5) = false := beq_eq_false_iff_ne.2 (by omega)
    by_cases h6 : m = 6
    · subst h6
      go_enter Tryz.func198, Tryz.ntmps198
      go_wp2
      go_ret
      exact ⟨rfl, rfl⟩
    · have q6 : ((m : Int) == 6) = false := beq_eq_false_iff_ne.2 (by omega)
      have e : partT m = 7 := by unfold partT; rw [if_neg h5, if_neg h6]
      rw [e]
      go_enter Tryz.func198, Tryz.ntmps198
      go_wp2
      go_ret
      exact ⟨rfl, rfl⟩
/-- the judgement by the table element, in numbers -/
def judgeN (it : Nat) (tb : Bool) (mx cx : Nat) : Nat :=
  if it = 0 ∧ tb = true ∧ mx ≠ 5 then 5 else if it = 8 ∧ tb = true ∧ mx ≠ 5 then 6 else if it = 0 ∨ it = 8 ∨ cx = partT it then 0 else if tb = true then 6 else 8
theorem judgeT_N (op : List (List UInt8)) (x : List UInt8) : judgeT op x = judgeN (innT op) (tableX x) (modX x) (clsX x) := rfl
set_option maxHeartbeats 8000000 in
set_option maxRecDepth 100000 in
theorem judgeTab_any (base b : Nat) (op : List (List UInt8)) (ov nv : Value) (eat : Bool) (x : List UInt8) (w : World) (h : PrR w base b op ov nv eat) :
    Calls Tryz.prog 145 #[.pointer (some ⟨b, 0, none⟩), elemV x] w fun e w' => e = .returned (.int .i64 (judgeT op x : Nat)) ∧ Below w.heap.size w w' := by
  rw [judgeT_N]
  have hit := fun W (hW : PrR W base b op ov nv eat) => innTab_any base b op ov nv eat W hW
  have hmi : innT op = modX (innE op.reverse) := by rw [innE_mod]; rfl
  rw [hmi]
  have hml := modX_lt (innE op.reverse)
  unfold elemV at hit ⊢
  have hist := fun W => isTab_any (.string (bs x)) (.int .i64 (clsX x : Nat)) (modX x) (modX_lt x) W
  have ht : decide (5 ≤ modX x ∧ modX x ≤ 8) = tableX x := rfl
  rw [ht] at hist
  have hmx := modX_lt x
  have hcx := clsX_lt x
  generalize modX (innE op.reverse) = IT at hit hml ⊢
  generalize ((clsX (innE op.reverse) : Nat) : Int) = IC at hit
  generalize bs (innE op.reverse) = IB at hit
  generalize tableX x = TB at hist ⊢
  generalize modX x = MX at hist hmx ⊢
  generalize clsX x = CX at hist hcx ⊢
  generalize bs x = BX at hist ⊢
  have hn0 := heap_alloc_new w (.cells #[.string BX, .int .i64 (CX : Nat), .int .i64 (MX : Nat)] 172)
  have hb0 : Below w.heap.size w (w.alloc (.cells #[.string BX, .int .i64 (CX : Nat), .int .i64 (MX : Nat)] 172)) := (Below.refl _ _).alloc (Nat.le_refl _) _
  obtain ⟨W0, hW0⟩ : ∃ W0, w.alloc (.cells #[.string BX, .int .i64 (CX : Nat), .int .i64 (MX : Nat)] 172) = W0 := ⟨_, rfl⟩
  rw [hW0] at hn0 hb0
  have hp0 := h.below hb0
  have hpo := fun W => partOf_any IT W
  obtain ⟨R, hR⟩ : ∃ R, judgeN IT TB MX CX = R := ⟨_, rfl⟩
  rw [hR]
  have HIT := hid hit
  have HIS := hid hist
  have HPO := hid hpo
  have HP := hid (And.intro hp0 (And.intro hn0 hb0))
  have HR := hid (fun (_ : True) => hR)
  have HW0 := hid (fun (_ : True) => hW0)
  clear hit hist hpo hp0 hn0 hb0 h hR hW0 hmi ht
  have hpc : ∃ PC : Nat, partT IT = PC ∧ PC < 10 := ⟨_, rfl, by unfold partT; split <;> (try split) <;> omega⟩
  obtain ⟨PC, hPC, hPl⟩ := hpc
  have hRR : (if IT = 0 ∧ TB = true ∧ MX ≠ 5 then 5 else if IT = 8 ∧ TB = true ∧ MX ≠ 5 then 6 else if IT = 0 ∨ IT = 8 ∨ CX = PC then 0 else if TB = true then 6 else 8) = R := by rw [← HR.out trivial, ← hPC]; rfl
  rw [hPC] at HPO
  have hcase : ∃ (PT : Bool) (va vb vd : Nat), ((TB = false ∧ PT = false) ∨ (TB = true ∧ PT = ((MX : Int) != 5))) ∧ Hid (True → (IT = 0 → va = R) ∧ (IT = 8 → vb = R) ∧ (IT ≠ 0 → IT ≠ 8 → CX = PC → 0 = R) ∧ (IT ≠ 0 → IT ≠ 8 → CX ≠ PC → vd = R)) ∧ va = (if PT = true then 5 else 0) ∧ vb = (if PT = true then 6 else 0) ∧ vd = (if TB = true then 6 else 8) := by
    cases TB with
    | false =>
      refine ⟨false, 0, 0, 8, .inl ⟨rfl, rfl⟩, hid fun _ => ⟨fun h => ?_, fun h => ?_, fun h1 h2 h3 => ?_, fun h1 h2 h3 => ?_⟩, rfl, rfl, rfl⟩
      · rw [← hRR, if_neg (fun h => by cases h.2.1), if_neg (fun h => by cases h.2.1), if_pos (.inl h)]
      · rw [← hRR, if_neg (fun h => by cases h.2.1), if_neg (fun h => by cases h.2.1), if_pos (.inr (.inl h))]
      · rw [← hRR, if_neg (fun h => by cases h.2.1), if_neg (fun h => by cases h.2.1), if_pos (.inr (.inr h3))]
      · rw [← hRR, if_neg (fun h => by cases h.2.1), if_neg (fun h => by cases h.2.1), if_neg (fun h => h.elim h1 (fun h => h.elim h2 h3)), if_neg Bool.false_ne_true]
    | true =>
      by_cases h5 : MX = 5
      · have e5 : ((MX : Int) != 5) = false := by rw [h5]; rfl
        refine ⟨false, 0, 0, 6, .inr ⟨rfl, e5.symm⟩, hid fun _ => ⟨fun h => ?_, fun h => ?_, fun h1 h2 h3 => ?_, fun h1 h2 h3 => ?_⟩, rfl, rfl, rfl⟩
        · rw [← hRR, if_neg (fun h => h.2.2 h5), if_neg (fun h => h.2.2 h5), if_pos (.inl h)]
        · rw [← hRR, if_neg (fun h => h.2.2 h5), if_neg (fun h => h.2.2 h5), if_pos (.inr (.inl h))]
        · rw [← hRR, if_neg (fun h => h.2.2 h5), if_neg (fun h => h.2.2 h5), if_pos (.inr (.inr h3))]
        · rw [← hRR, if_neg (fun h => h.2.2 h5), if_neg (fun h => h.2.2 h5), if_neg (fun h => h.elim h1 (fun h => h.elim h2 h3)), if_pos rfl]
      · have e5 : ((MX : Int) != 5) = true := by rw [bne_iff_ne]; omega
        refine ⟨true, 5, 6, 6, .inr ⟨rfl, e5.symm⟩, hid fun _ => ⟨fun h => ?_, fun h => ?_, fun h1 h2 h3 => ?_, fun h1 h2 h3 => ?_⟩, rfl, rfl, rfl⟩
        · rw [← hRR, if_pos ⟨h, rfl, h5⟩]
        · rw [← hRR, if_neg (fun k => by omega), if_pos ⟨h, rfl, h5⟩]
        · rw [← hRR, if_neg (fun h => h1 h.1), if_neg (fun h => h2 h.1), if_pos (.inr (.inr h3))]
        · rw [← hRR, if_neg (fun h => h1 h.1), if_neg (fun h => h2 h.1), if_neg (fun h => h.elim h1 (fun h => h.elim h2 h3)), if_pos rfl]
  obtain ⟨PT, va, vb, vd, hTB, HRR, hva, hvb, hvd⟩ := hcase
  have hMP : (TB = false ∧ PT = false) ∨ (TB = true ∧ PT = true ∧ ((MX : Int) != 5) = true ∧ ((MX : Int) == 5) = false) ∨ (TB = true ∧ PT = false ∧ ((MX : Int) != 5) = false ∧ ((MX : Int) == 5) = true) := by
    rcases hTB with h | ⟨h1, h2⟩
    · exact .inl h
    · cases h3 : ((MX : Int) == 5) with
      | true => rw [bne, h3] at h2; exact .inr (.inr ⟨h1, h2, by rw [bne, h3]; rfl, by first | rfl | exact h3⟩)
      | false => rw [bne, h3] at h2; exact .inr (.inl ⟨h1, h2, by rw [bne, h3]; rfl, by first | rfl | exact h3⟩)
  clear HR hPC hRR hTB
  rcases hMP with ⟨rfl, rfl⟩ | ⟨rfl, rfl, e5, q5⟩ | ⟨rfl, rfl, e5, q5⟩
  all_goals
    first
      | rw [if_pos rfl] at hva hvb
      | rw [if_neg Bool.false_ne_true] at hva hvb
    first
      | rw [if_pos rfl] at hvd
      | rw [if_neg Bool.false_ne_true] at hvd
    subst hva hvb hvd
    go_enter Tryz.func145, Tryz.ntmps145
    go_upto_region 1 with fail
    have hW0 := HW0.out trivial
    simp only [hW0]
    obtain ⟨hp0, hn0, hb0⟩ := HP.out
    have x0 := cell_at hn0 (j := 0) rfl
    have x1 := cell_at hn0 (j := 1) rfl
    have x2 := cell_at hn0 (j := 2) rfl
    clear hW0 HW0 hn0 hb0 hp0
    go_wp2_with fail
    refine (HIS.out _).mono ?_
    rintro e W1 ⟨rfl, hb1⟩
    replace x0 := cell_kept x0 hb1
    replace x1 := cell_kept x1 hb1
    replace x2 := cell_kept x2 hb1
    have HP1 := hid (And.intro (HP.out.1.below hb1) (HP.out.2.2.trans (hb1.mono HP.out.2.2.size)))
    have hit := HIT.out _ HP1.out.1
    have HIT1 := hid hit
    clear hb1 hit HP
    go_wp2_with fail
    refine HIT1.out.mono ?_
    rintro e W2 ⟨rfl, hb2⟩
    replace x0 := cell_kept x0 hb2
    replace x1 := cell_kept x1 hb2
    replace x2 := cell_kept x2 hb2
    have HB2 := hid (HP1.out.2.trans (hb2.mono HP1.out.2.size))
    clear hb2 HIT1 HP1 HIT
    have hf2 := fun (mm : Int) W => (field_el (.string IB) (.int .i64 IC) (.int .i64 mm) W).2.2
    by_cases h0 : IT = 0
    · have hR := (HRR.out trivial).1 h0
      subst h0
      subst hR
      clear HRR
      go_wp2_with fail
      go_ret
      exact ⟨rfl, HB2.out⟩
    · have q0 : ((IT : Int) == 0) = false := beq_eq_false_iff_ne.2 (by omega)
      by_cases h8 : IT = 8
      · have hR := (HRR.out trivial).2.1 h8
        subst h8
        subst hR
        clear HRR
        go_wp2_with fail
        go_ret
        exact ⟨rfl, HB2.out⟩
      · have q8 : ((IT : Int) == 8) = false := beq_eq_false_iff_ne.2 (by omega)
        by_cases hc : CX = PC
        · have hR := (HRR.out trivial).2.2.1 h0 h8 hc
          subst hc
          subst hR
          clear HRR
          go_wp2_with fail
          go_quiet (first | (go_at_call 198; refine Calls.quiet_of_same (HPO.out _)))
          go_wp2_with fail
          go_ret
          exact ⟨rfl, below_drewN HB2.out _⟩
        · have qc : ((CX : Int) == (PC : Int)) = false := beq_eq_false_iff_ne.2 (by omega)
          have hR := (HRR.out trivial).2.2.2 h0 h8 hc
          subst hR
          clear HRR
          go_wp2_with fail
          go_quiet (first | (go_at_call 198; refine Calls.quiet_of_same (HPO.out _)))
          go_wp2_with fail
          refine (HIS.out _).mono ?_
          rintro e W3 ⟨rfl, hb3⟩
          have HB3 := hid ((below_drewN HB2.out nq).trans (hb3.mono (below_drewN HB2.out nq).size))
          clear hb3 x0 x1 x2
          go_wp2_with fail
          go_ret
          exact ⟨rfl, HB3.out⟩
end Go.Proofs.YtcncbhbdpcpkeaaGreatDoor

/-
  The parser's isNear, isItemNear, isHeading: their walks.
-/
namespace Go.Proofs.YtcncbhbdpcpkeaaGreatDoor
open Go.RowKit Go.Lib Own

/-- what isNear tells of the k outermost -/
def nearK (x : List UInt8) (ws op : List (List UInt8)) (k : Nat) : Bool := nearR x ws (op.take k).reverse
theorem nearK_zero (x : List UInt8) (ws op : List (List UInt8)) : nearK x ws op 0 = false := rfl
theorem nearK_all (x : List UInt8) (ws op : List (List UInt8)) : nearK x ws op op.length = nearR x ws op.reverse := by unfold nearK; rw [List.take_length]
theorem nearK_step {x : List UInt8} {ws op : List (List UInt8)} {k : Nat} {y : List UInt8} (h : op[k]? = some y) : nearK x ws op (k + 1) = if y = x then true else if ws.contains y = true then false else nearK x ws op k := by
  unfold nearK
  rw [List.take_add_one, h]
  simp only [Option.toList_some, List.reverse_append, List.reverse_cons, List.reverse_nil, List.nil_append, List.singleton_append]
  rfl
def itemK (op : List (List UInt8)) (k : Nat) : Bool := itemR (op.take k).reverse
theorem itemK_zero (op : List (List UInt8)) : itemK op 0 = false := rfl
theorem itemK_all (op : List (List UInt8)) : itemK op op.length = itemR op.reverse := by unfold itemK; rw [List.take_length]
theorem itemK_step {op : List (List UInt8)} {k : Nat} {y : List UInt8} (h : op[k]? = some y) : itemK op (k + 1) = if clsX y = 4 then true else if clsX y ≠ 2 ∧ y ≠ divN ∧ y ≠ pN then false else itemK op k := by
  unfold itemK
  rw [List.take_add_one, h]
  simp only [Option.toList_some, List.reverse_append, List.reverse_cons, List.reverse_nil, List.nil_append, List.singleton_append]
  rfl
theorem bs_beq (a b : List UInt8) : ((bs a).toList == (bs b).toList) = decide (a = b) := by
  rw [bs_toList, bs_toList, Bool.eq_iff_iff, beq_iff_eq, decide_eq_true_iff]
set_option maxHeartbeats 4000000 in
set_option maxRecDepth 100000 in
theorem isNear_any (base b : Nat) (op : List (List UInt8)) (ov nv : Value) (eat : Bool) (x : List UInt8) (wv : Value) (ws : List (List UInt8)) (w : World) (h : PrR w base b op ov nv eat) (hw : Words w wv ws) :
    Calls Tryz.prog 200 #[.pointer (some ⟨b, 0, none⟩), .string (bs x), wv] w fun e w' => e = .returned (.bool (nearR x ws op.reverse)) ∧ ∃ n, w' = w.drewN n := by
  obtain ⟨p, c, rfl⟩ := h.row.shape
  obtain ⟨wp, wn, wc, rfl⟩ := hw.shape
  have hfw := h.few
  have hle := (row_cap h.row).2
  obtain ⟨R, hR⟩ : ∃ R, nearR x ws op.reverse = R := ⟨_, rfl⟩
  rw [hR]
  rw [← nearK_all] at hR
  have HR := hid (fun (_ : True) => hR)
  have HH := hid (And.intro h hw)
  have c0 := cell_at h.at_ (j := 0) rfl
  have w0 : IntKind.i64.wrap ((op.length : Int) - 1) = (op.length : Int) - 1 := by rw [IntKind.wrap_i64]; omega
  obtain ⟨X, hX⟩ : ∃ X, bs x = X := ⟨_, rfl⟩
  rw [hX]
  have HX := hid (fun (_ : True) => hX)
  clear h hR hw hX
  go_enter Tryz.func200, Tryz.ntmps200
  go_wp2_with fail
  go_loopw [7] (fun iv wr => ∃ k : Nat, iv = .int .i64 ((k : Int) - 1) ∧ k ≤ op.length ∧ wr = w ∧ Hid (nearK x ws op k = R)) (fun iv _ => (RowKit.intOf iv + 1).toNat)
  case atStart => exact ⟨op.length, rfl, Nat.le_refl _, rfl, hid (HR.out trivial)⟩
  case round =>
    clear w0 HR
    obtain ⟨k, rfl, hk, rfl, HK⟩ := hrel
    cases k with
    | zero =>
      have hr := HK.out
      rw [nearK_zero] at hr
      subst hr
      clear HH HK
      go_wp2_with fail
      go_ret
      exact ⟨rfl, 0, rfl⟩
    | succ n =>
      obtain ⟨y, hy⟩ : ∃ y, op[n]? = some y := ⟨_, List.getElem?_eq_getElem (by omega)⟩
      have hst := HK.out
      rw [nearK_step hy] at hst
      obtain ⟨g, rfl, k1, k2, k3⟩ := el_cells HH.out.1.row hy
      have w1 : ((n + 1 : Nat) : Int) - 1 = (n : Int) := by omega
      have w2 : IntKind.i64.wrap ((n : Int) - 1) = (n : Int) - 1 := by rw [IntKind.wrap_i64]; omega
      rw [w1]
      have d1 : decide ((0 : Int) ≤ (n : Int)) = true := decide_eq_true (by omega)
      have d2 : decide ((n : Int) ≥ 0) = true := decide_eq_true (by omega)
      have hq := bs_beq y x
      rw [HX.out trivial] at hq
      have hco := fun W (hW : Words W (.slice wp wn wc) ws) => slContains_any _ _ (bs y) W hW
      rw [bs_toList] at hco
      generalize bs y = Y at k1 hq hco
      by_cases e1 : y = x
      · rw [decide_eq_true e1] at hq
        rw [if_pos e1] at hst
        subst hst
        clear hco e1 HK HH hy k2 k3
        go_wp2_with fail
        go_ret
        exact ⟨rfl, 0, rfl⟩
      · rw [decide_eq_false e1] at hq
        rw [if_neg e1] at hst
        have hc := hco _ HH.out.2
        generalize ws.contains y = B at hc hst
        have HC := hid hc
        cases B with
        | true =>
          rw [if_pos rfl] at hst
          subst hst
          clear hco e1 HK HH hy k2 k3 hc
          go_wp2_with fail
          refine HC.out.mono ?_
          rintro e w' ⟨rfl, rfl⟩
          go_wp2_with fail
          go_ret
          exact ⟨rfl, 0, rfl⟩
        | false =>
          rw [if_neg Bool.false_ne_true] at hst
          have HN := hid hst
          clear hco e1 HK hy k2 k3 hc hst
          go_wp2_with fail
          refine HC.out.mono ?_
          rintro e w' ⟨rfl, rfl⟩
          go_wp2_with fail
          go_roundw
          case rel => exact ⟨n, rfl, by omega, by first | rfl | trivial, HN⟩
          case measure => simp [RowKit.intOf]
set_option maxHeartbeats 4000000 in
set_option maxRecDepth 100000 in
theorem isItem_any (base b : Nat) (op : List (List UInt8)) (ov nv : Value) (eat : Bool) (w : World) (h : PrR w base b op ov nv eat) :
    Calls Tryz.prog 199 #[.pointer (some ⟨b, 0, none⟩)] w fun e w' => e = .returned (.bool (itemR op.reverse)) ∧ Below w.heap.size w w' := by
  obtain ⟨p, c, rfl⟩ := h.row.shape
  have hfw := h.few
  have hle := (row_cap h.row).2
  obtain ⟨R, hR⟩ : ∃ R, itemR op.reverse = R := ⟨_, rfl⟩
  rw [hR]
  rw [← itemK_all] at hR
  have HR := hid (fun (_ : True) => hR)
  have HH := hid h
  have c0 := cell_at h.at_ (j := 0) rfl
  have w0 : IntKind.i64.wrap ((op.length : Int) - 1) = (op.length : Int) - 1 := by rw [IntKind.wrap_i64]; omega
  clear h hR
  go_enter Tryz.func199, Tryz.ntmps199
  go_wp2_with fail
  clear c0
  go_loopw [3] (fun iv wr => ∃ k : Nat, iv = .int .i64 ((k : Int) - 1) ∧ k ≤ op.length ∧ Below w.heap.size w wr ∧ Hid (itemK op k = R)) (fun iv _ => (RowKit.intOf iv + 1).toNat)
  case atStart => exact ⟨op.length, rfl, Nat.le_refl _, Below.refl _ _, hid (HR.out trivial)⟩
  case round =>
    clear w0 HR
    obtain ⟨k, rfl, hk, hbw, HK⟩ := hrel
    have HP := HH.out.below (show Below w.heap.size w wr from hbw)
    have c0 := cell_at HP.at_ (j := 0) rfl
    cases k with
    | zero =>
      have hr := HK.out
      rw [itemK_zero] at hr
      subst hr
      clear HH HK HP
      go_wp2_with fail
      go_ret
      exact ⟨rfl, hbw⟩
    | succ n =>
      obtain ⟨y, hy⟩ : ∃ y, op[n]? = some y := ⟨_, List.getElem?_eq_getElem (by omega)⟩
      have hst := HK.out
      rw [itemK_step hy] at hst
      obtain ⟨g, rfl, k1, k2, k3⟩ := el_cells HP.row hy
      have w1 : ((n + 1 : Nat) : Int) - 1 = (n : Int) := by omega
      have w2 : IntKind.i64.wrap ((n : Int) - 1) = (n : Int) - 1 := by rw [IntKind.wrap_i64]; omega
      rw [w1]
      have d1 : decide ((0 : Int) ≤ (n : Int)) = true := decide_eq_true (by omega)
      have d2 : decide ((n : Int) ≥ 0) = true := decide_eq_true (by omega)
      have hq1 : ((bs y).toList == [100, 105, 118]) = decide (y = divN) := by rw [bs_toList, Bool.eq_iff_iff, beq_iff_eq, decide_eq_true_iff]; rfl
      have hq2 : ((bs y).toList == [112]) = decide (y = pN) := by rw [bs_toList, Bool.eq_iff_iff, beq_iff_eq, decide_eq_true_iff]; rfl
      have hbn := hbw.size
      have hba := fun X => hbw.alloc hbw.size X
      generalize bs y = Y at k1 hq1 hq2
      generalize clsX y = C at k2 hst
      generalize modX y = M at k3
      by_cases e4 : C = 4
      · rw [if_pos e4] at hst
        subst hst e4
        clear HK HH HP hq1 hq2 hy
        go_wp2_with fail
        go_ret
        exact ⟨rfl, hba _⟩
      · have q4 : ((C : Int) == 4) = false := beq_eq_false_iff_ne.2 (by omega)
        rw [if_neg e4] at hst
        by_cases e2 : C = 2
        · rw [if_neg (fun h => h.1 e2)] at hst
          subst e2
          have HN := hid hst
          clear HK HP hq1 hq2 hy hst e4 q4
          go_wp2_with fail
          go_roundw
          case rel => exact ⟨n, rfl, by omega, hba _, HN⟩
          case measure => simp [RowKit.intOf]
        · have q2 : ((C : Int) == 2) = false := beq_eq_false_iff_ne.2 (by omega)
          have q2' : ((C : Int) != 2) = true := by rw [bne, q2]; rfl
          by_cases e5 : y = divN
          · rw [decide_eq_true e5] at hq1
            have hq1' : (Y.toList != [100, 105, 118]) = false := by rw [bne, hq1]; rfl
            rw [if_neg (fun h => h.2.1 e5)] at hst
            have HN := hid hst
            clear HK HP hq2 hy hst e5
            go_wp2_with fail
            go_roundw
            case rel => exact ⟨n, rfl, by omega, hba _, HN⟩
            case measure => simp [RowKit.intOf]
          · rw [decide_eq_false e5] at hq1
            have hq1' : (Y.toList != [100, 105, 118]) = true := by rw [bne, hq1]; rfl
            by_cases e6 : y = pN
            · rw [decide_eq_true e6] at hq2
              have hq2' : (Y.toList != [112]) = false := by rw [bne, hq2]; rfl
              rw [if_neg (fun h => h.2.2 e6)] at hst
              have HN := hid hst
              clear HK HP hy hst e5 e6
              go_wp2_with fail
              go_roundw
              case rel => exact ⟨n, rfl, by omega, hba _, HN⟩
              case measure => simp [RowKit.intOf]
            · rw [decide_eq_false e6] at hq2
              have hq2' : (Y.toList != [112]) = true := by rw [bne, hq2]; rfl
              rw [if_pos ⟨e2, e5, e6⟩] at hst
              subst hst
              clear HK HP HH hy e5 e6
              go_wp2_with fail
              go_ret
              exact ⟨rfl, hba _⟩
end Go.Proofs.YtcncbhbdpcpkeaaGreatDoor
