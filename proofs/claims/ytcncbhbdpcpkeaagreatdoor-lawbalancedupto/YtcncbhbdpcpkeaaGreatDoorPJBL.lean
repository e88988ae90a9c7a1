/-
  Parts of the walk, joined: ParV.
-/
import Derived.Test.YtcncbhbdpcpkeaaGreatDoorPJBK
/-
  The parser's end: its walk.
-/
namespace Go.Proofs.YtcncbhbdpcpkeaaGreatDoor
open Go.RowKit Go.Lib Own

theorem PrS.same {K : Nat → Array Value → Prop} {w0 W : World} {b : Nat} {op : List (List UInt8)} {prs : List (EvP × Value)} {eat : Bool} {ov nv : Value} (h : PrS K w0 W b op prs eat ov nv) : PrTo K w0 W b op eat (prs.map Prod.fst) := ⟨_, _, _, h, rfl⟩
theorem last_or {op : List (List UInt8)} {x : List UInt8} (hx : x ≠ []) : op.getLast?.getD [] = x ↔ op.getLast? = some x := by
  cases op.getLast? with
  | none => exact ⟨fun h => absurd h.symm hx, fun h => by cases h⟩
  | some y => exact ⟨fun h => congrArg some h, fun h => Option.some.inj h⟩
set_option maxHeartbeats 4000000 in
set_option maxRecDepth 100000 in
theorem prEnd_any (K : Nat → Array Value → Prop) (w0 : World) (b : Nat) (op : List (List UInt8)) (prs : List (EvP × Value)) (eat : Bool) (ov nv : Value) (x : List UInt8) (w : World) (h : PrS K w0 w b op prs eat ov nv) (hx : x ≠ []) :
    Calls Tryz.prog 78 #[.pointer (some ⟨b, 0, none⟩), .string (bs x)] w fun e w' => StepOut K w0 w' b (if op.getLast? = some x then op.dropLast else op) eat (if op.getLast? = some x then 0 else if modI op = 3 then 1 else 9) (prs.map Prod.fst) e := by
  obtain ⟨np, nc, rfl⟩ := row_shape h.nodes.row
  obtain ⟨oq, oc, rfl⟩ := h.row.shape
  have hin := inner_any w0.heap.size b op _ _ eat w h.rd
  have hit := fun W (hW : PrS K w0 W b op prs eat (.slice oq op.length oc) (.slice np prs.length nc)) => inText_any w0.heap.size b op _ _ eat W hW.rd
  have hop := h.few
  have hcap := (row_cap h.row).2
  have HH := hid h
  have HIT := hid hit
  clear hit h
  have hlo := last_or (op := op) hx
  have hq := bs_beq (op.getLast?.getD []) x
  unfold elemV at hin
  have hf0 := fun (a c d : Value) W => (field_el a c d W).1
  obtain ⟨BX, hBX⟩ : ∃ n, bs x = n := ⟨_, rfl⟩
  rw [hBX] at hq ⊢
  generalize bs (op.getLast?.getD []) = BL at hin hq
  have HI := hid hin
  clear hin hBX
  by_cases hl : op.getLast? = some x
  · rw [decide_eq_true (hlo.2 hl)] at hq
    rw [if_pos hl, if_pos hl]
    have h1 : 1 ≤ op.length := by
      cases op with
      | nil => cases hl
      | cons a r => simp
    obtain ⟨n, hn⟩ : ∃ n, op.length = n + 1 := ⟨op.length - 1, by omega⟩
    have w1 : IntKind.i64.wrap (((n + 1 : Nat) : Int) - 1) = (n : Int) := by rw [IntKind.wrap_i64]; omega
    clear hl hlo
    go_enter Tryz.func78, Tryz.ntmps78
    go_wp2_with fail
    refine HI.out.mono ?_
    rintro e W1 ⟨rfl, hb1⟩
    have h2 := HH.out.below hb1
    have hsh := PrS.shut (W := W1.drew) (h2.below (below_drewN (Below.refl _ _) 1)) rfl h1
    have hb3 := h2.at_
    rw [hn] at hsh hb3
    rw [Nat.add_sub_cancel] at hsh
    have HZ : Hid (PrTo K w0 (W1.drew.setCell ⟨b, 0, none⟩ (.slice oq n oc)) b op.dropLast eat (prs.map Prod.fst)) := hid ⟨_, _, _, hsh, rfl⟩
    have hrow := h2.row
    rw [hn] at hcap hop
    have c0 := cell_at hb3 (j := 0) rfl
    have f0 := free_at hb3 0
    clear hb1 HH HI HIT h2 hsh hb3 hrow hn h1
    go_wp2_with fail
    go_region
    all_goals
      go_wp2_with fail
      go_ret
      exact ⟨rfl, HZ.out⟩
  · rw [decide_eq_false (fun e => hl (hlo.1 e))] at hq
    rw [if_neg hl, if_neg hl]
    clear hl hlo
    obtain ⟨R, hR⟩ : ∃ R, (if modI op = 3 then 1 else 9) = R := ⟨_, rfl⟩
    rw [hR]
    have HR := hid (fun (_ : True) => hR)
    clear hR
    go_enter Tryz.func78, Tryz.ntmps78
    go_wp2_with fail
    refine HI.out.mono ?_
    rintro e W1 ⟨rfl, hb1⟩
    have H2 := hid (HH.out.below hb1)
    clear hb1 HH HI
    go_wp2_with fail
    refine (HIT.out _ H2.out).mono ?_
    rintro e W2 ⟨rfl, hb2⟩
    have HZ := hid (PrS.same (H2.out.below hb2))
    clear hb2 H2 HIT
    cases hm : (modI op == 3) with
    | true =>
      have hr := HR.out trivial
      rw [if_pos (beq_iff_eq.1 hm)] at hr
      subst hr
      clear hm HR
      go_wp2_with fail
      go_ret
      exact ⟨rfl, HZ.out⟩
    | false =>
      have hr := HR.out trivial
      rw [if_neg (beq_eq_false_iff_ne.1 hm)] at hr
      subst hr
      clear hm HR
      go_wp2_with fail
      go_ret
      exact ⟨rfl, HZ.out⟩
end Go.Proofs.YtcncbhbdpcpkeaaGreatDoor
