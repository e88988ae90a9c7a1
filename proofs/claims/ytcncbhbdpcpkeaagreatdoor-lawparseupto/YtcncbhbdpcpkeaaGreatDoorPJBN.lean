/-
  Parts of the walk, joined: RpF, RpG, RpK, SerE.
-/
import Derived.Test.YtcncbhbdpcpkeaaGreatDoorPJBE
import Derived.Test.YtcncbhbdpcpkeaaGreatDoorPJBK
import Derived.Test.YtcncbhbdpcpkeaaGreatDoorPJAT
import Derived.Test.YtcncbhbdpcpkeaaGreatDoorPJBM
/-
  The reference's looks at what is open: reaches, innermostTable: their walks.
-/
namespace Go.Proofs.YtcncbhbdpcpkeaaGreatDoor
open Go.RowKit Go.Lib Own

set_option maxHeartbeats 4000000 in
set_option maxRecDepth 100000 in
theorem reaches_any (ov : Value) (op : List (List UInt8)) (x : List UInt8) (wv : Value) (ws : List (List UInt8)) (w : World) (h : Words w ov op) (hw : Words w wv ws) (hfw : op.length ≤ 100000000) (hws : ws.length ≤ 100000000) :
    Calls Tryz.prog 179 #[ov, .string (bs x), wv] w fun e w' => e = .returned (.bool (nearR x ws op.reverse)) ∧ w' = w := by
  obtain ⟨p, c, rfl, hlc, hcm, hcell, _⟩ := h
  obtain ⟨wp, wn, wc, rfl⟩ := hw.shape
  obtain ⟨R, hR⟩ : ∃ R, nearR x ws op.reverse = R := ⟨_, rfl⟩
  rw [hR]
  rw [← nearK_all] at hR
  have HR := hid (fun (_ : True) => hR)
  have HH := hid hcell
  have HWW := hid hw
  have w0 : IntKind.i64.wrap ((op.length : Int) - 1) = (op.length : Int) - 1 := by rw [IntKind.wrap_i64]; omega
  obtain ⟨X, hX⟩ : ∃ X, bs x = X := ⟨_, rfl⟩
  rw [hX]
  have HX := hid (fun (_ : True) => hX)
  clear hR hw hX hcell
  go_enter Tryz.func179, Tryz.ntmps179
  go_wp2_with fail
  go_loopw [7] (fun iv wr => ∃ k : Nat, iv = .int .i64 ((k : Int) - 1) ∧ k ≤ op.length ∧ wr = w ∧ Hid (nearK x ws op k = R)) (fun iv _ => (RowKit.intOf iv + 1).toNat)
  case atStart => exact ⟨op.length, rfl, Nat.le_refl _, rfl, hid (HR.out trivial)⟩
  case round =>
    clear w0 HR
    obtain ⟨k, rfl, hk, rfl, HK⟩ := hrel
    cases k with
    | zero =>
      have hr := HK.out
      rw [nearK_zero] at hr
      subst hr
      clear HH HK
      go_wp2_with fail
      go_ret
      exact ⟨rfl, rfl⟩
    | succ n =>
      obtain ⟨y, hy⟩ : ∃ y, op[n]? = some y := ⟨_, List.getElem?_eq_getElem (by omega)⟩
      have hst := HK.out
      rw [nearK_step hy] at hst
      obtain ⟨g, o, rfl, k1⟩ := HH.out n y hy
      have w1 : ((n + 1 : Nat) : Int) - 1 = (n : Int) := by omega
      have w2 : IntKind.i64.wrap ((n : Int) - 1) = (n : Int) - 1 := by rw [IntKind.wrap_i64]; omega
      rw [w1]
      have d1 : decide ((0 : Int) ≤ (n : Int)) = true := decide_eq_true (by omega)
      have d2 : decide ((n : Int) ≥ 0) = true := decide_eq_true (by omega)
      have hq := bs_beq y x
      rw [HX.out trivial] at hq
      have hco := fun W (hW : Words W (.slice wp wn wc) ws) => holds_any _ _ (bs y) W hW hws
      rw [bs_toList] at hco
      generalize bs y = Y at k1 hq hco
      by_cases e1 : y = x
      · rw [decide_eq_true e1] at hq
        rw [if_pos e1] at hst
        subst hst
        clear hco e1 HK HH hy
        go_wp2_with fail
        go_ret
        exact ⟨rfl, rfl⟩
      · rw [decide_eq_false e1] at hq
        rw [if_neg e1] at hst
        have hc := hco _ HWW.out
        generalize ws.contains y = B at hc hst
        have HC := hid hc
        cases B with
        | true =>
          rw [if_pos rfl] at hst
          subst hst
          clear hco e1 HK HH hy hc
          go_wp2_with fail
          refine HC.out.mono ?_
          rintro e w' ⟨rfl, rfl⟩
          go_wp2_with fail
          go_ret
          exact ⟨rfl, rfl⟩
        | false =>
          rw [if_neg Bool.false_ne_true] at hst
          have HN := hid hst
          clear hco e1 HK hy hc hst
          go_wp2_with fail
          refine HC.out.mono ?_
          rintro e w' ⟨rfl, rfl⟩
          go_wp2_with fail
          go_roundw
          case rel => exact ⟨n, rfl, by omega, by first | rfl | trivial, HN⟩
          case measure => simp [RowKit.intOf]
/-- the word of the innermost table element: its class, 'table' for table itself, none for none -/
def innW (y : List UInt8) : List UInt8 := if y = [] then [] else if y = tblN then tblN else classW (classL y)
set_option maxHeartbeats 4000000 in
set_option maxRecDepth 100000 in
theorem refInner_any (ov : Value) (op : List (List UInt8)) (w : World) (h : Words w ov op) (hfw : op.length ≤ 100000000) :
    Calls Tryz.prog 176 #[ov] w fun e w' => e = .returned (.string (bs (innW (innE op.reverse)))) ∧ w' = w := by
  obtain ⟨p, c, rfl, hlc, hcm, hcell, _⟩ := h
  obtain ⟨R, hR⟩ : ∃ R, innE op.reverse = R := ⟨_, rfl⟩
  rw [hR]
  rw [← innK_all] at hR
  have HR := hid (fun (_ : True) => hR)
  have HH := hid hcell
  have w0 : IntKind.i64.wrap ((op.length : Int) - 1) = (op.length : Int) - 1 := by rw [IntKind.wrap_i64]; omega
  obtain ⟨IW, hIW⟩ : ∃ IW, bs (innW R) = IW := ⟨_, rfl⟩
  rw [hIW]
  have HIW := hid (fun (_ : True) => hIW)
  clear hR hcell hIW
  go_enter Tryz.func176, Tryz.ntmps176
  go_wp2_with fail
  go_loopw [3] (fun iv wr => ∃ k : Nat, iv = .int .i64 ((k : Int) - 1) ∧ k ≤ op.length ∧ wr = w ∧ Hid (innK op k = R)) (fun iv _ => (RowKit.intOf iv + 1).toNat)
  case atStart => exact ⟨op.length, rfl, Nat.le_refl _, rfl, hid (HR.out trivial)⟩
  case round =>
    clear w0 HR
    obtain ⟨k, rfl, hk, rfl, HK⟩ := hrel
    cases k with
    | zero =>
      have hr := HK.out
      rw [innK_zero] at hr
      subst hr
      have hi : (⟨#[]⟩ : ByteArray) = IW := HIW.out trivial
      subst hi
      clear HH HK HIW
      go_wp2_with fail
      go_ret
      exact ⟨rfl, rfl⟩
    | succ n =>
      obtain ⟨y, hy⟩ : ∃ y, op[n]? = some y := ⟨_, List.getElem?_eq_getElem (by omega)⟩
      have hst := HK.out
      rw [innK_step hy] at hst
      obtain ⟨g, o, rfl, k1⟩ := HH.out n y hy
      have w1 : ((n + 1 : Nat) : Int) - 1 = (n : Int) := by omega
      have w2 : IntKind.i64.wrap ((n : Int) - 1) = (n : Int) - 1 := by rw [IntKind.wrap_i64]; omega
      rw [w1]
      have d1 : decide ((0 : Int) ≤ (n : Int)) = true := decide_eq_true (by omega)
      have d2 : decide ((n : Int) ≥ 0) = true := decide_eq_true (by omega)
      have hq : ((bs y).toList == [116, 97, 98, 108, 101]) = decide (y = tblN) := by rw [bs_toList, Bool.eq_iff_iff, beq_iff_eq, decide_eq_true_iff]; rfl
      have hit := fun W => refTable_any (bs y) W
      have hcl := fun W => classOf_any (bs y) W
      rw [bs_toList] at hit hcl
      have hyn : tableX y = true → y ≠ [] := fun h e => by subst e; revert h; decide +kernel
      have HI := hid hit
      have HC := hid hcl
      clear hit hcl
      generalize bs y = Y at k1 hq HI HC
      by_cases e1 : y = tblN
      · rw [decide_eq_true e1] at hq
        subst e1
        have ht : tableX tblN = true := by decide +kernel
        rw [if_pos ht] at hst
        subst hst
        have hi : (⟨#[116, 97, 98, 108, 101]⟩ : ByteArray) = IW := by
          rw [← HIW.out trivial]
          unfold innW
          rw [if_neg (hyn ht), if_pos rfl]
          rfl
        subst hi
        clear HK HH hy HIW HI HC ht hyn
        go_wp2_with fail
        go_ret
        exact ⟨rfl, rfl⟩
      · rw [decide_eq_false e1] at hq
        cases hT : tableX y with
        | true =>
          rw [hT] at HI hst
          rw [if_pos rfl] at hst
          subst hst
          have hi := HIW.out trivial
          unfold innW at hi
          rw [if_neg (hyn hT), if_neg e1] at hi
          rw [hi] at HC
          clear HK HH hy HIW hT hyn e1 hi
          go_wp2_with fail
          refine (HI.out _).mono ?_
          rintro e w' ⟨rfl, rfl⟩
          go_wp2_with fail
          refine (HC.out _).mono ?_
          rintro e w' ⟨rfl, rfl⟩
          go_wp2_with fail
          go_ret
          exact ⟨rfl, rfl⟩
        | false =>
          rw [hT] at HI hst
          rw [if_neg Bool.false_ne_true] at hst
          have HN := hid hst
          clear HK hy hT hyn e1 hst HC
          go_wp2_with fail
          refine (HI.out _).mono ?_
          rintro e w' ⟨rfl, rfl⟩
          go_wp2_with fail
          go_roundw
          case rel => exact ⟨n, rfl, by omega, by first | rfl | trivial, HN⟩
          case measure => simp [RowKit.intOf]
end Go.Proofs.YtcncbhbdpcpkeaaGreatDoor

/-
  The reference's itemAhead: its walk.
-/
namespace Go.Proofs.YtcncbhbdpcpkeaaGreatDoor
open Go.RowKit Go.Lib Own

def phraW : List UInt8 := [112, 104, 114, 97, 115, 105, 110, 103]
/-- what stands open where a start tag is judged: known, not void, no textarea -/
def OpenP (op : List (List UInt8)) : Prop := ∀ y ∈ op, elemL y ≠ none ∧ modX y ≠ 9 ∧ modX y ≠ 3
theorem li_cls (y : List UInt8) (h : elemL y ≠ none) : clsX y = 4 ↔ y = [108, 105] :=
  known_all (fun y => clsX y = 4 ↔ y = [108, 105]) (by decide +kernel) y h
theorem inline_cls (y : List UInt8) (h : elemL y ≠ none) (h9 : modX y ≠ 9) (h3 : modX y ≠ 3) : (classW (classL y) = phraW ↔ clsX y = 2) ∧ (clsX y = 2 → modW (modX y) = phraW) :=
  known_all (fun y => modX y ≠ 9 → modX y ≠ 3 → ((classW (classL y) = phraW ↔ clsX y = 2) ∧ (clsX y = 2 → modW (modX y) = phraW))) (by decide +kernel) y h h9 h3
set_option maxHeartbeats 4000000 in
set_option maxRecDepth 100000 in
theorem refItem_any (ov : Value) (op : List (List UInt8)) (w : World) (h : Words w ov op) (hfw : op.length ≤ 100000000) (ho : OpenP op) :
    Calls Tryz.prog 178 #[ov] w fun e w' => e = .returned (.bool (itemR op.reverse)) ∧ w' = w := by
  obtain ⟨p, c, rfl, hlc, hcm, hcell, _⟩ := h
  obtain ⟨R, hR⟩ : ∃ R, itemR op.reverse = R := ⟨_, rfl⟩
  rw [hR]
  rw [← itemK_all] at hR
  have HR := hid (fun (_ : True) => hR)
  have HH := hid (And.intro hcell ho)
  have w0 : IntKind.i64.wrap ((op.length : Int) - 1) = (op.length : Int) - 1 := by rw [IntKind.wrap_i64]; omega
  clear hR hcell ho
  go_enter Tryz.func178, Tryz.ntmps178
  go_wp2_with fail
  go_loopw [3] (fun iv wr => ∃ k : Nat, iv = .int .i64 ((k : Int) - 1) ∧ k ≤ op.length ∧ wr = w ∧ Hid (itemK op k = R)) (fun iv _ => (RowKit.intOf iv + 1).toNat)
  case atStart => exact ⟨op.length, rfl, Nat.le_refl _, rfl, hid (HR.out trivial)⟩
  case round =>
    clear w0 HR
    obtain ⟨k, rfl, hk, rfl, HK⟩ := hrel
    cases k with
    | zero =>
      have hr := HK.out
      rw [itemK_zero] at hr
      subst hr
      clear HH HK
      go_wp2_with fail
      go_ret
      exact ⟨rfl, rfl⟩
    | succ n =>
      obtain ⟨y, hy⟩ : ∃ y, op[n]? = some y := ⟨_, List.getElem?_eq_getElem (by omega)⟩
      have hst := HK.out
      rw [itemK_step hy] at hst
      obtain ⟨g, o, rfl, k1⟩ := HH.out.1 n y hy
      obtain ⟨ok1, ok2, ok3⟩ := HH.out.2 y (List.mem_of_getElem? hy)
      have hli := li_cls y ok1
      have hin := inline_cls y ok1 ok2 ok3
      have w1 : ((n + 1 : Nat) : Int) - 1 = (n : Int) := by omega
      have w2 : IntKind.i64.wrap ((n : Int) - 1) = (n : Int) - 1 := by rw [IntKind.wrap_i64]; omega
      rw [w1]
      have d1 : decide ((0 : Int) ≤ (n : Int)) = true := decide_eq_true (by omega)
      have d2 : decide ((n : Int) ≥ 0) = true := decide_eq_true (by omega)
      have hq : ∀ z : List UInt8, ((bs y).toList == z) = decide (y = z) := fun z => by rw [bs_toList, Bool.eq_iff_iff, beq_iff_eq, decide_eq_true_iff]
      have q1 := hq [108, 105]
      have q2 := hq [100, 105, 118]
      have q3 := hq [112]
      clear hq
      have hcl := fun W => classOf_any (bs y) W
      rw [bs_toList] at hcl
      have hmo := fun W => modelOf_any y W ok1
      have r1 : ((bs (classW (classL y))).toList == [112, 104, 114, 97, 115, 105, 110, 103]) = decide (clsX y = 2) := by
        rw [bs_toList, Bool.eq_iff_iff, beq_iff_eq, decide_eq_true_iff]
        exact hin.1
      have r2 : clsX y = 2 → ((bs (modW (modX y))).toList == [112, 104, 114, 97, 115, 105, 110, 103]) = true := fun e => by
        rw [bs_toList, beq_iff_eq]
        exact hin.2 e
      have HC := hid hcl
      have HM := hid hmo
      clear hcl hmo hin
      generalize bs y = Y at k1 q1 q2 q3 HC HM
      generalize bs (classW (classL y)) = CW at r1 HC
      generalize bs (modW (modX y)) = MW at r2 HM
      have HLI := hid (fun (_ : True) => hli)
      have HST := hid (fun (_ : True) => hst)
      clear HK hy ok1 ok2 ok3 hli hst
      by_cases e1 : y = [108, 105]
      · rw [decide_eq_true e1] at q1
        have hr := HST.out trivial
        rw [if_pos ((HLI.out trivial).2 e1)] at hr
        subst hr
        clear HST HLI HC HM HH r2 e1 r1 q2 q3
        go_wp2_with fail
        go_ret
        exact ⟨rfl, rfl⟩
      · rw [decide_eq_false e1] at q1
        have hst := HST.out trivial
        rw [if_neg (fun e => e1 ((HLI.out trivial).1 e))] at hst
        by_cases e2 : clsX y = 2
        · rw [decide_eq_true e2] at r1
          have r2 := r2 e2
          rw [if_neg (fun h => h.1 e2)] at hst
          have HN := hid hst
          clear HST HLI hst e1 e2 q2 q3 HH
          go_wp2_with fail
          refine (HC.out _).mono ?_
          rintro e w' ⟨rfl, rfl⟩
          go_wp2_with fail
          refine (HM.out _).mono ?_
          rintro e w' ⟨rfl, rfl⟩
          go_wp2_with fail
          go_roundw
          case rel => exact ⟨n, rfl, by omega, by first | rfl | trivial, HN⟩
          case measure => simp [RowKit.intOf]
        · rw [decide_eq_false e2] at r1
          by_cases e3 : y = [100, 105, 118]
          · rw [decide_eq_true e3] at q2
            rw [if_neg (fun h => h.2.1 e3)] at hst
            have HN := hid hst
            clear HST HLI hst e1 e2 e3 HH r2 HM q3
            go_wp2_with fail
            refine (HC.out _).mono ?_
            rintro e w' ⟨rfl, rfl⟩
            go_wp2_with fail
            go_roundw
            case rel => exact ⟨n, rfl, by omega, by first | rfl | trivial, HN⟩
            case measure => simp [RowKit.intOf]
          · rw [decide_eq_false e3] at q2
            by_cases e4 : y = [112]
            · rw [decide_eq_true e4] at q3
              rw [if_neg (fun h => h.2.2 e4)] at hst
              have HN := hid hst
              clear HST HLI hst e1 e2 e3 e4 HH r2 HM
              go_wp2_with fail
              refine (HC.out _).mono ?_
              rintro e w' ⟨rfl, rfl⟩
              go_wp2_with fail
              go_roundw
              case rel => exact ⟨n, rfl, by omega, by first | rfl | trivial, HN⟩
              case measure => simp [RowKit.intOf]
            · rw [decide_eq_false e4] at q3
              rw [if_pos ⟨e2, e3, e4⟩] at hst
              subst hst
              clear HST HLI e1 e2 e3 e4 HH r2 HM
              go_wp2_with fail
              refine (HC.out _).mono ?_
              rintro e w' ⟨rfl, rfl⟩
              go_wp2_with fail
              go_ret
              exact ⟨rfl, rfl⟩
end Go.Proofs.YtcncbhbdpcpkeaaGreatDoor

/-
  The reference's sameTwice: its walk.
-/
namespace Go.Proofs.YtcncbhbdpcpkeaaGreatDoor
open Go.RowKit Go.Lib Own

theorem nodup_snoc {l : List (List UInt8)} {x : List UInt8} (h : l.Nodup) (hx : x ∉ l) : (l ++ [x]).Nodup := by
  rw [List.nodup_append]
  exact ⟨h, by simp, fun a ha b hb => by rw [List.mem_singleton] at hb; subst hb; exact fun e => hx (e ▸ ha)⟩
set_option maxHeartbeats 4000000 in
set_option maxRecDepth 100000 in
theorem refSameTwice_any (v : Value) (al : List AttrP) (w : World) (h : AttrsR w v al) (hl : al.length ≤ 100000000) :
    Calls Tryz.prog 116 #[v] w fun e w' => e = .returned (.bool (!decide ((al.map Prod.fst).Nodup))) ∧ ∃ n, w' = w.drewN n := by
  obtain ⟨p, c, rfl, hlc, hcm, hcell, _⟩ := h
  obtain ⟨R, hR⟩ : ∃ R, (!decide ((al.map Prod.fst).Nodup)) = R := ⟨_, rfl⟩
  rw [hR]
  have HR := hid (fun (_ : True) => hR)
  have HC := hid hcell
  clear hR hcell
  go_enter Tryz.func116, Tryz.ntmps116
  go_wp2_with fail
  go_loopw [3] (fun iv wr => ∃ i : Nat, iv = .int .i64 i ∧ i ≤ al.length ∧ Hid (True → ∃ n, wr = w.drewN n) ∧ Hid (((al.map Prod.fst).take i).Nodup)) (fun iv _ => al.length - (RowKit.intOf iv).toNat)
  case atStart => exact ⟨0, rfl, Nat.zero_le _, hid (fun _ => ⟨0, rfl⟩), hid (by simp)⟩
  case round =>
    obtain ⟨i, rfl, hi, HQ, HN⟩ := hrel
    by_cases hil : i < al.length
    · obtain ⟨a, ha⟩ : ∃ a, al[i]? = some a := ⟨_, List.getElem?_eq_getElem hil⟩
      obtain ⟨b, o, rfl, k0, _⟩ := HC.out i a ha
      have hna : (al.map Prod.fst)[i]? = some a.1 := by rw [List.getElem?_map, ha]; rfl
      have HA := hid (And.intro ha hna)
      have hwi : IntKind.i64.wrap ((i : Int) + 1) = (i : Int) + 1 := by rw [IntKind.wrap_i64]; omega
      clear ha hna
      obtain ⟨wo, hwo⟩ : ∃ wo, wo = wr := ⟨_, rfl⟩
      subst hwo
      go_wp2_with fail
      go_loopw [4] (fun jv wr2 => ∃ j : Nat, jv = .int .i64 j ∧ j ≤ i ∧ Hid (True → ∃ n, wr2 = w.drewN n) ∧ Hid (a.1 ∉ (al.map Prod.fst).take j)) (fun jv _ => i - (RowKit.intOf jv).toNat)
      case atStart => exact ⟨0, rfl, Nat.zero_le _, HQ, hid (by simp)⟩
      case round =>
        obtain ⟨j, rfl, hj, HQ2, HM⟩ := hrel
        by_cases hjl : j < i
        · obtain ⟨d, hd⟩ : ∃ d, al[j]? = some d := ⟨_, List.getElem?_eq_getElem (by omega)⟩
          obtain ⟨b2, o2, e2, m0, _⟩ := HC.out j d hd
          cases e2
          have hq2 := HQ2.out trivial
          have k1 := cell_drew hq2 k0
          have m1 := cell_drew hq2 m0
          have hnd : (al.map Prod.fst)[j]? = some d.1 := by rw [List.getElem?_map, hd]; rfl
          have hqq := bs_beq d.1 a.1
          have hwj : IntKind.i64.wrap ((j : Int) + 1) = (j : Int) + 1 := by rw [IntKind.wrap_i64]; omega
          have hna := HA.out.2
          by_cases hq : d.1 = a.1
          · rw [decide_eq_true hq] at hqq
            have hr : true = R := by
              rw [← HR.out trivial, decide_eq_false (fun hnn => ?_)]
              · rfl
              · have := (List.getElem?_inj (by rw [List.length_map]; omega) hnn).1 (hnd.trans (by rw [hq]; exact hna.symm))
                omega
            subst hr
            clear hnd hna hq HR HM HN HA hd hq2 k0 m0 HC HQ
            generalize bs d.1 = D at m1 hqq
            generalize bs a.1 = A at k1 hqq
            go_wp2_with fail
            go_region
            all_goals
              go_wp2_with fail
              go_ret
              obtain ⟨n, hn⟩ := HQ2.out trivial
              exact ⟨rfl, n + 1, by rw [hn]; simp⟩
          · rw [decide_eq_false hq] at hqq
            have HM2 : Hid (a.1 ∉ (al.map Prod.fst).take (j + 1)) := hid (by
              rw [List.take_add_one, hnd]
              simp only [Option.toList_some, List.mem_append, List.mem_singleton]
              exact fun e => e.elim HM.out (fun e => hq e.symm))
            clear hnd hna hq HM HN HA hd hq2 k0 m0 HC HQ
            generalize bs d.1 = D at m1 hqq
            generalize bs a.1 = A at k1 hqq
            go_wp2_with fail
            go_region
            all_goals
              go_wp2_with fail
              go_roundw
              case rel =>
                obtain ⟨n, hn⟩ := HQ2.out trivial
                exact ⟨j + 1, rfl, by omega, hid (fun _ => ⟨n + 1, by rw [hn]; simp⟩), HM2⟩
              case measure => simp [RowKit.intOf]; omega
        · obtain rfl : j = i := by omega
          have HN2 : Hid (((al.map Prod.fst).take (j + 1)).Nodup) := hid (by
            rw [List.take_add_one, HA.out.2]
            exact nodup_snoc HN.out HM.out)
          clear HA HM HN HC k0 HQ
          go_wp2_with fail
          go_roundw
          case rel => exact ⟨j + 1, rfl, by omega, HQ2, HN2⟩
          case measure => simp [RowKit.intOf]; omega
    · have hr : false = R := by
        rw [← HR.out trivial]
        have := HN.out
        rw [List.take_of_length_le (by rw [List.length_map]; omega)] at this
        rw [decide_eq_true this]
        rfl
      subst hr
      clear HR HN HC
      go_wp2_with fail
      go_ret
      exact ⟨rfl, HQ.out trivial⟩
end Go.Proofs.YtcncbhbdpcpkeaaGreatDoor

/-
  markup.Serialize: its walk.
-/
namespace Go.Proofs.YtcncbhbdpcpkeaaGreatDoor
open Go.RowKit Go.Lib Own

def opB (op : List (List UInt8)) : Nat := (op.map fun x => x.length + 1).sum
theorem opB_app (a b : List (List UInt8)) : opB (a ++ b) = opB a + opB b := by unfold opB; rw [List.map_append, List.sum_append]
theorem opB_take (op : List (List UInt8)) (k : Nat) : opB (op.take k) + opB (op.drop k) = opB op := by rw [← opB_app, List.take_append_drop]
theorem opB_get {op : List (List UInt8)} {x : List UInt8} (h : x ∈ op) : x.length + 1 ≤ opB op := by
  induction op with
  | nil => cases h
  | cons y r ih =>
    have e : opB (y :: r) = y.length + 1 + opB r := rfl
    rcases List.mem_cons.1 h with rfl | h
    · omega
    · have := ih h; omega
theorem opB_len (op : List (List UInt8)) : op.length ≤ opB op := by
  induction op with
  | nil => exact Nat.le_refl _
  | cons y r ih =>
    have e : opB (y :: r) = y.length + 1 + opB r := rfl
    rw [List.length_cons]
    omega
theorem bulk_close (op : List (List UInt8)) : bulkE ((op.reverse.map Ev.stop).map toP) = opB op := by
  unfold bulkE opB
  rw [List.map_map, List.map_map, List.map_reverse, List.sum_reverse]
  refine congrArg List.sum (List.map_congr_left fun x _ => ?_)
  show x.length + 0 + 0 + 1 = x.length + 1
  omega
theorem bulkE_app (a b : List EvP) : bulkE (a ++ b) = bulkE a + bulkE b := by unfold bulkE; rw [List.map_append, List.sum_append]
theorem node_bulk (n : EvP) : bulkE [toP (nodeE n)] ≤ n.n.length + n.t.length + bulkA n.a + 1 := by
  rw [bulkE_cons]
  unfold nodeE
  split
  · show 0 + n.t.length + 0 + 1 + 0 ≤ _; omega
  · show n.n.length + 0 + bulkA n.a + 1 + 0 ≤ _; omega
theorem nodeO_bulk (op : List (List UInt8)) (n : EvP) : opB (nodeO op n) ≤ opB (op.take n.k.toNat) + (n.n.length + 1) := by
  unfold nodeO
  split
  · omega
  · rw [opB_app]
    show _ + (n.n.length + 1 + 0) ≤ _
    omega
theorem tree_bulk : ∀ (ns : List EvP) (op : List (List UInt8)), bulkE ((treeE op ns).map toP) ≤ opB op + 2 * bulkE ns
  | [], op => by
    show bulkE ((closeE 0 op).map toP) ≤ _
    unfold closeE
    rw [List.drop_zero, bulk_close]
    omega
  | n :: r, op => by
    have ih := tree_bulk r (nodeO op n)
    have h1 := nodeO_bulk op n
    have h2 := opB_take op n.k.toNat
    have h3 := node_bulk n
    have h4 : bulkE ((closeE n.k.toNat op).map toP) = opB (op.drop n.k.toNat) := bulk_close _
    rw [tree_cons, List.map_append, List.map_cons, bulkE_app, ← List.singleton_append, bulkE_app, h4]
    have h5 := bulkE_cons n r
    omega
theorem tree_len (ns : List EvP) (op : List (List UInt8)) (eat : Bool) : (wEv eat (treeE op ns)).length ≤ 6 * (opB op + 2 * bulkE ns) :=
  Nat.le_trans (writeW_len _ _) (Nat.mul_le_mul_left 6 (tree_bulk ns op))
theorem nodeO_len {op : List (List UInt8)} {n : EvP} (h : n.k.toNat ≤ op.length) (h0 : 0 ≤ n.k) : ((nodeO op n).length : Int) = if n.n = [] ∨ modX n.n = 9 then n.k else n.k + 1 := by
  unfold nodeO
  split
  · rw [List.length_take]; omega
  · rw [List.length_append, List.length_take, List.length_singleton]; omega
theorem shape_next {n : EvP} {r : List EvP} {op : List (List UInt8)} (h : shapeB (op.length : Int) (n :: r) = true) : 0 ≤ n.k ∧ n.k.toNat ≤ op.length ∧ shapeB ((nodeO op n).length : Int) r = true := by
  rw [shape_cons] at h
  split at h
  · cases h
  rename_i h1
  have h0 : 0 ≤ n.k := by omega
  have h2 : n.k.toNat ≤ op.length := by omega
  split at h
  · cases h
  split at h
  · cases h
  rw [nodeO_len h2 h0]
  exact ⟨h0, h2, h⟩
/-- what Serialize writes -/
def serP (ns : List EvP) : List UInt8 := if shapeB 0 ns = true then serL ns else []
/-- the writer at work, and what is left to write -/
structure SerAt (w W0 wr : World) (b : Nat) (ns : List EvP) (R : List UInt8) (eat : Bool) (acc : List UInt8) (op : List (List UInt8)) (ov : Value) (N : Nat) : Prop where
  tw : TwAt (fun _ _ => False) wr w.heap.size b eat acc op ov
  be : Below w.heap.size w wr
  res : acc ++ wEv eat (treeE op ns) = R
  sh : shapeB (op.length : Int) ns = true
  bk : opB op + bulkE ns ≤ N
set_option maxHeartbeats 4000000 in
set_option maxRecDepth 100000 in
theorem serialize_any (v : Value) (ns : List EvP) (m : Int) (w : World) (h : EvsR w v ns) (hs : bulkE ns ≤ 10000000) (hm : w.cell? ⟨4, 0, none⟩ = some (.int .i64 m)) (hK : KindsTab w) :
    Calls Tryz.prog 20 #[v] w fun e w' => e = .returned (.string (bs (serP ns))) ∧ Below w.heap.size w w' := by
  have hsp := shaped_any v ns w h hK
  obtain ⟨p, c, rfl, hlc, hcm, hcell⟩ := h
  have hlen := bulkE_len ns
  have hnl : ns.length ≤ 10000000 := by omega
  obtain ⟨R, hR⟩ : ∃ R, serP ns = R := ⟨_, rfl⟩
  rw [hR]
  unfold serP at hR
  have HSP := hid hsp
  have HR := hid (fun (_ : True) => hR)
  have HC := hid hcell
  have HG := hid (And.intro hm (And.intro hK hs))
  clear hsp hR hcell hm hK hs hlen
  cases hsb : shapeB 0 ns with
  | false =>
    have hr := HR.out trivial
    rw [hsb, if_neg Bool.false_ne_true] at hr
    subst hr
    rw [hsb] at HSP
    clear hsb HR HC HG
    go_enter Tryz.func20, Tryz.ntmps20
    go_wp2_with fail
    refine HSP.out.mono ?_
    rintro e W1 ⟨rfl, hb1⟩
    have HZ := hid hb1
    clear hb1 HSP
    go_wp2_with fail
    go_ret
    exact ⟨rfl, HZ.out⟩
  | true =>
    have hr := HR.out trivial
    rw [hsb, if_pos rfl] at hr
    have hRl : R.length ≤ 12 * bulkE ns := by
      rw [← hr]
      have := tree_len ns [] false
      unfold serL
      have h0 : opB [] = 0 := rfl
      omega
    rw [hsb] at HSP
    have HRR := hid (fun (_ : True) => hr)
    have HSB := hid (fun (_ : True) => hsb)
    have HRL := hid hRl
    clear hsb HR hr hRl
    go_enter Tryz.func20, Tryz.ntmps20
    go_wp2_with fail
    refine HSP.out.mono ?_
    rintro e W1 ⟨rfl, hb1⟩
    go_upto_region 4 with fail
    obtain ⟨W2, hW2⟩ : ∃ W2, W1.alloc (.cells #[.bool false, .pointer none, .slice none 0 0, .slice none 0 0] 103) = W2 := ⟨_, rfl⟩
    have n2 : W2.heap[W1.heap.size]? = some (.cells (twC false (.pointer none) (.slice none 0 0) (.slice none 0 0)) 103 (0, 0)) := by rw [← hW2]; exact heap_alloc_new _ _
    have hb2 : Below W1.heap.size W1 W2 := by rw [← hW2]; exact (Below.refl _ _).alloc (Nat.le_refl _) _
    have hb12 := hb1.trans (hb2.mono hb1.size)
    simp only [hW2]
    clear hW2
    obtain ⟨B, hB⟩ : ∃ B, W1.heap.size = B := ⟨_, rfl⟩
    have hlo : w.heap.size ≤ B := by rw [← hB]; exact hb1.size
    rw [hB] at n2
    simp only [hB]
    have H2 : Hid (SerAt w w W2 B ns R false [] [] (.slice none 0 0) (bulkE ns)) := hid ⟨⟨⟨_, _, ⟨n2, hlo, rfl, rfl, .inl rfl, World.ownsRowF_nil _ _ _ _, by simp [Value.ownBlock]⟩⟩, World.ownsRow_nil _ _ _ _, fun _ _ h => h.elim⟩, hb12, HRR.out trivial, HSB.out trivial, by show 0 + _ ≤ _; omega⟩
    clear hb1 hb2 hb12 n2 hB HSP HRR HSB
    go_wp2_with fail
    go_loopw [11] (fun iv wr => ∃ (k : Nat) (eat : Bool) (acc : List UInt8) (op : List (List UInt8)) (ov : Value), iv = .int .i64 k ∧ k ≤ ns.length ∧ Hid (SerAt w w wr B (ns.drop k) R eat acc op ov (bulkE ns))) (fun iv _ => ns.length - (RowKit.intOf iv).toNat)
    case atStart => exact ⟨0, false, [], [], _, rfl, Nat.zero_le _, H2⟩
    case round =>
      clear H2
      obtain ⟨k, eat, acc, op, ov, rfl, hk, HX⟩ := hrel
      by_cases hkl : k < ns.length
      · obtain ⟨n, hn⟩ : ∃ n, ns[k]? = some n := ⟨_, List.getElem?_eq_getElem hkl⟩
        obtain ⟨b, o, u, rfl, q0, q1, q2, q3, q4⟩ := HC.out k n hn
        obtain ⟨up, uc, rfl⟩ := q4.len
        have hbb := HX.out.be
        have hcl := cell_block q0
        replace q0 := cell_low q0 hbb hcl
        replace q1 := cell_low q1 hbb hcl
        replace q2 := cell_low q2 hbb hcl
        replace q3 := cell_low q3 hbb hcl
        have hx := HX.out
        rw [drop_at hn] at hx
        have hnx := shape_next hx.sh
        obtain ⟨kd, hkd⟩ : ∃ kd : Nat, n.k = (kd : Int) := ⟨n.k.toNat, by omega⟩
        have hkt : n.k.toNat = kd := by rw [hkd]; rfl
        have hbn := hx.bk
        have hbk := bulkE_cons n (ns.drop (k + 1))
        rw [hbk] at hbn
        have hbig := HG.out.2.2
        have hoL := opB_len op
        have hal : (acc ++ wEv eat (closeE kd op ++ [nodeE n])).length ≤ 100000000000 := by
          have h1 := congrArg List.length hx.res
          rw [tree_cons, hkt] at h1
          have h2 := wEv_front (closeE kd op ++ [nodeE n]) eat (treeE (nodeO op n) (ns.drop (k + 1)))
          rw [List.append_assoc, List.singleton_append] at h2
          have h3 := HRL.out
          rw [List.length_append] at h1 ⊢
          omega
        have hb1 := hbb.alloc hbb.size (.cells (evC n (.slice up n.a.length uc)) 38)
        have hadd := addN_any (fun _ _ => False) w w.heap.size B kd eat acc op ov n (.slice up n.a.length uc) m (wr.alloc (.cells (evC n (.slice up n.a.length uc)) 38)) (hx.tw.below ((Below.refl _ _).alloc (Nat.le_refl _) _)) hb1 (Nat.le_refl _) (fun x hx => by have := opB_get hx; omega) HG.out.1 q4 hkd hal (by omega) (by omega) (by omega) HG.out.2.1
        have hfin : ∀ eat' acc', (∀ rest, acc ++ wEv eat (closeE n.k.toNat op ++ nodeE n :: rest) = acc' ++ wEv eat' rest) → acc' ++ wEv eat' (treeE (nodeO op n) (ns.drop (k + 1))) = R := fun eat' acc' h => by
          have h1 := hx.res
          rw [tree_cons] at h1
          rw [← h, h1]
        have hbo : opB (nodeO op n) + bulkE (ns.drop (k + 1)) ≤ bulkE ns := by
          have h1 := nodeO_bulk op n
          have h2 := opB_take op n.k.toNat
          omega
        unfold evC at hadd
        have HA := hid hadd
        have HF := hid (And.intro hfin (And.intro hnx.2.2 hbo))
        clear hadd hfin hbo hal hnx hbn hbk hbig hoL hkd hkt hb1 hx hbb hn q4 HC HX
        go_wp2_with fail
        refine HA.out.mono ?_
        rintro e W3 ⟨rfl, eat', acc', ov', h3, hre, hb3⟩
        have HN : Hid (SerAt w w W3 B (ns.drop (k + 1)) R eat' acc' (nodeO op n) ov' (bulkE ns)) := hid ⟨h3, hb3, HF.out.1 _ _ hre, HF.out.2.1, HF.out.2.2⟩
        clear h3 hre hb3 HA HF q0 q1 q2 q3
        go_wp2_with fail
        go_roundw
        case rel => exact ⟨k + 1, _, _, _, _, rfl, by omega, HN⟩
        case measure => simp [RowKit.intOf]; omega
      · have hx := HX.out
        rw [List.drop_of_length_le (by omega)] at hx
        have hte : treeE op [] = closeE 0 op := rfl
        have hre := hx.res
        rw [hte] at hre
        have hoL := opB_len op
        have hbk := hx.bk
        have hbig := HG.out.2.2
        have hct : Calls Tryz.prog 56 #[.pointer (some ⟨B, 0, none⟩), .int .i64 0] wr fun r w' => r = .returned (.tuple #[]) ∧ CloseOut (fun _ _ => False) w w' w.heap.size B 0 eat acc op := serClose_any (fun _ _ => False) w w.heap.size B 0 eat acc op ov m wr hx.tw hx.be (Nat.le_refl _) (fun x hx => by have := opB_get hx; omega) HG.out.1 (by rw [hre]; have := HRL.out; omega) (by omega) (by omega)
        have HCT := hid hct
        have HRE := hid (fun (_ : True) => hre)
        have z1 : decide ((k : Int) < (ns.length : Int)) = false := decide_eq_false (by omega)
        have z2 : decide (k < ns.length) = false := decide_eq_false hkl
        clear hct hx hte hre hoL hbk hbig HC HX HG
        go_wp2_with fail
        refine HCT.out.mono ?_
        rintro e W3 ⟨rfl, eat', acc', ov', h3, hr3, hb3⟩
        obtain ⟨p', v', hI⟩ := h3.it
        have hacc : acc' = R := by
          have h1 := hr3 []
          rw [List.append_nil, HRE.out trivial, wEv_nil, List.append_nil] at h1
          exact h1.symm
        subst hacc
        have HST := hid (string_any_in w.heap.size B 1 _ _ p' v' acc' W3 hI)
        have HB3 := hid hb3
        clear hb3 hr3 h3 hI HCT HRE
        go_wp2_with (go_at_call 33; refine HST.out.mono ?_; rintro r W4 ⟨rfl, _, b4, _⟩)
        have HY := hid (HB3.out.trans b4)
        clear b4 HB3
        go_ret
        exact ⟨rfl, HY.out⟩
end Go.Proofs.YtcncbhbdpcpkeaaGreatDoor
