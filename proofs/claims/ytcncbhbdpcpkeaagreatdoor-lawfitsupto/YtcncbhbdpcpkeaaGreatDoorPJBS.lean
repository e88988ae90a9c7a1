/-
  Parts of the walk, joined: BalD, ParG, ParS.
-/
import Derived.BigQuiet
import Derived.Test.YtcncbhbdpcpkeaaGreatDoorShelf
import Derived.Deep.Cut
import Derived.Shelf.Slices.In.SortNone
import Derived.Shelf.Sort.Plain
import Derived.Shelf.Strings.SlTrimAscii
import Derived.Test.YtcncbhbdpcpkeaaGreatDoorPJBO
import Derived.Test.YtcncbhbdpcpkeaaGreatDoorPJAA
import Derived.Test.YtcncbhbdpcpkeaaGreatDoorPJAB
import Derived.Test.YtcncbhbdpcpkeaaGreatDoorPJAO
import Derived.Test.YtcncbhbdpcpkeaaGreatDoorPJAR
import Derived.Test.YtcncbhbdpcpkeaaGreatDoorPJBD
import Derived.Test.YtcncbhbdpcpkeaaGreatDoorPJAK
import Derived.Test.YtcncbhbdpcpkeaaGreatDoorPJBE
import Derived.Test.YtcncbhbdpcpkeaaGreatDoorPJAT
import Derived.Test.YtcncbhbdpcpkeaaGreatDoorPJAV
/-
  The balancer's find, reach and end: their walks.
-/
namespace Go.Proofs.YtcncbhbdpcpkeaaGreatDoor
open Go.RowKit Go.Lib Own

theorem modX_lt (x : List UInt8) : modX x < 10 := by
  by_cases h : elemL x = none
  · unfold modX; rw [h]; exact Nat.succ_pos 9
  · exact (known_lt x h).1
theorem modO_lt (op : List (List UInt8)) : modO op < 10 := by
  unfold modO
  split
  · omega
  · exact modX_lt _

theorem of_bsT (s : ByteArray) : bs s.toList = s := by rw [Lib.toList_data]; exact of_bs s
/-- where x stands first; -1: nowhere -/
def idxI (op : List (List UInt8)) (x : List UInt8) : Int := if op.contains x = true then (op.idxOf x : Int) else -1
/-- what is found from k on -/
def idxF (op : List (List UInt8)) (x : List UInt8) (k : Nat) : Int := if (op.drop k).contains x = true then (k : Int) + ((op.drop k).idxOf x : Int) else -1
theorem idxF_zero (op : List (List UInt8)) (x : List UInt8) : idxF op x 0 = idxI op x := by unfold idxF idxI; simp
theorem idxF_yes {op : List (List UInt8)} {x y : List UInt8} {k : Nat} (h : op[k]? = some y) (e : y = x) : idxF op x k = k := by
  subst e
  unfold idxF
  rw [drop_at h]
  simp
theorem idxF_no {op : List (List UInt8)} {x y : List UInt8} {k : Nat} (h : op[k]? = some y) (e : y ≠ x) : idxF op x k = idxF op x (k + 1) := by
  have h3 : (y == x) = false := by rw [Bool.eq_false_iff]; intro q; rw [beq_iff_eq] at q; exact e q
  have h2 : (x == y) = false := by rw [Bool.eq_false_iff]; intro q; rw [beq_iff_eq] at q; exact e q.symm
  unfold idxF
  rw [drop_at h, List.contains_cons, List.idxOf_cons, h2, h3, Bool.false_or]
  split
  · simp; omega
  · rfl
theorem idxF_end {op : List (List UInt8)} {x : List UInt8} {k : Nat} (h : op.length ≤ k) : idxF op x k = -1 := by
  unfold idxF
  rw [List.drop_of_length_le h]
  rfl

set_option maxHeartbeats 4000000 in
set_option maxRecDepth 100000 in
theorem idx_any (base : Nat) (ov : Value) (op : List (List UInt8)) (x : List UInt8) (w : World) (h : OpenR w base ov op) (hop : op.length ≤ 900000) :
    Calls Tryz.prog 182 #[ov, .agg #[.string (bs x), .int .i64 (clsX x : Nat), .int .i64 (modX x : Nat)]] w fun e w' => e = .returned (.int .i64 (idxI op x)) ∧ Below w.heap.size w w' := by
  obtain ⟨op', oc, rfl⟩ := row_shape h
  obtain ⟨R, hR⟩ : ∃ R, idxI op x = R := ⟨_, rfl⟩
  have HR : Hid (idxF op x 0 = R) := (idxF_zero op x).trans hR
  rw [hR]
  obtain ⟨W1, hW1⟩ : ∃ W1, w.alloc (.cells #[.string (bs x), .int .i64 (clsX x : Nat), .int .i64 (modX x : Nat)] 172) = W1 := ⟨_, rfl⟩
  have hb1 : Below w.heap.size w W1 := by rw [← hW1]; exact (Below.refl _ _).alloc (Nat.le_refl _) _
  have n1 : W1.heap[w.heap.size]? = some (.cells #[.string (bs x), .int .i64 (clsX x : Nat), .int .i64 (modX x : Nat)] 172 (0, 0)) := by rw [← hW1]; exact heap_alloc_new _ _
  have hrow := row_below h hb1
  have e0 := cell_at n1 (j := 0) rfl
  have e1 := cell_at n1 (j := 1) rfl
  have e2 := cell_at n1 (j := 2) rfl
  have HW := hid hrow
  have HB := hid hb1
  obtain ⟨BX, hBX⟩ : ∃ n, bs x = n := ⟨_, rfl⟩
  have hbx : BX.toList = x := by rw [← hBX]; exact bs_toList x
  rw [hBX] at hW1 e0 ⊢
  have HBX := hid hbx
  clear h hR hb1 n1 hrow hbx hBX
  go_enter Tryz.func182, Tryz.ntmps182
  go_wp2_with fail
  clear hW1
  go_loopw [8] (fun iv wr => ∃ k : Nat, iv = .int .i64 k ∧ k ≤ op.length ∧ Hid (∃ n, wr = W1.drewN n) ∧ Hid (idxF op x k = R)) (fun iv _ => op.length - (RowKit.intOf iv).toNat)
  case atStart => exact ⟨0, rfl, Nat.zero_le _, hid ⟨0, rfl⟩, HR⟩
  case round =>
    clear HR
    obtain ⟨k, rfl, hk, HQ, HK⟩ := hrel
    by_cases hkl : k < op.length
    · obtain ⟨y, hy⟩ : ∃ y, op[k]? = some y := ⟨_, List.getElem?_eq_getElem hkl⟩
      obtain ⟨g, cap, e3, _, _, hcell⟩ := row_at HW.out (by omega)
      cases e3
      obtain ⟨a0, a1, a2⟩ := elems_at op k y hy
      have hq := HQ.out
      have f0 := cell_drew hq e0
      have f1 := cell_drew hq e1
      have f2 := cell_drew hq e2
      have d0 := cell_drew hq ((hcell (k * 3) (by omega)).trans a0)
      have d1 := cell_drew hq ((hcell (k * 3 + 1) (by omega)).trans a1)
      have d2 := cell_drew hq ((hcell (k * 3 + 2) (by omega)).trans a2)
      have hle := (row_cap HW.out).2
      clear hq a0 a1 a2 hcell
      by_cases q : y = x
      · subst q
        have hfin := idxF_yes hy rfl
        rw [HK.out] at hfin
        subst hfin
        have hby : bs y = BX := by rw [← HBX.out]; exact of_bsT BX
        rw [hby] at d0
        have hs1 : (BX.toList == BX.toList) = true := beq_self_eq_true _
        clear hy HK HW hby
        go_wp2_with fail
        go_quiet (fail)
        go_wp2_with fail
        go_ret
        obtain ⟨n, rfl⟩ := HQ.out
        exact ⟨rfl, below_drewN (below_drewN HB.out n) nq⟩
      · have hnx := idxF_no hy q
        rw [HK.out] at hnx
        have HN := hid hnx.symm
        have q1 : ((bs y).toList == BX.toList) = false := by rw [bs_toList, HBX.out, Bool.eq_false_iff]; intro e; rw [beq_iff_eq] at e; exact q e
        have q2 : (BX.toList == (bs y).toList) = false := by rw [bs_toList, HBX.out, Bool.eq_false_iff]; intro e; rw [beq_iff_eq] at e; exact q e.symm
        clear hy HK HW hnx
        go_wp2_with fail
        go_quiet (fail)
        go_wp2_with fail
        go_roundw
        case rel =>
          obtain ⟨n, hn⟩ := HQ.out
          exact ⟨k + 1, rfl, by omega, hid ⟨n + nq, by rw [hn]; simp⟩, HN⟩
        case measure => simp [RowKit.intOf]; omega
    · have hfin := idxF_end (op := op) (x := x) (show op.length ≤ k by omega)
      rw [HK.out] at hfin
      subst hfin
      clear HK HW
      go_wp2_with fail
      go_ret
      obtain ⟨n, rfl⟩ := HQ.out
      exact ⟨rfl, below_drewN HB.out n⟩
end Go.Proofs.YtcncbhbdpcpkeaaGreatDoor

/-
  The token reader's start tag: its walk.
-/
namespace Go.Proofs.YtcncbhbdpcpkeaaGreatDoor
open Go.RowKit Go.Lib Own

theorem grownBy_alloc (w : World) (X : Obj) (r : Option Nat) : w.grownBy (w.alloc X) r := grown_below ((Below.refl _ _).alloc (Nat.le_refl _) X) r
theorem just4 {W : World} {b : Nat} {a0 a1 a2 a3 : Value} {T : TypeId} (h : W.heap[b]? = some (.cells #[a0, a1, a2, a3] T (0, 0))) (x0 x1 x2 x3 : Value) :
    Just W ((((W.setCell ⟨b, 0, none⟩ x0).setCell ⟨b, 1, none⟩ x1).setCell ⟨b, 2, none⟩ x2).setCell ⟨b, 3, none⟩ x3) b #[x0, x1, x2, x3] T := by
  have h1 := just_put (j := 0) h x0 rfl
  have h2 := just_put (j := 1) h1.at_ x1 rfl
  have h3 := just_put (j := 2) h2.at_ x2 rfl
  have h4 := just_put (j := 3) h3.at_ x3 rfl
  exact ((h1.andThen h2).andThen h3).andThen h4
end Go.Proofs.YtcncbhbdpcpkeaaGreatDoor

/-
  The parser in memory, and its addText: its walk.
-/
namespace Go.Proofs.YtcncbhbdpcpkeaaGreatDoor
open Go.RowKit Go.Lib Own

theorem ev_ne {W : World} {E b : Nat} {cs cs2 : Array Value} {t t2 : TypeId} {f f2 : Nat × Nat} (h : W.heap[E]? = some (.cells cs t f)) (h2 : W.heap[b]? = some (.cells cs2 t2 f2)) (hne : t ≠ t2) : E ≠ b := by
  rintro rfl
  rw [h] at h2
  cases h2
  exact hne rfl
variable {K : Nat → Array Value → Prop} {w0 W W' : World} {b : Nat} {op : List (List UInt8)} {prs : List (EvP × Value)} {eat : Bool} {ov nv : Value}
end Go.Proofs.YtcncbhbdpcpkeaaGreatDoor
