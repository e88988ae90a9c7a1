/-
  Parts of the walk, joined: PolLend, PolLendA.
-/
import Derived.Laws.AppendOwnNone
import Derived.Deep.Cut
import Derived.Deep.RegionWith
import Derived.Deep.AppendLies
import Derived.Test.YtcncbhbdpcpkeaaGreatDoorPJAJ
/-
  The statements' sameTexts, longTexts: their walks.
-/
namespace Go.Proofs.YtcncbhbdpcpkeaaGreatDoor
open Go.RowKit Go.Lib Own

set_option maxHeartbeats 2000000 in
set_option maxRecDepth 100000 in
theorem sameTexts_any (v1 v2 : Value) (ss : List (List UInt8)) (w : World) (h1 : Words w v1 ss) (h2 : Words w v2 ss) :
    Calls Tryz.prog 57 #[v1, v2] w fun e w' => e = .returned (.bool true) ∧ ∃ n, w' = w.drewN n := by
  obtain ⟨p1, c1, rfl, _, _, a1, _⟩ := h1
  obtain ⟨p2, c2, rfl, _, _, a2, _⟩ := h2
  have H1 := hid a1
  have H2 := hid a2
  clear a1 a2
  go_enter Tryz.func57, Tryz.ntmps57
  have q0 : ((ss.length : Int) != (ss.length : Int)) = false := by simp
  go_wp2
  go_loopw [13] (fun iv wr => ∃ k n : Nat, iv = .int .i64 k ∧ k ≤ ss.length ∧ wr = w.drewN n) (fun iv _ => ss.length - (RowKit.intOf iv).toNat)
  case atStart => exact ⟨0, 0, rfl, Nat.zero_le _, rfl⟩
  case round =>
    obtain ⟨k, n, rfl, hk, rfl⟩ := hrel
    by_cases hkl : k < ss.length
    · obtain ⟨s, hs⟩ : ∃ s, ss[k]? = some s := ⟨_, List.getElem?_eq_getElem hkl⟩
      obtain ⟨b1, o1, rfl, d1⟩ := H1.out k s hs
      obtain ⟨b2, o2, rfl, d2⟩ := H2.out k s hs
      obtain ⟨S, hS⟩ : ∃ S, bs s = S := ⟨_, rfl⟩
      rw [hS] at d1 d2
      clear hs hS H1 H2
      go_wp2_with fail
      go_quiet (fail)
      go_wp2
      go_roundw
      case rel => exact ⟨k + 1, n + nq, rfl, by omega, by first | rfl | simp⟩
      case measure => simp [RowKit.intOf]; omega
    · go_wp2
      go_ret
      exact ⟨rfl, n, rfl⟩

/-- the cells of words -/
def wordsV (ss : List (List UInt8)) : List Value := ss.map fun s => .string (bs s)
theorem wordsV_app (a b : List (List UInt8)) : wordsV (a ++ b) = wordsV a ++ wordsV b := List.map_append
theorem wordsV_len (a : List (List UInt8)) : (wordsV a).length = a.length * 1 := by simp [wordsV]
theorem wordsV_one (a : List (List UInt8)) : ∀ u ∈ wordsV a, u.oneCell' = true := by
  intro u hu
  unfold wordsV at hu
  obtain ⟨s, _, rfl⟩ := List.mem_map.1 hu
  rfl
/-- words appended to a row of words that the call owns -/
theorem wpList_append_words {w : World} {ops : Array Oper} {rest : List Oper} {o : Oper} {a : Act} {Q : Exit → Act → World → Prop} (hgd : o.guard = none) (s x : Operand)
    (ho : o.op = .call { callee := .builtin .append, args := #[s, x], argTypes := #[41, 41] }) (base : Nat) (v vx : Value) (l m : List (List UInt8)) (hs : a.eval s = v) (hx : a.eval x = vx)
    (hown : w.ownsRow base 9 1 v l.length (wordsV l)) (hw : Words w vx m) (hbase : base ≤ w.heap.size) (hsz : l.length + m.length ≤ 1000000000)
    (h : ∀ v' w', w'.ownsRow base 9 1 v' (l ++ m).length (wordsV (l ++ m)) → w.grownBy w' v.ownBlock → wpList Tryz.prog ops Q rest (a.put o.dst v') w') : wpList Tryz.prog ops Q (o :: rest) a w := by
  obtain ⟨i0, hi, hz0, hz1, hz2⟩ := info_parts info_str
  obtain ⟨p, c, rfl, hc, hm, hcell, hnone⟩ := hw
  cases p with
  | none =>
    obtain rfl : c = 0 := hnone rfl
    obtain rfl : m = [] := List.length_eq_zero_iff.1 (by omega)
    refine wpList_append_own_none hgd s x 41 ho base 9 i0 1 Tryz.underlying41 hi v l.length (wordsV l) hs hown hx ?_
    exact h v w (by rw [List.append_nil]; exact hown) ⟨rfl, rfl, rfl, Nat.le_refl _, fun _ _ _ => rfl⟩
  | some ad =>
    refine wpList_append_own w hgd s x 41 ho base 9 i0 (.string ⟨#[]⟩) 1 16 Tryz.underlying41 hi hz0 hz1 hz2 rfl (by decide) v l.length (wordsV l) hs hown ad m.length c (wordsV m) hx (wordsV_len m) ?_ (wordsV_one m) (by unfold maxLen; omega) (by omega) hbase ?_
    · intro j u hj
      unfold wordsV at hj
      rw [List.getElem?_map] at hj
      obtain ⟨t, ht, rfl⟩ := Option.map_eq_some_iff.1 hj
      obtain ⟨b, o', e, hd⟩ := hcell j t ht
      cases e
      have hadd : (⟨b, o', none⟩ : Addr).add j = ⟨b, o' + j, none⟩ := by unfold Addr.add; split <;> simp_all
      rw [hadd]
      exact hd
    · intro v' w' h2 h3 _
      exact h v' w' (by rw [List.length_append, wordsV_app]; exact h2) h3

set_option maxHeartbeats 2000000 in
set_option maxRecDepth 100000 in
theorem longTexts_any (v1 v2 : Value) (l m : List (List UInt8)) (w : World) (h1 : Words w v1 l) (h2 : Words w v2 m) (hl : l.length ≤ 4000000) (hm : m.length ≤ 4000000) :
    Calls Tryz.prog 49 #[v1, v2] w fun e w' => ∃ v, e = .returned v ∧ w'.ownsRow w.heap.size 9 1 v (l ++ m).length (wordsV (l ++ m)) ∧ Below w.heap.size w w' := by
  have H1 := hid h1
  have H2 := hid h2
  obtain ⟨p1, c1, rfl, _⟩ := h1.len
  obtain ⟨p2, c2, rfl, _⟩ := h2.len
  clear h1 h2
  go_enter Tryz.func49, Tryz.ntmps49
  have hb0 := heap_alloc_new w (.cells #[] 9)
  have hown0 : (w.alloc (.cells #[] 9)).ownsRow w.heap.size 9 1 (.slice (some ⟨w.heap.size, 0, none⟩) 0 0) ([] : List (List UInt8)).length (wordsV []) := ⟨rfl, .inr ⟨w.heap.size, 0, #[], rfl, Nat.le_refl _, hb0, Nat.le_refl _, by decide, rfl, rfl⟩⟩
  have hbel0 : Below w.heap.size w (w.alloc (.cells #[] 9)) := (Below.refl w.heap.size w).alloc (Nat.le_refl _) _
  have HO := hid hown0
  have HB := hid hbel0
  clear hb0 hown0 hbel0
  go_wp2_with (at_builtin; refine wpList_append_words rfl (.tmp 6) (.tmp 7) rfl w.heap.size _ _ [] l rfl rfl (by exact HO.out) (by exact H1.out.below HB.out) HB.out.size (by simp; omega) ?_)
  intro v3 w3 hown3 hgrow3
  have hbel3 : Below w.heap.size w w3 := HB.out.grown hgrow3 HB.out.size (fun k hk => (HO.out.lt k hk).1)
  have HO3 := hid hown3
  have HB3 := hid hbel3
  obtain ⟨p3, c3, rfl⟩ := row_shape hown3
  clear hown3 hgrow3 hbel3 HO HB
  go_wp2_with (at_builtin; refine wpList_append_words rfl (.tmp 9) (.tmp 10) rfl w.heap.size _ _ l m rfl rfl (by exact HO3.out) (by exact H2.out.below HB3.out) HB3.out.size (by omega) ?_)
  intro v4 w4 hown4 hgrow4
  have hbel4 : Below w.heap.size w w4 := HB3.out.grown hgrow4 HB3.out.size (fun k hk => (HO3.out.lt k hk).1)
  have HO4 := hid hown4
  have HB4 := hid hbel4
  clear hown4 hgrow4 hbel4 HO3 HB3
  go_wp2
  go_ret
  exact ⟨_, rfl, by rw [List.length_append]; exact HO4.out, HB4.out⟩
end Go.Proofs.YtcncbhbdpcpkeaaGreatDoor

/-
  The statements' lendPolicy: what its memory holds.
-/
namespace Go.Proofs.YtcncbhbdpcpkeaaGreatDoor
open Go.RowKit Go.Lib Own

def zeroL : Array Value := #[.slice none 0 0, .slice none 0 0, .slice none 0 0, .int .i64 0, .int .i64 0, .slice none 0 0, .slice none 0 0, .slice none 0 0, .slice none 0 0]
theorem row_cap {W : World} {base : Nat} {e : TypeId} {size n m c : Nat} {p : Option Addr} {xs : List Value} (h : W.ownsRow base e size (.slice p m c) n xs) : m = n ∧ n ≤ c := by
  rcases h.2 with ⟨e, rfl⟩ | ⟨g, cap, cur, e, _, _, hle, _⟩
  · cases e
    exact ⟨rfl, Nat.le_refl _⟩
  · cases e
    exact ⟨rfl, hle⟩
/-- the two boxes that stand all the while -/
structure LndB (w W : World) (C0 : Array Value) : Prop where
  be : Below w.heap.size w W
  b0 : W.heap[w.heap.size]? = some (.cells C0 43 (0, 0))
  b1 : W.heap[w.heap.size + 1]? = some (.cells zeroL 48 (0, 0))
theorem LndB.below {w W W' : World} {C0 : Array Value} (h : LndB w W C0) (hb : Below W.heap.size W W') : LndB w W' C0 :=
  ⟨h.be.trans (hb.mono h.be.size), (hb.block _ (block_lt h.b0)).trans h.b0, (hb.block _ (block_lt h.b1)).trans h.b1⟩
theorem LndB.alloc {w W : World} {C0 : Array Value} (h : LndB w W C0) (X : Obj) : LndB w (W.alloc X) C0 := h.below ((Below.refl W.heap.size W).alloc (Nat.le_refl _) X)
theorem LndB.drew {w W : World} {C0 : Array Value} (h : LndB w W C0) : LndB w W.drew C0 := ⟨⟨h.be.os, h.be.tape, h.be.output, h.be.size, h.be.block⟩, h.b0, h.b1⟩

theorem alloc_lt (W : World) (X : Obj) : W.heap.size < (W.alloc X).heap.size := by simp
theorem lp_cells {W : World} {b : Nat} {a0 a1 a2 a3 a4 a5 a6 a7 a8 : Value} (h : W.heap[b]? = some (.cells #[a0, a1, a2, a3, a4, a5, a6, a7, a8] 48 (0, 0))) :
    W.cell? ⟨b, 0, none⟩ = some a0 ∧ W.cell? ⟨b, 1, none⟩ = some a1 ∧ W.cell? ⟨b, 2, none⟩ = some a2 ∧ W.cell? ⟨b, 3, none⟩ = some a3 ∧ W.cell? ⟨b, 4, none⟩ = some a4 ∧ W.cell? ⟨b, 5, none⟩ = some a5 ∧ W.cell? ⟨b, 6, none⟩ = some a6 ∧ W.cell? ⟨b, 7, none⟩ = some a7 ∧ W.cell? ⟨b, 8, none⟩ = some a8 ∧ W.frozen? ⟨b, 0, none⟩ = false ∧ W.frozen? ⟨b, 1, none⟩ = false ∧ W.frozen? ⟨b, 2, none⟩ = false ∧ W.frozen? ⟨b, 3, none⟩ = false ∧ W.frozen? ⟨b, 4, none⟩ = false ∧ W.frozen? ⟨b, 5, none⟩ = false ∧ W.frozen? ⟨b, 6, none⟩ = false ∧ W.frozen? ⟨b, 7, none⟩ = false ∧ W.frozen? ⟨b, 8, none⟩ = false :=
  ⟨cell_at h rfl, cell_at h rfl, cell_at h rfl, cell_at h rfl, cell_at h rfl, cell_at h rfl, cell_at h rfl, cell_at h rfl, cell_at h rfl, free_at h 0, free_at h 1, free_at h 2, free_at h 3, free_at h 4, free_at h 5, free_at h 6, free_at h 7, free_at h 8⟩
/-- a rule's cells: its name and the front of its words -/
def frontV : Value → Nat → Value
  | .slice p _ c, n => .slice p n c
  | v, _ => v
def rcells (prs : List (RuleP × Value)) : List Value := prs.flatMap fun x => [.string (bs x.1.1), x.2]
theorem rcells_app (a b : List (RuleP × Value)) : rcells (a ++ b) = rcells a ++ rcells b := List.flatMap_append
theorem rcells_at : ∀ (a : List (RuleP × Value)) (k : Nat) (x : RuleP × Value), a[k]? = some x → (rcells a)[k * 2]? = some (.string (bs x.1.1)) ∧ (rcells a)[k * 2 + 1]? = some x.2
  | [], k, x, h => by simp at h
  | y :: r, 0, x, h => by
    simp only [List.getElem?_cons_zero, Option.some.injEq] at h
    subst h
    exact ⟨rfl, rfl⟩
  | y :: r, k + 1, x, h => by
    rw [List.getElem?_cons_succ] at h
    obtain ⟨h1, h2⟩ := rcells_at r k x h
    exact ⟨by rw [show (k + 1) * 2 = k * 2 + 1 + 1 by omega]; exact h1, by rw [show (k + 1) * 2 + 1 = k * 2 + 1 + 1 + 1 by omega]; exact h2⟩
/-- what is being lent -/
structure LndG (w W : World) (b5 : Nat) (rv av sv dv : Value) (R : List RuleP) (S D ms : List (List UInt8)) (prs : List (RuleP × Value)) (us : List Value) : Prop where
  bx : W.heap[b5]? = some (.cells #[.slice none 0 0, .slice none 0 0, .slice none 0 0, .int .i64 0, .int .i64 0, rv, av, sv, dv] 48 (0, 0))
  lo : w.heap.size + 2 ≤ b5
  s : W.ownsRow w.heap.size 9 1 sv S.length (wordsV S)
  d : W.ownsRow w.heap.size 9 1 dv D.length (wordsV D)
  a : W.ownsRow w.heap.size 41 1 av us.length us
  r : W.ownsRow w.heap.size 97 2 rv prs.length (rcells prs)
  u : ∀ (k : Nat) (v : Value) (q : RuleP), us[k]? = some v → R[k]? = some q → W.ownsRow w.heap.size 9 1 v (q.2 ++ ms).length (wordsV (q.2 ++ ms))
  rw : ∀ (k : Nat) (x : RuleP × Value), prs[k]? = some x → (x.1.2 = [] ∧ x.2 = .slice none 0 0) ∨ ∃ v, us[k]? = some v ∧ R[k]? = some x.1 ∧ x.2 = frontV v x.1.2.length
theorem LndG.below {w W W' : World} {b5 : Nat} {rv av sv dv : Value} {R : List RuleP} {S D ms : List (List UInt8)} {prs : List (RuleP × Value)} {us : List Value} (h : LndG w W b5 rv av sv dv R S D ms prs us) (hb : Below W.heap.size W W') : LndG w W' b5 rv av sv dv R S D ms prs us :=
  ⟨(hb.block _ (block_lt h.bx)).trans h.bx, h.lo, row_below h.s hb, row_below h.d hb, row_below h.a hb, row_below h.r hb, fun k v q h1 h2 => row_below (h.u k v q h1 h2) hb, h.rw⟩

theorem Just.andThen {W W1 W2 : World} {b : Nat} {cs cs2 : Array Value} {T : TypeId} (h : Just W W1 b cs T) (h2 : Just W1 W2 b cs2 T) : Just W W2 b cs2 T :=
  ⟨h2.os.trans h.os, h2.tape.trans h.tape, h2.output.trans h.output, h2.size.trans h.size, h2.at_, fun k hk => (h2.other k hk).trans (h.other k hk)⟩
theorem just_put {W : World} {b j : Nat} {cs cs2 : Array Value} {T : TypeId} (h : W.heap[b]? = some (.cells cs T (0, 0))) (v : Value) (e : cs.setIfInBounds j v = cs2) : Just W (W.setCell ⟨b, j, none⟩ v) b cs2 T := by
  subst e
  exact just_set h v
theorem three_just {W : World} {b : Nat} {a0 a1 a2 a3 a4 a5 a6 a7 a8 p0 p1 p2 : Value} (h : W.heap[b]? = some (.cells #[a0, a1, a2, a3, a4, a5, a6, a7, a8] 48 (0, 0))) :
    Just W (((W.setCell ⟨b, 0, none⟩ p0).setCell ⟨b, 1, none⟩ p1).setCell ⟨b, 2, none⟩ p2) b #[p0, p1, p2, a3, a4, a5, a6, a7, a8] 48 := by
  have h0 := just_put (j := 0) (cs2 := #[p0, a1, a2, a3, a4, a5, a6, a7, a8]) h p0 (by simp)
  have h1 := just_put (j := 1) (cs2 := #[p0, p1, a2, a3, a4, a5, a6, a7, a8]) h0.at_ p1 (by simp)
  have h2 := just_put (j := 2) (cs2 := #[p0, p1, p2, a3, a4, a5, a6, a7, a8]) h1.at_ p2 (by simp)
  exact (h0.andThen h1).andThen h2
theorem five_just {W : World} {b : Nat} {a0 a1 a2 a3 a4 a5 a6 a7 a8 p0 p1 p2 p3 p4 : Value} (h : W.heap[b]? = some (.cells #[a0, a1, a2, a3, a4, a5, a6, a7, a8] 48 (0, 0))) :
    Just W (((((W.setCell ⟨b, 0, none⟩ p0).setCell ⟨b, 1, none⟩ p1).setCell ⟨b, 2, none⟩ p2).setCell ⟨b, 3, none⟩ p3).setCell ⟨b, 4, none⟩ p4) b #[p0, p1, p2, p3, p4, a5, a6, a7, a8] 48 := by
  have h0 := three_just (p0 := p0) (p1 := p1) (p2 := p2) h
  have h1 := just_put (j := 3) (cs2 := #[p0, p1, p2, p3, a4, a5, a6, a7, a8]) h0.at_ p3 (by simp)
  have h2 := just_put (j := 4) (cs2 := #[p0, p1, p2, p3, p4, a5, a6, a7, a8]) h1.at_ p4 (by simp)
  exact (h0.andThen h1).andThen h2
theorem nine_just {W : World} {b : Nat} {a0 a1 a2 a3 a4 a5 a6 a7 a8 p0 p1 p2 p3 p4 p5 p6 p7 p8 : Value} (h : W.heap[b]? = some (.cells #[a0, a1, a2, a3, a4, a5, a6, a7, a8] 48 (0, 0))) :
    Just W (((((((((W.setCell ⟨b, 0, none⟩ p0).setCell ⟨b, 1, none⟩ p1).setCell ⟨b, 2, none⟩ p2).setCell ⟨b, 3, none⟩ p3).setCell ⟨b, 4, none⟩ p4).setCell ⟨b, 5, none⟩ p5).setCell ⟨b, 6, none⟩ p6).setCell ⟨b, 7, none⟩ p7).setCell ⟨b, 8, none⟩ p8) b #[p0, p1, p2, p3, p4, p5, p6, p7, p8] 48 := by
  have h0 := five_just (p0 := p0) (p1 := p1) (p2 := p2) (p3 := p3) (p4 := p4) h
  have h1 := just_put (j := 5) (cs2 := #[p0, p1, p2, p3, p4, p5, a6, a7, a8]) h0.at_ p5 (by simp)
  have h2 := just_put (j := 6) (cs2 := #[p0, p1, p2, p3, p4, p5, p6, a7, a8]) h1.at_ p6 (by simp)
  have h3 := just_put (j := 7) (cs2 := #[p0, p1, p2, p3, p4, p5, p6, p7, a8]) h2.at_ p7 (by simp)
  have h4 := just_put (j := 8) (cs2 := #[p0, p1, p2, p3, p4, p5, p6, p7, p8]) h3.at_ p8 (by simp)
  exact (((h0.andThen h1).andThen h2).andThen h3).andThen h4
theorem nine_set {W : World} {b : Nat} {a0 a1 a2 a3 a4 a5 a6 a7 a8 sv dv : Value} (h : W.heap[b]? = some (.cells #[a0, a1, a2, a3, a4, a5, a6, a7, a8] 48 (0, 0))) :
    (((((((((W.setCell ⟨b, 0, none⟩ (.slice none 0 0)).setCell ⟨b, 1, none⟩ (.slice none 0 0)).setCell ⟨b, 2, none⟩ (.slice none 0 0)).setCell ⟨b, 3, none⟩ (.int .i64 0)).setCell ⟨b, 4, none⟩ (.int .i64 0)).setCell ⟨b, 5, none⟩ (.slice none 0 0)).setCell ⟨b, 6, none⟩ (.slice none 0 0)).setCell ⟨b, 7, none⟩ (sv)).setCell ⟨b, 8, none⟩ (dv)).heap[b]? = some (.cells #[.slice none 0 0, .slice none 0 0, .slice none 0 0, .int .i64 0, .int .i64 0, .slice none 0 0, .slice none 0 0, sv, dv] 48 (0, 0)) := by
  simp [World.setCell, Array.getElem?_modify, h]
theorem nine_other (W : World) (b : Nat) (sv dv : Value) (k : Nat) (hk : k ≠ b) : (((((((((W.setCell ⟨b, 0, none⟩ (.slice none 0 0)).setCell ⟨b, 1, none⟩ (.slice none 0 0)).setCell ⟨b, 2, none⟩ (.slice none 0 0)).setCell ⟨b, 3, none⟩ (.int .i64 0)).setCell ⟨b, 4, none⟩ (.int .i64 0)).setCell ⟨b, 5, none⟩ (.slice none 0 0)).setCell ⟨b, 6, none⟩ (.slice none 0 0)).setCell ⟨b, 7, none⟩ (sv)).setCell ⟨b, 8, none⟩ (dv)).heap[k]? = W.heap[k]? := by
  rw [heap_setCell_other _ _ _ _ hk, heap_setCell_other _ _ _ _ hk, heap_setCell_other _ _ _ _ hk, heap_setCell_other _ _ _ _ hk, heap_setCell_other _ _ _ _ hk, heap_setCell_other _ _ _ _ hk, heap_setCell_other _ _ _ _ hk, heap_setCell_other _ _ _ _ hk, heap_setCell_other _ _ _ _ hk]
theorem nine_below {B : Nat} {w W : World} (h : Below B w W) {b : Nat} (hb : B ≤ b) (sv dv : Value) : Below B w (((((((((W.setCell ⟨b, 0, none⟩ (.slice none 0 0)).setCell ⟨b, 1, none⟩ (.slice none 0 0)).setCell ⟨b, 2, none⟩ (.slice none 0 0)).setCell ⟨b, 3, none⟩ (.int .i64 0)).setCell ⟨b, 4, none⟩ (.int .i64 0)).setCell ⟨b, 5, none⟩ (.slice none 0 0)).setCell ⟨b, 6, none⟩ (.slice none 0 0)).setCell ⟨b, 7, none⟩ (sv)).setCell ⟨b, 8, none⟩ (dv)) :=
  ((((((((h.setCell hb _).setCell hb _).setCell hb _).setCell hb _).setCell hb _).setCell hb _).setCell hb _).setCell hb _).setCell hb _
theorem lnd_set {w W : World} {C0 : Array Value} {b : Nat} {a0 a1 a2 a3 a4 a5 a6 a7 a8 sv dv : Value} {R : List RuleP} {S D ms : List (List UInt8)} (hB : LndB w W C0) (h : W.heap[b]? = some (.cells #[a0, a1, a2, a3, a4, a5, a6, a7, a8] 48 (0, 0))) (hlo : w.heap.size + 2 ≤ b)
    (r1 : W.ownsRow w.heap.size 9 1 sv S.length (wordsV S)) (r2 : W.ownsRow w.heap.size 9 1 dv D.length (wordsV D)) :
    LndB w (((((((((W.setCell ⟨b, 0, none⟩ (.slice none 0 0)).setCell ⟨b, 1, none⟩ (.slice none 0 0)).setCell ⟨b, 2, none⟩ (.slice none 0 0)).setCell ⟨b, 3, none⟩ (.int .i64 0)).setCell ⟨b, 4, none⟩ (.int .i64 0)).setCell ⟨b, 5, none⟩ (.slice none 0 0)).setCell ⟨b, 6, none⟩ (.slice none 0 0)).setCell ⟨b, 7, none⟩ (sv)).setCell ⟨b, 8, none⟩ (dv)) C0 ∧ LndG w (((((((((W.setCell ⟨b, 0, none⟩ (.slice none 0 0)).setCell ⟨b, 1, none⟩ (.slice none 0 0)).setCell ⟨b, 2, none⟩ (.slice none 0 0)).setCell ⟨b, 3, none⟩ (.int .i64 0)).setCell ⟨b, 4, none⟩ (.int .i64 0)).setCell ⟨b, 5, none⟩ (.slice none 0 0)).setCell ⟨b, 6, none⟩ (.slice none 0 0)).setCell ⟨b, 7, none⟩ (sv)).setCell ⟨b, 8, none⟩ (dv)) b (.slice none 0 0) (.slice none 0 0) sv dv R S D ms [] [] :=
  ⟨⟨nine_below hB.be (by omega) sv dv, (nine_other W b sv dv _ (by omega)).trans hB.b0, (nine_other W b sv dv _ (by omega)).trans hB.b1⟩,
    ⟨nine_set h, hlo, row_just r1 h (by decide) (nine_other W b sv dv), row_just r2 h (by decide) (nine_other W b sv dv), World.ownsRow_nil _ _ _ _, World.ownsRow_nil _ _ _ _, fun k v r hk => by simp at hk, fun k x hk => by simp at hk⟩⟩
theorem lnd_new {w W : World} {C0 : Array Value} {sv dv : Value} {R : List RuleP} {S D ms : List (List UInt8)} (hB : LndB w W C0)
    (r1 : W.ownsRow w.heap.size 9 1 sv S.length (wordsV S)) (r2 : W.ownsRow w.heap.size 9 1 dv D.length (wordsV D)) :
    LndB w (W.alloc (.cells #[.slice none 0 0, .slice none 0 0, .slice none 0 0, .int .i64 0, .int .i64 0, .slice none 0 0, .slice none 0 0, sv, dv] 48)) C0 ∧ LndG w (W.alloc (.cells #[.slice none 0 0, .slice none 0 0, .slice none 0 0, .int .i64 0, .int .i64 0, .slice none 0 0, .slice none 0 0, sv, dv] 48)) W.heap.size (.slice none 0 0) (.slice none 0 0) sv dv R S D ms [] [] :=
  ⟨hB.alloc _, ⟨heap_alloc_new W _, by have := block_lt hB.b1; omega, r1.alloc _, r2.alloc _, World.ownsRow_nil _ _ _ _, World.ownsRow_nil _ _ _ _, fun k v r hk => by simp at hk, fun k x hk => by simp at hk⟩⟩

theorem just_low {W W' : World} {b : Nat} {cs : Array Value} {T : TypeId} (h : Just W W' b cs T) {base : Nat} (hb : base ≤ b) : Below base W W' :=
  ⟨h.os, h.tape, h.output, by rw [h.size]; exact Nat.le_refl _, fun k hk => h.other k (by omega)⟩
theorem grown_at {W W2 : World} {v : Value} (hg : W.grownBy W2 v.ownBlock) {b : Nat} {o : Obj} (h : W.heap[b]? = some o) (hne : v.ownBlock ≠ some b) : W2.heap[b]? = some o := (hg.block b (block_lt h) (fun e => hne e.symm)).trans h
theorem LndG.bx_grown {w W W2 : World} {b5 : Nat} {rv av sv dv v : Value} {R : List RuleP} {S D ms : List (List UInt8)} {prs : List (RuleP × Value)} {us : List Value} (h : LndG w W b5 rv av sv dv R S D ms prs us) (o : Obj) (hg : (W.alloc o).grownBy W2 v.ownBlock) (hne : v.ownBlock ≠ some b5) :
    W2.heap[b5]? = some (.cells #[.slice none 0 0, .slice none 0 0, .slice none 0 0, .int .i64 0, .int .i64 0, rv, av, sv, dv] 48 (0, 0)) := grown_at hg ((Go.Lib.alloc_old _ _ _ (block_lt h.bx)).trans h.bx) hne
/-- one more list of attributes -/
theorem LndG.attr {w W W2 : World} {C0 : Array Value} {b5 : Nat} {rv av sv dv u' v' : Value} {R : List RuleP} {S D ms : List (List UInt8)} {prs : List (RuleP × Value)} {us : List Value} {q : RuleP} (hB : LndB w W C0) (h : LndG w W b5 rv av sv dv R S D ms prs us)
    (hu : W.ownsRow w.heap.size 9 1 u' (q.2 ++ ms).length (wordsV (q.2 ++ ms))) (hq : R[us.length]? = some q)
    (hg : (W.alloc (.cells #[u'] 41)).grownBy W2 av.ownBlock) (hv : W2.ownsRow w.heap.size 41 1 v' (us ++ [u']).length (us ++ [u'])) :
    LndB w (W2.setCell ⟨b5, 6, none⟩ v') C0 ∧ LndG w (W2.setCell ⟨b5, 6, none⟩ v') b5 rv v' sv dv R S D ms prs (us ++ [u']) := by
  have hlo := h.lo
  have hax := h.a.alloc (.cells #[u'] 41)
  have bxa : (W.alloc (.cells #[u'] 41)).heap[b5]? = _ := (Go.Lib.alloc_old _ _ _ (block_lt h.bx)).trans h.bx
  have b0a : (W.alloc (.cells #[u'] 41)).heap[w.heap.size]? = _ := (Go.Lib.alloc_old _ _ _ (block_lt hB.b0)).trans hB.b0
  have b1a : (W.alloc (.cells #[u'] 41)).heap[w.heap.size + 1]? = _ := (Go.Lib.alloc_old _ _ _ (block_lt hB.b1)).trans hB.b1
  have bx2 := grown_at hg bxa (row_ne hax bxa (by decide))
  have b02 := grown_at hg b0a (row_ne hax b0a (by decide))
  have b12 := grown_at hg b1a (row_ne hax b1a (by decide))
  have j := just_set (j := 6) bx2 v'
  have str : ∀ a n xs, W.ownsRow w.heap.size 9 1 a n xs → (W2.setCell ⟨b5, 6, none⟩ v').ownsRow w.heap.size 9 1 a n xs := fun a n xs hr =>
    row_just ((hr.alloc _).kept hg (rows_ne (hr.alloc _) hax (by decide))) bx2 (by decide) j.other
  refine ⟨⟨((hB.be.alloc hB.be.size _).grown hg (by have := hB.be.size; simp; omega) (fun k hk => (hax.lt k hk).1)).trans (just_low j (by omega)), (j.other _ (by omega)).trans b02, (j.other _ (by omega)).trans b12⟩,
    ⟨j.at_, h.lo, str _ _ _ h.s, str _ _ _ h.d, row_just hv bx2 (by decide) j.other, row_just ((h.r.alloc _).kept hg (rows_ne (h.r.alloc _) hax (by decide))) bx2 (by decide) j.other, fun k v x h1 h2 => ?_, fun k x h1 => ?_⟩⟩
  · by_cases hk : k < us.length
    · rw [List.getElem?_append_left hk] at h1
      exact str _ _ _ (h.u k v x h1 h2)
    · obtain rfl : k = us.length := by have := (List.getElem?_eq_some_iff.1 h1).1; simp at this; omega
      rw [List.getElem?_append_right (Nat.le_refl _), Nat.sub_self] at h1
      obtain rfl := Option.some.inj h1
      obtain rfl := Option.some.inj (hq.symm.trans h2)
      exact str _ _ _ hu
  · rcases h.rw k x h1 with h3 | ⟨v, h3, h4, h5⟩
    · exact .inl h3
    · exact .inr ⟨v, by rw [List.getElem?_append_left (List.getElem?_eq_some_iff.1 h3).1]; exact h3, h4, h5⟩
/-- one more rule -/
theorem LndG.rule {w W W2 : World} {C0 : Array Value} {b5 : Nat} {rv av sv dv v' : Value} {R : List RuleP} {S D ms : List (List UInt8)} {prs : List (RuleP × Value)} {us : List Value} {x : RuleP × Value} (hB : LndB w W C0) (h : LndG w W b5 rv av sv dv R S D ms prs us)
    (hx : (x.1.2 = [] ∧ x.2 = .slice none 0 0) ∨ ∃ v, us[prs.length]? = some v ∧ R[prs.length]? = some x.1 ∧ x.2 = frontV v x.1.2.length)
    (hg : (W.alloc (.cells #[.string (bs x.1.1), x.2] 97)).grownBy W2 rv.ownBlock) (hv : W2.ownsRow w.heap.size 97 2 v' (prs ++ [x]).length (rcells (prs ++ [x]))) :
    LndB w (W2.setCell ⟨b5, 5, none⟩ v') C0 ∧ LndG w (W2.setCell ⟨b5, 5, none⟩ v') b5 v' av sv dv R S D ms (prs ++ [x]) us := by
  have hlo := h.lo
  have hax := h.r.alloc (.cells #[.string (bs x.1.1), x.2] 97)
  have bxa : (W.alloc (.cells #[.string (bs x.1.1), x.2] 97)).heap[b5]? = _ := (Go.Lib.alloc_old _ _ _ (block_lt h.bx)).trans h.bx
  have b0a : (W.alloc (.cells #[.string (bs x.1.1), x.2] 97)).heap[w.heap.size]? = _ := (Go.Lib.alloc_old _ _ _ (block_lt hB.b0)).trans hB.b0
  have b1a : (W.alloc (.cells #[.string (bs x.1.1), x.2] 97)).heap[w.heap.size + 1]? = _ := (Go.Lib.alloc_old _ _ _ (block_lt hB.b1)).trans hB.b1
  have bx2 := grown_at hg bxa (row_ne hax bxa (by decide))
  have b02 := grown_at hg b0a (row_ne hax b0a (by decide))
  have b12 := grown_at hg b1a (row_ne hax b1a (by decide))
  have j := just_set (j := 5) bx2 v'
  have str : ∀ a n xs, W.ownsRow w.heap.size 9 1 a n xs → (W2.setCell ⟨b5, 5, none⟩ v').ownsRow w.heap.size 9 1 a n xs := fun a n xs hr =>
    row_just ((hr.alloc _).kept hg (rows_ne (hr.alloc _) hax (by decide))) bx2 (by decide) j.other
  refine ⟨⟨((hB.be.alloc hB.be.size _).grown hg (by have := hB.be.size; simp; omega) (fun k hk => (hax.lt k hk).1)).trans (just_low j (by omega)), (j.other _ (by omega)).trans b02, (j.other _ (by omega)).trans b12⟩,
    ⟨j.at_, h.lo, str _ _ _ h.s, str _ _ _ h.d, row_just ((h.a.alloc _).kept hg (rows_ne (h.a.alloc _) hax (by decide))) bx2 (by decide) j.other, row_just hv bx2 (by decide) j.other, fun k v x h1 h2 => str _ _ _ (h.u k v x h1 h2), fun k y h1 => ?_⟩⟩
  by_cases hk : k < prs.length
  · rw [List.getElem?_append_left hk] at h1
    exact h.rw k y h1
  · obtain rfl : k = prs.length := by have := (List.getElem?_eq_some_iff.1 h1).1; simp at this; omega
    rw [List.getElem?_append_right (Nat.le_refl _), Nat.sub_self] at h1
    obtain rfl := Option.some.inj h1
    exact hx
theorem LndG.drew {w W : World} {b5 : Nat} {rv av sv dv : Value} {R : List RuleP} {S D ms : List (List UInt8)} {prs : List (RuleP × Value)} {us : List Value} (h : LndG w W b5 rv av sv dv R S D ms prs us) : LndG w W.drew b5 rv av sv dv R S D ms prs us := ⟨h.bx, h.lo, h.s, h.d, h.a, h.r, h.u, h.rw⟩
theorem info_rule : (Tryz.prog.info? 97).map (fun i => (i.zero, i.size, i.bytes)) = some (some (.agg #[.string ⟨#[]⟩, .slice none 0 0]), 2, 40) := by kernel_rfl
theorem info_words : (Tryz.prog.info? 41).map (fun i => (i.zero, i.size, i.bytes)) = some (some (.slice none 0 0), 1, 24) := by kernel_rfl


/-- a list of lists of words -/
def ListsR (W : World) (v : Value) (ls : List (List (List UInt8))) : Prop :=
  ∃ p c, v = .slice p ls.length c ∧ ls.length ≤ c ∧ c ≤ 9223372036854775807 ∧ ∀ j l, ls[j]? = some l → ∃ b o u, p = some ⟨b, o, none⟩ ∧ W.cell? ⟨b, o + j, none⟩ = some u ∧ Words W u l
theorem ListsR.below {W W' : World} {v : Value} {ls : List (List (List UInt8))} (h : ListsR W v ls) (hb : Below W.heap.size W W') : ListsR W' v ls := by
  obtain ⟨p, c, rfl, h1, h2, h3⟩ := h
  refine ⟨p, c, rfl, h1, h2, fun j r hj => ?_⟩
  obtain ⟨b, o, u, rfl, hc, hw⟩ := h3 j r hj
  exact ⟨b, o, u, rfl, cell_kept hc hb, hw.below hb⟩
/-- a policy that was lent -/
def LentR (W : World) (v : Value) (P : PolP) (ms : List (List UInt8)) : Prop :=
  ∃ vr vs vd vR va vS vD, v = .agg #[vr, vs, vd, .int .i64 P.depth, .int .i64 P.window, vR, va, vS, vD] ∧ PolR W vr vs vd P ∧ RulesR W vR (P.rules ++ ms.map fun s => (s, [])) ∧ ListsR W va (P.rules.map fun q => q.2 ++ ms) ∧ Words W vS (P.schemes ++ ms) ∧ Words W vD (P.drop ++ ms)
theorem LentR.below {W W' : World} {v : Value} {P : PolP} {ms : List (List UInt8)} (h : LentR W v P ms) (hb : Below W.heap.size W W') : LentR W' v P ms := by
  obtain ⟨vr, vs, vd, vR, va, vS, vD, e, h1, h2, h3, h4, h5⟩ := h
  exact ⟨vr, vs, vd, vR, va, vS, vD, e, h1.below hb, h2.below hb, h3.below hb, h4.below hb, h5.below hb⟩
theorem RulesR.front {W : World} {p : Option Addr} {n c : Nat} {a b : List RuleP} (h : RulesR W (.slice p n c) (a ++ b)) : RulesR W (.slice p a.length c) a := by
  obtain ⟨p', c', e, h1, h2, h3⟩ := h
  cases e
  rw [List.length_append] at h1
  refine ⟨p, c, rfl, by omega, h2, fun j r hj => h3 j r ?_⟩
  rw [List.getElem?_append_left (List.getElem?_eq_some_iff.1 hj).1]
  exact hj
theorem row_bound {W : World} {base : Nat} {e : TypeId} {size n m c : Nat} {p : Option Addr} {xs : List Value} (h : W.ownsRow base e size (.slice p m c) n xs) : c ≤ 9223372036854775807 := by
  rcases h.2 with ⟨e, _⟩ | ⟨g, cap, cur, e, _, _, _, hle, _⟩
  · cases e
    omega
  · cases e
    unfold maxLen at hle
    omega
/-- the lists alone -/
structure LndR (w W : World) (rv av sv dv : Value) (R : List RuleP) (S D ms : List (List UInt8)) (prs : List (RuleP × Value)) (us : List Value) : Prop where
  s : W.ownsRow w.heap.size 9 1 sv S.length (wordsV S)
  d : W.ownsRow w.heap.size 9 1 dv D.length (wordsV D)
  a : W.ownsRow w.heap.size 41 1 av us.length us
  r : W.ownsRow w.heap.size 97 2 rv prs.length (rcells prs)
  u : ∀ (k : Nat) (v : Value) (q : RuleP), us[k]? = some v → R[k]? = some q → W.ownsRow w.heap.size 9 1 v (q.2 ++ ms).length (wordsV (q.2 ++ ms))
  rw : ∀ (k : Nat) (x : RuleP × Value), prs[k]? = some x → (x.1.2 = [] ∧ x.2 = .slice none 0 0) ∨ ∃ v, us[k]? = some v ∧ R[k]? = some x.1 ∧ x.2 = frontV v x.1.2.length
theorem LndG.rows {w W : World} {b5 : Nat} {rv av sv dv : Value} {R : List RuleP} {S D ms : List (List UInt8)} {prs : List (RuleP × Value)} {us : List Value} (h : LndG w W b5 rv av sv dv R S D ms prs us) : LndR w W rv av sv dv R S D ms prs us := ⟨h.s, h.d, h.a, h.r, h.u, h.rw⟩
theorem LndR.just {w W W' : World} {b : Nat} {cs0 cs : Array Value} {rv av sv dv : Value} {R : List RuleP} {S D ms : List (List UInt8)} {prs : List (RuleP × Value)} {us : List Value} (h : LndR w W rv av sv dv R S D ms prs us)
    (hb : W.heap[b]? = some (.cells cs0 48 (0, 0))) (j : Just W W' b cs 48) : LndR w W' rv av sv dv R S D ms prs us :=
  ⟨row_just h.s hb (by decide) j.other, row_just h.d hb (by decide) j.other, row_just h.a hb (by decide) j.other, row_just h.r hb (by decide) j.other, fun k v q h1 h2 => row_just (h.u k v q h1 h2) hb (by decide) j.other, h.rw⟩
theorem LndR.lent {w W : World} {rp sp dp ap : Option Addr} {rn rc sn sc dn dc an ac : Nat} {P : PolP} {ms : List (List UInt8)} {prs : List (RuleP × Value)} {us : List Value}
    (h : LndR w W (.slice rp rn rc) (.slice ap an ac) (.slice sp sn sc) (.slice dp dn dc) P.rules (P.schemes ++ ms) (P.drop ++ ms) ms prs us)
    (hp : prs.map Prod.fst = P.rules ++ ms.map fun s => (s, [])) (hu : us.length = P.rules.length) :
    LentR W (.agg #[.slice rp P.rules.length rc, .slice sp P.schemes.length sc, .slice dp P.drop.length dc, .int .i64 P.depth, .int .i64 P.window, .slice rp rn rc, .slice ap an ac, .slice sp sn sc, .slice dp dn dc]) P ms := by
  have hpl : prs.length = (P.rules ++ ms.map fun s => (s, [])).length := by rw [← hp, List.length_map]
  have hS : Words W (.slice sp sn sc) (P.schemes ++ ms) := Words.row h.s
  have hD : Words W (.slice dp dn dc) (P.drop ++ ms) := Words.row h.d
  have hRR : RulesR W (.slice rp rn rc) (P.rules ++ ms.map fun s => (s, [])) := by
    obtain ⟨e1, e2⟩ := row_cap h.r
    subst e1
    refine ⟨rp, rc, by rw [← hpl], by rw [← hpl]; exact e2, row_bound h.r, fun j q hj => ?_⟩
    rw [← hp, List.getElem?_map] at hj
    obtain ⟨x, hx, rfl⟩ := Option.map_eq_some_iff.1 hj
    have hlt := (List.getElem?_eq_some_iff.1 hx).1
    obtain ⟨g, cap, e3, _, _, hcell⟩ := row_at h.r (by omega)
    cases e3
    obtain ⟨a1, a2⟩ := rcells_at prs j x hx
    refine ⟨g, 0, x.2, rfl, by rw [Nat.zero_add, hcell _ (by omega), a1], by rw [Nat.zero_add, hcell _ (by omega), a2], ?_⟩
    rcases h.rw j x hx with ⟨h1, h2⟩ | ⟨v, h1, h2, h3⟩
    · rw [h1, h2]
      exact Words.nil W
    · have hw := Words.row (h.u j v x.1 h1 h2)
      obtain ⟨p, c, rfl, _⟩ := hw.len
      have := hw.front x.1.2.length (by rw [List.length_append]; omega)
      rw [List.take_left] at this
      rw [h3]
      exact this
  have hA : ListsR W (.slice ap an ac) (P.rules.map fun q => q.2 ++ ms) := by
    obtain ⟨e1, e2⟩ := row_cap h.a
    subst e1
    refine ⟨ap, ac, by rw [List.length_map, hu], by rw [List.length_map, ← hu]; exact e2, row_bound h.a, fun j l hj => ?_⟩
    rw [List.getElem?_map] at hj
    obtain ⟨q, hq, rfl⟩ := Option.map_eq_some_iff.1 hj
    have hlt := (List.getElem?_eq_some_iff.1 hq).1
    obtain ⟨g, cap, e3, _, _, hcell⟩ := row_at h.a (by omega)
    cases e3
    obtain ⟨v, hv⟩ : ∃ v, us[j]? = some v := ⟨_, List.getElem?_eq_getElem (by omega)⟩
    exact ⟨g, 0, v, rfl, by rw [Nat.zero_add, hcell _ (by omega), hv], Words.row (h.u j v q hv hq)⟩
  refine ⟨_, _, _, _, _, _, _, rfl, ⟨hRR.front, ?_, ?_⟩, hRR, hA, hS, hD⟩
  · have := hS.front P.schemes.length (by rw [List.length_append]; omega)
    rwa [List.take_left] at this
  · have := hD.front P.drop.length (by rw [List.length_append]; omega)
    rwa [List.take_left] at this
end Go.Proofs.YtcncbhbdpcpkeaaGreatDoor
