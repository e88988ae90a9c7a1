/-
  Parts of the walk, joined: LendE, FoldN, FoldR, SameN.
-/
import Derived.Test.YtkcgmimldjeaiaaDoorJoinB
import Derived.Test.YtkcgmimldjeaiaaDoorJoinC
import Derived.Test.YtkcgmimldjeaiaaDoorJoinA
import Derived.Test.YtkcgmimldjeaiaaDoorInReset
/-
  The statements' longAttrs: its walk; what the memory of lent events or nodes holds.
-/
namespace Go.Proofs.YtkcgmimldjeaiaaDoor
open Go.RowKit Go.Lib Own

theorem attrsR_row {W : World} {base : Nat} {v : Value} {al : List AttrP} (h : W.ownsRow base 101 2 v al.length (attrsV al)) : AttrsR W v al := by
  have hc : ∀ j a, al[j]? = some a → ∃ b o, (∃ n c, v = .slice (some ⟨b, o, none⟩) n c) ∧ W.cell? ⟨b, o + j * 2, none⟩ = some (.string (bs a.1)) ∧ W.cell? ⟨b, o + j * 2 + 1, none⟩ = some (.string (bs a.2)) := fun j a hj => by
    have hlt := (List.getElem?_eq_some_iff.1 hj).1
    obtain ⟨g, cap, rfl, _, _, hcell⟩ := row_at h (by omega)
    obtain ⟨x1, x2⟩ := attrs_at al j a hj
    exact ⟨g, 0, ⟨_, _, rfl⟩, by rw [Nat.zero_add]; exact (hcell _ (by omega)).trans x1, by rw [Nat.zero_add]; exact (hcell _ (by omega)).trans x2⟩
  rcases h.2 with ⟨rfl, h0⟩ | ⟨g, cap, cur, rfl, _, _, h1, h2, _⟩
  · exact ⟨none, 0, by rw [h0], by omega, by omega, fun j s hj => by have := (List.getElem?_eq_some_iff.1 hj).1; omega, fun _ => rfl⟩
  · refine ⟨some ⟨g, 0, none⟩, cap, rfl, h1, by unfold maxLen at h2; omega, fun j s hj => ?_, fun e => by cases e⟩
    obtain ⟨b, o, ⟨n, c, e⟩, hcell⟩ := hc j s hj
    cases e
    exact ⟨g, 0, rfl, hcell⟩
theorem attrsR_front {W : World} {base : Nat} {v : Value} {a m : List AttrP} (h : W.ownsRow base 101 2 v (a ++ m).length (attrsV (a ++ m))) : AttrsR W (frontV v a.length) a := by
  have h1 := attrsR_row h
  obtain ⟨p, c, rfl⟩ := row_shape h
  have h2 := h1.front a.length (by simp)
  rw [List.take_left'] at h2
  · exact h2
  · rfl
theorem attrsV_one (al : List AttrP) : ∀ u ∈ attrsV al, u.oneCell' = true := by
  intro u hu
  unfold attrsV at hu
  obtain ⟨s, _, hs⟩ := List.mem_flatMap.1 hu
  simp only [List.mem_cons, List.not_mem_nil, or_false] at hs
  rcases hs with rfl | rfl <;> rfl
/-- attributes appended to a row of attributes that the call owns -/
theorem wpList_append_attrs {w : World} {ops : Array Oper} {rest : List Oper} {o : Oper} {a : Act} {Q : Exit → Act → World → Prop} (hgd : o.guard = none) (s x : Operand)
    (ho : o.op = .call { callee := .builtin .append, args := #[s, x], argTypes := #[37, 37] }) (base : Nat) (v vx : Value) (l m : List AttrP) (hs : a.eval s = v) (hx : a.eval x = vx)
    (hown : w.ownsRow base 101 2 v l.length (attrsV l)) (hw : AttrsR w vx m) (hbase : base ≤ w.heap.size) (hsz : l.length + m.length ≤ 1000000000)
    (h : ∀ v' w', w'.ownsRow base 101 2 v' (l ++ m).length (attrsV (l ++ m)) → w.grownBy w' v.ownBlock → wpList Tryd.prog ops Q rest (a.put o.dst v') w') : wpList Tryd.prog ops Q (o :: rest) a w := by
  obtain ⟨i0, hi, hz0, hz1, hz2⟩ := info_parts info_attr
  obtain ⟨p, c, rfl, hc, hm, hcell, hnone⟩ := hw
  cases p with
  | none =>
    obtain rfl : c = 0 := hnone rfl
    obtain rfl : m = [] := List.length_eq_zero_iff.1 (by omega)
    refine wpList_append_own_none hgd s x 37 ho base 101 i0 2 Tryd.underlying37 hi v l.length (attrsV l) hs hown hx ?_
    exact h v w (by rw [List.append_nil]; exact hown) ⟨rfl, rfl, rfl, Nat.le_refl _, fun _ _ _ => rfl⟩
  | some ad =>
    refine wpList_append_own w hgd s x 37 ho base 101 i0 (.agg #[.string ⟨#[]⟩, .string ⟨#[]⟩]) 2 32 Tryd.underlying37 hi hz0 hz1 hz2 rfl (by decide) v l.length (attrsV l) hs hown ad m.length c (attrsV m) hx (attrsV_len m) ?_ (attrsV_one m) (by unfold maxLen; omega) (by omega) hbase ?_
    · intro j u hj
      have hjl := (List.getElem?_eq_some_iff.1 hj).1
      rw [attrsV_len] at hjl
      obtain ⟨t, ht⟩ : ∃ t, m[j / 2]? = some t := ⟨_, List.getElem?_eq_getElem (by omega)⟩
      obtain ⟨b, o', e, hd1, hd2⟩ := hcell _ t ht
      obtain ⟨x1, x2⟩ := attrs_at m _ t ht
      cases e
      have hadd : (⟨b, o', none⟩ : Addr).add j = ⟨b, o' + j, none⟩ := by unfold Addr.add; split <;> simp_all
      rw [hadd]
      rcases (show j = j / 2 * 2 ∨ j = j / 2 * 2 + 1 by omega) with e | e
      · rw [← e] at x1 hd1
        obtain rfl := Option.some.inj (x1.symm.trans hj)
        exact hd1
      · rw [← e] at x2
        rw [Nat.add_assoc, ← e] at hd2
        obtain rfl := Option.some.inj (x2.symm.trans hj)
        exact hd2
    · intro v' w' h2 h3 _
      exact h v' w' (by rw [List.length_append, attrsV_app]; exact h2) h3
/-- the attributes of these names -/
def namesA (ms : List (List UInt8)) : List AttrP := ms.map fun s => (s, [])

set_option maxHeartbeats 2000000 in
set_option maxRecDepth 100000 in
theorem longAttrs_any (v1 v2 : Value) (l : List AttrP) (ms : List (List UInt8)) (w : World) (h1 : AttrsR w v1 l) (h2 : Words w v2 ms) (hl : l.length ≤ 4000000) (hm : ms.length ≤ 4000000) :
    Calls Tryd.prog 24 #[v1, v2] w fun e w' => ∃ v, e = .returned v ∧ w'.ownsRow w.heap.size 101 2 v (l ++ namesA ms).length (attrsV (l ++ namesA ms)) ∧ Below w.heap.size w w' := by
  have H1 := hid h1
  obtain ⟨p1, c1, rfl⟩ := h1.len
  obtain ⟨p2, c2, rfl, hmc, _, hcell, _⟩ := h2
  have H2 := hid hcell
  clear h1 hcell
  obtain ⟨i0, hi, hz0, hz1, hz2⟩ := info_parts info_attr
  go_enter Tryd.func24, Tryd.ntmps24
  have hb0 := heap_alloc_new w (.cells #[] 101)
  have hown0 : (w.alloc (.cells #[] 101)).ownsRow w.heap.size 101 2 (.slice (some ⟨w.heap.size, 0, none⟩) 0 0) ([] : List AttrP).length (attrsV []) := ⟨rfl, .inr ⟨w.heap.size, 0, #[], rfl, Nat.le_refl _, hb0, Nat.le_refl _, by decide, rfl, rfl⟩⟩
  have hbel0 : Below w.heap.size w (w.alloc (.cells #[] 101)) := (Below.refl w.heap.size w).alloc (Nat.le_refl _) _
  have HO := hid hown0
  have HB := hid hbel0
  clear hb0 hown0 hbel0
  go_wp2_with (at_builtin; refine wpList_append_attrs rfl (.tmp 7) (.tmp 8) rfl w.heap.size _ _ [] l rfl rfl (by exact HO.out) (by exact H1.out.below HB.out) HB.out.size (by simp; omega) ?_)
  intro v3 w3 hown3 hgrow3
  have hbel3 : Below w.heap.size w w3 := HB.out.grown hgrow3 HB.out.size (fun k hk => (HO.out.lt k hk).1)
  have HX3 := hid (And.intro hown3 hbel3)
  clear hown3 hgrow3 hbel3 HO HB
  go_wp2_with fail
  go_loopw [5, 12] (fun bv iv wr => ∃ (k : Nat) (acc : List AttrP), iv = .int .i64 k ∧ k ≤ ms.length ∧ Hid (wr.ownsRow w.heap.size 101 2 bv acc.length (attrsV acc) ∧ Below w.heap.size w wr ∧ acc = l ++ namesA (ms.take k))) (fun _ iv _ => ms.length - (RowKit.intOf iv).toNat)
  case atStart => exact ⟨0, l, rfl, Nat.zero_le _, hid ⟨HX3.out.1, HX3.out.2, (List.append_nil l).symm⟩⟩
  case round =>
    obtain ⟨k, acc, rfl, hk, HX⟩ := hrel
    obtain ⟨bp, bc, rfl⟩ := row_shape HX.out.1
    by_cases hkl : k < ms.length
    · obtain ⟨s, hs⟩ : ∃ s, ms[k]? = some s := ⟨_, List.getElem?_eq_getElem hkl⟩
      obtain ⟨b, o, rfl, hc1⟩ := H2.out k s hs
      obtain ⟨hown, hbw, hacc⟩ := HX.out
      have hbs := hbw.size
      replace hc1 := cell_low hc1 hbw (cell_block hc1)
      have hlen : acc.length ≤ 10000000 := by rw [hacc, List.length_append]; unfold namesA; rw [List.length_map, List.length_take]; omega
      have hnext : acc ++ [(s, [])] = l ++ namesA (ms.take (k + 1)) := by
        rw [List.take_add_one, hs, hacc]
        unfold namesA
        rw [List.map_append, List.append_assoc]
        rfl
      have HN := hid hnext
      clear hnext hs hacc HX HX3 H1 H2
      go_wp2_with (at_builtin; refine wpList_append_own _ rfl (.tmp 15) (.tmp 21) 37 rfl w.heap.size 101 i0 (.agg #[.string ⟨#[]⟩, .string ⟨#[]⟩]) 2 32 Tryd.underlying37 hi hz0 hz1 hz2 rfl (by decide) _ acc.length (attrsV acc) rfl (hown.alloc _) ⟨_, 0, none⟩ 1 1 [.string (bs s), .string ⟨#[]⟩] rfl rfl (cells_newV _ _ _) (by simp [Value.oneCell']) (by unfold maxLen; omega) (by omega) (by simp; omega) ?_)
      intro v' w2 hown2 hgrow2 _
      have hbw2 := (hbw.alloc hbs _).grown hgrow2 (by simp; omega) (fun k hk => ((hown.alloc (.cells #[.string (bs s), .string ⟨#[]⟩] 101)).lt k hk).1)
      have hZ : w2.ownsRow w.heap.size 101 2 v' (acc ++ [(s, [])]).length (attrsV (acc ++ [(s, [])])) := by
        rw [List.length_append, attrsV_app]
        exact hown2
      have HZ := hid (And.intro hZ (And.intro hbw2 HN.out))
      clear hZ hbw2 hown2 hgrow2 hown hbw HN
      go_wp2
      go_roundw
      case rel => exact ⟨k + 1, acc ++ [(s, [])], rfl, by omega, HZ⟩
      case measure => simp [RowKit.intOf]; omega
    · obtain rfl : k = ms.length := by omega
      obtain ⟨h1, h2, h3⟩ := HX.out
      rw [List.take_length] at h3
      have HZ := hid (And.intro h1 (And.intro h2 h3))
      clear h1 h2 h3 HX HX3
      go_wp2
      go_ret
      obtain ⟨h1, h2, h3⟩ := HZ.out
      rw [← h3]
      exact ⟨_, rfl, h1, h2⟩

/-! ## cells of events, lists of attributes beside them -/

def ecells (prs : List (EvP × Value)) : List Value := prs.flatMap fun x => [.int .i64 x.1.k, .string (bs x.1.n), x.2, .string (bs x.1.t)]
theorem ecells_app (a b : List (EvP × Value)) : ecells (a ++ b) = ecells a ++ ecells b := List.flatMap_append
theorem ecells_at : ∀ (a : List (EvP × Value)) (k : Nat) (x : EvP × Value), a[k]? = some x → (ecells a)[k * 4]? = some (.int .i64 x.1.k) ∧ (ecells a)[k * 4 + 1]? = some (.string (bs x.1.n)) ∧ (ecells a)[k * 4 + 2]? = some x.2 ∧ (ecells a)[k * 4 + 3]? = some (.string (bs x.1.t))
  | [], k, x, h => by simp at h
  | y :: r, 0, x, h => by
    simp only [List.getElem?_cons_zero, Option.some.injEq] at h
    subst h
    exact ⟨rfl, rfl, rfl, rfl⟩
  | y :: r, k + 1, x, h => by
    rw [List.getElem?_cons_succ] at h
    obtain ⟨h1, h2, h3, h4⟩ := ecells_at r k x h
    exact ⟨by rw [show (k + 1) * 4 = k * 4 + 1 + 1 + 1 + 1 by omega]; exact h1, by rw [show (k + 1) * 4 + 1 = k * 4 + 1 + 1 + 1 + 1 + 1 by omega]; exact h2,
      by rw [show (k + 1) * 4 + 2 = k * 4 + 2 + 1 + 1 + 1 + 1 by omega]; exact h3, by rw [show (k + 1) * 4 + 3 = k * 4 + 3 + 1 + 1 + 1 + 1 by omega]; exact h4⟩
theorem evsR_row {T : TypeId} {W : World} {base : Nat} {v : Value} {prs : List (EvP × Value)} (h : W.ownsRow base T 4 v prs.length (ecells prs)) (ha : ∀ x ∈ prs, AttrsR W x.2 x.1.a) : EvsR W v (prs.map Prod.fst) := by
  have hlen : (prs.map Prod.fst).length = prs.length := List.length_map _
  have hc : ∀ j e, (prs.map Prod.fst)[j]? = some e → ∃ b o u, (∃ n c, v = .slice (some ⟨b, o, none⟩) n c) ∧ W.cell? ⟨b, o + j * 4, none⟩ = some (.int .i64 e.k) ∧ W.cell? ⟨b, o + j * 4 + 1, none⟩ = some (.string (bs e.n)) ∧ W.cell? ⟨b, o + j * 4 + 2, none⟩ = some u ∧ W.cell? ⟨b, o + j * 4 + 3, none⟩ = some (.string (bs e.t)) ∧ AttrsR W u e.a := fun j e hj => by
    rw [List.getElem?_map] at hj
    obtain ⟨x, hx, rfl⟩ := Option.map_eq_some_iff.1 hj
    have hlt := (List.getElem?_eq_some_iff.1 hx).1
    obtain ⟨g, cap, rfl, _, _, hcell⟩ := row_at h (by omega)
    obtain ⟨x1, x2, x3, x4⟩ := ecells_at prs j x hx
    refine ⟨g, 0, x.2, ⟨_, _, rfl⟩, ?_, ?_, ?_, ?_, ha x (List.mem_of_getElem? hx)⟩
    all_goals rw [Nat.zero_add]
    · exact (hcell _ (by omega)).trans x1
    · exact (hcell _ (by omega)).trans x2
    · exact (hcell _ (by omega)).trans x3
    · exact (hcell _ (by omega)).trans x4
  rcases h.2 with ⟨rfl, h0⟩ | ⟨g, cap, cur, rfl, _, _, h1, h2, _⟩
  · exact ⟨none, 0, by rw [hlen, h0], by omega, by omega, fun j s hj => by have := (List.getElem?_eq_some_iff.1 hj).1; omega⟩
  · refine ⟨some ⟨g, 0, none⟩, cap, by rw [hlen], by omega, by unfold maxLen at h2; omega, fun j s hj => ?_⟩
    obtain ⟨b, o, u, ⟨n, c, e⟩, hcell⟩ := hc j s hj
    cases e
    exact ⟨g, 0, u, rfl, hcell⟩
theorem alistsR_row {W : World} {base : Nat} {v : Value} {us : List Value} {ls : List (List AttrP)} (h : W.ownsRow base 37 1 v us.length us) (hl : us.length = ls.length) (ha : ∀ (k : Nat) u l, us[k]? = some u → ls[k]? = some l → AttrsR W u l) : AlistsR W v ls := by
  have hc : ∀ j l, ls[j]? = some l → ∃ b o u, (∃ n c, v = .slice (some ⟨b, o, none⟩) n c) ∧ W.cell? ⟨b, o + j, none⟩ = some u ∧ AttrsR W u l := fun j l hj => by
    have hlt := (List.getElem?_eq_some_iff.1 hj).1
    obtain ⟨g, cap, rfl, _, _, hcell⟩ := row_at h (by omega)
    obtain ⟨u, hu⟩ : ∃ u, us[j]? = some u := ⟨_, List.getElem?_eq_getElem (by omega)⟩
    exact ⟨g, 0, u, ⟨_, _, rfl⟩, by rw [Nat.zero_add]; exact (hcell _ (by omega)).trans hu, ha j u l hu hj⟩
  rcases h.2 with ⟨rfl, h0⟩ | ⟨g, cap, cur, rfl, _, _, h1, h2, _⟩
  · exact ⟨none, 0, by rw [← hl, h0], by omega, by omega, fun j s hj => by have := (List.getElem?_eq_some_iff.1 hj).1; omega⟩
  · refine ⟨some ⟨g, 0, none⟩, cap, by rw [hl], by omega, by unfold maxLen at h2; omega, fun j s hj => ?_⟩
    obtain ⟨b, o, u, ⟨n, c, e⟩, hcell⟩ := hc j s hj
    cases e
    exact ⟨g, 0, u, rfl, hcell⟩
theorem EvsR.front2 {W : World} {p : Option Addr} {n c : Nat} {a b : List EvP} (h : EvsR W (.slice p n c) (a ++ b)) : EvsR W (.slice p a.length c) a := by
  have := h.front a.length (by simp)
  rwa [List.take_left'] at this
  rfl

/-! ## events or nodes that are being lent: the box of the answer, the box of the list, the lists -/

structure LndE (T LT : TypeId) (w W : World) (wv av : Value) (es : List EvP) (mA : List AttrP) (prs : List (EvP × Value)) (us : List Value) : Prop where
  be : Below w.heap.size w W
  b0 : W.heap[w.heap.size]? = some (.cells #[.slice none 0 0, .slice none 0 0, .slice none 0 0] LT (0, 0))
  bx : W.heap[w.heap.size + 1]? = some (.cells #[.slice none 0 0, wv, av] LT (0, 0))
  a : W.ownsRow w.heap.size 37 1 av us.length us
  r : W.ownsRow w.heap.size T 4 wv prs.length (ecells prs)
  u : ∀ (k : Nat) (v : Value) (e : EvP), us[k]? = some v → es[k]? = some e → W.ownsRow w.heap.size 101 2 v (e.a ++ mA).length (attrsV (e.a ++ mA))
  rw : ∀ (k : Nat) (x : EvP × Value), prs[k]? = some x → (x.1.a = [] ∧ x.2 = .slice none 0 0) ∨ ∃ v, us[k]? = some v ∧ es[k]? = some x.1 ∧ x.2 = frontV v x.1.a.length
/-- the types stand apart -/
structure LndT (T LT : TypeId) : Prop where
  t0 : T ≠ 101
  t1 : T ≠ 37
  t2 : LT ≠ T
  t3 : LT ≠ 101
  t4 : LT ≠ 37
section
variable {T LT : TypeId} {w W W2 : World} {wv av : Value} {es : List EvP} {mA : List AttrP} {prs : List (EvP × Value)} {us : List Value}
theorem LndE.below (h : LndE T LT w W wv av es mA prs us) (hb : Below W.heap.size W W2) : LndE T LT w W2 wv av es mA prs us :=
  ⟨h.be.trans (hb.mono h.be.size), (hb.block _ (block_lt h.b0)).trans h.b0, (hb.block _ (block_lt h.bx)).trans h.bx, row_below h.a hb, row_below h.r hb, fun k v e h1 h2 => row_below (h.u k v e h1 h2) hb, h.rw⟩
theorem LndE.drew (h : LndE T LT w W wv av es mA prs us) : LndE T LT w W.drew wv av es mA prs us := ⟨⟨h.be.os, h.be.tape, h.be.output, h.be.size, h.be.block⟩, h.b0, h.bx, h.a, h.r, h.u, h.rw⟩
/-- a box of the element's type that is written into -/
theorem LndE.box {c : Nat} {cs cs2 : Array Value} (ht : LndT T LT) (h : LndE T LT w W wv av es mA prs us) (hc : W.heap[c]? = some (.cells cs T (0, 0))) (hlo : w.heap.size + 2 ≤ c) (hne : wv.ownBlock ≠ some c) (j : Just W W2 c cs2 T) : LndE T LT w W2 wv av es mA prs us :=
  ⟨h.be.trans (just_low j (by omega)), (j.other _ (by omega)).trans h.b0, (j.other _ (by omega)).trans h.bx, row_just h.a hc ht.t1 j.other, row_of_block h.r (fun g hg => j.other g (fun e => hne (by rw [hg, e]))), fun k v e h1 h2 => row_just (h.u k v e h1 h2) hc ht.t0 j.other, h.rw⟩
/-- one more list of attributes -/
theorem LndE.attr {u' v' : Value} {e : EvP} (ht : LndT T LT) (h : LndE T LT w W wv av es mA prs us) (hu : W.ownsRow w.heap.size 101 2 u' (e.a ++ mA).length (attrsV (e.a ++ mA))) (he : es[us.length]? = some e)
    (hg : (W.alloc (.cells #[u'] 37)).grownBy W2 av.ownBlock) (hv : W2.ownsRow w.heap.size 37 1 v' (us ++ [u']).length (us ++ [u'])) :
    LndE T LT w (W2.setCell ⟨w.heap.size + 1, 2, none⟩ v') wv v' es mA prs (us ++ [u']) := by
  have hax := h.a.alloc (.cells #[u'] 37)
  have bxa : (W.alloc (.cells #[u'] 37)).heap[w.heap.size + 1]? = _ := (Go.Lib.alloc_old _ _ _ (block_lt h.bx)).trans h.bx
  have b0a : (W.alloc (.cells #[u'] 37)).heap[w.heap.size]? = _ := (Go.Lib.alloc_old _ _ _ (block_lt h.b0)).trans h.b0
  have bx2 := grown_at hg bxa (row_ne hax bxa ht.t4)
  have b02 := grown_at hg b0a (row_ne hax b0a ht.t4)
  have j := just_put (j := 2) (cs2 := #[.slice none 0 0, wv, v']) bx2 v' (by simp)
  have str : ∀ a n xs, W.ownsRow w.heap.size 101 2 a n xs → (W2.setCell ⟨w.heap.size + 1, 2, none⟩ v').ownsRow w.heap.size 101 2 a n xs := fun a n xs hr =>
    row_just ((hr.alloc _).kept hg (rows_ne (hr.alloc _) hax (by decide))) bx2 ht.t3 j.other
  refine ⟨((h.be.alloc h.be.size _).grown hg (by have := h.be.size; simp; omega) (fun k hk => (hax.lt k hk).1)).trans (just_low j (by omega)), (j.other _ (by omega)).trans b02, j.at_, row_just hv bx2 ht.t4 j.other, row_just ((h.r.alloc _).kept hg (rows_ne (h.r.alloc _) hax ht.t1)) bx2 ht.t2 j.other, fun k v x h1 h2 => ?_, fun k x h1 => ?_⟩
  · by_cases hk : k < us.length
    · rw [List.getElem?_append_left hk] at h1
      exact str _ _ _ (h.u k v x h1 h2)
    · obtain rfl : k = us.length := by have := (List.getElem?_eq_some_iff.1 h1).1; simp at this; omega
      rw [List.getElem?_append_right (Nat.le_refl _), Nat.sub_self] at h1
      obtain rfl := Option.some.inj h1
      obtain rfl := Option.some.inj (he.symm.trans h2)
      exact str _ _ _ hu
  · rcases h.rw k x h1 with h3 | ⟨v, h3, h4, h5⟩
    · exact .inl h3
    · exact .inr ⟨v, by rw [List.getElem?_append_left (List.getElem?_eq_some_iff.1 h3).1]; exact h3, h4, h5⟩
/-- one more event -/
theorem LndE.ev {v' : Value} {x : EvP × Value} {X : Obj} (ht : LndT T LT) (h : LndE T LT w W wv av es mA prs us)
    (hx : (x.1.a = [] ∧ x.2 = .slice none 0 0) ∨ ∃ v, us[prs.length]? = some v ∧ es[prs.length]? = some x.1 ∧ x.2 = frontV v x.1.a.length)
    (hg : (W.alloc X).grownBy W2 wv.ownBlock) (hv : W2.ownsRow w.heap.size T 4 v' (prs ++ [x]).length (ecells (prs ++ [x]))) :
    LndE T LT w (W2.setCell ⟨w.heap.size + 1, 1, none⟩ v') v' av es mA (prs ++ [x]) us := by
  have hax := h.r.alloc X
  have bxa : (W.alloc X).heap[w.heap.size + 1]? = _ := (Go.Lib.alloc_old _ _ _ (block_lt h.bx)).trans h.bx
  have b0a : (W.alloc X).heap[w.heap.size]? = _ := (Go.Lib.alloc_old _ _ _ (block_lt h.b0)).trans h.b0
  have bx2 := grown_at hg bxa (row_ne hax bxa ht.t2)
  have b02 := grown_at hg b0a (row_ne hax b0a ht.t2)
  have j := just_put (j := 1) (cs2 := #[.slice none 0 0, v', av]) bx2 v' (by simp)
  have str : ∀ a n xs, W.ownsRow w.heap.size 101 2 a n xs → (W2.setCell ⟨w.heap.size + 1, 1, none⟩ v').ownsRow w.heap.size 101 2 a n xs := fun a n xs hr =>
    row_just ((hr.alloc _).kept hg (rows_ne (hr.alloc _) hax ht.t0.symm)) bx2 ht.t3 j.other
  refine ⟨((h.be.alloc h.be.size _).grown hg (by have := h.be.size; simp; omega) (fun k hk => (hax.lt k hk).1)).trans (just_low j (by omega)), (j.other _ (by omega)).trans b02, j.at_, row_just ((h.a.alloc _).kept hg (rows_ne (h.a.alloc _) hax ht.t1.symm)) bx2 ht.t4 j.other, row_just hv bx2 ht.t2 j.other, fun k v x h1 h2 => str _ _ _ (h.u k v x h1 h2), fun k y h1 => ?_⟩
  by_cases hk : k < prs.length
  · rw [List.getElem?_append_left hk] at h1
    exact h.rw k y h1
  · obtain rfl : k = prs.length := by have := (List.getElem?_eq_some_iff.1 h1).1; simp at this; omega
    rw [List.getElem?_append_right (Nat.le_refl _), Nat.sub_self] at h1
    obtain rfl := Option.some.inj h1
    exact hx
/-- what was lent can be read -/
theorem LndE.whole (h : LndE T LT w W wv av es mA prs us) : EvsR W wv (prs.map Prod.fst) := by
  refine evsR_row h.r (fun x hx => ?_)
  obtain ⟨k, hk⟩ := List.getElem?_of_mem hx
  rcases h.rw k x hk with ⟨h1, h2⟩ | ⟨v, h1, h2, h3⟩
  · rw [h1, h2]; exact AttrsR.nil W
  · rw [h3]; exact attrsR_front (h.u k v x.1 h1 h2)
theorem LndE.lists (h : LndE T LT w W wv av es mA prs us) (hl : us.length = es.length) : AlistsR W av (es.map fun e => e.a ++ mA) := by
  refine alistsR_row h.a (by rw [hl, List.length_map]) (fun k u l hu hk => ?_)
  rw [List.getElem?_map] at hk
  obtain ⟨e, he, rfl⟩ := Option.map_eq_some_iff.1 hk
  exact attrsR_row (h.u k u e hu he)
end
/-- events or nodes that were lent: the front, the whole, the lists of attributes -/
def LentE (W : World) (v : Value) (es more : List EvP) (mA : List AttrP) : Prop :=
  ∃ vf vw va, v = .agg #[vf, vw, va] ∧ EvsR W vf es ∧ EvsR W vw (es ++ more) ∧ AlistsR W va (es.map fun e => e.a ++ mA)
theorem LentE.below {W W' : World} {v : Value} {es more : List EvP} {mA : List AttrP} (h : LentE W v es more mA) (hb : Below W.heap.size W W') : LentE W' v es more mA := by
  obtain ⟨vf, vw, va, e, h1, h2, h3⟩ := h
  exact ⟨vf, vw, va, e, h1.below hb, h2.below hb, h3.below hb⟩
theorem three_put {W : World} {b : Nat} {T : TypeId} {a0 a1 a2 p0 p1 p2 : Value} (h : W.heap[b]? = some (.cells #[a0, a1, a2] T (0, 0))) :
    Just W (((W.setCell ⟨b, 0, none⟩ p0).setCell ⟨b, 1, none⟩ p1).setCell ⟨b, 2, none⟩ p2) b #[p0, p1, p2] T := by
  have h0 := just_put (j := 0) (cs2 := #[p0, a1, a2]) h p0 (by simp)
  have h1 := just_put (j := 1) (cs2 := #[p0, p1, a2]) h0.at_ p1 (by simp)
  have h2 := just_put (j := 2) (cs2 := #[p0, p1, p2]) h1.at_ p2 (by simp)
  exact (h0.andThen h1).andThen h2
/-- the lists alone -/
structure LndL (T : TypeId) (w W : World) (wv av : Value) (es : List EvP) (mA : List AttrP) (prs : List (EvP × Value)) (us : List Value) : Prop where
  a : W.ownsRow w.heap.size 37 1 av us.length us
  r : W.ownsRow w.heap.size T 4 wv prs.length (ecells prs)
  u : ∀ (k : Nat) (v : Value) (e : EvP), us[k]? = some v → es[k]? = some e → W.ownsRow w.heap.size 101 2 v (e.a ++ mA).length (attrsV (e.a ++ mA))
  rw : ∀ (k : Nat) (x : EvP × Value), prs[k]? = some x → (x.1.a = [] ∧ x.2 = .slice none 0 0) ∨ ∃ v, us[k]? = some v ∧ es[k]? = some x.1 ∧ x.2 = frontV v x.1.a.length
theorem LndE.lst {T LT : TypeId} {w W : World} {wv av : Value} {es : List EvP} {mA : List AttrP} {prs : List (EvP × Value)} {us : List Value} (h : LndE T LT w W wv av es mA prs us) : LndL T w W wv av es mA prs us := ⟨h.a, h.r, h.u, h.rw⟩
theorem LndL.just {T LT : TypeId} {w W W2 : World} {b : Nat} {cs cs2 : Array Value} {wv av : Value} {es : List EvP} {mA : List AttrP} {prs : List (EvP × Value)} {us : List Value} (ht : LndT T LT) (h : LndL T w W wv av es mA prs us) (hb : W.heap[b]? = some (.cells cs LT (0, 0))) (j : Just W W2 b cs2 LT) : LndL T w W2 wv av es mA prs us :=
  ⟨row_just h.a hb ht.t4 j.other, row_just h.r hb ht.t2 j.other, fun k v e h1 h2 => row_just (h.u k v e h1 h2) hb ht.t3 j.other, h.rw⟩
theorem LndL.lent {T : TypeId} {w W : World} {wp ap : Option Addr} {wn wc an ac : Nat} {es more : List EvP} {mA : List AttrP} {prs : List (EvP × Value)} {us : List Value} (h : LndL T w W (.slice wp wn wc) (.slice ap an ac) es mA prs us)
    (hp : prs.map Prod.fst = es ++ more) (hl : us.length = es.length) : LentE W (.agg #[.slice wp es.length wc, .slice wp wn wc, .slice ap an ac]) es more mA := by
  have hw : EvsR W (.slice wp wn wc) (prs.map Prod.fst) := by
    refine evsR_row h.r (fun x hx => ?_)
    obtain ⟨k, hk⟩ := List.getElem?_of_mem hx
    rcases h.rw k x hk with ⟨h1, h2⟩ | ⟨v, h1, h2, h3⟩
    · rw [h1, h2]; exact AttrsR.nil W
    · rw [h3]; exact attrsR_front (h.u k v x.1 h1 h2)
  rw [hp] at hw
  refine ⟨_, _, _, rfl, hw.front2, hw, alistsR_row h.a (by rw [hl, List.length_map]) (fun k u l hu hk => ?_)⟩
  rw [List.getElem?_map] at hk
  obtain ⟨e, he, rfl⟩ := Option.map_eq_some_iff.1 hk
  exact attrsR_row (h.u k u e hu he)
theorem EvsR.drewN {W : World} {v : Value} {l : List EvP} (h : EvsR W v l) (n : Nat) : EvsR (W.drewN n) v l := h
theorem AlistsR.drewN {W : World} {v : Value} {l : List (List AttrP)} (h : AlistsR W v l) (n : Nat) : AlistsR (W.drewN n) v l := h
end Go.Proofs.YtkcgmimldjeaiaaDoor

/-
  Nodes that a call made: their row, and their lists of attributes, which stand apart; which elements are void: two walks.
-/
namespace Go.Proofs.YtkcgmimldjeaiaaDoor
open Go.RowKit Go.Lib Own

structure MadeN (W : World) (base : Nat) (v : Value) (prs : List (EvP × Value)) : Prop where
  row : W.ownsRow base 84 4 v prs.length (ecells prs)
  own : ∀ (k : Nat) (x : EvP × Value), prs[k]? = some x → W.ownsRow base 101 2 x.2 x.1.a.length (attrsV x.1.a)
  ap : Dist (prs.map Prod.snd)
theorem MadeN.nil (W : World) (base : Nat) : MadeN W base (.slice none 0 0) [] := ⟨World.ownsRow_nil _ _ _ _, fun k x h => by simp at h, fun j k v u h => by simp at h⟩
theorem MadeN.keep {W W' : World} {base : Nat} {v : Value} {prs : List (EvP × Value)} (h : MadeN W base v prs) (h1 : ∀ v n xs, W.ownsRow base 84 4 v n xs → W'.ownsRow base 84 4 v n xs)
    (h2 : ∀ a n ys, W.ownsRow base 101 2 a n ys → W'.ownsRow base 101 2 a n ys) : MadeN W' base v prs := ⟨h1 _ _ _ h.row, fun k x hx => h2 _ _ _ (h.own k x hx), h.ap⟩
theorem MadeN.below {W W' : World} {base : Nat} {v : Value} {prs : List (EvP × Value)} (h : MadeN W base v prs) (hb : Below W.heap.size W W') : MadeN W' base v prs :=
  h.keep (fun _ _ _ hr => row_below hr hb) (fun _ _ _ hr => row_below hr hb)
theorem MadeN.drewN {W : World} {base : Nat} {v : Value} {prs : List (EvP × Value)} (h : MadeN W base v prs) (n : Nat) : MadeN (W.drewN n) base v prs := h.keep (fun _ _ _ hr => hr) (fun _ _ _ hr => hr)
theorem dist_end {vs : List Value} {v : Value} (h : Dist vs) (hn : ∀ (k : Nat) u, vs[k]? = some u → ∀ g, v.ownBlock = some g → u.ownBlock ≠ some g) : Dist (vs ++ [v]) := by
  intro j k a b hj hk hne g hg
  by_cases hjl : j < vs.length
  · rw [List.getElem?_append_left hjl] at hj
    by_cases hkl : k < vs.length
    · rw [List.getElem?_append_left hkl] at hk
      exact h j k a b hj hk hne g hg
    · have hk' : k = vs.length := by have := (List.getElem?_eq_some_iff.1 hk).1; simp at this; omega
      rw [hk', List.getElem?_append_right (Nat.le_refl _), Nat.sub_self] at hk
      obtain rfl : v = b := Option.some.inj hk
      exact fun e => hn j a hj g e hg
  · have hj' : j = vs.length := by have := (List.getElem?_eq_some_iff.1 hj).1; simp at this; omega
    rw [hj', List.getElem?_append_right (Nat.le_refl _), Nat.sub_self] at hj
    obtain rfl : v = a := Option.some.inj hj
    by_cases hkl : k < vs.length
    · rw [List.getElem?_append_left hkl] at hk
      exact hn k b hk g hg
    · have hk' : k = vs.length := by have := (List.getElem?_eq_some_iff.1 hk).1; simp at this; omega
      omega
/-- one more node -/
theorem MadeN.more {W W2 : World} {base : Nat} {v v' : Value} {prs : List (EvP × Value)} {x : EvP × Value} {X : Obj} (h : MadeN W base v prs) (hx : W.ownsRow base 101 2 x.2 x.1.a.length (attrsV x.1.a))
    (hn : ∀ g, x.2.ownBlock = some g → ∀ (k : Nat) y, prs[k]? = some y → y.2.ownBlock ≠ some g) (hg : (W.alloc X).grownBy W2 v.ownBlock)
    (hv : W2.ownsRow base 84 4 v' (prs.length + 1) (ecells prs ++ [.int .i64 x.1.k, .string (bs x.1.n), x.2, .string (bs x.1.t)])) : MadeN W2 base v' (prs ++ [x]) := by
  have hra := h.row.alloc X
  have mono : ∀ a n ys, W.ownsRow base 101 2 a n ys → W2.ownsRow base 101 2 a n ys := fun a n ys hr => (hr.alloc X).kept hg (rows_ne (hr.alloc X) hra (by decide))
  refine ⟨by rw [List.length_append, ecells_app]; exact hv, fun k y hy => ?_, ?_⟩
  · by_cases hk : k < prs.length
    · rw [List.getElem?_append_left hk] at hy
      exact mono _ _ _ (h.own k y hy)
    · have hk' : k = prs.length := by have := (List.getElem?_eq_some_iff.1 hy).1; simp at this; omega
      rw [hk', List.getElem?_append_right (Nat.le_refl _), Nat.sub_self] at hy
      obtain rfl : x = y := Option.some.inj hy
      exact mono _ _ _ hx
  · rw [List.map_append]
    refine dist_end h.ap (fun k u hu g hg2 => ?_)
    rw [List.getElem?_map] at hu
    obtain ⟨y, hy, rfl⟩ := Option.map_eq_some_iff.1 hu
    exact hn g hg2 k y hy
theorem MadeN.evs {W : World} {base : Nat} {v : Value} {prs : List (EvP × Value)} (h : MadeN W base v prs) : EvsR W v (prs.map Prod.fst) :=
  evsR_row h.row (fun x hx => by obtain ⟨k, hk⟩ := List.mem_iff_getElem?.1 hx; exact attrsR_row (h.own k x hk))
/-- what was made in a block that is new is no older node's -/
theorem MadeN.fresh {W : World} {base : Nat} {v : Value} {prs : List (EvP × Value)} (h : MadeN W base v prs) {u : Value} (hu : ∀ g, u.ownBlock = some g → W.heap.size ≤ g) : ∀ g, u.ownBlock = some g → ∀ (k : Nat) y, prs[k]? = some y → y.2.ownBlock ≠ some g := by
  intro g hg k y hy e
  have h1 := ((h.own k y hy).lt g e).2
  have h2 := hu g hg
  omega
theorem info_node : (Tryd.prog.info? 84).map (fun i => (i.zero, i.size, i.bytes)) = some (some (.agg #[.int .i64 0, .string ⟨#[]⟩, .slice none 0 0, .string ⟨#[]⟩]), 4, 64) := by kernel_rfl

/-! ## which elements are void -/

theorem elemF_mem (x : List UInt8) (r : Nat × Nat) : ∀ T : List (List (List UInt8) × Nat × Nat), elemF T x = some r → ∃ k ∈ T, k.1.contains x = true ∧ k.2 = r
  | [], h => by cases h
  | k :: T, h => by
    unfold elemF at h
    by_cases hc : k.1.contains x = true
    · rw [if_pos hc] at h
      exact ⟨k, List.mem_cons_self .., hc, Option.some.inj h⟩
    · rw [if_neg hc] at h
      obtain ⟨q, h1, h2⟩ := elemF_mem x r T h
      exact ⟨q, List.mem_cons_of_mem _ h1, h2⟩
def voidE : Option (Nat × Nat) → Bool
  | some (_, m) => (m : Int) == 9
  | none => false
theorem void_elem (x : List UInt8) : voidE (elemL x) = voidL x := by
  by_cases h1 : x = [98, 114]
  · subst h1; decide +kernel
  by_cases h2 : x = [104, 114]
  · subst h2; decide +kernel
  by_cases h3 : x = [105, 109, 103]
  · subst h3; decide +kernel
  have hv : voidL x = false := by
    unfold voidL
    rw [beq_eq_false_iff_ne.2 h1, beq_eq_false_iff_ne.2 h2, beq_eq_false_iff_ne.2 h3]
    rfl
  rw [hv]
  cases h : elemL x with
  | none => rfl
  | some r =>
    obtain ⟨c, m⟩ := r
    obtain ⟨k, hk, hc, e⟩ := elemF_mem x _ kindT h
    refine beq_eq_false_iff_ne.2 (fun hm => ?_)
    have h9 := (by decide +kernel : ∀ k ∈ kindT, k.2.2 = 9 → k.1 = [[98, 114], [105, 109, 103]] ∨ k.1 = [[104, 114]]) k hk (by rw [e]; show m = 9; omega)
    rcases h9 with e2 | e2
    · rw [e2] at hc
      simp at hc
      rcases hc with hc | hc
      · exact h1 hc
      · exact h3 hc
    · rw [e2] at hc
      simp at hc
      exact h2 hc

theorem elemVoid_any (a : Value) (c m : Nat) (w : World) : Calls Tryd.prog 122 #[.agg #[a, .int .i64 c, .int .i64 m]] w fun e w' => e = .returned (.bool ((m : Int) == 9)) ∧ Below w.heap.size w w' := by
  have hb := (Below.refl w.heap.size w).alloc (Nat.le_refl _) (.cells #[a, .int .i64 c, .int .i64 m] 140)
  have hn := heap_alloc_new w (.cells #[a, .int .i64 c, .int .i64 m] 140)
  have c2 := cell_at (j := 2) hn rfl
  go_enter Tryd.func122, Tryd.ntmps122
  go_wp2
  go_ret
  exact ⟨rfl, hb⟩
theorem isVoid_any (x : ByteArray) (w : World) (hT : KindsTab w) : Calls Tryd.prog 116 #[.string x] w fun e w' => e = .returned (.bool (voidL x.toList)) ∧ Below w.heap.size w w' := by
  have hf := find_any x w hT
  rw [← void_elem]
  obtain ⟨o, ho⟩ : ∃ o, elemL x.toList = o := ⟨_, rfl⟩
  rw [ho] at hf ⊢
  have HF := hid hf
  have HV := hid (fun a c m w => elemVoid_any a c m w)
  clear hf ho
  go_enter Tryd.func116, Tryd.ntmps116
  go_wp2_with fail
  refine HF.out.mono ?_
  rintro r W1 ⟨rfl, b1⟩
  cases o with
  | none =>
    unfold foundV zeroE
    have hb2 := (Below.refl W1.heap.size W1).alloc (Nat.le_refl _) (.cells #[.string ⟨#[]⟩, .int .i64 0, .int .i64 0] 140)
    have hl := elem_load (heap_alloc_new W1 (.cells #[.string ⟨#[]⟩, .int .i64 0, .int .i64 0] 140))
    have HB := hid (b1.trans (hb2.mono b1.size))
    have hsz := b1.size
    clear b1 hb2
    go_wp2_with (go_at_call 122; refine (HV.out _ 0 0 _).mono ?_; rintro r W3 ⟨rfl, b3⟩)
    have HZ := hid (HB.out.trans (b3.mono HB.out.size))
    clear b3 HB
    go_ret
    exact ⟨rfl, HZ.out⟩
  | some q =>
    obtain ⟨c, m⟩ := q
    unfold foundV elemC
    have hb2 := (Below.refl W1.heap.size W1).alloc (Nat.le_refl _) (.cells #[.string (bs x.toList), .int .i64 c, .int .i64 m] 140)
    have hl := elem_load (heap_alloc_new W1 (.cells #[.string (bs x.toList), .int .i64 c, .int .i64 m] 140))
    have HB := hid (b1.trans (hb2.mono b1.size))
    have hsz := b1.size
    clear b1 hb2
    go_wp2_with (go_at_call 122; refine (HV.out _ c m _).mono ?_; rintro r W3 ⟨rfl, b3⟩)
    have HZ := hid (HB.out.trans (b3.mono HB.out.size))
    clear b3 HB
    go_ret
    exact ⟨rfl, HZ.out⟩
theorem refVoid_any (x : ByteArray) (w : World) : Calls Tryd.prog 74 #[.string x] w fun e w' => e = .returned (.bool (voidL x.toList)) ∧ w' = w := by
  unfold voidL
  by_cases h1 : (x.toList == [98, 114]) = true
  · rw [h1, Bool.true_or]
    go_enter Tryd.func74, Tryd.ntmps74
    go_wp2
    go_ret
    exact ⟨rfl, rfl⟩
  rw [Bool.not_eq_true] at h1
  rw [h1, Bool.false_or]
  by_cases h2 : (x.toList == [104, 114]) = true
  · rw [h2, Bool.true_or]
    go_enter Tryd.func74, Tryd.ntmps74
    go_wp2
    go_ret
    exact ⟨rfl, rfl⟩
  rw [Bool.not_eq_true] at h2
  rw [h2, Bool.false_or]
  go_enter Tryd.func74, Tryd.ntmps74
  go_wp2
  go_ret
  exact ⟨rfl, rfl⟩
end Go.Proofs.YtkcgmimldjeaiaaDoor

/-
  The reference's pieces: its walk.
-/
namespace Go.Proofs.YtkcgmimldjeaiaaDoor
open Go.RowKit Go.Lib Own

theorem row_empty {W : World} {g : Nat} {T : TypeId} {z : Nat} (h : W.heap[g]? = some (.cells #[] T (0, 0))) : W.ownsRow g T z (.slice (some ⟨g, 0, none⟩) 0 0) 0 [] :=
  ⟨by simp, .inr ⟨g, 0, #[], rfl, Nat.le_refl _, h, Nat.le_refl _, by decide, by simp, by simp⟩⟩
set_option maxHeartbeats 8000000 in
set_option maxRecDepth 100000 in
theorem pieces_any (ev : Value) (es : List EvP) (w : World) (h : EvsR w ev es) (hs : bulkE es ≤ 4000000) :
    Calls Tryd.prog 39 #[ev] w fun r w' => ∃ v prs, r = .returned v ∧ MadeN w' w.heap.size v prs ∧ prs.map Prod.fst = piecesL 0 es ∧ Below w.heap.size w w' := by
  obtain ⟨p, c, rfl, hl, hcm, hcell⟩ := h
  have hlen := bulkE_len es
  obtain ⟨i0, hi, hz0, hz1, hz2⟩ := info_parts info_node
  obtain ⟨R, hR⟩ : ∃ R, piecesL 0 es = R := ⟨_, rfl⟩
  rw [hR]
  have HC := hid hcell
  have HS := hid hs
  have HR := hid (fun (_ : True) => (hR : ([] : List (EvP × Value)).map Prod.fst ++ piecesL 0 (es.drop 0) = R))
  have HV := hid (fun x w => refVoid_any x w)
  have hln : es.length ≤ 4000000 := by omega
  clear hcell hs hR hlen
  go_enter Tryd.func39, Tryd.ntmps39
  go_wp2_with fail
  go_loopw [3, 4, 5] (fun nv dv iv wr => ∃ (k d : Nat) (prs : List (EvP × Value)), iv = .int .i64 k ∧ dv = .int .i64 d ∧ k ≤ es.length ∧ Hid (MadeN wr w.heap.size nv prs ∧ Below w.heap.size w wr ∧ prs.length ≤ k ∧ d ≤ k) ∧ Hid (True → prs.map Prod.fst ++ piecesL d (es.drop k) = R)) (fun _ _ iv _ => es.length - (RowKit.intOf iv).toNat)
  case atStart => exact ⟨0, 0, [], rfl, rfl, Nat.zero_le _, hid ⟨MadeN.nil _ _, Below.refl _ _, by simp, by omega⟩, HR⟩
  case round =>
    obtain ⟨k, d, prs, rfl, rfl, hk, HX, HK⟩ := hrel
    obtain ⟨np, nc, rfl⟩ := row_shape HX.out.1.row
    clear HR
    by_cases hkl : k < es.length
    · obtain ⟨e, he⟩ : ∃ e, es[k]? = some e := ⟨_, List.getElem?_eq_getElem hkl⟩
      obtain ⟨b, o, u, rfl, q0, q1, q2, q3, q4⟩ := HC.out k e he
      obtain ⟨hmade, hbw, hpl, hdk⟩ := HX.out
      have hab := bulkE_get he
      have hSS := HS.out
      have hq4 := q4.below hbw
      replace q0 := cell_low q0 hbw (cell_block q0)
      replace q1 := cell_low q1 hbw (cell_block q1)
      replace q2 := cell_low q2 hbw (cell_block q2)
      replace q3 := cell_low q3 hbw (cell_block q3)
      obtain ⟨up, uc, rfl⟩ := q4.len
      have hd := HK.out trivial
      rw [drop_at he, pieces_step] at hd
      obtain ⟨W4, hW4⟩ : ∃ W4, wr.alloc (.cells (evC e (.slice up e.a.length uc)) 39) = W4 := ⟨_, rfl⟩
      have hb4 : Below wr.heap.size wr W4 := by rw [← hW4]; exact (Below.refl _ _).alloc (Nat.le_refl _) _
      have hn4 : W4.heap[wr.heap.size]? = some (.cells (evC e (.slice up e.a.length uc)) 39 (0, 0)) := by rw [← hW4]; exact heap_alloc_new _ _
      have hbw4 := hbw.trans (hb4.mono hbw.size)
      have hm4 := hmade.below hb4
      have hu4 := hq4.below hb4
      have hv := fun W => HV.out (bs e.n) W
      simp only [bs_toList] at hv
      obtain ⟨d0, d1, d2, d3⟩ := evC_at hn4
      have hal := bulkA_len e.a
      have hea : e.a.length ≤ 4000000 := by omega
      have H4 := hid (And.intro hm4 (And.intro hbw4 (And.intro hn4 hu4)))
      have HD := hid (fun (_ : True) => hd)
      have HV2 := hid hv
      unfold evC at hW4
      clear hd hmade hbw hb4 hn4 hbw4 hm4 hu4 hv hab hSS hq4 q4 HX HK HC he HS hal
      go_upto_region 7 with fail
      clear hW4 q0 q1 q2 q3
      by_cases k1 : e.k = 1
      · rw [k1] at d0
        simp only [k1, if_pos] at HD
        by_cases hn : e.n = []
        · have hx : (bs e.n).toList.isEmpty = true := by rw [bs_toList, hn]; rfl
          rw [if_pos hn] at HD
          have hvd : voidL e.n = false := by rw [hn]; decide +kernel
          rw [hvd] at HV2
          have HZ := hid (And.intro H4.out.1 (And.intro H4.out.2.1 (And.intro (show prs.length ≤ k + 1 by omega) (show d + 1 ≤ k + 1 by omega))))
          clear H4 hn
          go_wp2_with fail
          refine (HV2.out _).mono ?_
          rintro r W5 ⟨rfl, rfl⟩
          go_wp2_with fail
          go_roundw
          case rel => exact ⟨k + 1, d + 1, prs, rfl, by simp, by omega, HZ, HD⟩
          case measure => simp [RowKit.intOf]; omega
        · have hx : (bs e.n).toList.isEmpty = false := by rw [bs_toList]; cases hh : e.n with | nil => exact absurd hh hn | cons _ _ => rfl
          rw [if_neg hn] at HD
          obtain ⟨vd, hvd⟩ : ∃ vd, voidL e.n = vd := ⟨_, rfl⟩
          rw [hvd] at HV2 HD
          clear hvd k1 hn
          obtain ⟨W5, hW5⟩ : ∃ W5, W4.alloc (.cells #[] 101) = W5 := ⟨_, rfl⟩
          have hb5 : Below W4.heap.size W4 W5 := by rw [← hW5]; exact (Below.refl _ _).alloc (Nat.le_refl _) _
          have hn5 : W5.heap[W4.heap.size]? = some (.cells #[] 101 (0, 0)) := by rw [← hW5]; exact heap_alloc_new _ _
          have hr5 := row_empty (z := 2) hn5
          have hu5 := H4.out.2.2.2.below hb5
          obtain ⟨c0, c1, c2, c3⟩ := evC_at ((hb5.block _ (block_lt H4.out.2.2.1)).trans H4.out.2.2.1)
          have HB5 := hid hb5
          have hsz5 := hb5.size
          clear hb5 hn5
          go_wp2_with (at_builtin; refine wpList_append_attrs rfl (.tmp 25) (.tmp 27) rfl W4.heap.size (.slice (some ⟨W4.heap.size, 0, none⟩) 0 0) _ [] e.a rfl rfl hr5 hu5 (by omega) (by simp only [List.length_nil]; omega) ?_)
          intro v6 w6 hrow6 hg6
          obtain ⟨vp, vc, rfl⟩ := row_shape hrow6
          have hb6 : Below W4.heap.size W4 w6 := HB5.out.grown hg6 hsz5 (fun k hk => by cases hk; exact Nat.le_refl _)
          have hm6 := H4.out.1.below hb6
          have hbw6 := H4.out.2.1.trans (hb6.mono H4.out.2.1.size)
          have hbox6 := (hb6.block _ (block_lt H4.out.2.2.1)).trans H4.out.2.2.1
          obtain ⟨x0, x1, x2, x3⟩ := evC_at hbox6
          have hfr := H4.out.1.fresh (u := .slice vp e.a.length vc) (fun g hg => (hrow6.lt g hg).1)
          have hbs4 := H4.out.2.1.size
          have hrl6 := row_low hrow6 hbs4
          have hown := hm6.row
          have hbs6 := hbw6.size
          have H6 := hid (And.intro hm6 (And.intro hbw6 (And.intro hrl6 (And.intro hfr hbox6))))
          clear hW5 hr5 hu5 c0 c1 c2 c3 HB5 hrow6 hg6 hb6 hm6 hbw6 hfr hrl6 hbox6 H4 d0 d1 d2 d3
          go_wp2_with (at_builtin; refine wpList_append_own _ rfl (.tmp 29) (.tmp 35) 44 rfl w.heap.size 84 i0 (.agg #[.int .i64 0, .string ⟨#[]⟩, .slice none 0 0, .string ⟨#[]⟩]) 4 64 Tryd.underlying44 hi hz0 hz1 hz2 rfl (by decide) _ _ _ rfl (hown.alloc _) ⟨_, 0, none⟩ 1 1 [.int .i64 d, .string (bs e.n), .slice vp e.a.length vc, .string ⟨#[]⟩] rfl rfl (cells_newV _ _ _) (by simp [Value.oneCell', bs]) (by unfold maxLen; omega) (by omega) (by simp; omega) ?_)
          intro v10 W10 hown10 hgrow10 _
          have hm10 := H6.out.1.more (x := (⟨d, e.n, e.a, []⟩, .slice vp e.a.length vc)) H6.out.2.2.1 H6.out.2.2.2.1 hgrow10 hown10
          have hbw10 := (H6.out.2.1.alloc hbs6 (.cells #[.int .i64 d, .string (bs e.n), .slice vp e.a.length vc, .string ⟨#[]⟩] 84)).grown hgrow10 (by simp; omega) (fun k hk => (hown.lt k hk).1)
          have hb6x := (Go.Lib.alloc_old w6 (.cells #[.int .i64 d, .string (bs e.n), .slice vp e.a.length vc, .string ⟨#[]⟩] 84) _ (block_lt H6.out.2.2.2.2)).trans H6.out.2.2.2.2
          have hbox10 := grown_at hgrow10 hb6x (row_ne (hown.alloc _) hb6x (by decide))
          obtain ⟨-, x1, -, -⟩ := evC_at hbox10
          have hns : ∀ dd, prs.map Prod.fst ++ ⟨d, e.n, e.a, []⟩ :: piecesL dd (es.drop (k + 1)) = R → (prs ++ [((⟨d, e.n, e.a, []⟩ : EvP), Value.slice vp e.a.length vc)]).map Prod.fst ++ piecesL dd (es.drop (k + 1)) = R := fun dd q => by rw [List.map_append, List.append_assoc]; exact q
          have hnl : (prs ++ [((⟨d, e.n, e.a, []⟩ : EvP), Value.slice vp e.a.length vc)]).length ≤ k + 1 := by rw [List.length_append, List.length_singleton]; omega
          generalize prs ++ [((⟨d, e.n, e.a, []⟩ : EvP), Value.slice vp e.a.length vc)] = prs3 at hm10 hns hnl
          have HZ0 := hid (And.intro hm10 (And.intro hbw10 hnl))
          have HNS := hid hns
          clear hm10 hbw10 hb6x hbox10 hns hnl H6 hown hown10 hgrow10 x0 x2 x3
          go_wp2_with fail
          refine (HV2.out _).mono ?_
          rintro r W11 ⟨rfl, rfl⟩
          cases vd with
          | true =>
            have HZ := hid (And.intro HZ0.out.1 (And.intro HZ0.out.2.1 (And.intro HZ0.out.2.2 (show d ≤ k + 1 by omega))))
            have HE := hid (fun (_ : True) => HNS.out _ (HD.out trivial))
            clear HZ0 HNS HD
            go_wp2_with fail
            go_roundw
            case rel => exact ⟨k + 1, d, prs3, rfl, rfl, by omega, HZ, HE⟩
            case measure => simp [RowKit.intOf]; omega
          | false =>
            have HZ := hid (And.intro HZ0.out.1 (And.intro HZ0.out.2.1 (And.intro HZ0.out.2.2 (show d + 1 ≤ k + 1 by omega))))
            have HE := hid (fun (_ : True) => HNS.out _ (HD.out trivial))
            clear HZ0 HNS HD
            go_wp2_with fail
            go_roundw
            case rel => exact ⟨k + 1, d + 1, prs3, rfl, by simp, by omega, HZ, HE⟩
            case measure => simp [RowKit.intOf]; omega
      have n1 : (e.k == 1) = false := beq_eq_false_iff_ne.2 k1
      have HD1 := hid (fun (_ : True) => (by have := HD.out trivial; rw [if_neg k1] at this; exact this : prs.map Prod.fst ++ (if e.k = 2 then piecesL (d - 1) (es.drop (k + 1)) else if e.k = 3 ∧ e.t ≠ [] then ⟨d, [], [], e.t⟩ :: piecesL d (es.drop (k + 1)) else piecesL d (es.drop (k + 1))) = R))
      have HZ0 := hid (And.intro H4.out.1 (And.intro H4.out.2.1 (show prs.length ≤ k + 1 by omega)))
      clear HD
      by_cases k2 : e.k = 2
      · rw [k2] at d0
        simp only [k2, if_pos] at HD1
        have n1' : ((2 : Int) == 1) = false := rfl
        clear n1 k1
        cases d with
        | zero =>
          have HZ := hid (And.intro HZ0.out.1 (And.intro HZ0.out.2.1 (And.intro HZ0.out.2.2 (show 0 ≤ k + 1 by omega))))
          clear H4 HZ0
          go_wp2_with fail
          go_roundw
          case rel => exact ⟨k + 1, 0, prs, rfl, by simp, by omega, HZ, HD1⟩
          case measure => simp [RowKit.intOf]; omega
        | succ q =>
          have HZ := hid (And.intro HZ0.out.1 (And.intro HZ0.out.2.1 (And.intro HZ0.out.2.2 (show q ≤ k + 1 by omega))))
          clear H4 HZ0
          go_wp2_with fail
          go_roundw
          case rel => exact ⟨k + 1, q, prs, rfl, by simp, by omega, HZ, HD1⟩
          case measure => simp [RowKit.intOf]; omega
      have n2 : (e.k == 2) = false := beq_eq_false_iff_ne.2 k2
      have HD2 := hid (fun (_ : True) => (by have := HD1.out trivial; rw [if_neg k2] at this; exact this : prs.map Prod.fst ++ (if e.k = 3 ∧ e.t ≠ [] then ⟨d, [], [], e.t⟩ :: piecesL d (es.drop (k + 1)) else piecesL d (es.drop (k + 1))) = R))
      clear HD1
      by_cases k3 : e.k = 3
      · rw [k3] at d0
        have n1' : ((3 : Int) == 1) = false := rfl
        have n2' : ((3 : Int) == 2) = false := rfl
        by_cases ht : e.t = []
        · have hx : (bs e.t).toList.isEmpty = true := by rw [bs_toList, ht]; rfl
          have HD3 := hid (fun (_ : True) => (by have := HD2.out trivial; rw [if_neg (fun q => q.2 ht)] at this; exact this : prs.map Prod.fst ++ piecesL d (es.drop (k + 1)) = R))
          have HZ := hid (And.intro HZ0.out.1 (And.intro HZ0.out.2.1 (And.intro HZ0.out.2.2 (show d ≤ k + 1 by omega))))
          clear H4 HZ0 HD2 ht n1 n2 k1 k2 k3
          go_wp2_with fail
          go_roundw
          case rel => exact ⟨k + 1, d, prs, rfl, rfl, by omega, HZ, HD3⟩
          case measure => simp [RowKit.intOf]; omega
        · have hx : (bs e.t).toList.isEmpty = false := by rw [bs_toList]; cases hh : e.t with | nil => exact absurd hh ht | cons _ _ => rfl
          have HD3 := hid (fun (_ : True) => (by have := HD2.out trivial; rw [if_pos ⟨k3, ht⟩] at this; exact this : prs.map Prod.fst ++ ⟨d, [], [], e.t⟩ :: piecesL d (es.drop (k + 1)) = R))
          have hown := H4.out.1.row
          have hbs4 := H4.out.2.1.size
          clear HZ0 HD2 ht n1 n2 k1 k2 k3
          go_wp2_with (at_builtin; refine wpList_append_own _ rfl (.tmp 62) (.tmp 67) 44 rfl w.heap.size 84 i0 (.agg #[.int .i64 0, .string ⟨#[]⟩, .slice none 0 0, .string ⟨#[]⟩]) 4 64 Tryd.underlying44 hi hz0 hz1 hz2 rfl (by decide) _ _ _ rfl (hown.alloc _) ⟨_, 0, none⟩ 1 1 [.int .i64 d, .string ⟨#[]⟩, .slice none 0 0, .string (bs e.t)] rfl rfl (cells_newV _ _ _) (by simp [Value.oneCell', bs]) (by unfold maxLen; omega) (by omega) (by simp; omega) ?_)
          intro v10 W10 hown10 hgrow10 _
          have hm10 := H4.out.1.more (x := (⟨d, [], [], e.t⟩, .slice none 0 0)) (World.ownsRow_nil _ _ _ _) (fun g hg => by cases hg) hgrow10 hown10
          have hbw10 := (H4.out.2.1.alloc hbs4 (.cells #[.int .i64 d, .string ⟨#[]⟩, .slice none 0 0, .string (bs e.t)] 84)).grown hgrow10 (by simp; omega) (fun k hk => (hown.lt k hk).1)
          have hns : (prs ++ [((⟨d, [], [], e.t⟩ : EvP), Value.slice none 0 0)]).map Prod.fst ++ piecesL d (es.drop (k + 1)) = R := by rw [List.map_append, List.append_assoc]; exact HD3.out trivial
          have hnl : (prs ++ [((⟨d, [], [], e.t⟩ : EvP), Value.slice none 0 0)]).length ≤ k + 1 := by rw [List.length_append, List.length_singleton]; omega
          generalize prs ++ [((⟨d, [], [], e.t⟩ : EvP), Value.slice none 0 0)] = prs3 at hm10 hns hnl
          have HZ := hid (And.intro hm10 (And.intro hbw10 (And.intro hnl (show d ≤ k + 1 by omega))))
          have HE := hid (fun (_ : True) => hns)
          clear hm10 hbw10 hns hnl H4 hown hown10 hgrow10 HD3
          go_wp2_with fail
          go_roundw
          case rel => exact ⟨k + 1, d, prs3, rfl, rfl, by omega, HZ, HE⟩
          case measure => simp [RowKit.intOf]; omega
      have n3 : (e.k == 3) = false := beq_eq_false_iff_ne.2 k3
      have HD3 := hid (fun (_ : True) => (by have := HD2.out trivial; rw [if_neg (fun q => k3 q.1)] at this; exact this : prs.map Prod.fst ++ piecesL d (es.drop (k + 1)) = R))
      have HZ := hid (And.intro HZ0.out.1 (And.intro HZ0.out.2.1 (And.intro HZ0.out.2.2 (show d ≤ k + 1 by omega))))
      clear H4 HZ0 HD2 k1 k2 k3
      go_wp2_with fail
      go_roundw
      case rel => exact ⟨k + 1, d, prs, rfl, rfl, by omega, HZ, HD3⟩
      case measure => simp [RowKit.intOf]; omega
    · have hfin : prs.map Prod.fst = R := by
        have := HK.out trivial
        rw [List.drop_of_length_le (by omega), show piecesL d [] = [] from rfl, List.append_nil] at this
        exact this
      have HY := hid (And.intro HX.out.1 (And.intro hfin HX.out.2.1))
      clear HX HK HC hfin
      go_wp2_with fail
      go_ret
      exact ⟨_, prs, rfl, HY.out.1, HY.out.2.1, HY.out.2.2⟩
end Go.Proofs.YtkcgmimldjeaiaaDoor

/-
  The statements' sameNodes: its walk, at lists that can be read and hold the same.
-/
namespace Go.Proofs.YtkcgmimldjeaiaaDoor
open Go.RowKit Go.Lib Own

set_option maxHeartbeats 4000000 in
set_option maxRecDepth 10000 in
theorem sameNodesR_any (v1 v2 : Value) (l : List EvP) (w : World) (h1 : EvsR w v1 l) (h2 : EvsR w v2 l) :
    Calls Tryd.prog 21 #[v1, v2] w fun e w' => e = .returned (.bool true) ∧ ∃ n, w' = w.drewN n := by
  obtain ⟨p1, k1, rfl, _, _, a1⟩ := h1
  obtain ⟨p2, k2, rfl, _, _, a2⟩ := h2
  have H1 := hid a1
  have H2 := hid a2
  clear a1 a2
  go_enter Tryd.func21, Tryd.ntmps21
  have q0 : ((l.length : Int) != (l.length : Int)) = false := by simp
  go_wp2
  go_loopw [13] (fun iv wr => ∃ k : Nat, iv = .int .i64 k ∧ k ≤ l.length ∧ Hid (True → ∃ n, wr = w.drewN n)) (fun iv _ => l.length - (RowKit.intOf iv).toNat)
  case atStart => exact ⟨0, rfl, Nat.zero_le _, hid (fun _ => ⟨0, rfl⟩)⟩
  case round =>
    obtain ⟨k, rfl, hk, HQ⟩ := hrel
    by_cases hkl : k < l.length
    · obtain ⟨s, hs⟩ : ∃ s, l[k]? = some s := ⟨_, List.getElem?_eq_getElem hkl⟩
      obtain ⟨g1, o1, a1, rfl, b0, b1, b2, b3, b4⟩ := H1.out k s hs
      obtain ⟨g2, o2, a2, rfl, d0, d1, d2, d3, d4⟩ := H2.out k s hs
      obtain ⟨sp1, sn1, sc1, rfl⟩ := b4.shape
      obtain ⟨sp2, sn2, sc2, rfl⟩ := d4.shape
      have hq := HQ.out trivial
      replace b0 := cell_drew hq b0
      replace b1 := cell_drew hq b1
      replace b2 := cell_drew hq b2
      replace b3 := cell_drew hq b3
      replace d0 := cell_drew hq d0
      replace d1 := cell_drew hq d1
      replace d2 := cell_drew hq d2
      replace d3 := cell_drew hq d3
      have hsame := fun n => sameAttrsR_any _ _ s.a (wr.drewN n) (by obtain ⟨n', rfl⟩ := hq; exact (b4.drewN _).drewN _) (by obtain ⟨n', rfl⟩ := hq; exact (d4.drewN _).drewN _)
      have HS := hid hsame
      clear hsame b4 d4 hq H1 H2 hs
      obtain ⟨u1, hu1⟩ : ∃ u1, bs s.n = u1 := ⟨_, rfl⟩
      obtain ⟨u2, hu2⟩ : ∃ u2, bs s.t = u2 := ⟨_, rfl⟩
      rw [hu1] at b1 d1
      rw [hu2] at b3 d3
      obtain ⟨z, hz⟩ : ∃ z, s.k = z := ⟨_, rfl⟩
      rw [hz] at b0 d0
      have q1 : (z != z) = false := by simp
      clear hu1 hu2 hz
      go_wp2_with fail
      go_quiet (first | (go_at_call 32; refine Calls.quiet_of (HS.out _)))
      go_wp2
      go_roundw
      case rel =>
        obtain ⟨n, hn⟩ := HQ.out trivial
        exact ⟨k + 1, rfl, by omega, hid (fun _ => ⟨n + nq, by rw [hn]; simp⟩)⟩
      case measure => simp [RowKit.intOf]; omega
    · go_wp2
      go_ret
      exact ⟨rfl, HQ.out trivial⟩
end Go.Proofs.YtkcgmimldjeaiaaDoor
