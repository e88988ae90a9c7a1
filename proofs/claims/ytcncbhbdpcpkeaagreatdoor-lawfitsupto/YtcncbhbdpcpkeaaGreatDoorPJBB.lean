/-
  Parts of the walk, joined: PolSame, EvOpen.
-/
import Derived.BigQuiet
import Derived.Test.YtcncbhbdpcpkeaaGreatDoorPJAK
import Derived.Test.YtcncbhbdpcpkeaaGreatDoorPJBA
/-
  The statements' samePolicy: its walk, at policies that are the same.
-/
namespace Go.Proofs.YtcncbhbdpcpkeaaGreatDoor
open Go.RowKit Go.Lib Own

theorem cell_drewT {W0 wr : World} (hq : Hid (True → ∃ n, wr = W0.drewN n)) {b o : Nat} {v : Value} (h : W0.cell? ⟨b, o, none⟩ = some v) : wr.cell? ⟨b, o, none⟩ = some v := by
  obtain ⟨n, rfl⟩ := hq.out trivial
  exact h

theorem heap_two_new (W : World) (X : Obj) (cs : Array Value) (t : TypeId) : ((W.alloc X).alloc (.cells cs t)).heap[W.heap.size + 1]? = some (.cells cs t (0, 0)) := by
  have := heap_alloc_new (W.alloc X) (.cells cs t)
  simpa using this

set_option maxHeartbeats 4000000 in
set_option maxRecDepth 100000 in
theorem samePolicy_any (vr vs vd vr' vs' vd' : Value) (P : PolP) (w : World) (h1 : PolR w vr vs vd P) (h2 : PolR w vr' vs' vd' P) :
    Calls Tryz.prog 58 #[.agg (polC vr vs vd P), .agg (polC vr' vs' vd' P)] w fun e w' => e = .returned (.bool true) ∧ Below w.heap.size w w' := by
  obtain ⟨rp, rc, rfl, _, _, hr⟩ := h1.rules
  obtain ⟨rp', rc', rfl, _, _, hr'⟩ := h2.rules
  obtain ⟨sp, sc, rfl, _⟩ := h1.schemes.len
  obtain ⟨sp', sc', rfl, _⟩ := h2.schemes.len
  obtain ⟨dp, dc, rfl, _⟩ := h1.drop.len
  obtain ⟨dp', dc', rfl, _⟩ := h2.drop.len
  have hB : Below w.heap.size w ((w.alloc (.cells (polC (.slice rp P.rules.length rc) (.slice sp P.schemes.length sc) (.slice dp P.drop.length dc) P) 43)).alloc (.cells (polC (.slice rp' P.rules.length rc') (.slice sp' P.schemes.length sc') (.slice dp' P.drop.length dc') P) 43)) :=
    ((Below.refl w.heap.size w).alloc (Nat.le_refl _) _).alloc (by simp) _
  have b0 : ((w.alloc (.cells (polC (.slice rp P.rules.length rc) (.slice sp P.schemes.length sc) (.slice dp P.drop.length dc) P) 43)).alloc (.cells (polC (.slice rp' P.rules.length rc') (.slice sp' P.schemes.length sc') (.slice dp' P.drop.length dc') P) 43)).heap[w.heap.size]? = _ := (Go.Lib.alloc_old _ _ _ (by simp)).trans (heap_alloc_new w _)
  have b1 : ((w.alloc (.cells (polC (.slice rp P.rules.length rc) (.slice sp P.schemes.length sc) (.slice dp P.drop.length dc) P) 43)).alloc (.cells (polC (.slice rp' P.rules.length rc') (.slice sp' P.schemes.length sc') (.slice dp' P.drop.length dc') P) 43)).heap[w.heap.size + 1]? = _ := heap_two_new w _ _ _
  have HP1 := hid h1
  have HP2 := hid h2
  have HR1 := hid hr
  have HR2 := hid hr'
  clear h1 h2 hr hr'
  unfold polC at hB b0 b1 ⊢
  go_enter Tryz.func58, Tryz.ntmps58
  go_upto_region 1 with fail
  obtain ⟨W0, hW0⟩ : ∃ W0, ((w.alloc (.cells #[.slice rp P.rules.length rc, .slice sp P.schemes.length sc, .slice dp P.drop.length dc, .int .i64 P.depth, .int .i64 P.window] 43)).alloc (.cells #[.slice rp' P.rules.length rc', .slice sp' P.schemes.length sc', .slice dp' P.drop.length dc', .int .i64 P.depth, .int .i64 P.window] 43)) = W0 := ⟨_, rfl⟩
  rw [hW0] at hB b0 b1
  simp only [hW0]
  clear hW0
  obtain ⟨c0, c1, c2, c3, c4⟩ := polC_at (P := P) b0
  obtain ⟨d0, d1, d2, d3, d4⟩ := polC_at (P := P) b1
  have HC := hid (fun (_ : True) => And.intro c0 (And.intro c1 (And.intro c2 (And.intro d0 (And.intro d1 d2)))))
  have HB := hid hB
  have q0 : ((P.rules.length : Int) != (P.rules.length : Int)) = false := by simp
  have q1 : ((P.depth : Int) != P.depth) = false := by simp
  have q2 : ((P.window : Int) != P.window) = false := by simp
  clear hB b0 b1
  go_wp2
  clear c0 c1 c2 c3 c4 d0 d1 d2 d3 d4 q0 q1 q2
  go_loopw [5, 30] (fun _ iv wr => ∃ k : Nat, iv = .int .i64 k ∧ k ≤ P.rules.length ∧ Hid (True → ∃ n, wr = W0.drewN n)) (fun _ iv _ => P.rules.length - (RowKit.intOf iv).toNat)
  case atStart => exact ⟨0, rfl, Nat.zero_le _, hid fun _ => ⟨0, rfl⟩⟩
  case round =>
    obtain ⟨k, rfl, hk, HQ⟩ := hrel
    obtain ⟨c0, c1, c2, d0, d1, d2⟩ := HC.out trivial
    replace c0 := cell_drewT HQ c0
    replace c1 := cell_drewT HQ c1
    replace c2 := cell_drewT HQ c2
    replace d0 := cell_drewT HQ d0
    replace d1 := cell_drewT HQ d1
    replace d2 := cell_drewT HQ d2
    by_cases hkl : k < P.rules.length
    · obtain ⟨r, hr⟩ : ∃ r, P.rules[k]? = some r := ⟨_, List.getElem?_eq_getElem hkl⟩
      obtain ⟨b, o, u, rfl, e1, e2, e3⟩ := HR1.out k r hr
      obtain ⟨b', o', u', rfl, f1, f2, f3⟩ := HR2.out k r hr
      obtain ⟨p3, n3, rfl, _⟩ := e3.len
      obtain ⟨p4, n4, rfl, _⟩ := f3.len
      have hsame := fun n => sameTexts_any (.slice p3 r.2.length n3) (.slice p4 r.2.length n4) r.2 (wr.drewN n) (by obtain ⟨n', rfl⟩ := HQ.out trivial; exact ((e3.below HB.out).drewN _).drewN _) (by obtain ⟨n', rfl⟩ := HQ.out trivial; exact ((f3.below HB.out).drewN _).drewN _)
      have HS := hid hsame
      replace e1 := cell_drewT HQ (cell_kept e1 HB.out)
      replace e2 := cell_drewT HQ (cell_kept e2 HB.out)
      replace f1 := cell_drewT HQ (cell_kept f1 HB.out)
      replace f2 := cell_drewT HQ (cell_kept f2 HB.out)
      obtain ⟨S, hS⟩ : ∃ S, bs r.1 = S := ⟨_, rfl⟩
      rw [hS] at e1 f1
      clear hsame hr hS e3 f3 c1 c2 d1 d2
      go_wp2_with fail
      go_quiet (first | (go_at_call 57; refine Calls.quiet_of (HS.out _)))
      go_wp2
      go_roundw
      case rel =>
        obtain ⟨n, hn⟩ := HQ.out trivial
        exact ⟨k + 1, rfl, by omega, hid (fun _ => ⟨n + nq, by rw [hn]; simp⟩)⟩
      case measure => simp [RowKit.intOf]; omega
    · have hs1 := fun n => sameTexts_any (.slice sp P.schemes.length sc) (.slice sp' P.schemes.length sc') P.schemes (wr.drewN n) (by obtain ⟨n', rfl⟩ := HQ.out trivial; exact ((HP1.out.schemes.below HB.out).drewN _).drewN _) (by obtain ⟨n', rfl⟩ := HQ.out trivial; exact ((HP2.out.schemes.below HB.out).drewN _).drewN _)
      have hs2 := fun n => sameTexts_any (.slice dp P.drop.length dc) (.slice dp' P.drop.length dc') P.drop (wr.drewN n) (by obtain ⟨n', rfl⟩ := HQ.out trivial; exact ((HP1.out.drop.below HB.out).drewN _).drewN _) (by obtain ⟨n', rfl⟩ := HQ.out trivial; exact ((HP2.out.drop.below HB.out).drewN _).drewN _)
      have HS1 := hid hs1
      have HS2 := hid hs2
      clear hs1 hs2
      go_wp2_with fail
      refine (HS1.out 0).mono ?_
      rintro e w9 ⟨rfl, n9, rfl⟩
      go_wp2_with fail
      refine (HS2.out _).mono ?_
      rintro e w10 ⟨rfl, n10, rfl⟩
      go_wp2_with fail
      go_ret
      exact ⟨rfl, by obtain ⟨n, rfl⟩ := HQ.out trivial; exact ⟨HB.out.os, HB.out.tape, HB.out.output, HB.out.size, HB.out.block⟩⟩
end Go.Proofs.YtcncbhbdpcpkeaaGreatDoor

/-
  From what a row says of events, of nodes and of their attributes to what lies in memory.
-/
namespace Go.Proofs.YtcncbhbdpcpkeaaGreatDoor
open Go.RowKit Go.Lib Go.ChangeShapes Go.WideShapes Go.Joins Go.Deep Go.ChangeAt

section
variable {H : Type} {enc : TypeId × Value → H} {W : World}

/-- a []Attr that is read -/
theorem attrs_of {held : Bool} {fuel : Nat} {v : Value} {x : DataW H × List MemPlace} (h : DataW.trod enc Tryz.prog W 0 (fun _ => true) held fuel 36 [v] = some x) : ∃ al, AttrsR W v al ∧ bulkA al ≤ Rows.uptoBulk x.1 := by
  rcases open_slice_pairs Tryz.underlying36 Tryz.underlying122 (by kernel_rfl) rfl rfl (by kernel_rfl) (by kernel_rfl) h with ⟨hcs, hx⟩ | ⟨a, len, cap, m, n, V0, V1, D0, D1, P0, P1, hcs, _, hl, hm9, hm, hx, hall⟩
  · obtain rfl := (List.cons.inj hcs).1
    exact ⟨[], AttrsR.nil W, Nat.zero_le _⟩
  · obtain rfl := (List.cons.inj hcs).1
    subst hx
    simp only [if_true] at hm
    subst hm
    have each : ∀ i, i < len → ∃ q : AttrP, V0 i = .string (bs q.1) ∧ V1 i = .string (bs q.2) ∧ q.1.length + q.2.length + 1 ≤ Rows.uptoBulk (.agg [D0 i, D1 i]) := fun i hi => by
      obtain ⟨_, _, h0, h1⟩ := hall i (by omega)
      obtain ⟨s, e0, e1, _⟩ := DataW.trod_string Tryz.underlying9 h0
      obtain ⟨s', e0', e1', _⟩ := DataW.trod_string Tryz.underlying9 h1
      simp only [Prod.mk.injEq] at e1 e1'
      refine ⟨(s.data.toList, s'.data.toList), (List.cons.inj e0).1, (List.cons.inj e0').1, ?_⟩
      rw [e1.1, e1'.1]
      simp only [Rows.uptoBulk, Rows.uptoBulkAll]
      omega
    obtain ⟨Q, hQ⟩ := choose_lt each
    have hlen : ((List.range len).map Q).length = len := by simp
    refine ⟨(List.range len).map Q, ⟨some a, m, by rw [hlen], by rw [hlen]; exact hl, by unfold maxLen at hm9; omega, fun j r hj => ?_, fun e => by cases e⟩, ?_⟩
    · have hjl : j < len := by rw [← hlen]; exact (List.getElem?_eq_some_iff.1 hj).1
      rw [List.getElem?_map, List.getElem?_range hjl] at hj
      obtain rfl := Option.some.inj hj
      obtain ⟨hc0, _, _, _⟩ := hall 0 (by omega)
      obtain ⟨k0, k1, _, _⟩ := hall j (by omega)
      obtain ⟨q0, q1, _⟩ := hQ j hjl
      obtain ⟨b, o, sp⟩ := a
      rw [Nat.zero_mul, add_zero'] at hc0
      obtain rfl := cell_spot hc0
      rw [add_none] at k0 k1
      exact ⟨b, o, rfl, by rw [k0, q0], by rw [Nat.add_assoc, k1, q1]⟩
    · have h1 := sum_bulk (D := fun i => .agg [D0 i, D1 i]) (f := fun i => (Q i).1.length + (Q i).2.length + 1) (List.range len) (fun i hi => (hQ i (by simpa using hi)).2.2)
      unfold bulkA
      rw [List.map_map]
      simp only [Rows.uptoBulk]
      exact Nat.le_trans h1 (by omega)
instance : Inhabited EvP := ⟨⟨0, [], [], []⟩⟩
set_option maxRecDepth 100000 in
/-- a slice of structs of a number, a name, attributes and a text -/
theorem recs_of {t e : TypeId} {f0 f1 f2 f3 : Field} (ht : Tryz.prog.underlying t = some (.slice e)) (he : Tryz.prog.underlying e = some (.struct #[f0, f1, f2, f3])) (ce : Tryz.prog.cellsOf e = 4) (o : f0.offset = 0 ∧ f1.offset = 1 ∧ f2.offset = 2 ∧ f3.offset = 3)
    (g : f0.type = 3 ∧ f1.type = 9 ∧ f2.type = 36 ∧ f3.type = 9)
    {held : Bool} {fuel : Nat} {v : Value} {x : DataW H × List MemPlace} (h : DataW.trod enc Tryz.prog W 0 (fun _ => true) held fuel t [v] = some x) : ∃ es, EvsR W v es ∧ bulkE es ≤ Rows.uptoBulk x.1 ∧ ∀ e ∈ es, -9223372036854775808 ≤ e.k ∧ e.k ≤ 9223372036854775807 := by
  rcases open_slice ht h with ⟨hcs, hx⟩ | ⟨a, len, cap, m, n, D, Pl, hcs, _, hl, hm9, hm, hx, hall⟩
  · obtain rfl := (List.cons.inj hcs).1
    exact ⟨[], EvsR.nil W, Nat.zero_le _, fun e h => by cases h⟩
  · obtain rfl := (List.cons.inj hcs).1
    subst hx
    simp only [if_true] at hm
    subst hm
    have ci : Tryz.prog.cellsOf 3 = 1 := by kernel_rfl
    have cs1 : Tryz.prog.cellsOf 9 = 1 := by kernel_rfl
    have ca : Tryz.prog.cellsOf 36 = 1 := by kernel_rfl
    obtain ⟨o0, o1, o2, o3⟩ := o
    obtain ⟨g0, g1, g2, g3⟩ := g
    have each : ∀ i, i < len → ∃ q : EvP × Value, W.cell? (a.add (i * 4)) = some (.int .i64 q.1.k) ∧ W.cell? (a.add (i * 4 + 1)) = some (.string (bs q.1.n)) ∧ W.cell? (a.add (i * 4 + 2)) = some q.2 ∧ W.cell? (a.add (i * 4 + 3)) = some (.string (bs q.1.t)) ∧ AttrsR W q.2 q.1.a ∧
        q.1.n.length + q.1.t.length + bulkA q.1.a + 1 ≤ Rows.uptoBulk (D i) ∧ (-9223372036854775808 ≤ q.1.k ∧ q.1.k ≤ 9223372036854775807) := by
      intro i hi
      obtain ⟨cs', h1, h2⟩ := hall i (by omega)
      rw [ce] at h1
      obtain ⟨_, hlen, hcell⟩ := World.cells?_some h1
      obtain ⟨xs, k, hk, hxy, _, hxl, hf⟩ := DataW.trod_struct he h2
      match xs, hxl, cs', hlen with
      | [y0, y1, y2, y3], _, [v0, v1, v2, v3], _ =>
        have q0 := hf 0 f0 rfl
        have q1 := hf 1 f1 rfl
        have q2 := hf 2 f2 rfl
        have q3 := hf 3 f3 rfl
        simp [o0, o1, o2, o3, g0, g1, g2, g3, ci, cs1, ca] at q0 q1 q2 q3
        have e0 := hcell 0 (by omega)
        have e1 := hcell 1 (by omega)
        have e2 := hcell 2 (by omega)
        have e3 := hcell 3 (by omega)
        rw [add_add] at e0 e1 e2 e3
        simp only [Prod.mk.injEq] at hxy
        obtain ⟨z, w0, w1, wf⟩ := DataW.trod_int Tryz.underlying3 q0
        obtain ⟨s, s0, s1, _⟩ := DataW.trod_string Tryz.underlying9 q1
        obtain ⟨al, al1, al2⟩ := attrs_of q2
        obtain ⟨t', t0, t1, _⟩ := DataW.trod_string Tryz.underlying9 q3
        obtain rfl := (List.cons.inj w0).1
        obtain rfl := (List.cons.inj s0).1
        obtain rfl := (List.cons.inj t0).1
        refine ⟨(⟨z, s.data.toList, al, t'.data.toList⟩, v2), by simpa using e0, by rw [bs_of]; simpa using e1, by simpa using e2, by rw [bs_of]; simpa using e3, al1, ?_, i64_wf wf⟩
        rw [hxy.1]
        simp only [List.map_cons, List.map_nil, Rows.uptoBulk, Rows.uptoBulkAll, w1, s1, t1]
        omega
    obtain ⟨Q, hQ⟩ := choose_lt each
    have hlen : ((List.range len).map fun i => (Q i).1).length = len := by simp
    refine ⟨(List.range len).map fun i => (Q i).1, ⟨some a, m, by rw [hlen], by rw [hlen]; exact hl, by unfold maxLen at hm9; omega, fun j r hj => ?_⟩, ?_, fun e he => ?_⟩
    · have hjl : j < len := by rw [← hlen]; exact (List.getElem?_eq_some_iff.1 hj).1
      rw [List.getElem?_map, List.getElem?_range hjl] at hj
      obtain rfl := Option.some.inj hj
      obtain ⟨q0, q1, q2, q3, q4, _⟩ := hQ j hjl
      obtain ⟨b, o, sp⟩ := a
      have hc0 := (hQ 0 (by omega)).1
      rw [Nat.zero_mul, add_zero'] at hc0
      obtain rfl := cell_spot hc0
      rw [add_none] at q0 q1 q2 q3
      exact ⟨b, o, (Q j).2, rfl, q0, by rw [Nat.add_assoc]; exact q1, by rw [Nat.add_assoc]; exact q2, by rw [Nat.add_assoc]; exact q3, q4⟩
    · have h1 := sum_bulk (D := D) (f := fun i => (Q i).1.n.length + (Q i).1.t.length + bulkA (Q i).1.a + 1) (List.range len) (fun i hi => (hQ i (by simpa using hi)).2.2.2.2.2.1)
      unfold bulkE
      rw [List.map_map]
      simp only [Rows.uptoBulk]
      exact Nat.le_trans h1 (by omega)
    · obtain ⟨i, hi, rfl⟩ := List.mem_map.1 he
      exact (hQ i (by simpa using hi)).2.2.2.2.2.2
theorem nodes_of {held : Bool} {fuel : Nat} {v : Value} {x : DataW H × List MemPlace} (h : DataW.trod enc Tryz.prog W 0 (fun _ => true) held fuel 29 [v] = some x) : ∃ es, EvsR W v es ∧ bulkE es ≤ Rows.uptoBulk x.1 ∧ ∀ e ∈ es, -9223372036854775808 ≤ e.k ∧ e.k ≤ 9223372036854775807 :=
  recs_of Tryz.underlying29 Tryz.underlying38 (by kernel_rfl) ⟨rfl, rfl, rfl, rfl⟩ ⟨rfl, rfl, rfl, rfl⟩ h
end
end Go.Proofs.YtcncbhbdpcpkeaaGreatDoor
