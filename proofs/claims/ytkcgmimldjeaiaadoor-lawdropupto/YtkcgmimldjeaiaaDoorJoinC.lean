/-
  Parts of the walk, joined: SameR, ApartB, LendE, RowEv, DropW, SieveA, SieveB, SieveC, SieveD, SieveE, Fresh.
-/
import Derived.Test.YtkcgmimldjeaiaaDoorJoinB
import Derived.Test.YtkcgmimldjeaiaaDoorGen
import Derived.Test.YtkcgmimldjeaiaaDoorShelf
import Derived.Test.YtkcgmimldjeaiaaDoorVoc
/-
  The statements' sameAttrs, sameEvents, sameNodes, sameLists: their walks, at lists that can be read and hold the same.
-/
namespace Go.Proofs.YtkcgmimldjeaiaaDoor
open Go.RowKit Go.Lib Own

theorem AttrsR.drewN {W : World} {v : Value} {al : List AttrP} (h : AttrsR W v al) (n : Nat) : AttrsR (W.drewN n) v al := h
theorem AttrsR.shape {W : World} {v : Value} {al : List AttrP} (h : AttrsR W v al) : ∃ p n c, v = .slice p n c := by
  obtain ⟨p, c, e, _⟩ := h
  exact ⟨p, _, c, e⟩
theorem EvsR.shape {W : World} {v : Value} {al : List EvP} (h : EvsR W v al) : ∃ p n c, v = .slice p n c := by
  obtain ⟨p, c, e, _⟩ := h
  exact ⟨p, _, c, e⟩

set_option maxHeartbeats 2000000 in
set_option maxRecDepth 10000 in
theorem sameAttrsR_any (v1 v2 : Value) (l : List AttrP) (w : World) (h1 : AttrsR w v1 l) (h2 : AttrsR w v2 l) :
    Calls Tryd.prog 32 #[v1, v2] w fun e w' => e = .returned (.bool true) ∧ ∃ n, w' = w.drewN n := by
  obtain ⟨p1, k1, rfl, _, _, a1, _⟩ := h1
  obtain ⟨p2, k2, rfl, _, _, a2, _⟩ := h2
  have H1 := hid a1
  have H2 := hid a2
  clear a1 a2
  go_enter Tryd.func32, Tryd.ntmps32
  have q0 : ((l.length : Int) != (l.length : Int)) = false := by simp
  go_wp2
  go_loopw [13] (fun iv wr => ∃ k n : Nat, iv = .int .i64 k ∧ k ≤ l.length ∧ wr = w.drewN n) (fun iv _ => l.length - (RowKit.intOf iv).toNat)
  case atStart => exact ⟨0, 0, rfl, Nat.zero_le _, rfl⟩
  case round =>
    obtain ⟨k, n, rfl, hk, rfl⟩ := hrel
    by_cases hkl : k < l.length
    · obtain ⟨s, hs⟩ : ∃ s, l[k]? = some s := ⟨_, List.getElem?_eq_getElem hkl⟩
      obtain ⟨g1, o1, rfl, a1, a2⟩ := H1.out k s hs
      obtain ⟨g2, o2, rfl, b1, b2⟩ := H2.out k s hs
      obtain ⟨u1, hu1⟩ : ∃ u1, bs s.1 = u1 := ⟨_, rfl⟩
      obtain ⟨u2, hu2⟩ : ∃ u2, bs s.2 = u2 := ⟨_, rfl⟩
      rw [hu1] at a1 b1
      rw [hu2] at a2 b2
      clear hu1 hu2 H1 H2 hs
      go_wp2_with fail
      go_quiet (fail)
      go_wp2
      go_roundw
      case rel => exact ⟨k + 1, n + nq, rfl, by omega, by first | rfl | simp⟩
      case measure => simp [RowKit.intOf]; omega
    · go_wp2
      go_ret
      exact ⟨rfl, n, rfl⟩

set_option maxHeartbeats 4000000 in
set_option maxRecDepth 10000 in
theorem sameEventsR_any (v1 v2 : Value) (l : List EvP) (w : World) (h1 : EvsR w v1 l) (h2 : EvsR w v2 l) :
    Calls Tryd.prog 11 #[v1, v2] w fun e w' => e = .returned (.bool true) ∧ ∃ n, w' = w.drewN n := by
  obtain ⟨p1, k1, rfl, _, _, a1⟩ := h1
  obtain ⟨p2, k2, rfl, _, _, a2⟩ := h2
  have H1 := hid a1
  have H2 := hid a2
  clear a1 a2
  go_enter Tryd.func11, Tryd.ntmps11
  have q0 : ((l.length : Int) != (l.length : Int)) = false := by simp
  go_wp2
  go_loopw [13] (fun iv wr => ∃ k : Nat, iv = .int .i64 k ∧ k ≤ l.length ∧ Hid (True → ∃ n, wr = w.drewN n)) (fun iv _ => l.length - (RowKit.intOf iv).toNat)
  case atStart => exact ⟨0, rfl, Nat.zero_le _, hid (fun _ => ⟨0, rfl⟩)⟩
  case round =>
    obtain ⟨k, rfl, hk, HQ⟩ := hrel
    by_cases hkl : k < l.length
    · obtain ⟨s, hs⟩ : ∃ s, l[k]? = some s := ⟨_, List.getElem?_eq_getElem hkl⟩
      obtain ⟨g1, o1, a1, rfl, b0, b1, b2, b3, b4⟩ := H1.out k s hs
      obtain ⟨g2, o2, a2, rfl, d0, d1, d2, d3, d4⟩ := H2.out k s hs
      obtain ⟨sp1, sn1, sc1, rfl⟩ := b4.shape
      obtain ⟨sp2, sn2, sc2, rfl⟩ := d4.shape
      have hq := HQ.out trivial
      replace b0 := cell_drew hq b0
      replace b1 := cell_drew hq b1
      replace b2 := cell_drew hq b2
      replace b3 := cell_drew hq b3
      replace d0 := cell_drew hq d0
      replace d1 := cell_drew hq d1
      replace d2 := cell_drew hq d2
      replace d3 := cell_drew hq d3
      have hsame := fun n => sameAttrsR_any _ _ s.a (wr.drewN n) (by obtain ⟨n', rfl⟩ := hq; exact (b4.drewN _).drewN _) (by obtain ⟨n', rfl⟩ := hq; exact (d4.drewN _).drewN _)
      have HS := hid hsame
      clear hsame b4 d4 hq H1 H2 hs
      obtain ⟨u1, hu1⟩ : ∃ u1, bs s.n = u1 := ⟨_, rfl⟩
      obtain ⟨u2, hu2⟩ : ∃ u2, bs s.t = u2 := ⟨_, rfl⟩
      rw [hu1] at b1 d1
      rw [hu2] at b3 d3
      obtain ⟨z, hz⟩ : ∃ z, s.k = z := ⟨_, rfl⟩
      rw [hz] at b0 d0
      have q1 : (z != z) = false := by simp
      clear hu1 hu2 hz
      go_wp2_with fail
      go_quiet (first | (go_at_call 32; refine Calls.quiet_of (HS.out _)))
      go_wp2
      go_roundw
      case rel =>
        obtain ⟨n, hn⟩ := HQ.out trivial
        exact ⟨k + 1, rfl, by omega, hid (fun _ => ⟨n + nq, by rw [hn]; simp⟩)⟩
      case measure => simp [RowKit.intOf]; omega
    · go_wp2
      go_ret
      exact ⟨rfl, HQ.out trivial⟩

/-- a list of lists of attributes that can be read -/
def AlistsR (W : World) (v : Value) (ls : List (List AttrP)) : Prop :=
  ∃ p c, v = .slice p ls.length c ∧ ls.length ≤ c ∧ c ≤ 9223372036854775807 ∧ ∀ j l, ls[j]? = some l → ∃ b o u, p = some ⟨b, o, none⟩ ∧ W.cell? ⟨b, o + j, none⟩ = some u ∧ AttrsR W u l
theorem AlistsR.below {W W' : World} {v : Value} {ls : List (List AttrP)} (h : AlistsR W v ls) (hb : Below W.heap.size W W') : AlistsR W' v ls := by
  obtain ⟨p, c, rfl, h1, h2, h3⟩ := h
  refine ⟨p, c, rfl, h1, h2, fun j s hj => ?_⟩
  obtain ⟨b, o, u, rfl, hc, hw⟩ := h3 j s hj
  exact ⟨b, o, u, rfl, cell_kept hc hb, hw.below hb⟩
theorem AlistsR.shape {W : World} {v : Value} {al : List (List AttrP)} (h : AlistsR W v al) : ∃ p n c, v = .slice p n c := by
  obtain ⟨p, c, e, _⟩ := h
  exact ⟨p, _, c, e⟩

set_option maxHeartbeats 4000000 in
set_option maxRecDepth 10000 in
theorem sameLists_any (v1 v2 : Value) (l : List (List AttrP)) (w : World) (h1 : AlistsR w v1 l) (h2 : AlistsR w v2 l) :
    Calls Tryd.prog 31 #[v1, v2] w fun e w' => e = .returned (.bool true) ∧ ∃ n, w' = w.drewN n := by
  obtain ⟨p1, k1, rfl, _, _, a1⟩ := h1
  obtain ⟨p2, k2, rfl, _, _, a2⟩ := h2
  have H1 := hid a1
  have H2 := hid a2
  clear a1 a2
  go_enter Tryd.func31, Tryd.ntmps31
  go_wp2
  go_loopw [8] (fun iv wr => ∃ k : Nat, iv = .int .i64 k ∧ k ≤ l.length ∧ Hid (True → ∃ n, wr = w.drewN n)) (fun iv _ => l.length - (RowKit.intOf iv).toNat)
  case atStart => exact ⟨0, rfl, Nat.zero_le _, hid (fun _ => ⟨0, rfl⟩)⟩
  case round =>
    obtain ⟨k, rfl, hk, HQ⟩ := hrel
    by_cases hkl : k < l.length
    · obtain ⟨s, hs⟩ : ∃ s, l[k]? = some s := ⟨_, List.getElem?_eq_getElem hkl⟩
      obtain ⟨g1, o1, a1, rfl, b0, b4⟩ := H1.out k s hs
      obtain ⟨g2, o2, a2, rfl, d0, d4⟩ := H2.out k s hs
      obtain ⟨sp1, sn1, sc1, rfl⟩ := b4.shape
      obtain ⟨sp2, sn2, sc2, rfl⟩ := d4.shape
      have hq := HQ.out trivial
      replace b0 := cell_drew hq b0
      replace d0 := cell_drew hq d0
      have hsame := fun n => sameAttrsR_any _ _ s (wr.drewN n) (by obtain ⟨n', rfl⟩ := hq; exact (b4.drewN _).drewN _) (by obtain ⟨n', rfl⟩ := hq; exact (d4.drewN _).drewN _)
      have HS := hid hsame
      clear hsame b4 d4 hq H1 H2 hs
      go_wp2_with fail
      go_quiet (first | (go_at_call 32; refine Calls.quiet_of (HS.out _)))
      go_wp2
      go_roundw
      case rel =>
        obtain ⟨n, hn⟩ := HQ.out trivial
        exact ⟨k + 1, rfl, by omega, hid (fun _ => ⟨n + nq, by rw [hn]; simp⟩)⟩
      case measure => simp [RowKit.intOf]; omega
    · have q0 : ((l.length : Int) == (l.length : Int)) = true := by simp
      go_wp2
      go_ret
      exact ⟨rfl, HQ.out trivial⟩
end Go.Proofs.YtkcgmimldjeaiaaDoor

/-
  The statements' apartLists: its walk.
-/
namespace Go.Proofs.YtkcgmimldjeaiaaDoor
open Go.RowKit Go.Lib Own

/-- every block that is no list of events, of attributes or of such lists stays -/
def KeepT (w W : World) : Prop := ∀ (b : Nat) (cs : Array Value) (T : TypeId), w.heap[b]? = some (.cells cs T (0, 0)) → T ≠ 39 → T ≠ 101 → T ≠ 37 → W.heap[b]? = some (.cells cs T (0, 0))
theorem KeepT.refl (w : World) : KeepT w w := fun _ _ _ h _ _ _ => h
theorem KeepT.trans {w1 w2 w3 : World} (h : KeepT w1 w2) (h2 : KeepT w2 w3) : KeepT w1 w3 := fun b cs T hb e1 e2 e3 => h2 b cs T (h b cs T hb e1 e2 e3) e1 e2 e3
theorem KeepT.below {w W : World} (h : Below w.heap.size w W) : KeepT w W := fun b _ _ hb _ _ _ => (h.block b (Array.getElem?_eq_some_iff.1 hb).1).trans hb
theorem KeepT.row {W W' : World} {base : Nat} {e : TypeId} {size n : Nat} {v : Value} {xs : List Value} (h : W.ownsRow base e size v n xs) (he : e = 39 ∨ e = 101 ∨ e = 37) (hk : ∀ k, k < W.heap.size → v.ownBlock ≠ some k → W'.heap[k]? = W.heap[k]?) : KeepT W W' :=
  fun b cs T hb e1 e2 e3 => (hk b (Array.getElem?_eq_some_iff.1 hb).1 (row_ne h hb (by
    rcases he with rfl | rfl | rfl
    · exact e1
    · exact e2
    · exact e3))).trans hb
theorem info_list : (Tryd.prog.info? 37).map (fun i => (i.zero, i.size, i.bytes)) = some (some (.slice none 0 0), 1, 24) := by kernel_rfl
/-- the name that the statement gives list k -/
def nmOf (k : Nat) : ByteArray := ⟨(Go.Lib.itoa (k : Int)).toArray⟩
/-- the library's table of powers, ahead of block 'base' -/
structure PowB (base : Nat) (w : World) : Prop where
  tab : Go.Lib.TabIs Tryd.prog w "internal/strconv.uint64pow10" .u64 Go.Lib.pow10Tab
  lt : 7 < base
theorem PowB.below {base : Nat} {w w' : World} (h : PowB base w) (hb : Below base w w') : PowB base w' := by
  refine ⟨?_, h.lt⟩
  have h1 := h.tab
  have hg : Tryd.prog.globalNamed "internal/strconv.uint64pow10" = some 7 := by kernel_rfl
  unfold Go.Lib.TabIs World.var? at h1 ⊢
  rw [hg] at h1 ⊢
  simp only [Option.bind_some] at h1 ⊢
  rw [hb.block _ h.lt]
  exact h1
theorem itoa_any (k : Nat) (hk : k ≤ 10000000) (base : Nat) (w : World) (h : PowB base w) :
    Calls Tryd.prog 58 #[.int .i64 k] w fun e w' => e = .returned (.string (nmOf k)) ∧ Below w.heap.size w w' := by
  refine (Tryd.strconv_Itoa (k : Int) (by omega) (by omega) w h.tab).mono ?_
  rintro e w' ⟨rfl, n, os, rfl⟩
  refine ⟨rfl, rfl, rfl, rfl, ?_, fun k hk => ?_⟩
  · show w.heap.size ≤ (w.heap ++ os).size
    rw [Array.size_append]; omega
  · show (w.heap ++ os)[k]? = w.heap[k]?
    rw [Array.getElem?_append_left hk]

theorem named_step {nm : ByteArray} {ws : List ByteArray} {y0 y1 : Value} {ys : List Value} : ((namedV nm ws ++ y0 :: y1 :: ys).set (ws.length * 2) (.string nm)).set (ws.length * 2 + 1) (.string ⟨#[]⟩) = namedV nm (ws ++ [⟨#[]⟩]) ++ ys := by
  have hl := namedV_len nm ws
  rw [List.set_append, if_neg (by omega), hl, Nat.sub_self, List.set_cons_zero, List.set_append, if_neg (by omega), hl, Nat.add_sub_cancel_left]
  show namedV nm ws ++ (.string nm :: .string ⟨#[]⟩ :: ys) = _
  rw [namedV_app]
  simp [namedV]
/-- the lists that are written over and appended to -/
structure Fam (W : World) (base : Nat) (vs : List Value) (ns : Nat → Nat) (i : Nat) : Prop where
  row : ∀ (k : Nat) (v : Value), vs[k]? = some v → (k < i → ∃ ws, W.ownsRow base 101 2 v (ns k) (namedV (nmOf k) ws)) ∧ ∃ ys, W.ownsRow base 101 2 v (ns k) ys
def Dist (vs : List Value) : Prop := ∀ (j k : Nat) (v u : Value), vs[j]? = some v → vs[k]? = some u → j ≠ k → ∀ g, v.ownBlock = some g → u.ownBlock ≠ some g

/-- the second round: the lists that grew out of the first i -/
structure Two (w W : World) (base : Nat) (lv : Value) (N : Nat) (vs : List Value) (ns : Nat → Nat) (m i : Nat) (lgv : Value) (us : List Value) : Prop where
  be : Below base w W
  li : W.ownsRow base 37 1 lv N vs
  lg : W.ownsRow w.heap.size 37 1 lgv i us
  hi : ∀ (k : Nat) (v : Value), vs[k]? = some v → i ≤ k → ∃ ws, W.ownsRow base 101 2 v (ns k) (namedV (nmOf k) ws)
  lo : ∀ (k : Nat) (v : Value), vs[k]? = some v → k < i → NamedR W v (ns k) (nmOf k) ∧ ∃ u, us[k]? = some u ∧ NamedR W u (ns k + 1 + m) (nmOf k) ∧ ∀ (j : Nat) (vj : Value), i ≤ j → vs[j]? = some vj → ∀ g, vj.ownBlock = some g → u.ownBlock ≠ some g
  kp : KeepT w W
theorem NamedR.ne {W : World} {base n k : Nat} {v lgv : Value} {nm : ByteArray} {us : List Value} (h : NamedR W v n nm) (hn : 0 < n) (hl : W.ownsRow base 37 1 lgv k us) : ∀ g, v.ownBlock = some g → lgv.ownBlock ≠ some g := by
  obtain ⟨_, p, c, rfl, h1⟩ := h
  obtain ⟨g0, rfl, _, cs, h3⟩ := h1 0 hn
  intro g hg
  have : g0 = g := Option.some.inj hg
  subst this
  exact row_ne hl h3 (by decide)
theorem NamedR.below {W W' : World} {n : Nat} {v : Value} {nm : ByteArray} (h : NamedR W v n nm) (hb : Below W.heap.size W W') : NamedR W' v n nm :=
  h.kept (fun hn k hk => by
    obtain ⟨g, hg, hlt⟩ := h.own hn
    rw [hg] at hk
    cases hk
    exact hb.block _ hlt)
theorem Two.next {w wr w1 w2 w3 : World} {base N m i n K : Nat} {lv lgv lgv3 v u : Value} {vs us : List Value} {ns : Nat → Nat} {ws2 : List ByteArray} {X : Obj} (h : Two w wr base lv N vs ns m i lgv us) (hD : Dist vs) (hbase : base ≤ w.heap.size) (hlv : ∀ g, lv.ownBlock = some g → g < w.heap.size)
    (hv : vs[i]? = some v) (hn : ns i = n) (hK : K = n + 1 + m) (b1 : Below wr.heap.size wr w1) (hG : Grows w1 w2 base v n (nmOf i) u K ws2)
    (h3 : w3.ownsRow w.heap.size 37 1 lgv3 (i + 1) (us ++ [u])) (hg : (w2.alloc X).grownBy w3 lgv.ownBlock) : Two w w3 base lv N vs ns m (i + 1) lgv3 (us ++ [u]) := by
  subst hn hK
  have hbs := h.be.size
  have hul : us.length = i := by have := h.lg.1; omega
  have li1 := row_below h.li b1
  have lg1 := row_below h.lg b1
  obtain ⟨wsv, hvw⟩ := h.hi i v hv (Nat.le_refl _)
  have v1 := row_below hvw b1
  have li2 := row_of_block li1 (fun g e => hG.fr g (li1.lt g e).2 (rows_ne2 li1 v1 (by decide) g e))
  have lg2 := row_of_block lg1 (fun g e => hG.fr g (lg1.lt g e).2 (rows_ne2 lg1 v1 (by decide) g e))
  have F23 : ∀ k, k < w2.heap.size → lgv.ownBlock ≠ some k → w3.heap[k]? = w2.heap[k]? := fun k hk hne => (hg.block k (by simp; omega) (fun e => hne e.symm)).trans (Go.Lib.alloc_old w2 X k hk)
  have keepN : ∀ {v' : Value} {n' : Nat} {nm : ByteArray}, NamedR w2 v' n' nm → NamedR w3 v' n' nm := fun hN => hN.kept (fun hn k hk => by
    obtain ⟨g, hg2, hlt⟩ := hN.own hn
    have hne := hN.ne hn lg2 g hg2
    rw [hg2] at hk
    cases hk
    exact F23 _ hlt hne)
  have b3 : Below base w2 w3 := ((Below.refl base w2).alloc (Nat.le_trans hG.low hG.size) X).grown hg (by have := Nat.le_trans hG.low hG.size; simp; omega) (fun k hk => by have := (lg2.lt k hk).1; omega)
  refine ⟨((h.be.trans (b1.mono (Nat.le_trans hbase hbs))).trans hG.be).trans b3, ?_, h3, fun k vk hk hik => ?_, fun k vk hk hik => ?_, (h.kp.trans (KeepT.below b1)).trans ((KeepT.row v1 (.inr (.inl rfl)) (fun k hk hne => hG.fr k hk hne)).trans (KeepT.row lg2 (.inr (.inr rfl)) F23))⟩
  · exact row_of_block li2 (fun g e => F23 g (li2.lt g e).2 (fun e2 => by
      have := (lg2.lt g e2).1
      have := hlv g e
      omega))
  · obtain ⟨ws, hr⟩ := h.hi k vk hk (by omega)
    have r1 := row_below hr b1
    have r2 := row_of_block r1 (fun g e => hG.fr g (r1.lt g e).2 (hD k i vk v hk hv (by omega) g e))
    refine ⟨ws, row_of_block r2 (fun g e => F23 g (r2.lt g e).2 (rows_ne2 r2 lg2 (by decide) g e))⟩
  · by_cases hki : k = i
    · subst hki
      rw [hv] at hk
      obtain rfl := Option.some.inj hk
      refine ⟨keepN hG.nr, u, by rw [List.getElem?_append_right (by omega), hul, Nat.sub_self]; rfl, keepN (NamedR.of hG.own), fun j vj hj hvj g hgj => ?_⟩
      obtain ⟨ws, hr⟩ := h.hi j vj hvj (by omega)
      have r1 := row_below hr b1
      rcases hG.bl with e | e
      · rw [e]
        exact fun e2 => hD j k vj v hvj hv (by omega) g hgj e2
      · intro e2
        have := e g e2
        have := (r1.lt g hgj).2
        omega
    · obtain ⟨n1, u', hu', n2, n3⟩ := h.lo k vk hk (by omega)
      have keep12 : ∀ {v' : Value} {n' : Nat} {nm : ByteArray}, NamedR wr v' n' nm → (∀ g, v'.ownBlock = some g → v.ownBlock ≠ some g) → NamedR w2 v' n' nm := fun hN hne => (hN.below b1).kept (fun hn k hk => by
        obtain ⟨g, hg2, hlt⟩ := (hN.below b1).own hn
        have := hne g hg2
        rw [hg2] at hk
        cases hk
        exact hG.fr _ hlt this)
      refine ⟨keepN (keep12 n1 (fun g e => hD k i vk v hk hv hki g e)), u', by rw [List.getElem?_append_left (by omega)]; exact hu', keepN (keep12 n2 (fun g e e2 => n3 i v (Nat.le_refl _) hv g e2 e)), fun j vj hj hvj g hgj => n3 j vj (by omega) hvj g hgj⟩

set_option maxHeartbeats 8000000 in
set_option maxRecDepth 100000 in
theorem apart_any (base : Nat) (lv : Value) (vs : List Value) (ns : Nat → Nat) (a : Option Addr) (mc : Nat) (ss : List ByteArray) (w : World) (hl : w.ownsRow base 37 1 lv vs.length vs) (hF : Fam w base vs ns 0) (hD : Dist vs) (hns : ∀ k, k < vs.length → ns k ≤ 5000000) (hN : vs.length ≤ 5000000)
    (hb : base ≤ w.heap.size) (hs : ss.length ≤ 5000000) (hw : WordsAt w base a ss) (hP : PowB base w) :
    Calls Tryd.prog 30 #[lv, .slice a ss.length mc] w fun e w' => e = .returned (.bool true) ∧ Below base w w' ∧ KeepT w w' := by
  obtain ⟨N, hNN⟩ : ∃ N, vs.length = N := ⟨_, rfl⟩
  rw [hNN] at hl hN hns
  obtain ⟨lp, lc, rfl⟩ := row_shape hl
  have HLV := hid (fun g (e : (Value.slice lp N lc).ownBlock = some g) => (hl.lt g e).2)
  have HL := hid hl
  have HF := hid hF
  have HD := hid hD
  have HW := hid hw
  have HP := hid hP
  have HNN := hid (fun (_ : True) => hNN)
  have HNS := hid hns
  clear hl hF hD hw hP hNN hns
  go_enter Tryd.func30, Tryd.ntmps30
  go_wp2
  go_loopw [16] (fun iv wr => ∃ i : Nat, iv = .int .i64 i ∧ i ≤ N ∧ Hid (Below base w wr ∧ wr.ownsRow base 37 1 (.slice lp N lc) N vs ∧ Fam wr base vs ns i ∧ KeepT w wr)) (fun iv _ => N - (RowKit.intOf iv).toNat)
  case atStart => exact ⟨0, rfl, Nat.zero_le _, hid ⟨Below.refl _ _, HL.out, HF.out, KeepT.refl _⟩⟩
  case round =>
    obtain ⟨i, rfl, hi, HX⟩ := hrel
    by_cases hiN : i < N
    · obtain ⟨v, hv⟩ : ∃ v, vs[i]? = some v := ⟨_, List.getElem?_eq_getElem (by rw [HNN.out trivial]; exact hiN)⟩
      obtain ⟨ys0, hrow0⟩ := (HX.out.2.2.1.row i v hv).2
      obtain ⟨n, hn⟩ : ∃ n, ns i = n := ⟨_, rfl⟩
      rw [hn] at hrow0
      have hn5 : n ≤ 5000000 := by rw [← hn]; exact HNS.out i hiN
      obtain ⟨p, c, rfl⟩ := row_shape hrow0
      obtain ⟨gl, lcap, e0, hgl1, hgl2, hlc⟩ := row_at HX.out.2.1 (by omega)
      cases e0
      have cl := (hlc i (by omega)).trans hv
      have hit := fun W hW => itoa_any i (by omega) base W hW
      obtain ⟨nm, hnm⟩ : ∃ nm, nmOf i = nm := ⟨_, rfl⟩
      rw [hnm] at hit
      have HIT := hid hit
      have HR0 := hid hrow0
      have HV := hid hv
      have hP1 := HP.out.below HX.out.1
      have hbs := HX.out.1.size
      clear hit hrow0 hv hlc HL HF
      go_wp2_with (go_at_call 58; refine (HIT.out _ hP1).mono ?_; rintro e w1 ⟨rfl, b1⟩; have cl1 := cell_low cl b1 hgl2)
      go_loopw [26] (fun jv wr2 => ∃ (j : Nat) (ws : List ByteArray) (ys : List Value), jv = .int .i64 j ∧ j ≤ n ∧ ws.length = j ∧ Hid (wr2.ownsRow base 101 2 (.slice p n c) n (namedV nm ws ++ ys) ∧ Below base w1 wr2 ∧ ∀ b, (Value.slice p n c).ownBlock ≠ some b → wr2.heap[b]? = w1.heap[b]?)) (fun jv _ => n - (RowKit.intOf jv).toNat)
      case atStart => exact ⟨0, [], ys0, rfl, Nat.zero_le _, rfl, hid ⟨row_below HR0.out b1, Below.refl _ _, fun _ _ => rfl⟩⟩
      case round =>
        obtain ⟨j, ws, ys, rfl, hj, hws, HY⟩ := hrel
        have hlen := HY.out.1.1
        rw [List.length_append, namedV_len, hws] at hlen
        have hglp : (Value.slice p n c).ownBlock ≠ some gl := by
          have := rows_ne HX.out.2.1 HR0.out (by decide)
          rcases this with e | e
          · cases e
          · exact fun e2 => e (by rw [e2]; rfl)
        have hlb := HY.out.2.2 gl hglp
        by_cases hjn : j < n
        · obtain ⟨g, cap, e1, hg1, hg2, hc⟩ := row_at HY.out.1 (by omega)
          cases e1
          obtain ⟨y0, y1, ys2, rfl⟩ : ∃ y0 y1 ys2, ys = y0 :: y1 :: ys2 := by
            cases ys with
            | nil => simp at hlen; omega
            | cons y0 ys =>
              cases ys with
              | nil => simp at hlen; omega
              | cons y1 ys2 => exact ⟨y0, y1, ys2, rfl⟩
          have hnl := namedV_len nm ws
          have k0 : wr.cell? ⟨g, j * 2, none⟩ = some y0 := (hc (j * 2) (by omega)).trans (by rw [List.getElem?_append_right (by omega), hnl, hws, Nat.sub_self]; rfl)
          have k1 : wr.cell? ⟨g, j * 2 + 1, none⟩ = some y1 := (hc (j * 2 + 1) (by omega)).trans (by rw [List.getElem?_append_right (by omega), hnl, hws, Nat.add_sub_cancel_left]; rfl)
          have f0 := HY.out.1.frozenAt (j * 2)
          have f1 := HY.out.1.frozenAt (j * 2 + 1)
          have cl2 : wr.cell? ⟨gl, i, none⟩ = some (.slice (some ⟨g, 0, none⟩) n c) := by
            unfold World.cell? at cl1 ⊢
            rw [hlb]
            exact cl1
          have hst := ((HY.out.1.stored (j * 2) (.string nm)).1.stored (j * 2 + 1) (.string ⟨#[]⟩)).1
          rw [← hws, named_step, hws] at hst
          have hfr : ∀ b, (Value.slice (some ⟨g, 0, none⟩) n c).ownBlock ≠ some b → ((wr.setCell ⟨g, j * 2, none⟩ (.string nm)).setCell ⟨g, j * 2 + 1, none⟩ (.string ⟨#[]⟩)).heap[b]? = w1.heap[b]? := fun b hb2 => by
            have hne : b ≠ g := fun e => hb2 (by rw [e]; rfl)
            rw [heap_setCell_other _ _ _ _ hne, heap_setCell_other _ _ _ _ hne]
            exact HY.out.2.2 b hb2
          have hbe : Below base w1 ((wr.setCell ⟨g, j * 2, none⟩ (.string nm)).setCell ⟨g, j * 2 + 1, none⟩ (.string ⟨#[]⟩)) := (HY.out.2.1.setCell hg1 _).setCell hg1 _
          have HZ := hid (And.intro hst (And.intro hbe hfr))
          clear hst hbe hfr hlen hlb hglp hc hnl HY
          go_wp2
          go_roundw
          case rel => first | exact ⟨j + 1, ws ++ [⟨#[]⟩], ys2, rfl, by omega, by simp [hws], HZ⟩ | ((repeat apply Exists.intro); exact ⟨⟨j + 1, ws ++ [⟨#[]⟩], ys2, rfl, by omega, by simp [hws], HZ⟩, rfl⟩)
          case measure => simp [RowKit.intOf]; omega
        · obtain rfl : j = n := by omega
          obtain rfl : ys = [] := List.eq_nil_of_length_eq_zero (by omega)
          have hbw : Below base w wr := (HX.out.1.trans (b1.mono (Nat.le_trans hb hbs))).trans HY.out.2.1
          have hlrow : wr.ownsRow base 37 1 (.slice (some ⟨gl, 0, none⟩) N lc) N vs := row_of_block (row_below HX.out.2.1 b1) (fun g hg => by cases hg; exact hlb)
          have hfam : Fam wr base vs ns (i + 1) := ⟨fun k u hu => by
            by_cases hki : k = i
            · subst hki
              rw [HV.out] at hu
              obtain rfl := Option.some.inj hu
              have hr := HY.out.1
              rw [List.append_nil] at hr
              rw [hnm, hn]
              exact ⟨fun _ => ⟨ws, hr⟩, _, hr⟩
            · obtain ⟨f1, ys9, f2⟩ := HX.out.2.2.1.row k u hu
              have hkeep : ∀ g, u.ownBlock = some g → wr.heap[g]? = w1.heap[g]? := fun g hg => HY.out.2.2 g (HD.out k i u _ hu HV.out hki g hg)
              refine ⟨fun h => ?_, ys9, row_of_block (row_below f2 b1) hkeep⟩
              obtain ⟨ws9, f3⟩ := f1 (by omega)
              exact ⟨ws9, row_of_block (row_below f3 b1) hkeep⟩⟩
          have hkp := HX.out.2.2.2.trans ((KeepT.below b1).trans (KeepT.row (row_below HR0.out b1) (.inr (.inl rfl)) (fun k _ hne => HY.out.2.2 k hne)))
          have HZ := hid (And.intro hbw (And.intro hlrow (And.intro hfam hkp)))
          clear hbw hlrow hfam hkp hlen hlb hglp HY
          go_wp2
          go_roundw
          case rel => first | exact ⟨i + 1, rfl, by omega, HZ⟩ | ((repeat apply Exists.intro); exact ⟨⟨i + 1, rfl, by omega, HZ⟩, rfl⟩)
          case measure => simp [RowKit.intOf]; omega
    · have hT0 : Two w wr base (.slice lp N lc) N vs ns ss.length 0 (.slice none 0 0) [] := ⟨HX.out.1, HX.out.2.1, World.ownsRow_nil _ _ _ _, fun k v hk _ => (HX.out.2.2.1.row k v hk).1 (by
        have := (List.getElem?_eq_some_iff.1 hk).1
        rw [HNN.out trivial] at this
        omega), fun k v hk h => absurd h (Nat.not_lt_zero _), HX.out.2.2.2⟩
      have HT0 := hid hT0
      clear HL HF hT0 HX
      obtain ⟨li0, lhi, lhz0, lhz1, lhz2⟩ := info_parts info_list
      go_wp2_with fail
      go_loopw [5, 41] (fun lgv iv wr2 => ∃ (i : Nat) (us : List Value), iv = .int .i64 i ∧ i ≤ N ∧ Hid (Two w wr2 base (.slice lp N lc) N vs ns ss.length i lgv us)) (fun _ iv _ => N - (RowKit.intOf iv).toNat)
      case atStart => exact ⟨0, [], rfl, Nat.zero_le _, HT0⟩
      case round =>
        obtain ⟨i, us, rfl, hi, HT⟩ := hrel
        clear HT0
        by_cases hiN : i < N
        · obtain ⟨v, hv⟩ : ∃ v, vs[i]? = some v := ⟨_, List.getElem?_eq_getElem (by rw [HNN.out trivial]; exact hiN)⟩
          obtain ⟨ws, hrow⟩ := HT.out.hi i v hv (Nat.le_refl _)
          obtain ⟨n, hn⟩ : ∃ n, ns i = n := ⟨_, rfl⟩
          have hn5 : n ≤ 5000000 := by rw [← hn]; exact HNS.out i hiN
          rw [hn] at hrow
          obtain ⟨p, c, rfl⟩ := row_shape hrow
          obtain ⟨gl, lcap, e0, hgl1, hgl2, hlc⟩ := row_at HT.out.li (by omega)
          cases e0
          have cl := (hlc i (by omega)).trans hv
          have hit := fun W hW => itoa_any i (by omega) base W hW
          have HNM := hid (fun (_ : True) => (rfl : nmOf i = nmOf i))
          obtain ⟨nm, hnm⟩ : ∃ nm, nmOf i = nm := ⟨_, rfl⟩
          rw [hnm] at hit hrow
          have HEQ := hid (fun (_ : True) => hnm)
          have HIT := hid hit
          have HR0 := hid hrow
          have HV := hid hv
          have HN := hid (fun (_ : True) => hn)
          have hP1 := HP.out.below HT.out.be
          have hw1 := HW.out.below HT.out.be
          have hbs := HT.out.be.size
          obtain ⟨lgp, lgc, rfl⟩ := row_shape HT.out.lg
          have HW1 := hid hw1
          clear hit hrow hv hlc hn hnm hw1 HNM
          go_wp2_with (first
            | (go_at_call 58; refine (HIT.out _ hP1).mono ?_; rintro e w1 ⟨rfl, b1⟩; have cl1 := cell_low cl b1 hgl2; have hb1s := b1.size)
            | (go_at_call 59; refine (appended_any base (.slice p n c) n nm ws a mc ss _ (row_below HR0.out b1) (by omega) (by omega) (by omega) (HW1.out.below (b1.mono (by omega)))).mono ?_; rintro e w2 ⟨u, ws2, rfl, hG⟩; obtain ⟨up, uc, rfl⟩ := row_shape hG.own; have hlg2 := row_of_block (row_below HT.out.lg b1) (fun g e => hG.fr g ((row_below HT.out.lg b1).lt g e).2 (rows_ne2 (row_below HT.out.lg b1) (row_below HR0.out b1) (by decide) g e)); have hws2 := hG.size; have HGG := hid hG)
            | (at_builtin; refine wpList_append_own _ rfl (.tmp 53) (.tmp 55) 25 rfl w.heap.size 37 li0 (.slice none 0 0) 1 24 Tryd.underlying25 lhi lhz0 lhz1 lhz2 rfl (by decide) _ _ _ rfl (hlg2.alloc _) ⟨_, 0, none⟩ 1 1 [.slice up (n + 1 + ss.length) uc] rfl rfl (cells_newV _ _ _) (by simp [Value.oneCell']) (by unfold maxLen; omega) (by omega) (by simp; omega) ?_))
          intro v' w3 hown3 hgrow3 _
          have hnext := HT.out.next HD.out hb HLV.out HV.out (HN.out trivial) rfl b1 (by rw [HEQ.out trivial]; exact HGG.out) hown3 hgrow3
          have HZ := hid hnext
          clear hnext hown3 hgrow3 HGG hlg2 hG b1 cl cl1
          go_wp2
          go_roundw
          case rel => first | exact ⟨i + 1, _, rfl, by omega, HZ⟩ | ((repeat apply Exists.intro); exact ⟨⟨i + 1, _, rfl, by omega, HZ⟩, rfl⟩)
          case measure => simp [RowKit.intOf]; omega
        · obtain rfl : i = N := by omega
          have hul : us.length = i := by have := HT.out.lg.1; omega
          have hall : ∀ (k : Nat) (v : Value), vs[k]? = some v → NamedR wr v (ns k) (nmOf k) ∧ ∃ u, us[k]? = some u ∧ NamedR wr u (ns k + 1 + ss.length) (nmOf k) := fun k v hk => by
            have hki : k < i := by
              have := (List.getElem?_eq_some_iff.1 hk).1
              rw [HNN.out trivial] at this
              exact this
            obtain ⟨n1, u, hu, n2, _⟩ := HT.out.lo k v hk hki
            exact ⟨n1, u, hu, n2⟩
          have hlg := row_lo2 HT.out.lg hb
          obtain ⟨lgp, lgc, rfl⟩ := row_shape hlg
          have H3 : Hid (Below base w wr ∧ wr.ownsRow base 37 1 (.slice lp i lc) i vs ∧ wr.ownsRow base 37 1 (.slice lgp i lgc) i us ∧ (∀ (k : Nat) (v : Value), vs[k]? = some v → NamedR wr v (ns k) (nmOf k) ∧ ∃ u, us[k]? = some u ∧ NamedR wr u (ns k + 1 + ss.length) (nmOf k)) ∧ KeepT w wr) := ⟨HT.out.be, HT.out.li, hlg, hall, HT.out.kp⟩
          clear HT hall hlg
          go_wp2_with fail
          go_loopw [60] (fun iv wr2 => ∃ k : Nat, iv = .int .i64 k ∧ k ≤ i ∧ Hid (Below base w wr2 ∧ wr2.ownsRow base 37 1 (.slice lp i lc) i vs ∧ wr2.ownsRow base 37 1 (.slice lgp i lgc) i us ∧ (∀ (k : Nat) (v : Value), vs[k]? = some v → NamedR wr2 v (ns k) (nmOf k) ∧ ∃ u, us[k]? = some u ∧ NamedR wr2 u (ns k + 1 + ss.length) (nmOf k)) ∧ KeepT w wr2)) (fun iv _ => i - (RowKit.intOf iv).toNat)
          case atStart => exact ⟨0, rfl, Nat.zero_le _, H3⟩
          case round =>
            obtain ⟨k, rfl, hk, HT⟩ := hrel
            clear H3
            by_cases hkN : k < i
            · obtain ⟨v, hv⟩ : ∃ v, vs[k]? = some v := ⟨_, List.getElem?_eq_getElem (by rw [HNN.out trivial]; exact hkN)⟩
              obtain ⟨n1, u, hu, n2⟩ := HT.out.2.2.2.1 k v hv
              obtain ⟨n, hn⟩ : ∃ n, ns k = n := ⟨_, rfl⟩
              have hn5 : n ≤ 5000000 := by rw [← hn]; exact HNS.out k hkN
              rw [hn] at n1 n2
              obtain ⟨K, hK⟩ : ∃ K, n + 1 + ss.length = K := ⟨_, rfl⟩
              rw [hK] at n2
              have q0 : ((K : Int) != (n : Int) + (ss.length : Int) + 1) = false := by rw [bne, beq_iff_eq.2 (by omega)]; rfl
              have hit := fun W hW => itoa_any k (by omega) base W hW
              obtain ⟨nm, hnm⟩ : ∃ nm, nmOf k = nm := ⟨_, rfl⟩
              rw [hnm] at hit n1 n2
              have m1 := n1
              have m2 := n2
              obtain ⟨_, vp, vc, rfl, _⟩ := m1
              obtain ⟨_, up, uc, rfl, _⟩ := m2
              obtain ⟨gl, lcap, e0, hgl1, hgl2, hlc⟩ := row_at HT.out.2.1 (by omega)
              cases e0
              obtain ⟨gm, mcap, e1, hgm1, hgm2, hmc⟩ := row_at HT.out.2.2.1 (by omega)
              cases e1
              have cl := (hlc k (by omega)).trans hv
              have cm := (hmc k (by omega)).trans hu
              have HIT := hid hit
              have N1 := hid n1
              have N2 := hid n2
              have hP1 := HP.out.below HT.out.1
              clear hit hlc hmc n1 n2 hv hu hn hnm hK
              go_wp2_with (go_at_call 58; refine (HIT.out _ hP1).mono ?_; rintro e w1 ⟨rfl, b1⟩; have cl1 := cell_low cl b1 hgl2; have cm1 := cell_low cm b1 hgm2; have hA1 := hid (fun q => (allNamed_any (.slice vp n vc) n nm (w1.drewN q) ((N1.out.below b1).kept (fun _ _ _ => rfl))).mono (fun _ _ (h : _ ∧ _) => And.intro h.1 (⟨0, h.2⟩ : ∃ q', _ = (w1.drewN q).drewN q'))); have hA2 := hid (fun q => (allNamed_any (.slice up K uc) K nm (w1.drewN q) ((N2.out.below b1).kept (fun _ _ _ => rfl))).mono (fun _ _ (h : _ ∧ _) => And.intro h.1 (⟨0, h.2⟩ : ∃ q', _ = (w1.drewN q).drewN q'))); clear cl cm)
              go_quiet (first | (go_at_call 60; first | (with_reducible refine Calls.quiet_of (hA1.out _)) | (with_reducible refine Calls.quiet_of (hA2.out _))))
              have hkeep : Below base wr (w1.drewN nq) := below_drewN (b1.mono (Nat.le_trans hb HT.out.1.size)) nq
              have HZ : Hid (Below base w (w1.drewN nq) ∧ (w1.drewN nq).ownsRow base 37 1 (.slice (some ⟨gl, 0, none⟩) i lc) i vs ∧ (w1.drewN nq).ownsRow base 37 1 (.slice (some ⟨gm, 0, none⟩) i lgc) i us ∧ (∀ (k : Nat) (v : Value), vs[k]? = some v → NamedR (w1.drewN nq) v (ns k) (nmOf k) ∧ ∃ u, us[k]? = some u ∧ NamedR (w1.drewN nq) u (ns k + 1 + ss.length) (nmOf k)) ∧ KeepT w (w1.drewN nq)) := by
                refine ⟨HT.out.1.trans hkeep, row_of_block (row_below HT.out.2.1 b1) (fun _ _ => rfl), row_of_block (row_below HT.out.2.2.1 b1) (fun _ _ => rfl), fun k v hv => ?_, fun b cs T h1 h2 h3 h4 => (HT.out.2.2.2.2.trans (KeepT.below b1)) b cs T h1 h2 h3 h4⟩
                obtain ⟨n1, u, hu, n2⟩ := HT.out.2.2.2.1 k v hv
                exact ⟨(n1.below b1).kept (fun _ _ _ => rfl), u, hu, (n2.below b1).kept (fun _ _ _ => rfl)⟩
              clear hkeep hA1 hA2 b1 cl1 cm1 HT N1 N2
              go_wp2
              go_roundw
              case rel => first | exact ⟨k + 1, rfl, by omega, HZ⟩ | ((repeat apply Exists.intro); exact ⟨⟨k + 1, rfl, by omega, HZ⟩, rfl⟩)
              case measure => simp [RowKit.intOf]; omega
            · go_wp2
              go_ret
              exact ⟨rfl, HT.out.1, HT.out.2.2.2.2⟩
end Go.Proofs.YtkcgmimldjeaiaaDoor

/-
  The statements' longAttrs: its walk; what the memory of lent events or nodes holds.
-/
namespace Go.Proofs.YtkcgmimldjeaiaaDoor
open Go.RowKit Go.Lib Own

theorem attrsR_row {W : World} {base : Nat} {v : Value} {al : List AttrP} (h : W.ownsRow base 101 2 v al.length (attrsV al)) : AttrsR W v al := by
  have hc : ∀ j a, al[j]? = some a → ∃ b o, (∃ n c, v = .slice (some ⟨b, o, none⟩) n c) ∧ W.cell? ⟨b, o + j * 2, none⟩ = some (.string (bs a.1)) ∧ W.cell? ⟨b, o + j * 2 + 1, none⟩ = some (.string (bs a.2)) := fun j a hj => by
    have hlt := (List.getElem?_eq_some_iff.1 hj).1
    obtain ⟨g, cap, rfl, _, _, hcell⟩ := row_at h (by omega)
    obtain ⟨x1, x2⟩ := attrs_at al j a hj
    exact ⟨g, 0, ⟨_, _, rfl⟩, by rw [Nat.zero_add]; exact (hcell _ (by omega)).trans x1, by rw [Nat.zero_add]; exact (hcell _ (by omega)).trans x2⟩
  rcases h.2 with ⟨rfl, h0⟩ | ⟨g, cap, cur, rfl, _, _, h1, h2, _⟩
  · exact ⟨none, 0, by rw [h0], by omega, by omega, fun j s hj => by have := (List.getElem?_eq_some_iff.1 hj).1; omega, fun _ => rfl⟩
  · refine ⟨some ⟨g, 0, none⟩, cap, rfl, h1, by unfold maxLen at h2; omega, fun j s hj => ?_, fun e => by cases e⟩
    obtain ⟨b, o, ⟨n, c, e⟩, hcell⟩ := hc j s hj
    cases e
    exact ⟨g, 0, rfl, hcell⟩
theorem attrsR_front {W : World} {base : Nat} {v : Value} {a m : List AttrP} (h : W.ownsRow base 101 2 v (a ++ m).length (attrsV (a ++ m))) : AttrsR W (frontV v a.length) a := by
  have h1 := attrsR_row h
  obtain ⟨p, c, rfl⟩ := row_shape h
  have h2 := h1.front a.length (by simp)
  rw [List.take_left'] at h2
  · exact h2
  · rfl
theorem attrsV_one (al : List AttrP) : ∀ u ∈ attrsV al, u.oneCell' = true := by
  intro u hu
  unfold attrsV at hu
  obtain ⟨s, _, hs⟩ := List.mem_flatMap.1 hu
  simp only [List.mem_cons, List.not_mem_nil, or_false] at hs
  rcases hs with rfl | rfl <;> rfl
/-- attributes appended to a row of attributes that the call owns -/
theorem wpList_append_attrs {w : World} {ops : Array Oper} {rest : List Oper} {o : Oper} {a : Act} {Q : Exit → Act → World → Prop} (hgd : o.guard = none) (s x : Operand)
    (ho : o.op = .call { callee := .builtin .append, args := #[s, x], argTypes := #[37, 37] }) (base : Nat) (v vx : Value) (l m : List AttrP) (hs : a.eval s = v) (hx : a.eval x = vx)
    (hown : w.ownsRow base 101 2 v l.length (attrsV l)) (hw : AttrsR w vx m) (hbase : base ≤ w.heap.size) (hsz : l.length + m.length ≤ 1000000000)
    (h : ∀ v' w', w'.ownsRow base 101 2 v' (l ++ m).length (attrsV (l ++ m)) → w.grownBy w' v.ownBlock → wpList Tryd.prog ops Q rest (a.put o.dst v') w') : wpList Tryd.prog ops Q (o :: rest) a w := by
  obtain ⟨i0, hi, hz0, hz1, hz2⟩ := info_parts info_attr
  obtain ⟨p, c, rfl, hc, hm, hcell, hnone⟩ := hw
  cases p with
  | none =>
    obtain rfl : c = 0 := hnone rfl
    obtain rfl : m = [] := List.length_eq_zero_iff.1 (by omega)
    refine wpList_append_own_none hgd s x 37 ho base 101 i0 2 Tryd.underlying37 hi v l.length (attrsV l) hs hown hx ?_
    exact h v w (by rw [List.append_nil]; exact hown) ⟨rfl, rfl, rfl, Nat.le_refl _, fun _ _ _ => rfl⟩
  | some ad =>
    refine wpList_append_own w hgd s x 37 ho base 101 i0 (.agg #[.string ⟨#[]⟩, .string ⟨#[]⟩]) 2 32 Tryd.underlying37 hi hz0 hz1 hz2 rfl (by decide) v l.length (attrsV l) hs hown ad m.length c (attrsV m) hx (attrsV_len m) ?_ (attrsV_one m) (by unfold maxLen; omega) (by omega) hbase ?_
    · intro j u hj
      have hjl := (List.getElem?_eq_some_iff.1 hj).1
      rw [attrsV_len] at hjl
      obtain ⟨t, ht⟩ : ∃ t, m[j / 2]? = some t := ⟨_, List.getElem?_eq_getElem (by omega)⟩
      obtain ⟨b, o', e, hd1, hd2⟩ := hcell _ t ht
      obtain ⟨x1, x2⟩ := attrs_at m _ t ht
      cases e
      have hadd : (⟨b, o', none⟩ : Addr).add j = ⟨b, o' + j, none⟩ := by unfold Addr.add; split <;> simp_all
      rw [hadd]
      rcases (show j = j / 2 * 2 ∨ j = j / 2 * 2 + 1 by omega) with e | e
      · rw [← e] at x1 hd1
        obtain rfl := Option.some.inj (x1.symm.trans hj)
        exact hd1
      · rw [← e] at x2
        rw [Nat.add_assoc, ← e] at hd2
        obtain rfl := Option.some.inj (x2.symm.trans hj)
        exact hd2
    · intro v' w' h2 h3 _
      exact h v' w' (by rw [List.length_append, attrsV_app]; exact h2) h3
/-- the attributes of these names -/
def namesA (ms : List (List UInt8)) : List AttrP := ms.map fun s => (s, [])

set_option maxHeartbeats 2000000 in
set_option maxRecDepth 100000 in
theorem longAttrs_any (v1 v2 : Value) (l : List AttrP) (ms : List (List UInt8)) (w : World) (h1 : AttrsR w v1 l) (h2 : Words w v2 ms) (hl : l.length ≤ 4000000) (hm : ms.length ≤ 4000000) :
    Calls Tryd.prog 24 #[v1, v2] w fun e w' => ∃ v, e = .returned v ∧ w'.ownsRow w.heap.size 101 2 v (l ++ namesA ms).length (attrsV (l ++ namesA ms)) ∧ Below w.heap.size w w' := by
  have H1 := hid h1
  obtain ⟨p1, c1, rfl⟩ := h1.len
  obtain ⟨p2, c2, rfl, hmc, _, hcell, _⟩ := h2
  have H2 := hid hcell
  clear h1 hcell
  obtain ⟨i0, hi, hz0, hz1, hz2⟩ := info_parts info_attr
  go_enter Tryd.func24, Tryd.ntmps24
  have hb0 := heap_alloc_new w (.cells #[] 101)
  have hown0 : (w.alloc (.cells #[] 101)).ownsRow w.heap.size 101 2 (.slice (some ⟨w.heap.size, 0, none⟩) 0 0) ([] : List AttrP).length (attrsV []) := ⟨rfl, .inr ⟨w.heap.size, 0, #[], rfl, Nat.le_refl _, hb0, Nat.le_refl _, by decide, rfl, rfl⟩⟩
  have hbel0 : Below w.heap.size w (w.alloc (.cells #[] 101)) := (Below.refl w.heap.size w).alloc (Nat.le_refl _) _
  have HO := hid hown0
  have HB := hid hbel0
  clear hb0 hown0 hbel0
  go_wp2_with (at_builtin; refine wpList_append_attrs rfl (.tmp 7) (.tmp 8) rfl w.heap.size _ _ [] l rfl rfl (by exact HO.out) (by exact H1.out.below HB.out) HB.out.size (by simp; omega) ?_)
  intro v3 w3 hown3 hgrow3
  have hbel3 : Below w.heap.size w w3 := HB.out.grown hgrow3 HB.out.size (fun k hk => (HO.out.lt k hk).1)
  have HX3 := hid (And.intro hown3 hbel3)
  clear hown3 hgrow3 hbel3 HO HB
  go_wp2_with fail
  go_loopw [5, 12] (fun bv iv wr => ∃ (k : Nat) (acc : List AttrP), iv = .int .i64 k ∧ k ≤ ms.length ∧ Hid (wr.ownsRow w.heap.size 101 2 bv acc.length (attrsV acc) ∧ Below w.heap.size w wr ∧ acc = l ++ namesA (ms.take k))) (fun _ iv _ => ms.length - (RowKit.intOf iv).toNat)
  case atStart => exact ⟨0, l, rfl, Nat.zero_le _, hid ⟨HX3.out.1, HX3.out.2, (List.append_nil l).symm⟩⟩
  case round =>
    obtain ⟨k, acc, rfl, hk, HX⟩ := hrel
    obtain ⟨bp, bc, rfl⟩ := row_shape HX.out.1
    by_cases hkl : k < ms.length
    · obtain ⟨s, hs⟩ : ∃ s, ms[k]? = some s := ⟨_, List.getElem?_eq_getElem hkl⟩
      obtain ⟨b, o, rfl, hc1⟩ := H2.out k s hs
      obtain ⟨hown, hbw, hacc⟩ := HX.out
      have hbs := hbw.size
      replace hc1 := cell_low hc1 hbw (cell_block hc1)
      have hlen : acc.length ≤ 10000000 := by rw [hacc, List.length_append]; unfold namesA; rw [List.length_map, List.length_take]; omega
      have hnext : acc ++ [(s, [])] = l ++ namesA (ms.take (k + 1)) := by
        rw [List.take_add_one, hs, hacc]
        unfold namesA
        rw [List.map_append, List.append_assoc]
        rfl
      have HN := hid hnext
      clear hnext hs hacc HX HX3 H1 H2
      go_wp2_with (at_builtin; refine wpList_append_own _ rfl (.tmp 15) (.tmp 21) 37 rfl w.heap.size 101 i0 (.agg #[.string ⟨#[]⟩, .string ⟨#[]⟩]) 2 32 Tryd.underlying37 hi hz0 hz1 hz2 rfl (by decide) _ acc.length (attrsV acc) rfl (hown.alloc _) ⟨_, 0, none⟩ 1 1 [.string (bs s), .string ⟨#[]⟩] rfl rfl (cells_newV _ _ _) (by simp [Value.oneCell']) (by unfold maxLen; omega) (by omega) (by simp; omega) ?_)
      intro v' w2 hown2 hgrow2 _
      have hbw2 := (hbw.alloc hbs _).grown hgrow2 (by simp; omega) (fun k hk => ((hown.alloc (.cells #[.string (bs s), .string ⟨#[]⟩] 101)).lt k hk).1)
      have hZ : w2.ownsRow w.heap.size 101 2 v' (acc ++ [(s, [])]).length (attrsV (acc ++ [(s, [])])) := by
        rw [List.length_append, attrsV_app]
        exact hown2
      have HZ := hid (And.intro hZ (And.intro hbw2 HN.out))
      clear hZ hbw2 hown2 hgrow2 hown hbw HN
      go_wp2
      go_roundw
      case rel => exact ⟨k + 1, acc ++ [(s, [])], rfl, by omega, HZ⟩
      case measure => simp [RowKit.intOf]; omega
    · obtain rfl : k = ms.length := by omega
      obtain ⟨h1, h2, h3⟩ := HX.out
      rw [List.take_length] at h3
      have HZ := hid (And.intro h1 (And.intro h2 h3))
      clear h1 h2 h3 HX HX3
      go_wp2
      go_ret
      obtain ⟨h1, h2, h3⟩ := HZ.out
      rw [← h3]
      exact ⟨_, rfl, h1, h2⟩

/-! ## cells of events, lists of attributes beside them -/

def ecells (prs : List (EvP × Value)) : List Value := prs.flatMap fun x => [.int .i64 x.1.k, .string (bs x.1.n), x.2, .string (bs x.1.t)]
theorem ecells_app (a b : List (EvP × Value)) : ecells (a ++ b) = ecells a ++ ecells b := List.flatMap_append
theorem ecells_at : ∀ (a : List (EvP × Value)) (k : Nat) (x : EvP × Value), a[k]? = some x → (ecells a)[k * 4]? = some (.int .i64 x.1.k) ∧ (ecells a)[k * 4 + 1]? = some (.string (bs x.1.n)) ∧ (ecells a)[k * 4 + 2]? = some x.2 ∧ (ecells a)[k * 4 + 3]? = some (.string (bs x.1.t))
  | [], k, x, h => by simp at h
  | y :: r, 0, x, h => by
    simp only [List.getElem?_cons_zero, Option.some.injEq] at h
    subst h
    exact ⟨rfl, rfl, rfl, rfl⟩
  | y :: r, k + 1, x, h => by
    rw [List.getElem?_cons_succ] at h
    obtain ⟨h1, h2, h3, h4⟩ := ecells_at r k x h
    exact ⟨by rw [show (k + 1) * 4 = k * 4 + 1 + 1 + 1 + 1 by omega]; exact h1, by rw [show (k + 1) * 4 + 1 = k * 4 + 1 + 1 + 1 + 1 + 1 by omega]; exact h2,
      by rw [show (k + 1) * 4 + 2 = k * 4 + 2 + 1 + 1 + 1 + 1 by omega]; exact h3, by rw [show (k + 1) * 4 + 3 = k * 4 + 3 + 1 + 1 + 1 + 1 by omega]; exact h4⟩
theorem evsR_row {T : TypeId} {W : World} {base : Nat} {v : Value} {prs : List (EvP × Value)} (h : W.ownsRow base T 4 v prs.length (ecells prs)) (ha : ∀ x ∈ prs, AttrsR W x.2 x.1.a) : EvsR W v (prs.map Prod.fst) := by
  have hlen : (prs.map Prod.fst).length = prs.length := List.length_map _
  have hc : ∀ j e, (prs.map Prod.fst)[j]? = some e → ∃ b o u, (∃ n c, v = .slice (some ⟨b, o, none⟩) n c) ∧ W.cell? ⟨b, o + j * 4, none⟩ = some (.int .i64 e.k) ∧ W.cell? ⟨b, o + j * 4 + 1, none⟩ = some (.string (bs e.n)) ∧ W.cell? ⟨b, o + j * 4 + 2, none⟩ = some u ∧ W.cell? ⟨b, o + j * 4 + 3, none⟩ = some (.string (bs e.t)) ∧ AttrsR W u e.a := fun j e hj => by
    rw [List.getElem?_map] at hj
    obtain ⟨x, hx, rfl⟩ := Option.map_eq_some_iff.1 hj
    have hlt := (List.getElem?_eq_some_iff.1 hx).1
    obtain ⟨g, cap, rfl, _, _, hcell⟩ := row_at h (by omega)
    obtain ⟨x1, x2, x3, x4⟩ := ecells_at prs j x hx
    refine ⟨g, 0, x.2, ⟨_, _, rfl⟩, ?_, ?_, ?_, ?_, ha x (List.mem_of_getElem? hx)⟩
    all_goals rw [Nat.zero_add]
    · exact (hcell _ (by omega)).trans x1
    · exact (hcell _ (by omega)).trans x2
    · exact (hcell _ (by omega)).trans x3
    · exact (hcell _ (by omega)).trans x4
  rcases h.2 with ⟨rfl, h0⟩ | ⟨g, cap, cur, rfl, _, _, h1, h2, _⟩
  · exact ⟨none, 0, by rw [hlen, h0], by omega, by omega, fun j s hj => by have := (List.getElem?_eq_some_iff.1 hj).1; omega⟩
  · refine ⟨some ⟨g, 0, none⟩, cap, by rw [hlen], by omega, by unfold maxLen at h2; omega, fun j s hj => ?_⟩
    obtain ⟨b, o, u, ⟨n, c, e⟩, hcell⟩ := hc j s hj
    cases e
    exact ⟨g, 0, u, rfl, hcell⟩
theorem alistsR_row {W : World} {base : Nat} {v : Value} {us : List Value} {ls : List (List AttrP)} (h : W.ownsRow base 37 1 v us.length us) (hl : us.length = ls.length) (ha : ∀ (k : Nat) u l, us[k]? = some u → ls[k]? = some l → AttrsR W u l) : AlistsR W v ls := by
  have hc : ∀ j l, ls[j]? = some l → ∃ b o u, (∃ n c, v = .slice (some ⟨b, o, none⟩) n c) ∧ W.cell? ⟨b, o + j, none⟩ = some u ∧ AttrsR W u l := fun j l hj => by
    have hlt := (List.getElem?_eq_some_iff.1 hj).1
    obtain ⟨g, cap, rfl, _, _, hcell⟩ := row_at h (by omega)
    obtain ⟨u, hu⟩ : ∃ u, us[j]? = some u := ⟨_, List.getElem?_eq_getElem (by omega)⟩
    exact ⟨g, 0, u, ⟨_, _, rfl⟩, by rw [Nat.zero_add]; exact (hcell _ (by omega)).trans hu, ha j u l hu hj⟩
  rcases h.2 with ⟨rfl, h0⟩ | ⟨g, cap, cur, rfl, _, _, h1, h2, _⟩
  · exact ⟨none, 0, by rw [← hl, h0], by omega, by omega, fun j s hj => by have := (List.getElem?_eq_some_iff.1 hj).1; omega⟩
  · refine ⟨some ⟨g, 0, none⟩, cap, by rw [hl], by omega, by unfold maxLen at h2; omega, fun j s hj => ?_⟩
    obtain ⟨b, o, u, ⟨n, c, e⟩, hcell⟩ := hc j s hj
    cases e
    exact ⟨g, 0, u, rfl, hcell⟩
theorem EvsR.front2 {W : World} {p : Option Addr} {n c : Nat} {a b : List EvP} (h : EvsR W (.slice p n c) (a ++ b)) : EvsR W (.slice p a.length c) a := by
  have := h.front a.length (by simp)
  rwa [List.take_left'] at this
  rfl

/-! ## events or nodes that are being lent: the box of the answer, the box of the list, the lists -/

structure LndE (T LT : TypeId) (w W : World) (wv av : Value) (es : List EvP) (mA : List AttrP) (prs : List (EvP × Value)) (us : List Value) : Prop where
  be : Below w.heap.size w W
  b0 : W.heap[w.heap.size]? = some (.cells #[.slice none 0 0, .slice none 0 0, .slice none 0 0] LT (0, 0))
  bx : W.heap[w.heap.size + 1]? = some (.cells #[.slice none 0 0, wv, av] LT (0, 0))
  a : W.ownsRow w.heap.size 37 1 av us.length us
  r : W.ownsRow w.heap.size T 4 wv prs.length (ecells prs)
  u : ∀ (k : Nat) (v : Value) (e : EvP), us[k]? = some v → es[k]? = some e → W.ownsRow w.heap.size 101 2 v (e.a ++ mA).length (attrsV (e.a ++ mA))
  rw : ∀ (k : Nat) (x : EvP × Value), prs[k]? = some x → (x.1.a = [] ∧ x.2 = .slice none 0 0) ∨ ∃ v, us[k]? = some v ∧ es[k]? = some x.1 ∧ x.2 = frontV v x.1.a.length
/-- the types stand apart -/
structure LndT (T LT : TypeId) : Prop where
  t0 : T ≠ 101
  t1 : T ≠ 37
  t2 : LT ≠ T
  t3 : LT ≠ 101
  t4 : LT ≠ 37
section
variable {T LT : TypeId} {w W W2 : World} {wv av : Value} {es : List EvP} {mA : List AttrP} {prs : List (EvP × Value)} {us : List Value}
theorem LndE.below (h : LndE T LT w W wv av es mA prs us) (hb : Below W.heap.size W W2) : LndE T LT w W2 wv av es mA prs us :=
  ⟨h.be.trans (hb.mono h.be.size), (hb.block _ (block_lt h.b0)).trans h.b0, (hb.block _ (block_lt h.bx)).trans h.bx, row_below h.a hb, row_below h.r hb, fun k v e h1 h2 => row_below (h.u k v e h1 h2) hb, h.rw⟩
theorem LndE.drew (h : LndE T LT w W wv av es mA prs us) : LndE T LT w W.drew wv av es mA prs us := ⟨⟨h.be.os, h.be.tape, h.be.output, h.be.size, h.be.block⟩, h.b0, h.bx, h.a, h.r, h.u, h.rw⟩
/-- a box of the element's type that is written into -/
theorem LndE.box {c : Nat} {cs cs2 : Array Value} (ht : LndT T LT) (h : LndE T LT w W wv av es mA prs us) (hc : W.heap[c]? = some (.cells cs T (0, 0))) (hlo : w.heap.size + 2 ≤ c) (hne : wv.ownBlock ≠ some c) (j : Just W W2 c cs2 T) : LndE T LT w W2 wv av es mA prs us :=
  ⟨h.be.trans (just_low j (by omega)), (j.other _ (by omega)).trans h.b0, (j.other _ (by omega)).trans h.bx, row_just h.a hc ht.t1 j.other, row_of_block h.r (fun g hg => j.other g (fun e => hne (by rw [hg, e]))), fun k v e h1 h2 => row_just (h.u k v e h1 h2) hc ht.t0 j.other, h.rw⟩
/-- one more list of attributes -/
theorem LndE.attr {u' v' : Value} {e : EvP} (ht : LndT T LT) (h : LndE T LT w W wv av es mA prs us) (hu : W.ownsRow w.heap.size 101 2 u' (e.a ++ mA).length (attrsV (e.a ++ mA))) (he : es[us.length]? = some e)
    (hg : (W.alloc (.cells #[u'] 37)).grownBy W2 av.ownBlock) (hv : W2.ownsRow w.heap.size 37 1 v' (us ++ [u']).length (us ++ [u'])) :
    LndE T LT w (W2.setCell ⟨w.heap.size + 1, 2, none⟩ v') wv v' es mA prs (us ++ [u']) := by
  have hax := h.a.alloc (.cells #[u'] 37)
  have bxa : (W.alloc (.cells #[u'] 37)).heap[w.heap.size + 1]? = _ := (Go.Lib.alloc_old _ _ _ (block_lt h.bx)).trans h.bx
  have b0a : (W.alloc (.cells #[u'] 37)).heap[w.heap.size]? = _ := (Go.Lib.alloc_old _ _ _ (block_lt h.b0)).trans h.b0
  have bx2 := grown_at hg bxa (row_ne hax bxa ht.t4)
  have b02 := grown_at hg b0a (row_ne hax b0a ht.t4)
  have j := just_put (j := 2) (cs2 := #[.slice none 0 0, wv, v']) bx2 v' (by simp)
  have str : ∀ a n xs, W.ownsRow w.heap.size 101 2 a n xs → (W2.setCell ⟨w.heap.size + 1, 2, none⟩ v').ownsRow w.heap.size 101 2 a n xs := fun a n xs hr =>
    row_just ((hr.alloc _).kept hg (rows_ne (hr.alloc _) hax (by decide))) bx2 ht.t3 j.other
  refine ⟨((h.be.alloc h.be.size _).grown hg (by have := h.be.size; simp; omega) (fun k hk => (hax.lt k hk).1)).trans (just_low j (by omega)), (j.other _ (by omega)).trans b02, j.at_, row_just hv bx2 ht.t4 j.other, row_just ((h.r.alloc _).kept hg (rows_ne (h.r.alloc _) hax ht.t1)) bx2 ht.t2 j.other, fun k v x h1 h2 => ?_, fun k x h1 => ?_⟩
  · by_cases hk : k < us.length
    · rw [List.getElem?_append_left hk] at h1
      exact str _ _ _ (h.u k v x h1 h2)
    · obtain rfl : k = us.length := by have := (List.getElem?_eq_some_iff.1 h1).1; simp at this; omega
      rw [List.getElem?_append_right (Nat.le_refl _), Nat.sub_self] at h1
      obtain rfl := Option.some.inj h1
      obtain rfl := Option.some.inj (he.symm.trans h2)
      exact str _ _ _ hu
  · rcases h.rw k x h1 with h3 | ⟨v, h3, h4, h5⟩
    · exact .inl h3
    · exact .inr ⟨v, by rw [List.getElem?_append_left (List.getElem?_eq_some_iff.1 h3).1]; exact h3, h4, h5⟩
/-- one more event -/
theorem LndE.ev {v' : Value} {x : EvP × Value} {X : Obj} (ht : LndT T LT) (h : LndE T LT w W wv av es mA prs us)
    (hx : (x.1.a = [] ∧ x.2 = .slice none 0 0) ∨ ∃ v, us[prs.length]? = some v ∧ es[prs.length]? = some x.1 ∧ x.2 = frontV v x.1.a.length)
    (hg : (W.alloc X).grownBy W2 wv.ownBlock) (hv : W2.ownsRow w.heap.size T 4 v' (prs ++ [x]).length (ecells (prs ++ [x]))) :
    LndE T LT w (W2.setCell ⟨w.heap.size + 1, 1, none⟩ v') v' av es mA (prs ++ [x]) us := by
  have hax := h.r.alloc X
  have bxa : (W.alloc X).heap[w.heap.size + 1]? = _ := (Go.Lib.alloc_old _ _ _ (block_lt h.bx)).trans h.bx
  have b0a : (W.alloc X).heap[w.heap.size]? = _ := (Go.Lib.alloc_old _ _ _ (block_lt h.b0)).trans h.b0
  have bx2 := grown_at hg bxa (row_ne hax bxa ht.t2)
  have b02 := grown_at hg b0a (row_ne hax b0a ht.t2)
  have j := just_put (j := 1) (cs2 := #[.slice none 0 0, v', av]) bx2 v' (by simp)
  have str : ∀ a n xs, W.ownsRow w.heap.size 101 2 a n xs → (W2.setCell ⟨w.heap.size + 1, 1, none⟩ v').ownsRow w.heap.size 101 2 a n xs := fun a n xs hr =>
    row_just ((hr.alloc _).kept hg (rows_ne (hr.alloc _) hax ht.t0.symm)) bx2 ht.t3 j.other
  refine ⟨((h.be.alloc h.be.size _).grown hg (by have := h.be.size; simp; omega) (fun k hk => (hax.lt k hk).1)).trans (just_low j (by omega)), (j.other _ (by omega)).trans b02, j.at_, row_just ((h.a.alloc _).kept hg (rows_ne (h.a.alloc _) hax ht.t1.symm)) bx2 ht.t4 j.other, row_just hv bx2 ht.t2 j.other, fun k v x h1 h2 => str _ _ _ (h.u k v x h1 h2), fun k y h1 => ?_⟩
  by_cases hk : k < prs.length
  · rw [List.getElem?_append_left hk] at h1
    exact h.rw k y h1
  · obtain rfl : k = prs.length := by have := (List.getElem?_eq_some_iff.1 h1).1; simp at this; omega
    rw [List.getElem?_append_right (Nat.le_refl _), Nat.sub_self] at h1
    obtain rfl := Option.some.inj h1
    exact hx
/-- what was lent can be read -/
theorem LndE.whole (h : LndE T LT w W wv av es mA prs us) : EvsR W wv (prs.map Prod.fst) := by
  refine evsR_row h.r (fun x hx => ?_)
  obtain ⟨k, hk⟩ := List.getElem?_of_mem hx
  rcases h.rw k x hk with ⟨h1, h2⟩ | ⟨v, h1, h2, h3⟩
  · rw [h1, h2]; exact AttrsR.nil W
  · rw [h3]; exact attrsR_front (h.u k v x.1 h1 h2)
theorem LndE.lists (h : LndE T LT w W wv av es mA prs us) (hl : us.length = es.length) : AlistsR W av (es.map fun e => e.a ++ mA) := by
  refine alistsR_row h.a (by rw [hl, List.length_map]) (fun k u l hu hk => ?_)
  rw [List.getElem?_map] at hk
  obtain ⟨e, he, rfl⟩ := Option.map_eq_some_iff.1 hk
  exact attrsR_row (h.u k u e hu he)
end
/-- events or nodes that were lent: the front, the whole, the lists of attributes -/
def LentE (W : World) (v : Value) (es more : List EvP) (mA : List AttrP) : Prop :=
  ∃ vf vw va, v = .agg #[vf, vw, va] ∧ EvsR W vf es ∧ EvsR W vw (es ++ more) ∧ AlistsR W va (es.map fun e => e.a ++ mA)
theorem LentE.below {W W' : World} {v : Value} {es more : List EvP} {mA : List AttrP} (h : LentE W v es more mA) (hb : Below W.heap.size W W') : LentE W' v es more mA := by
  obtain ⟨vf, vw, va, e, h1, h2, h3⟩ := h
  exact ⟨vf, vw, va, e, h1.below hb, h2.below hb, h3.below hb⟩
theorem three_put {W : World} {b : Nat} {T : TypeId} {a0 a1 a2 p0 p1 p2 : Value} (h : W.heap[b]? = some (.cells #[a0, a1, a2] T (0, 0))) :
    Just W (((W.setCell ⟨b, 0, none⟩ p0).setCell ⟨b, 1, none⟩ p1).setCell ⟨b, 2, none⟩ p2) b #[p0, p1, p2] T := by
  have h0 := just_put (j := 0) (cs2 := #[p0, a1, a2]) h p0 (by simp)
  have h1 := just_put (j := 1) (cs2 := #[p0, p1, a2]) h0.at_ p1 (by simp)
  have h2 := just_put (j := 2) (cs2 := #[p0, p1, p2]) h1.at_ p2 (by simp)
  exact (h0.andThen h1).andThen h2
/-- the lists alone -/
structure LndL (T : TypeId) (w W : World) (wv av : Value) (es : List EvP) (mA : List AttrP) (prs : List (EvP × Value)) (us : List Value) : Prop where
  a : W.ownsRow w.heap.size 37 1 av us.length us
  r : W.ownsRow w.heap.size T 4 wv prs.length (ecells prs)
  u : ∀ (k : Nat) (v : Value) (e : EvP), us[k]? = some v → es[k]? = some e → W.ownsRow w.heap.size 101 2 v (e.a ++ mA).length (attrsV (e.a ++ mA))
  rw : ∀ (k : Nat) (x : EvP × Value), prs[k]? = some x → (x.1.a = [] ∧ x.2 = .slice none 0 0) ∨ ∃ v, us[k]? = some v ∧ es[k]? = some x.1 ∧ x.2 = frontV v x.1.a.length
theorem LndE.lst {T LT : TypeId} {w W : World} {wv av : Value} {es : List EvP} {mA : List AttrP} {prs : List (EvP × Value)} {us : List Value} (h : LndE T LT w W wv av es mA prs us) : LndL T w W wv av es mA prs us := ⟨h.a, h.r, h.u, h.rw⟩
theorem LndL.just {T LT : TypeId} {w W W2 : World} {b : Nat} {cs cs2 : Array Value} {wv av : Value} {es : List EvP} {mA : List AttrP} {prs : List (EvP × Value)} {us : List Value} (ht : LndT T LT) (h : LndL T w W wv av es mA prs us) (hb : W.heap[b]? = some (.cells cs LT (0, 0))) (j : Just W W2 b cs2 LT) : LndL T w W2 wv av es mA prs us :=
  ⟨row_just h.a hb ht.t4 j.other, row_just h.r hb ht.t2 j.other, fun k v e h1 h2 => row_just (h.u k v e h1 h2) hb ht.t3 j.other, h.rw⟩
theorem LndL.lent {T : TypeId} {w W : World} {wp ap : Option Addr} {wn wc an ac : Nat} {es more : List EvP} {mA : List AttrP} {prs : List (EvP × Value)} {us : List Value} (h : LndL T w W (.slice wp wn wc) (.slice ap an ac) es mA prs us)
    (hp : prs.map Prod.fst = es ++ more) (hl : us.length = es.length) : LentE W (.agg #[.slice wp es.length wc, .slice wp wn wc, .slice ap an ac]) es more mA := by
  have hw : EvsR W (.slice wp wn wc) (prs.map Prod.fst) := by
    refine evsR_row h.r (fun x hx => ?_)
    obtain ⟨k, hk⟩ := List.getElem?_of_mem hx
    rcases h.rw k x hk with ⟨h1, h2⟩ | ⟨v, h1, h2, h3⟩
    · rw [h1, h2]; exact AttrsR.nil W
    · rw [h3]; exact attrsR_front (h.u k v x.1 h1 h2)
  rw [hp] at hw
  refine ⟨_, _, _, rfl, hw.front2, hw, alistsR_row h.a (by rw [hl, List.length_map]) (fun k u l hu hk => ?_)⟩
  rw [List.getElem?_map] at hk
  obtain ⟨e, he, rfl⟩ := Option.map_eq_some_iff.1 hk
  exact attrsR_row (h.u k u e hu he)
theorem EvsR.drewN {W : World} {v : Value} {l : List EvP} (h : EvsR W v l) (n : Nat) : EvsR (W.drewN n) v l := h
theorem AlistsR.drewN {W : World} {v : Value} {l : List (List AttrP)} (h : AlistsR W v l) (n : Nat) : AlistsR (W.drewN n) v l := h
end Go.Proofs.YtkcgmimldjeaiaaDoor

/-
  Rows of events that a call fills: their lists of attributes are those of the events that were appended.
-/
namespace Go.Proofs.YtkcgmimldjeaiaaDoor
open Go.RowKit Go.Lib Own

/-- a row of events, its lists of attributes read at the world w0 -/
def RowE (w0 : World) (base : Nat) (W : World) (v : Value) (es : List EvP) : Prop :=
  ∃ prs : List (EvP × Value), prs.map Prod.fst = es ∧ W.ownsRow base 39 4 v prs.length (ecells prs) ∧ (∀ x ∈ prs, AttrsR w0 x.2 x.1.a) ∧ Below w0.heap.size w0 W ∧ w0.heap.size ≤ base
theorem RowE.be {w0 W : World} {base : Nat} {v : Value} {es : List EvP} (h : RowE w0 base W v es) : Below w0.heap.size w0 W := by
  obtain ⟨prs, _, _, _, hb, _⟩ := h
  exact hb
theorem RowE.shape {w0 W : World} {base : Nat} {v : Value} {es : List EvP} (h : RowE w0 base W v es) : ∃ p c, v = .slice p es.length c := by
  obtain ⟨prs, rfl, hr, _⟩ := h
  rw [List.length_map]
  exact row_shape hr
theorem RowE.nil {w W : World} (hb : Below w.heap.size w W) {base : Nat} (h : w.heap.size ≤ base) : RowE w base W (.slice none 0 0) [] := ⟨[], rfl, World.ownsRow_nil _ _ _ _, fun x h => (by cases h), hb, h⟩
theorem RowE.below {w0 W W' : World} {base : Nat} {v : Value} {es : List EvP} (h : RowE w0 base W v es) (hb : Below W.heap.size W W') : RowE w0 base W' v es := by
  obtain ⟨prs, h1, h2, h3, h4, h5⟩ := h
  exact ⟨prs, h1, row_below h2 hb, h3, h4.trans (hb.mono h4.size), h5⟩
theorem RowE.evs {w0 W : World} {base : Nat} {v : Value} {es : List EvP} (h : RowE w0 base W v es) : EvsR W v es := by
  obtain ⟨prs, rfl, h2, h3, h4, _⟩ := h
  exact evsR_row h2 (fun x hx => (h3 x hx).below h4)
/-- an empty list in a block of its own -/
theorem RowE.empty {w W : World} (hb : Below w.heap.size w W) : RowE w W.heap.size (W.alloc (.cells #[] 39)) (.slice (some ⟨W.heap.size, 0, none⟩) 0 0) [] :=
  ⟨[], rfl, ⟨rfl, .inr ⟨W.heap.size, 0, #[], rfl, Nat.le_refl _, heap_alloc_new W _, Nat.le_refl _, by decide, rfl, rfl⟩⟩, fun x h => (by cases h), hb.alloc hb.size _, hb.size⟩
/-- a list of one event in a block of its own -/
theorem RowE.one {w W : World} (hb : Below w.heap.size w W) (e : EvP) (he : e.a = []) : RowE w W.heap.size (W.alloc (.cells #[.int .i64 e.k, .string (bs e.n), .slice none 0 0, .string (bs e.t)] 39)) (.slice (some ⟨W.heap.size, 0, none⟩) 1 1) [e] :=
  ⟨[(e, .slice none 0 0)], rfl, ⟨rfl, .inr ⟨W.heap.size, 1, _, rfl, Nat.le_refl _, heap_alloc_new W _, Nat.le_refl _, by decide, rfl, rfl⟩⟩, fun x h => (by
    simp only [List.mem_cons, List.not_mem_nil, or_false] at h
    subst h
    show AttrsR w (.slice none 0 0) e.a
    rw [he]
    exact AttrsR.nil w), hb.alloc hb.size _, hb.size⟩
theorem ecells_len (prs : List (EvP × Value)) : (ecells prs).length = prs.length * 4 := by
  induction prs with
  | nil => rfl
  | cons x r ih =>
    show (_ :: _ :: _ :: _ :: ecells r).length = _
    simp only [List.length_cons, ih]
    omega
theorem attrsR_one {W : World} {v : Value} {al : List AttrP} (h : AttrsR W v al) : v.oneCell' = true := by
  obtain ⟨p, c, rfl, _⟩ := h
  rfl
theorem ecells_one {w0 : World} {prs : List (EvP × Value)} (h : ∀ x ∈ prs, AttrsR w0 x.2 x.1.a) : ∀ u ∈ ecells prs, u.oneCell' = true := by
  intro u hu
  unfold ecells at hu
  obtain ⟨s, hs0, hs⟩ := List.mem_flatMap.1 hu
  simp only [List.mem_cons, List.not_mem_nil, or_false] at hs
  rcases hs with rfl | rfl | rfl | rfl
  · rfl
  · rfl
  · exact attrsR_one (h s hs0)
  · rfl
theorem info_event4 : (Tryd.prog.info? 39).map (fun i => (i.zero, i.size, i.bytes)) = some (some (.agg #[.int .i64 0, .string ⟨#[]⟩, .slice none 0 0, .string ⟨#[]⟩]), 4, 64) := by kernel_rfl
/-- cells of events that were built, appended to a row of events -/
theorem wpList_append_evcells {w : World} {ops : Array Oper} {rest : List Oper} {o : Oper} {a : Act} {Q : Exit → Act → World → Prop} (hgd : o.guard = none) (s x : Operand)
    (ho : o.op = .call { callee := .builtin .append, args := #[s, x], argTypes := #[22, 22] }) (w0 W : World) (base : Nat) (v : Value) (l : List EvP) (hs : a.eval s = v)
    (hown : RowE w0 base W v l) (hbase : base ≤ W.heap.size) (hW : Below W.heap.size W w)
    (ad : Addr) (c : Nat) (qrs : List (EvP × Value)) (hx : a.eval x = .slice (some ad) qrs.length c) (hcell : ∀ j u, (ecells qrs)[j]? = some u → w.cell? (ad.add j) = some u) (hqa : ∀ x ∈ qrs, AttrsR w0 x.2 x.1.a) (hsz : l.length + qrs.length ≤ 1000000000)
    (h : ∀ v' w', RowE w0 base w' v' (l ++ qrs.map Prod.fst) → Below base W w' → wpList Tryd.prog ops Q rest (a.put o.dst v') w') : wpList Tryd.prog ops Q (o :: rest) a w := by
  obtain ⟨i0, hi, hz0, hz1, hz2⟩ := info_parts info_event4
  obtain ⟨prs, rfl, hr, ha, hb, hb0⟩ := id hown
  rw [List.length_map] at hsz
  have hr2 := row_below hr hW
  refine wpList_append_own w hgd s x 22 ho base 39 i0 (.agg #[.int .i64 0, .string ⟨#[]⟩, .slice none 0 0, .string ⟨#[]⟩]) 4 64 Tryd.underlying22 hi hz0 hz1 hz2 rfl (by decide) v prs.length (ecells prs) hs hr2 ad qrs.length c (ecells qrs) hx (ecells_len qrs) hcell (ecells_one hqa) (by unfold maxLen; omega) (by omega) (Nat.le_trans hbase hW.size) ?_
  intro v' w' h2 h3 _
  have hB : Below base W w' := (hW.mono hbase).grown h3 (Nat.le_trans hbase hW.size) (fun k hk => (hr2.lt k hk).1)
  refine h v' w' ⟨prs ++ qrs, by rw [List.map_append], by rw [List.length_append, ecells_app]; exact h2, fun y hy => ?_, hb.trans (hB.mono hb0), hb0⟩ hB
  rcases List.mem_append.1 hy with h4 | h4
  · exact ha y h4
  · exact hqa y h4
/-- a row of events appended to a row of events -/
theorem wpList_append_evrow {w : World} {ops : Array Oper} {rest : List Oper} {o : Oper} {a : Act} {Q : Exit → Act → World → Prop} (hgd : o.guard = none) (s x : Operand)
    (ho : o.op = .call { callee := .builtin .append, args := #[s, x], argTypes := #[22, 22] }) (w0 : World) (base base2 : Nat) (v vx : Value) (l m : List EvP) (hs : a.eval s = v) (hx : a.eval x = vx)
    (hown : RowE w0 base w v l) (hbase : base ≤ w.heap.size) (hw : RowE w0 base2 w vx m) (hsz : l.length + m.length ≤ 1000000000)
    (h : ∀ v' w', RowE w0 base w' v' (l ++ m) → Below base w w' → wpList Tryd.prog ops Q rest (a.put o.dst v') w') : wpList Tryd.prog ops Q (o :: rest) a w := by
  obtain ⟨i0, hi, hz0, hz1, hz2⟩ := info_parts info_event4
  obtain ⟨qrs, rfl, hqr, hqa, _, _⟩ := id hw
  rcases hqr.2 with ⟨rfl, h0⟩ | ⟨g, cap, cur, rfl, _⟩
  · obtain rfl : qrs = [] := List.length_eq_zero_iff.1 h0
    obtain ⟨prs, rfl, hr, _⟩ := id hown
    refine wpList_append_own_none hgd s x 22 ho base 39 i0 4 Tryd.underlying22 hi v prs.length (ecells prs) hs hr hx ?_
    refine h v w ?_ (Below.refl _ _)
    rw [List.map_nil, List.append_nil]
    exact hown
  · rw [List.length_map] at hsz
    exact wpList_append_evcells hgd s x ho w0 w base v l hs hown hbase (Below.refl _ _) ⟨g, 0, none⟩ cap qrs hx (fun j u hj => hqr.cells (g := g) rfl j u hj) hqa hsz h
end Go.Proofs.YtkcgmimldjeaiaaDoor

/-
  The statements' without: its walk.
-/
namespace Go.Proofs.YtkcgmimldjeaiaaDoor
open Go.RowKit Go.Lib Own

theorem without_yes {es : List EvP} {k : Nat} {e : EvP} (h : es[k]? = some e) (hn : e.n ≠ svgL) : withoutL (es.take (k + 1)) = withoutL (es.take k) ++ [e] := by
  have hb : (e.n != svgL) = true := by simpa using hn
  unfold withoutL
  rw [List.take_add_one, h, List.filter_append]
  simp [hb]
theorem without_no {es : List EvP} {k : Nat} {e : EvP} (h : es[k]? = some e) (hn : e.n = svgL) : withoutL (es.take (k + 1)) = withoutL (es.take k) := by
  have hb : (e.n != svgL) = false := by simpa using hn
  unfold withoutL
  rw [List.take_add_one, h, List.filter_append]
  simp [hb]
theorem without_len (es : List EvP) : (withoutL es).length ≤ es.length := List.length_filter_le _ _

set_option maxHeartbeats 4000000 in
set_option maxRecDepth 100000 in
theorem without_any (w0 : World) (ev : Value) (es : List EvP) (w : World) (hb : Below w0.heap.size w0 w) (h : EvsR w0 ev es) (hs : es.length ≤ 100000000) :
    Calls Tryd.prog 13 #[ev] w fun e w' => ∃ v, e = .returned v ∧ RowE w0 w.heap.size w' v (withoutL es) ∧ Below w.heap.size w w' := by
  obtain ⟨ep, ec, rfl, hc1, hc2, hcell⟩ := h
  have HC := hid hcell
  have HB := hid hb
  have h0 : RowE w0 w.heap.size w (.slice none 0 0) [] := RowE.nil hb hb.size
  have H0 := hid (And.intro h0 (Below.refl w.heap.size w))
  clear hcell h0
  go_enter Tryd.func13, Tryd.ntmps13
  go_wp2
  go_loopw [3, 7] (fun ov iv wr => ∃ (k : Nat) (acc : List EvP), iv = .int .i64 k ∧ k ≤ es.length ∧ Hid (withoutL (es.take k) = acc) ∧ Hid (RowE w0 w.heap.size wr ov acc ∧ Below w.heap.size w wr)) (fun _ iv _ => es.length - (RowKit.intOf iv).toNat)
  case atStart => exact ⟨0, [], rfl, Nat.zero_le _, hid rfl, H0⟩
  case round =>
    clear H0
    obtain ⟨k, acc, rfl, hk, HW, HX⟩ := hrel
    obtain ⟨np, nc, rfl⟩ := HX.out.1.shape
    by_cases hkl : k < es.length
    · obtain ⟨e, he⟩ : ∃ e, es[k]? = some e := ⟨_, List.getElem?_eq_getElem hkl⟩
      obtain ⟨b, o, u, rfl, q0, q1, q2, q3, q4⟩ := HC.out k e he
      have hbx := HX.out.1.be
      replace q0 := cell_low q0 hbx (cell_block q0)
      replace q1 := cell_low q1 hbx (cell_block q1)
      replace q2 := cell_low q2 hbx (cell_block q2)
      replace q3 := cell_low q3 hbx (cell_block q3)
      have hlen : acc.length ≤ es.length := by
        have h1 := without_len (es.take k)
        rw [HW.out, List.length_take] at h1
        omega
      obtain ⟨EN, hEN⟩ : ∃ EN, bs e.n = EN := ⟨_, rfl⟩
      obtain ⟨ET, hET⟩ : ∃ ET, bs e.t = ET := ⟨_, rfl⟩
      rw [hEN] at q1
      rw [hET] at q3
      have hbt : EN.toList = e.n := by rw [← hEN]; exact bs_toList e.n
      obtain ⟨up, um, uc, rfl⟩ := q4.shape
      by_cases q : e.n = svgL
      · have z1 : (EN.toList == [115, 118, 103]) = true := by rw [hbt, beq_iff_eq]; exact q
        have z2 : (EN.toList != [115, 118, 103]) = false := by rw [hbt, q]; rfl
        have hnx := without_no he q
        rw [HW.out] at hnx
        have HN := hid hnx
        clear he hbt q hEN hET hnx HW hbx q4 q0 q2 q3
        go_wp2
        go_roundw
        case rel => exact ⟨k + 1, acc, rfl, by omega, HN, HX⟩
        case measure => simp [RowKit.intOf]; omega
      · have z1 : (EN.toList == [115, 118, 103]) = false := by rw [hbt, Bool.eq_false_iff]; intro h; rw [beq_iff_eq] at h; exact q h
        have z2 : (EN.toList != [115, 118, 103]) = true := by rw [hbt, bne_iff_ne]; exact q
        have hnx := without_yes he q
        rw [HW.out] at hnx
        have HN := hid hnx
        have HE := hid q4
        subst hEN hET
        have hwb := HX.out.2.size
        clear he hbt q hnx HW hbx q4
        go_wp2_with (at_builtin; refine wpList_append_evcells rfl (.tmp 16) (.tmp 21) rfl w0 wr w.heap.size _ acc rfl (by exact HX.out.1) hwb ((Below.refl _ _).alloc (Nat.le_refl _) _) ⟨_, 0, none⟩ 1 [(⟨e.k, e.n, e.a, e.t⟩, .slice up um uc)] rfl (cells_newV _ _ _) (fun x hx => (by rw [List.mem_singleton.1 hx]; exact HE.out)) (by simp only [List.length_cons, List.length_nil]; omega) ?_)
        intro v3 w3 hrow3 hbel3
        have HZ := hid (And.intro hrow3 (HX.out.2.trans hbel3))
        clear hrow3 hbel3 HX q0 q1 q2 q3
        go_wp2
        go_roundw
        case rel => exact ⟨k + 1, acc ++ [e], rfl, by omega, HN, HZ⟩
        case measure => simp [RowKit.intOf]; omega
    · obtain rfl : k = es.length := by omega
      have hw := HW.out
      rw [List.take_length] at hw
      subst hw
      clear HW
      go_wp2
      go_ret
      exact ⟨_, rfl, HX.out.1, HX.out.2⟩
end Go.Proofs.YtkcgmimldjeaiaaDoor

/-
  Package sieve: the rule of an element, an attribute's value, the attributes that stay: their walks.
-/
namespace Go.Proofs.YtkcgmimldjeaiaaDoor
open Go.RowKit Go.Lib Own

theorem results_two {P : Program} {fn : Func} {p u : Tmp} {ty : TypeId} (h : fn.results = #[.cell p ty, .tmp u]) (tmps : Array Value) (w : World) (g : Nat) (t : TypeId) (cs : Array Value) (fr : Nat × Nat) (d : TypeDesc)
    (hp : tmps.getD p undef = .pointer (some ⟨g, 0, none⟩)) (hg : w.heap[g]? = some (.cells cs t fr))
    (hu : P.underlying ty = some d) (hd : (match d with | .struct _ | .array _ _ => true | _ => false) = true) (hi : (P.info? ty).map (·.size) = some cs.size) (x : Value) (hx : tmps.getD u undef = x) :
    (results fn tmps).run P w = .ok (.tuple #[.agg cs, x]) w := by
  rw [results_cell_tmp h, hp, hx]
  simp [asAddr, Result.andThen, run_loadVar_row w g t ty cs fr d hg hu hd hi]

/-- the cells of a Sieve -/
def sieveC (vr vs vd : Value) (P : PolP) (sk : List UInt8) (n : Nat) : Array Value := #[vr, vs, vd, .int .i64 P.depth, .int .i64 P.window, .string (bs sk), .int .i64 n]
/-- a Sieve at block b, over a policy that lies below w0's end -/
structure SvAt (w0 w : World) (b : Nat) (vr vs vd : Value) (P : PolP) (sk : List UInt8) (n : Nat) : Prop where
  at_ : w.heap[b]? = some (.cells (sieveC vr vs vd P sk n) 119 (0, 0))
  pol : PolR w0 vr vs vd P
  be : Below w0.heap.size w0 w
  lo : w0.heap.size ≤ b
theorem SvAt.below {w0 w w' : World} {b : Nat} {vr vs vd : Value} {P : PolP} {sk : List UInt8} {n : Nat} (h : SvAt w0 w b vr vs vd P sk n) (hb : Below w.heap.size w w') : SvAt w0 w' b vr vs vd P sk n :=
  ⟨(hb.block b (block_lt h.at_)).trans h.at_, h.pol, h.be.trans (hb.mono h.be.size), h.lo⟩
theorem SvAt.drew {w0 w : World} {b : Nat} {vr vs vd : Value} {P : PolP} {sk : List UInt8} {n : Nat} (h : SvAt w0 w b vr vs vd P sk n) : SvAt w0 w.drew b vr vs vd P sk n := ⟨h.at_, h.pol, ⟨h.be.os, h.be.tape, h.be.output, h.be.size, h.be.block⟩, h.lo⟩
theorem SvAt.cur {w0 w : World} {b : Nat} {vr vs vd : Value} {P : PolP} {sk : List UInt8} {n : Nat} (h : SvAt w0 w b vr vs vd P sk n) : PolR w vr vs vd P := h.pol.below h.be

theorem isLink_any (x : ByteArray) (w : World) : Calls Tryd.prog 139 #[.string x] w fun e w' => e = .returned (.bool (isLinkL x.toList)) ∧ w' = w := by
  unfold isLinkL
  by_cases h1 : (x.toList == [99, 105, 116, 101]) = true
  · rw [h1, Bool.true_or]
    go_enter Tryd.func139, Tryd.ntmps139
    go_wp2
    go_ret
    exact ⟨rfl, rfl⟩
  rw [Bool.not_eq_true] at h1
  rw [h1, Bool.false_or]
  by_cases h2 : (x.toList == [104, 114, 101, 102]) = true
  · rw [h2, Bool.true_or]
    go_enter Tryd.func139, Tryd.ntmps139
    go_wp2
    go_ret
    exact ⟨rfl, rfl⟩
  rw [Bool.not_eq_true] at h2
  rw [h2, Bool.false_or]
  obtain ⟨R, hR⟩ : ∃ R, (x.toList == [115, 114, 99]) = R := ⟨_, rfl⟩
  rw [hR]
  go_enter Tryd.func139, Tryd.ntmps139
  go_wp2
  go_ret
  exact ⟨rfl, rfl⟩

theorem ruleIs_any (g : Nat) (r : RuleP) (u : Value) (x : ByteArray) (w : World) (hg : w.cell? ⟨g, 0, none⟩ = some (.string x)) (hu : ∃ p n c, u = .slice p n c) :
    Calls Tryd.prog 111 #[.agg #[.string (bs r.1), u], .pointer (some ⟨g, 0, none⟩)] w fun e w' => e = .returned (.bool (r.1 == x.toList)) ∧ Below w.heap.size w w' := by
  obtain ⟨p, n, c, rfl⟩ := hu
  have hb := (Below.refl w.heap.size w).alloc (Nat.le_refl _) (.cells #[.string (bs r.1), .slice p n c] 73)
  have hbt := bs_toList r.1
  obtain ⟨S, hS⟩ : ∃ S, bs r.1 = S := ⟨_, rfl⟩
  rw [hS] at hb hbt ⊢
  have hg2 := cell_low hg hb (cell_block hg)
  have e : (r.1 == x.toList) = (S.toList == x.toList) := by rw [hbt]
  rw [e]
  have HB := hid hb
  clear hbt hS e hb
  go_enter Tryd.func111, Tryd.ntmps111
  go_wp2
  go_ret
  exact ⟨rfl, HB.out⟩

theorem ruleL_none {rs : List RuleP} {n : List UInt8} (h : ruleL rs n = none) : idxP (fun r : RuleP => r.1 == n) rs = -1 := by
  refine idxP_miss _ rs (fun j y hj => ?_)
  induction rs generalizing j with
  | nil => simp at hj
  | cons r rs ih =>
    unfold ruleL at h
    by_cases hr : r.1 = n
    · rw [if_pos hr] at h; cases h
    · rw [if_neg hr] at h
      cases j with
      | zero =>
        simp only [List.getElem?_cons_zero, Option.some.injEq] at hj
        subst hj
        exact beq_eq_false_iff_ne.2 hr
      | succ j => exact ih h j (by simpa using hj)
theorem ruleL_some {n : List UInt8} {l : List (List UInt8)} {rs : List RuleP} (h : ruleL rs n = some l) : ∃ k : Nat, rs[k]? = some (n, l) ∧ idxP (fun r : RuleP => r.1 == n) rs = (k : Int) := by
  induction rs with
  | nil => cases h
  | cons r rs ih =>
    unfold ruleL at h
    by_cases hr : r.1 = n
    · rw [if_pos hr] at h
      refine ⟨0, ?_, ?_⟩
      · show some r = some (n, l)
        rw [← hr, ← Option.some.inj h]
      · rw [idxP_cons, if_pos (beq_iff_eq.2 hr)]
        rfl
    · rw [if_neg hr] at h
      obtain ⟨k, h1, h2⟩ := ih h
      refine ⟨k + 1, by rw [List.getElem?_cons_succ]; exact h1, ?_⟩
      rw [idxP_cons, if_neg (by rw [beq_iff_eq]; exact hr), h2, if_neg (by omega)]
      simp

/-- what rule answers -/
def RuleV (W : World) (n : List UInt8) : Option (List (List UInt8)) → Value → Prop
  | none, v => v = .tuple #[.agg #[.string ⟨#[]⟩, .slice none 0 0], .bool false]
  | some l, v => ∃ u, v = .tuple #[.agg #[.string (bs n), u], .bool true] ∧ Words W u l

set_option maxHeartbeats 4000000 in
set_option maxRecDepth 100000 in
theorem rule_any (w0 : World) (b : Nat) (vr vs vd : Value) (P : PolP) (sk : List UInt8) (cnt : Nat) (x : ByteArray) (w : World) (h : SvAt w0 w b vr vs vd P sk cnt) (hF : P.Few) :
    Calls Tryd.prog 73 #[.pointer (some ⟨b, 0, none⟩), .string x] w fun e w' => ∃ v, e = .returned v ∧ RuleV w x.toList (ruleL P.rules x.toList) v ∧ Below w.heap.size w w' := by
  have hpol := h.cur
  obtain ⟨rp, rc, hvr, _, hrm, hcell⟩ := hpol.rules
  subst hvr
  have f1 := hF.rules
  -- the boxes
  obtain ⟨W1, hW1⟩ : ∃ W1, (w.alloc (.cells #[.string x] 9)).alloc (.cells #[.string ⟨#[]⟩, .slice none 0 0] 73) = W1 := ⟨_, rfl⟩
  have hB : Below w.heap.size w W1 := by rw [← hW1]; exact ((Below.refl w.heap.size w).alloc (Nat.le_refl _) _).alloc (by simp) _
  have b0 : W1.heap[w.heap.size]? = some (.cells #[.string x] 9 (0, 0)) := by rw [← hW1]; exact (Go.Lib.alloc_old _ _ _ (by simp)).trans (heap_alloc_new w _)
  have b1 : W1.heap[w.heap.size + 1]? = some (.cells #[.string ⟨#[]⟩, .slice none 0 0] 73 (0, 0)) := by rw [← hW1]; exact heap_two_new w _ _ _
  have hix := ruIndexFunc_any 111 #[.pointer (some ⟨w.heap.size, 0, none⟩)] (enters_of Tryd.func111 (by kernel_rfl) rfl) (fun r => r.1 == x.toList) (.slice rp P.rules.length rc) P.rules W1 (hpol.rules.below hB)
    (fun W r u _ hu hb => (ruleIs_any w.heap.size r u x W (cell_low (cell_at b0 (j := 0) rfl) hb (block_lt b0)) hu.shape).mono fun e w' q => ⟨q.1, hb.trans (q.2.mono hb.size)⟩)
  have c0 : W1.cell? ⟨b, 0, none⟩ = some (.slice rp P.rules.length rc) := cell_low (cell_at h.at_ rfl) hB (block_lt h.at_)
  have HC := hid hcell
  have HB := hid hB
  have HB1 := hid b1
  have HX := hid hix
  have HA := hid (cell_at h.at_ (j := 0) rfl)
  clear hcell hix hpol h hF b0 b1 hB
  go_enter Tryd.func73, Tryd.ntmps73
  go_upto_region 1 with fail
  go_wp2_with fail
  refine HX.out.mono ?_
  rintro e W2 ⟨rfl, hb2⟩
  have hb1 := (hb2.block _ (block_lt HB1.out)).trans HB1.out
  have hbel := HB.out.trans (hb2.mono HB.out.size)
  have d0 : W2.cell? ⟨b, 0, none⟩ = some (.slice rp P.rules.length rc) := cell_low c0 hb2 (cell_block c0)
  have z0 := cell_at hb1 (j := 0) rfl
  have z1 := cell_at hb1 (j := 1) rfl
  have y0 := free_at hb1 0
  have y1 := free_at hb1 1
  have hlo : w.heap.size < w.heap.size + 1 := by omega
  cases hr : ruleL P.rules x.toList with
  | none =>
    have hi := ruleL_none hr
    have HRR := hid hr
    have HF := hid (And.intro hb1 hbel)
    rw [hi]
    clear hr hi hb2 hbel hb1 HX HB HB1 hW1 c0 d0
    go_wp2_with fail
    have j0 := just_put (j := 0) (cs2 := #[.string ⟨#[]⟩, .slice none 0 0]) HF.out.1 (.string ⟨#[]⟩) (by simp)
    have j1 := just_put (j := 1) (cs2 := #[.string ⟨#[]⟩, .slice none 0 0]) j0.at_ (.slice none 0 0) (by simp)
    refine bodyPost_ret (v := .tuple #[.agg #[.string ⟨#[]⟩, .slice none 0 0], .bool false]) (results_two rfl _ _ _ _ _ _ _ rfl j1.at_ Tryd.underlying73 rfl (by kernel_rfl) _ rfl) rfl ⟨_, rfl, by rw [HRR.out]; rfl, ?_⟩
    exact (HF.out.2.trans (just_low j0 (by omega))).trans (just_low j1 (by omega))
  | some l =>
    obtain ⟨k, hk, hi⟩ := ruleL_some hr
    have HRR := hid hr
    obtain ⟨bb, o, u, rfl, q1, q2, q3⟩ := HC.out k _ hk
    have hkl := (List.getElem?_eq_some_iff.1 hk).1
    obtain ⟨up, uc, rfl, _⟩ := q3.len
    have HQ := hid q3
    have HF := hid (And.intro hb1 hbel)
    simp only at q1
    rw [bs_toList2] at q1
    replace q1 := cell_low q1 hbel (cell_block q1)
    replace q2 := cell_low q2 hbel (cell_block q2)
    rw [hi]
    have hxx := hid (bs_toList2 x)
    clear hr hi hb2 hbel hb1 HX HB HB1 hW1 c0 hk HC q3
    go_wp2_with fail
    have j0 := just_put (j := 0) (cs2 := #[.string x, .slice none 0 0]) HF.out.1 (.string x) (by simp)
    have j1 := just_put (j := 1) (cs2 := #[.string x, .slice up l.length uc]) j0.at_ (.slice up l.length uc) (by simp)
    refine bodyPost_ret (v := .tuple #[.agg #[.string x, .slice up l.length uc], .bool true]) (results_two rfl _ _ _ _ _ _ _ rfl j1.at_ Tryd.underlying73 rfl (by kernel_rfl) _ rfl) rfl ⟨_, rfl, by rw [HRR.out]; exact ⟨_, by rw [hxx.out], HQ.out⟩, ?_⟩
    exact (HF.out.2.trans (just_low j0 (by omega))).trans (just_low j1 (by omega))
end Go.Proofs.YtkcgmimldjeaiaaDoor

/-
  Package sieve: an attribute's value, the attributes that stay: their walks.
-/
namespace Go.Proofs.YtkcgmimldjeaiaaDoor
open Go.RowKit Go.Lib Own

/-- the value that an attribute is to have, and whether it stays -/
def valueA (schemes : List (List UInt8)) (a : AttrP) : List UInt8 × Bool := if isLinkL a.1 = true then linkL schemes a.2 else (a.2, true)
theorem keptA_cons (schemes listed seen : List (List UInt8)) (a : AttrP) (r : List AttrP) : keptA schemes listed seen (a :: r) =
    if listed.contains a.1 = false ∨ seen.contains a.1 = true then keptA schemes listed seen r else (if (valueA schemes a).2 = true then [(a.1, (valueA schemes a).1)] else []) ++ keptA schemes listed (seen ++ [a.1]) r := by
  rw [keptA]
  unfold valueA
  split
  · rfl
  · split
    · split <;> rfl
    · rfl
theorem ret_sb {a b : ByteArray} {x y : Bool} (h : a = b) (k : x = y) : Ending.returned (.tuple #[.string a, .bool x]) = .returned (.tuple #[.string b, .bool y]) := by rw [h, k]

set_option maxHeartbeats 4000000 in
set_option maxRecDepth 100000 in
theorem cleanValue_any (w0 : World) (b : Nat) (vr vs vd : Value) (P : PolP) (sk : List UInt8) (cnt : Nat) (a : AttrP) (w : World) (h : SvAt w0 w b vr vs vd P sk cnt) (ha : a.2.length ≤ 4000000) :
    Calls Tryd.prog 129 #[.pointer (some ⟨b, 0, none⟩), .agg #[.string (bs a.1), .string (bs a.2)]] w fun e w' => e = .returned (.tuple #[.string (bs (valueA P.schemes a).1), .bool (valueA P.schemes a).2]) ∧ Below w.heap.size w w' := by
  have hlk := fun W => isLink_any (bs a.1) W
  rw [bs_toList] at hlk
  have hB : Below w.heap.size w (w.alloc (.cells #[.string (bs a.1), .string (bs a.2)] 101)) := (Below.refl w.heap.size w).alloc (Nat.le_refl _) _
  have b0 := heap_alloc_new w (.cells #[.string (bs a.1), .string (bs a.2)] 101)
  obtain ⟨W1, hW1⟩ : ∃ W1, w.alloc (.cells #[.string (bs a.1), .string (bs a.2)] 101) = W1 := ⟨_, rfl⟩
  rw [hW1] at hB b0
  have hS1 := h.below hB
  obtain ⟨sp, sc, hvs, _⟩ := hS1.cur.schemes.len
  subst hvs
  have c1 := cell_at hS1.at_ (j := 1) rfl
  have hcl := fun W hW => cleanURL_any (.slice sp P.schemes.length sc) P.schemes (bs a.2) W hW (by rw [bs_size]; omega)
  rw [bs_data] at hcl
  have hw1 := hS1.cur.schemes
  have d0 := cell_at b0 (j := 0) rfl
  have d1 := cell_at b0 (j := 1) rfl
  unfold valueA
  obtain ⟨S1, hS1'⟩ : ∃ S, bs a.1 = S := ⟨_, rfl⟩
  obtain ⟨S2, hS2'⟩ : ∃ S, bs a.2 = S := ⟨_, rfl⟩
  rw [hS1', hS2'] at hW1
  rw [hS1'] at hlk d0
  rw [hS2'] at hcl d1
  have HB := hid hB
  have HS2 := hid hS2'
  rw [hS1', hS2']
  have HLK := hid hlk
  have HW1 := hid hw1
  clear hlk hS1 hB b0 h hS1' hS2' hw1
  by_cases hl : isLinkL a.1 = true
  · rw [if_pos hl]
    rw [hl] at HLK
    generalize linkL P.schemes a.2 = q at hcl ⊢
    obtain ⟨q1, q2⟩ := q
    simp only at hcl ⊢
    obtain ⟨Q, hQ⟩ : ∃ Q, bs q1 = Q := ⟨_, rfl⟩
    rw [hQ] at hcl ⊢
    have HCL := hid hcl
    clear hcl hQ HS2
    go_enter Tryd.func129, Tryd.ntmps129
    go_upto_region 1 with fail
    clear hW1
    go_wp2_with fail
    refine (HLK.out _).mono ?_
    rintro e W2 ⟨rfl, rfl⟩
    go_wp2_with fail
    go_region_with (first | (go_at_call 140; refine (HCL.out _ (by exact HW1.out)).mono ?_; rintro e W3 ⟨rfl, b3⟩; have HB3 : Hid (Below W2.heap.size W2 W3) := ⟨b3.os, b3.tape, b3.output, b3.size, b3.block⟩; clear b3))
    all_goals
      go_wp2_with fail
      go_ret2
      exact ⟨rfl, HB.out.trans (HB3.out.mono HB.out.size)⟩
  · rw [if_neg hl]
    rw [Bool.not_eq_true] at hl
    rw [hl] at HLK
    clear hcl HW1 c1
    simp only
    go_enter Tryd.func129, Tryd.ntmps129
    go_upto_region 1 with fail
    clear hW1
    go_wp2_with fail
    refine (HLK.out _).mono ?_
    rintro e W2 ⟨rfl, rfl⟩
    go_wp2_with fail
    go_ret2
    exact ⟨ret_sb HS2.out.symm rfl, HB.out⟩

set_option maxHeartbeats 8000000 in
set_option maxRecDepth 100000 in
theorem cleanAttrs_any (w0 : World) (b : Nat) (vr vs vd : Value) (P : PolP) (sk : List UInt8) (cnt : Nat) (rn : List UInt8) (ru : Value) (listed : List (List UInt8)) (av : Value) (al : List AttrP) (w : World) (h : SvAt w0 w b vr vs vd P sk cnt) (hr : Words w ru listed) (ha : AttrsR w av al) (hl : bulkA al ≤ 4000000) :
    Calls Tryd.prog 109 #[.pointer (some ⟨b, 0, none⟩), .agg #[.string (bs rn), ru], av] w fun e w' => ∃ v, e = .returned v ∧ w'.ownsRow w.heap.size 101 2 v (keptA P.schemes listed [] al).length (attrsV (keptA P.schemes listed [] al)) ∧ Below w.heap.size w w' := by
  obtain ⟨ap, ac, rfl, _, _, hcell, _⟩ := ha
  obtain ⟨rp, rc, rfl, _⟩ := hr.len
  obtain ⟨R, hR⟩ : ∃ R, keptA P.schemes listed [] al = R := ⟨_, rfl⟩
  have hRb : R.length ≤ 4000000 := by rw [← hR]; have := (keptA_bulk P.schemes listed al []).2; have := bulkA_len al; omega
  rw [hR]
  have hB : Below w.heap.size w (w.alloc (.cells #[.string (bs rn), .slice rp listed.length rc] 73)) := (Below.refl w.heap.size w).alloc (Nat.le_refl _) _
  have b0 := heap_alloc_new w (.cells #[.string (bs rn), .slice rp listed.length rc] 73)
  have H0 := hid (And.intro hB b0)
  have HS := hid h
  have HC := hid hcell
  have HW := hid hr
  have HR := hid (fun (_ : True) => (hR : [] ++ keptA P.schemes listed [] (al.drop 0) = R))
  have HRB := hid hRb
  have hall := bulkA_len al
  have hlen : al.length ≤ 4000000 := by omega
  have HL := hid hl
  obtain ⟨si, hsi, hs0, hs1, hs2⟩ := info_parts info_str
  obtain ⟨ai, hai, ha0, ha1, ha2⟩ := info_parts info_attr
  clear h hcell hr hR hB b0 hRb hall hl
  go_enter Tryd.func109, Tryd.ntmps109
  go_wp2_with fail
  go_loopw [7, 8, 15] (fun cv mv iv wr => ∃ (k : Nat) (kept : List AttrP) (seen : List (List UInt8)), iv = .int .i64 k ∧ k ≤ al.length ∧ Hid (wr.ownsRow w.heap.size 101 2 cv kept.length (attrsV kept) ∧ wr.ownsRow w.heap.size 9 1 mv seen.length (wordsV seen) ∧ Below w.heap.size w wr ∧ wr.heap[w.heap.size]? = some (.cells #[.string (bs rn), .slice rp listed.length rc] 73 (0, 0)) ∧ kept.length ≤ k ∧ seen.length ≤ k) ∧ Hid (True → kept ++ keptA P.schemes listed seen (al.drop k) = R)) (fun _ _ iv _ => al.length - (RowKit.intOf iv).toNat)
  case atStart => exact ⟨0, [], [], rfl, Nat.zero_le _, hid ⟨World.ownsRow_nil _ _ _ _, World.ownsRow_nil _ _ _ _, H0.out.1, H0.out.2, Nat.le_refl _, Nat.le_refl _⟩, HR⟩
  case round =>
    obtain ⟨k, kept, seen, rfl, hk, HX, HK⟩ := hrel
    obtain ⟨cp, cc, rfl⟩ := row_shape HX.out.1
    obtain ⟨mp, mc, rfl⟩ := row_shape HX.out.2.1
    clear H0 HR
    by_cases hkl : k < al.length
    · obtain ⟨a, hak⟩ : ∃ a, al[k]? = some a := ⟨_, List.getElem?_eq_getElem hkl⟩
      obtain ⟨bb, o, rfl, q1, q2⟩ := HC.out k a hak
      obtain ⟨hown, hmet, hbw, hbox, hkn, hsn⟩ := HX.out
      have hab := bulkA_get hak
      have hLL := HL.out
      replace q1 := cell_low q1 hbw (cell_block q1)
      replace q2 := cell_low q2 hbw (cell_block q2)
      have hd := HK.out trivial
      rw [drop_at hak, keptA_cons] at hd
      -- the box of the attribute
      obtain ⟨W1, hW1⟩ : ∃ W1, wr.alloc (.cells #[.string (bs a.1), .string (bs a.2)] 101) = W1 := ⟨_, rfl⟩
      have hb1 : Below wr.heap.size wr W1 := by rw [← hW1]; exact (Below.refl _ _).alloc (Nat.le_refl _) _
      have hn1 : W1.heap[wr.heap.size]? = some (.cells #[.string (bs a.1), .string (bs a.2)] 101 (0, 0)) := by rw [← hW1]; exact heap_alloc_new _ _
      have hbw1 := hbw.trans (hb1.mono hbw.size)
      have hbox1 := (hb1.block _ (block_lt hbox)).trans hbox
      have hown1 := row_below hown hb1
      have hmet1 := row_below hmet hb1
      have hmw : Words W1 (.slice mp seen.length mc) seen := Words.row hmet1
      have hct1 := slContains_any (.slice rp listed.length rc) listed (bs a.1) W1 (HW.out.below hbw1)
      have hct2 := slContains_any (.slice mp seen.length mc) seen (bs a.1) W1 hmw
      rw [bs_toList] at hct1 hct2
      have hcv := fun W hb => cleanValue_any w0 b vr vs vd P sk cnt a W (HS.out.below hb) (by omega)
      have d0 := cell_at hn1 (j := 0) rfl
      have d1 := cell_at hn1 (j := 1) rfl
      have e1 := cell_at hbox1 (j := 1) rfl
      have HCV := hid hcv
      have HCT1 := hid hct1
      have HCT2 := hid hct2
      have H1 := hid (And.intro hown1 (And.intro hmet1 (And.intro hbw1 (And.intro hbox1 hn1))))
      obtain ⟨c1, hc1⟩ : ∃ c1, listed.contains a.1 = c1 := ⟨_, rfl⟩
      obtain ⟨c2, hc2⟩ : ∃ c2, seen.contains a.1 = c2 := ⟨_, rfl⟩
      rw [hc1] at HCT1 hd
      rw [hc2] at HCT2 hd
      clear hcv hct1 hct2 hmw hown hmet hbw hbox hown1 hmet1 hbw1 hbox1 hn1 hb1 hak hab hLL hc1 hc2 HX HK HC
      go_upto_region 6 with fail
      clear hW1 q1 q2
      cases c1 with
      | false =>
        rw [if_pos (.inl rfl)] at hd
        have HD := hid (fun (_ : True) => hd)
        clear hd HCV HCT2
        go_wp2_with fail
        refine HCT1.out.mono ?_
        rintro r W2 ⟨rfl, rfl⟩
        go_wp2_with fail
        go_roundw
        case rel => exact ⟨k + 1, kept, seen, rfl, by omega, hid ⟨H1.out.1, H1.out.2.1, H1.out.2.2.1, H1.out.2.2.2.1, by omega, by omega⟩, HD⟩
        case measure => simp [RowKit.intOf]; omega
      | true =>
        go_wp2_with fail
        refine HCT1.out.mono ?_
        rintro r W2 ⟨rfl, rfl⟩
        cases c2 with
        | true =>
          rw [if_pos (.inr rfl)] at hd
          have HD := hid (fun (_ : True) => hd)
          clear hd HCV
          go_wp2_with fail
          refine HCT2.out.mono ?_
          rintro r W2 ⟨rfl, rfl⟩
          go_wp2_with fail
          go_roundw
          case rel => exact ⟨k + 1, kept, seen, rfl, by omega, hid ⟨H1.out.1, H1.out.2.1, H1.out.2.2.1, H1.out.2.2.2.1, by omega, by omega⟩, HD⟩
          case measure => simp [RowKit.intOf]; omega
        | false =>
          rw [if_neg (by simp)] at hd
          have HD := hid (fun (_ : True) => hd)
          clear hd
          go_wp2_with fail
          refine HCT2.out.mono ?_
          rintro r W2 ⟨rfl, rfl⟩
          obtain ⟨hown, hmet, hbw, hbox, hn1⟩ := H1.out
          have hbs := hbw.size
          have hbx := block_lt hn1
          clear HCT1 HCT2 e1
          go_wp2_with (at_builtin; refine wpList_append_own _ rfl (.tmp 31) (.tmp 34) 23 rfl w.heap.size 9 si (.string ⟨#[]⟩) 1 16 Tryd.underlying23 hsi hs0 hs1 hs2 rfl (by decide) _ _ _ rfl (hmet.alloc _) ⟨_, 0, none⟩ 1 1 [.string (bs a.1)] rfl rfl (cells_newV _ _ _) (by simp [Value.oneCell']) (by unfold maxLen; omega) (by omega) (by simp; omega) ?_)
          intro v3 W3 hown3 hgrow3 _
          have hma := hmet.alloc (.cells #[.string (bs a.1)] 9)
          have hn3 := grown_at hgrow3 ((Go.Lib.alloc_old _ (.cells #[.string (bs a.1)] 9) _ (block_lt hn1)).trans hn1) (row_ne hma ((Go.Lib.alloc_old _ _ _ (block_lt hn1)).trans hn1) (by decide))
          have hbox3 := grown_at hgrow3 ((Go.Lib.alloc_old _ (.cells #[.string (bs a.1)] 9) _ (block_lt hbox)).trans hbox) (row_ne hma ((Go.Lib.alloc_old _ _ _ (block_lt hbox)).trans hbox) (by decide))
          have hown3k := (hown.alloc (.cells #[.string (bs a.1)] 9)).kept hgrow3 (rows_ne (hown.alloc _) hma (by decide))
          have hbw3 := (hbw.alloc hbs (.cells #[.string (bs a.1)] 9)).grown hgrow3 (by simp; omega) (fun k hk => (hma.lt k hk).1)
          have hcv := HCV.out W3 (by
            refine ⟨hbw3.os, hbw3.tape, hbw3.output, hbw3.size, hbw3.block⟩)
          have hmet3 : W3.ownsRow w.heap.size 9 1 v3 (seen ++ [a.1]).length (wordsV (seen ++ [a.1])) := by
            rw [List.length_append, wordsV_app]
            exact hown3
          obtain ⟨vp3, vc3, rfl⟩ := row_shape hown3
          have d0 := cell_at hn3 (j := 0) rfl
          have d1 := cell_at hn3 (j := 1) rfl
          have HD3 := hid (And.intro hown3k (And.intro hmet3 (And.intro hbw3 (And.intro hbox3 hn3))))
          generalize valueA P.schemes a = q at hcv HD
          obtain ⟨x1, x2⟩ := q
          simp only at hcv HD
          obtain ⟨X, hX⟩ : ∃ X, bs x1 = X := ⟨_, rfl⟩
          rw [hX] at hcv
          have HCV3 := hid hcv
          have HXX := hid hX
          clear hma hn3 hbox3 hown3k hbw3 hcv hmet3 hown3 hgrow3 hown hmet hbw hbox hn1 H1 HCV hX
          go_wp2_with fail
          refine HCV3.out.mono ?_
          rintro r W4 ⟨rfl, b4⟩
          obtain ⟨hown3k, hmet3, hbw3, hbox3, hn3⟩ := HD3.out
          have hown4 := row_below hown3k b4
          have hmet4 := row_below hmet3 b4
          have hbw4 := hbw3.trans (b4.mono hbw3.size)
          have hbox4 := (b4.block _ (block_lt hbox3)).trans hbox3
          have hn4 := (b4.block _ (block_lt hn3)).trans hn3
          replace d0 := cell_at hn4 (j := 0) rfl
          have hsl : (seen ++ [a.1]).length = seen.length + 1 := by rw [List.length_append]; rfl
          have HSL := hid hsl
          clear hown3k hmet3 hbw3 hbox3 hn3 b4 d1 HD3 HCV3 hsl
          cases x2 with
          | false =>
            have HD4 := hid (fun (_ : True) => (by have := HD.out trivial; rwa [if_neg (by simp), List.nil_append] at this : kept ++ keptA P.schemes listed (seen ++ [a.1]) (al.drop (k + 1)) = R))
            have HZ := hid (And.intro hown4 (And.intro hmet4 (And.intro hbw4 (And.intro hbox4 (And.intro (show kept.length ≤ k + 1 by omega) (show (seen ++ [a.1]).length ≤ k + 1 by rw [HSL.out]; omega))))))
            clear hown4 hmet4 hbw4 hbox4 hn4 HD d0
            go_wp2_with fail
            go_roundw
            case rel => exact ⟨k + 1, kept, seen ++ [a.1], rfl, by omega, HZ, HD4⟩
            case measure => simp [RowKit.intOf]; omega
          | true =>
            have HD4 := hid (fun (_ : True) => (by have := HD.out trivial; rwa [if_pos rfl, ← List.append_assoc] at this : (kept ++ [(a.1, x1)]) ++ keptA P.schemes listed (seen ++ [a.1]) (al.drop (k + 1)) = R))
            have hbs4 := hbw4.size
            clear HD
            go_wp2_with (at_builtin; refine wpList_append_own _ rfl (.tmp 43) (.tmp 48) 37 rfl w.heap.size 101 ai (.agg #[.string ⟨#[]⟩, .string ⟨#[]⟩]) 2 32 Tryd.underlying37 hai ha0 ha1 ha2 rfl (by decide) _ _ _ rfl (hown4.alloc _) ⟨_, 0, none⟩ 1 1 [.string (bs a.1), .string X] rfl rfl (cells_newV _ _ _) (by simp [Value.oneCell']) (by unfold maxLen; omega) (by omega) (by simp; omega) ?_)
            intro v5 W5 hown5 hgrow5 _
            have hma := hown4.alloc (.cells #[.string (bs a.1), .string X] 101)
            have hbox5 := grown_at hgrow5 ((Go.Lib.alloc_old _ (.cells #[.string (bs a.1), .string X] 101) _ (block_lt hbox4)).trans hbox4) (row_ne hma ((Go.Lib.alloc_old _ _ _ (block_lt hbox4)).trans hbox4) (by decide))
            have hmet5 := (hmet4.alloc (.cells #[.string (bs a.1), .string X] 101)).kept hgrow5 (rows_ne (hmet4.alloc _) hma (by decide))
            have hbw5 := (hbw4.alloc hbs4 (.cells #[.string (bs a.1), .string X] 101)).grown hgrow5 (by simp; omega) (fun k hk => (hma.lt k hk).1)
            have hkept5 : W5.ownsRow w.heap.size 101 2 v5 (kept ++ [(a.1, x1)]).length (attrsV (kept ++ [(a.1, x1)])) := by
              rw [List.length_append, attrsV_app, show attrsV [(a.1, x1)] = [.string (bs a.1), .string X] by rw [← HXX.out]; rfl]
              exact hown5
            have HZ := hid (And.intro hkept5 (And.intro hmet5 (And.intro hbw5 (And.intro hbox5 (And.intro (show (kept ++ [(a.1, x1)]).length ≤ k + 1 by rw [List.length_append]; simp; omega) (show (seen ++ [a.1]).length ≤ k + 1 by rw [HSL.out]; omega))))))
            clear hown4 hmet4 hbw4 hbox4 hn4 d0 hma hbox5 hmet5 hbw5 hkept5 hown5 hgrow5
            go_wp2
            go_roundw
            case rel => exact ⟨k + 1, _, _, rfl, by omega, HZ, HD4⟩
            case measure => simp [RowKit.intOf]; omega
    · obtain rfl : kept = R := by
        have := HK.out trivial
        rw [List.drop_of_length_le (by omega)] at this
        rwa [show keptA P.schemes listed seen [] = [] by rw [keptA], List.append_nil] at this
      have HZ := hid (And.intro HX.out.1 HX.out.2.2.1)
      clear HK HX HC HS HW
      go_wp2_with fail
      go_ret
      exact ⟨_, rfl, HZ.out.1, HZ.out.2⟩
end Go.Proofs.YtkcgmimldjeaiaaDoor

/-
  Package sieve: an event within a skip, a Start outside of one: their walks.
-/
namespace Go.Proofs.YtkcgmimldjeaiaaDoor
open Go.RowKit Go.Lib Own

def zeroEv : Array Value := #[.int .i64 0, .string ⟨#[]⟩, .slice none 0 0, .string ⟨#[]⟩]
/-- what is left of an event -/
def TakeV (W : World) (base : Nat) : Option Ev → Value → Prop
  | none, v => v = .tuple #[.agg zeroEv, .bool false]
  | some ev, v => ∃ k n p m c t, v = .tuple #[.agg #[.int .i64 k, .string n, .slice p m c, .string t], .bool true] ∧ EvsAt W base [.int .i64 k, .string n, .slice p m c, .string t] [ev]

theorem grown_drewN {w W : World} {r : Option Nat} (h : w.grownBy W r) (q : Nat) : w.grownBy (W.drewN q) r := ⟨h.os, h.tape, h.output, h.size, h.block⟩
theorem int_ne' {a b : Int} (h : a ≠ b) : (a == b) = false := beq_eq_false_iff_ne.2 h
theorem sieve_cells {W : World} {b : Nat} {vr vs vd : Value} {P : PolP} {sk : List UInt8} {n : Nat} (h : W.heap[b]? = some (.cells (sieveC vr vs vd P sk n) 119 (0, 0))) :
    W.cell? ⟨b, 2, none⟩ = some vd ∧ W.cell? ⟨b, 4, none⟩ = some (.int .i64 P.window) ∧ W.cell? ⟨b, 5, none⟩ = some (.string (bs sk)) ∧ W.cell? ⟨b, 6, none⟩ = some (.int .i64 n) ∧ W.frozen? ⟨b, 5, none⟩ = false ∧ W.frozen? ⟨b, 6, none⟩ = false :=
  ⟨cell_at h rfl, cell_at h rfl, cell_at h rfl, cell_at h rfl, free_at h 5, free_at h 6⟩
theorem sieve_count {W : World} {b : Nat} {vr vs vd : Value} {P : PolP} {sk : List UInt8} {n : Nat} (h : W.heap[b]? = some (.cells (sieveC vr vs vd P sk n) 119 (0, 0))) (m : Nat) : Just W (W.setCell ⟨b, 6, none⟩ (.int .i64 m)) b (sieveC vr vs vd P sk m) 119 :=
  just_put h _ (by unfold sieveC; simp)
theorem sieve_begin {W : World} {b : Nat} {vr vs vd : Value} {P : PolP} {sk : List UInt8} {n : Nat} (h : W.heap[b]? = some (.cells (sieveC vr vs vd P sk n) 119 (0, 0))) (x : ByteArray) (m : Nat) : Just W ((W.setCell ⟨b, 5, none⟩ (.string x)).setCell ⟨b, 6, none⟩ (.int .i64 m)) b (sieveC vr vs vd P x.data.toList m) 119 := by
  have h0 := just_put (j := 5) (cs2 := sieveC vr vs vd P x.data.toList n) h (.string x) (by unfold sieveC; simp [bs_of])
  exact h0.andThen (sieve_count h0.at_ m)

set_option maxHeartbeats 4000000 in
set_option maxRecDepth 100000 in
theorem sieveSkip_any (w0 : World) (b : Nat) (vr vs vd : Value) (P : PolP) (sk : List UInt8) (cnt : Nat) (e : EvP) (u : Value) (w : World) (h : SvAt w0 w b vr vs vd P sk cnt) (hu : ∃ p n c, u = .slice p n c) (hc0 : 0 < cnt) (hc : cnt ≤ 1000000000) :
    Calls Tryd.prog 71 #[.pointer (some ⟨b, 0, none⟩), .agg (evC e u)] w fun r w' => r = .returned (.tuple #[]) ∧ w'.heap[b]? = some (.cells (sieveC vr vs vd P sk (skipF (sk, cnt) e)) 119 (0, 0)) ∧ w.grownBy w' (some b) := by
  obtain ⟨p, n, c, rfl⟩ := hu
  have hB : Below w.heap.size w (w.alloc (.cells (evC e (.slice p n c)) 39)) := (Below.refl w.heap.size w).alloc (Nat.le_refl _) _
  have b0 := heap_alloc_new w (.cells (evC e (.slice p n c)) 39)
  obtain ⟨W1, hW1⟩ : ∃ W1, w.alloc (.cells (evC e (.slice p n c)) 39) = W1 := ⟨_, rfl⟩
  rw [hW1] at hB b0
  have hS1 := (h.below hB).at_
  obtain ⟨-, -, c5, c6, -, f6⟩ := sieve_cells hS1
  obtain ⟨d0, d1, -, -⟩ := evC_at b0
  have hne1 := bs_toList e.n
  have hne2 := bs_toList sk
  unfold evC at hW1 ⊢
  obtain ⟨N, hN⟩ : ∃ N, bs e.n = N := ⟨_, rfl⟩
  obtain ⟨S, hS⟩ : ∃ S, bs sk = S := ⟨_, rfl⟩
  rw [hN] at d1 hne1
  rw [hS] at c5 hne2
  simp only [hN] at hW1 ⊢
  have hg1 := grown_below hB (some b)
  have HX := hid (And.intro hS1 hg1)
  have fin : ∀ (m q : Nat), Hid (Just (W1.drewN q) ((W1.drewN q).setCell ⟨b, 6, none⟩ (.int .i64 m)) b (sieveC vr vs vd P sk m) 119) := fun m q => sieve_count (by exact hS1) m
  clear hS1 hg1 hN hS hB b0 h
  by_cases q : e.n = sk
  · have q2 : (N.toList == S.toList) = true := by rw [hne1, hne2, q]; simp
    have hsz : cnt < 9223372036854775807 := by omega
    by_cases k1 : e.k = 1
    · have es : skipF (sk, cnt) e = cnt + 1 := by unfold skipF; rw [if_pos ⟨q, k1⟩]
      rw [es]
      rw [k1] at d0 hW1
      simp only [k1]
      have FIN := fin (cnt + 1)
      clear hne1 hne2 q es k1 fin
      go_enter Tryd.func71, Tryd.ntmps71
      go_upto_region 1 with fail
      clear hW1
      go_quiet (fail)
      go_wp2
      go_end0
      have hj := (FIN nq).out
      exact ⟨rfl, hj.at_, (grown_drewN HX.out.2 nq).trans (just_grown hj)⟩
    · have n1 := int_ne' k1
      by_cases k2 : e.k = 2
      · have es : skipF (sk, cnt) e = cnt - 1 := by unfold skipF; rw [if_neg (fun h => k1 h.2), if_pos ⟨q, k2⟩]
        rw [es]
        rw [k2] at d0 hW1 n1
        simp only [k2]
        have FIN := fin (cnt - 1)
        have hcc : ((cnt - 1 : Nat) : Int) = (cnt : Int) - 1 := by omega
        rw [hcc] at FIN
        clear hne1 hne2 q es k1 k2 fin hcc
        go_enter Tryd.func71, Tryd.ntmps71
        go_upto_region 1 with fail
        clear hW1
        go_quiet (fail)
        go_wp2
        go_end0
        have hj := (FIN nq).out
        exact ⟨rfl, hj.at_, (grown_drewN HX.out.2 nq).trans (just_grown hj)⟩
      · have n2 := int_ne' k2
        have es : skipF (sk, cnt) e = cnt := by unfold skipF; rw [if_neg (fun h => k1 h.2), if_neg (fun h => k2 h.2)]
        rw [es]
        clear hne1 hne2 q es k1 k2 fin
        go_enter Tryd.func71, Tryd.ntmps71
        go_upto_region 1 with fail
        clear hW1
        go_quiet (fail)
        go_wp2
        go_end0
        exact ⟨rfl, HX.out.1, grown_drewN HX.out.2 nq⟩
  · have q2 : (N.toList == S.toList) = false := by rw [hne1, hne2]; exact beq_eq_false_iff_ne.2 q
    have es : skipF (sk, cnt) e = cnt := by unfold skipF; rw [if_neg (fun h => q h.1), if_neg (fun h => q h.1)]
    rw [es]
    clear hne1 hne2 q es fin
    go_enter Tryd.func71, Tryd.ntmps71
    go_upto_region 1 with fail
    clear hW1
    go_quiet (fail)
    go_wp2
    go_end0
    exact ⟨rfl, HX.out.1, grown_drewN HX.out.2 nq⟩
end Go.Proofs.YtkcgmimldjeaiaaDoor

/-
  Package sieve: a Start outside of a skip: its walk.
-/
namespace Go.Proofs.YtkcgmimldjeaiaaDoor
open Go.RowKit Go.Lib Own

theorem zero_just {W : World} {b : Nat} {a0 a1 a2 a3 p0 p1 p2 p3 : Value} {T : TypeId} (h : W.heap[b]? = some (.cells #[a0, a1, a2, a3] T (0, 0))) :
    Just W ((((W.setCell ⟨b, 0, none⟩ p0).setCell ⟨b, 1, none⟩ p1).setCell ⟨b, 2, none⟩ p2).setCell ⟨b, 3, none⟩ p3) b #[p0, p1, p2, p3] T := by
  have h0 := just_put (j := 0) (cs2 := #[p0, a1, a2, a3]) h p0 (by simp)
  have h1 := just_put (j := 1) (cs2 := #[p0, p1, a2, a3]) h0.at_ p1 (by simp)
  have h2 := just_put (j := 2) (cs2 := #[p0, p1, p2, a3]) h1.at_ p2 (by simp)
  have h3 := just_put (j := 3) (cs2 := #[p0, p1, p2, p3]) h2.at_ p3 (by simp)
  exact ((h0.andThen h1).andThen h2).andThen h3
/-- where a call's own boxes stand: the event's, the answer's, and the Sieve's cells -/
structure StA (w W : World) (b : Nat) (e : EvP) (u : Value) (cs : Array Value) : Prop where
  g : w.grownBy W (some b)
  s : W.heap[b]? = some (.cells cs 119 (0, 0))
  b0 : W.heap[w.heap.size]? = some (.cells (evC e u) 39 (0, 0))
  b1 : W.heap[w.heap.size + 1]? = some (.cells zeroEv 39 (0, 0))
  bb : b < w.heap.size
theorem StA.below {w W W' : World} {b : Nat} {e : EvP} {u : Value} {cs : Array Value} (h : StA w W b e u cs) (hb : Below W.heap.size W W') : StA w W' b e u cs :=
  ⟨h.g.trans (grown_below hb _), (hb.block _ (block_lt h.s)).trans h.s, (hb.block _ (block_lt h.b0)).trans h.b0, (hb.block _ (block_lt h.b1)).trans h.b1, h.bb⟩
theorem StA.drewN {w W : World} {b : Nat} {e : EvP} {u : Value} {cs : Array Value} (h : StA w W b e u cs) (q : Nat) : StA w (W.drewN q) b e u cs := ⟨grown_drewN h.g q, h.s, h.b0, h.b1, h.bb⟩
/-- the answer is written -/
theorem StA.done {w W : World} {b : Nat} {e : EvP} {u : Value} {cs : Array Value} (h : StA w W b e u cs) (p0 p1 p2 p3 : Value) :
    Hid (((((W.setCell ⟨w.heap.size + 1, 0, none⟩ p0).setCell ⟨w.heap.size + 1, 1, none⟩ p1).setCell ⟨w.heap.size + 1, 2, none⟩ p2).setCell ⟨w.heap.size + 1, 3, none⟩ p3).heap[w.heap.size + 1]? = some (.cells #[p0, p1, p2, p3] 39 (0, 0)) ∧
      ((((W.setCell ⟨w.heap.size + 1, 0, none⟩ p0).setCell ⟨w.heap.size + 1, 1, none⟩ p1).setCell ⟨w.heap.size + 1, 2, none⟩ p2).setCell ⟨w.heap.size + 1, 3, none⟩ p3).heap[b]? = some (.cells cs 119 (0, 0)) ∧
      w.grownBy ((((W.setCell ⟨w.heap.size + 1, 0, none⟩ p0).setCell ⟨w.heap.size + 1, 1, none⟩ p1).setCell ⟨w.heap.size + 1, 2, none⟩ p2).setCell ⟨w.heap.size + 1, 3, none⟩ p3) (some b)) := by
  have hb1 := h.b1
  unfold zeroEv at hb1
  have j := zero_just (p0 := p0) (p1 := p1) (p2 := p2) (p3 := p3) hb1
  have hbb := h.bb
  refine ⟨j.at_, (j.other b (by omega)).trans h.s, ?_⟩
  have hg := h.g
  exact ⟨j.os.trans hg.os, j.tape.trans hg.tape, j.output.trans hg.output, by rw [j.size]; exact hg.size, fun k hk hne => (j.other k (by omega)).trans (hg.block k hk hne)⟩
theorem StA.cells {w W : World} {b : Nat} {e : EvP} {u : Value} {cs : Array Value} (h : StA w W b e u cs) :
    W.cell? ⟨w.heap.size + 1, 0, none⟩ = some (.int .i64 0) ∧ W.cell? ⟨w.heap.size + 1, 1, none⟩ = some (.string ⟨#[]⟩) ∧ W.cell? ⟨w.heap.size + 1, 2, none⟩ = some (.slice none 0 0) ∧ W.cell? ⟨w.heap.size + 1, 3, none⟩ = some (.string ⟨#[]⟩) ∧
    W.frozen? ⟨w.heap.size + 1, 0, none⟩ = false ∧ W.frozen? ⟨w.heap.size + 1, 1, none⟩ = false ∧ W.frozen? ⟨w.heap.size + 1, 2, none⟩ = false ∧ W.frozen? ⟨w.heap.size + 1, 3, none⟩ = false :=
  ⟨cell_at h.b1 rfl, cell_at h.b1 rfl, cell_at h.b1 rfl, cell_at h.b1 rfl, free_at h.b1 0, free_at h.b1 1, free_at h.b1 2, free_at h.b1 3⟩

set_option maxHeartbeats 8000000 in
set_option maxRecDepth 100000 in
theorem start_any (w0 : World) (b : Nat) (vr vs vd : Value) (P : PolP) (sk : List UInt8) (e : EvP) (u : Value) (m : Int) (w : World) (h : SvAt w0 w b vr vs vd P sk 0) (hF : P.Few) (hu : AttrsR w u e.a) (hs : e.n.length + bulkA e.a ≤ 4000000) (hk : e.k = 1)
    (hm : w.cell? ⟨10, 0, none⟩ = some (.int .i64 m)) :
    Calls Tryd.prog 72 #[.pointer (some ⟨b, 0, none⟩), .agg (evC e u)] w fun r w' => ∃ v, r = .returned v ∧ TakeV w' w.heap.size (sieveL P (sk, 0) e).2 v ∧ w'.heap[b]? = some (.cells (sieveC vr vs vd P (sieveL P (sk, 0) e).1.1 (sieveL P (sk, 0) e).1.2) 119 (0, 0)) ∧ w.grownBy w' (some b) := by
  obtain ⟨up, uc, rfl⟩ := hu.len
  have f3 := hF.drop
  have w0' := hF.w0
  have w1' := hF.w1
  obtain ⟨W1, hW1⟩ : ∃ W1, (w.alloc (.cells (evC e (.slice up e.a.length uc)) 39)).alloc (.cells zeroEv 39) = W1 := ⟨_, rfl⟩
  have hB : Below w.heap.size w W1 := by rw [← hW1]; exact ((Below.refl w.heap.size w).alloc (Nat.le_refl _) _).alloc (by simp) _
  have hA : StA w W1 b e (.slice up e.a.length uc) (sieveC vr vs vd P sk 0) := by
    refine ⟨grown_below hB _, (hB.block b (block_lt h.at_)).trans h.at_, ?_, ?_, block_lt h.at_⟩
    · rw [← hW1]; exact (Go.Lib.alloc_old _ _ _ (by simp)).trans (heap_alloc_new w _)
    · rw [← hW1]; exact heap_two_new w _ _ _
  have hS1 := h.below hB
  obtain ⟨dp, dc, hvd, _⟩ := hS1.cur.drop.len
  subst hvd
  have hct := fun q => slContains_any (.slice dp P.drop.length dc) P.drop (bs e.n) (W1.drewN q) (hS1.cur.drop.drewN q)
  rw [bs_toList] at hct
  have hru := fun q => rule_any w0 b vr vs (.slice dp P.drop.length dc) P sk 0 (bs e.n) (W1.drewN q) ⟨hS1.at_, hS1.pol, ⟨hS1.be.os, hS1.be.tape, hS1.be.output, hS1.be.size, hS1.be.block⟩, hS1.lo⟩ hF
  rw [bs_toList] at hru
  have hcl := fun W (hb : Below W1.heap.size W1 W) ru listed (hr : Words W ru listed) => cleanAttrs_any w0 b vr vs (.slice dp P.drop.length dc) P sk 0 e.n ru listed (.slice up e.a.length uc) e.a W (hS1.below hb) hr ((hu.below hB).below hb) (by omega)
  have hst := fun W v al (ha : AttrsR W v al) (hbk : bulkA al ≤ bulkA e.a) hmm => startTag_any (bs e.n) v al m W (by rw [bs_size]; omega) ha (by omega) hmm
  rw [bs_data] at hst
  obtain ⟨d0, d1, d2, d3⟩ := evC_at hA.b0
  obtain ⟨c2, c4, c5, c6, f5, f6⟩ := sieve_cells hA.s
  obtain ⟨z0, z1, z2, z3, y0, y1, y2, y3⟩ := hA.cells
  have HA := hid hA
  have HM := hid (cell_low hm hB (cell_block hm))
  have HRU := hid hru
  have HCL := hid hcl
  have HST := hid hst
  have e1 : sieveL P (sk, 0) e = if P.drop.contains e.n = true then ((e.n, 1), none) else ((sk, 0), ruledF P e) := by
    unfold sieveL outL
    rw [if_neg (Nat.lt_irrefl 0), if_pos hk]
    by_cases hd : P.drop.contains e.n = true
    · rw [if_pos ⟨hk, hd⟩, if_pos hd]
    · rw [if_neg (fun h => hd h.2), if_neg hd]
  rw [e1]
  rw [hk] at d0
  obtain ⟨ro, hro⟩ : ∃ ro, ruledF P e = ro := ⟨_, rfl⟩
  rw [hro]
  have HRO := hid hro
  clear hro
  obtain ⟨cd, hcd⟩ : ∃ cd, P.drop.contains e.n = cd := ⟨_, rfl⟩
  rw [hcd] at hct ⊢
  have hnb := bs_data e.n
  obtain ⟨N, hN⟩ : ∃ N, bs e.n = N := ⟨_, rfl⟩
  rw [hN] at hct hnb d1
  simp only [hN] at HRU HST
  unfold evC zeroEv at hW1
  unfold evC
  simp only [hN] at hW1 ⊢
  simp only [hk] at hW1 ⊢
  have HCT := hid hct
  have HNB := hid hnb
  have HNN := hid hN
  clear hct hnb hN hcd e1 hA hS1 hru hcl hst h hu hF hm hB d3
  go_enter Tryd.func72, Tryd.ntmps72
  go_upto_region 1 with fail
  clear hW1
  go_quiet (first | (go_at_call 102; exact Calls.quiet_of_same (HCT.out _)))
  have HAq := HA.out.drewN nq
  cases cd with
  | true =>
    have hj := sieve_begin HAq.s N 1
    have hA2 : StA w (((W1.drewN nq).setCell ⟨b, 5, none⟩ (.string N)).setCell ⟨b, 6, none⟩ (.int .i64 (1 : Nat))) b e (.slice up e.a.length uc) (sieveC vr vs (.slice dp P.drop.length dc) P N.data.toList 1) :=
      ⟨HAq.g.trans (just_grown hj), hj.at_, (hj.other _ (by have := HAq.bb; omega)).trans HAq.b0, (hj.other _ (by have := HAq.bb; omega)).trans HAq.b1, HAq.bb⟩
    have HA2 := hid hA2
    clear hj hA2 HAq HRU HCL HST HM HA HCT
    go_upto_region 3 with fail
    obtain ⟨W3, hW3⟩ : ∃ W3, ((W1.drewN nq).setCell ⟨b, 5, none⟩ (.string N)).setCell ⟨b, 6, none⟩ (.int .i64 (1 : Nat)) = W3 := ⟨_, rfl⟩
    have hW3' : ((W1.drewN nq).setCell ⟨b, 5, none⟩ (.string N)).setCell ⟨b, 6, none⟩ (.int .i64 1) = W3 := hW3
    rw [hW3] at HA2
    simp only [hW3']
    clear hW3 hW3' z0 z1 z2 z3 y0 y1 y2 y3 c2 c4 c5 c6 f5 f6 d0 d1 d2
    obtain ⟨z0, z1, z2, z3, y0, y1, y2, y3⟩ := HA2.out.cells
    have HD := HA2.out.done (.int .i64 0) (.string ⟨#[]⟩) (.slice none 0 0) (.string ⟨#[]⟩)
    go_wp2_with fail
    refine bodyPost_ret (v := .tuple #[.agg zeroEv, .bool false]) (results_two rfl _ _ _ _ _ _ _ rfl HD.out.1 Tryd.underlying39 rfl (by kernel_rfl) _ rfl) rfl ⟨_, rfl, rfl, ?_, HD.out.2.2⟩
    have := HD.out.2.1
    rw [HNB.out] at this
    exact this
  | false =>
    clear HCT HA c5 c6 f5 f6
    go_wp2_with fail
    refine (HRU.out nq).mono ?_
    rintro r W2 ⟨rv, rfl, hrv, b2⟩
    have hA2 := HAq.below b2
    have b2' : Below W1.heap.size W1 W2 := ⟨b2.os, b2.tape, b2.output, b2.size, b2.block⟩
    have HM2 := hid (cell_low HM.out b2' (cell_block HM.out))
    clear HAq HM HRU z0 z1 z2 z3 y0 y1 y2 y3 c2 c4 d0 d1 d2
    cases hrl : ruleL P.rules e.n with
    | none =>
      rw [hrl] at hrv
      obtain rfl : rv = _ := hrv
      obtain rfl : ro = none := HRO.out.symm.trans (ruledF_none hrl)
      have hA3 : StA w (W2.alloc (.cells #[.string ⟨#[]⟩, .slice none 0 0] 73)) b e (.slice up e.a.length uc) (sieveC vr vs (.slice dp P.drop.length dc) P sk 0) := hA2.below ((Below.refl _ _).alloc (Nat.le_refl _) _)
      obtain ⟨z0, z1, z2, z3, y0, y1, y2, y3⟩ := hA3.cells
      have HD := hA3.done (.int .i64 0) (.string ⟨#[]⟩) (.slice none 0 0) (.string ⟨#[]⟩)
      clear hA2 hA3 hrl HM2 HCL HST b2 b2'
      go_wp2_with fail
      refine bodyPost_ret (v := .tuple #[.agg zeroEv, .bool false]) (results_two rfl _ _ _ _ _ _ _ rfl HD.out.1 Tryd.underlying39 rfl (by kernel_rfl) _ rfl) rfl ⟨_, rfl, rfl, HD.out.2⟩
    | some l =>
      rw [hrl] at hrv
      obtain ⟨ru, rfl, hwr⟩ := hrv
      have HRL := hid hrl
      obtain ⟨rp, rc, rfl, _⟩ := hwr.len
      have hwr2 : Words W2 (.slice rp l.length rc) l := hwr.below b2
      obtain ⟨W3, hW3⟩ : ∃ W3, W2.alloc (.cells #[.string (bs e.n), .slice rp l.length rc] 73) = W3 := ⟨_, rfl⟩
      have hb3 : Below W2.heap.size W2 W3 := by rw [← hW3]; exact (Below.refl _ _).alloc (Nat.le_refl _) _
      have hA3 := hA2.below hb3
      have hb13 := b2'.trans (hb3.mono b2'.size)
      have hcl := HCL.out W3 hb13 (.slice rp l.length rc) l (hwr2.below hb3)
      rw [HNN.out] at hcl
      obtain ⟨d0, d1, d2, -⟩ := evC_at hA3.b0
      have hr3 : W3.heap[W2.heap.size]? = some (.cells #[.string (bs e.n), .slice rp l.length rc] 73 (0, 0)) := by rw [← hW3]; exact heap_alloc_new _ _
      have r0 := cell_at hr3 (j := 0) rfl
      have r1 := cell_at hr3 (j := 1) rfl
      simp only [HNN.out] at hW3 r0 ⊢
      have HA3 := hid hA3
      have HM3 := hid (cell_low HM2.out hb3 (cell_block HM2.out))
      have HCL3 := hid hcl
      clear hA2 hA3 hrl HM2 HCL b2 b2' hb3 hb13 hcl hwr hwr2 hr3
      go_upto_region 7 with fail
      clear hW3
      go_wp2_with fail
      refine HCL3.out.mono ?_
      rintro r W4 ⟨av, rfl, hrow, b4⟩
      have hA4 := HA3.out.below b4
      have hkb := keptA_bulk P.schemes l e.a []
      have hat := attrsR_row hrow
      have hrow4 := row_low hrow HA3.out.g.size
      have hsf : ro = startF P e l := HRO.out.symm.trans (ruledF_some HRL.out)
      unfold startF at hsf
      generalize keptA P.schemes l [] e.a = K at hrow hkb hat hrow4 hsf
      obtain ⟨kp, kc, rfl⟩ := row_shape hrow
      have hm4 := cell_low HM3.out b4 (cell_block HM3.out)
      have hst := fun W (hb : Below W4.heap.size W4 W) => HST.out W (.slice kp K.length kc) K (hat.below hb) hkb.1 (cell_low hm4 hb (cell_block hm4))
      obtain ⟨S, hS⟩ : ∃ S, bs (openL e.n K) = S := ⟨_, rfl⟩
      have hSz : S.size = (openL e.n K).length := by rw [← hS, bs_size]
      rw [← hSz] at hsf
      simp only [hS] at hst
      have HST4 := hid hst
      obtain ⟨d0, d1, d2, -⟩ := evC_at hA4.b0
      rw [HNN.out] at d1
      obtain ⟨c2, c4, c5, c6, f5, f6⟩ := sieve_cells hA4.s
      obtain ⟨z0, z1, z2, z3, y0, y1, y2, y3⟩ := hA4.cells
      have HR4 := hid hrow4
      have HA4 := hid hA4
      have HSF := hid hsf
      clear hrow hkb hat hrow4 hsf hm4 hst hS hSz hA4 b4 HA3 HM3 HCL3 HST c2 c5 c6 f5 f6 r0 r1
      go_upto_region 8 with fail
      go_region_with (first | (go_at_call 110; refine (HST4.out _ (by exact ⟨rfl, rfl, rfl, Nat.le_refl _, fun _ _ => rfl⟩)).mono ?_; rintro r W5 ⟨rfl, b5⟩; have HB5 : Hid (Below W4.heap.size W4 W5) := ⟨b5.os, b5.tape, b5.output, b5.size, b5.block⟩; clear b5; obtain ⟨d0, d1, d2, -⟩ := evC_at (HA4.out.below HB5.out).b0; rw [HNN.out] at d1; have c4 := (sieve_cells (HA4.out.below HB5.out).s).2.1))
      all_goals
        have hA5 := HA4.out.below HB5.out
        have hrow5 := row_below HR4.out HB5.out
        clear z0 z1 z2 z3 y0 y1 y2 y3
        obtain ⟨z0, z1, z2, z3, y0, y1, y2, y3⟩ := hA5.cells
        by_cases hle : (S.size : Int) ≤ P.window
        · obtain rfl : ro = some (.start e.n K) := by have := HSF.out; rwa [if_pos hle] at this
          have q1 : ¬ ((S.size : Int) > P.window) := by omega
          have HD := hA5.done (.int .i64 1) (.string N) (.slice kp K.length kc) (.string ⟨#[]⟩)
          have hj := zero_just (p0 := .int .i64 1) (p1 := .string N) (p2 := .slice kp K.length kc) (p3 := .string ⟨#[]⟩) (by have := hA5.b1; unfold zeroEv at this; exact this)
          have hrow6 := row_of_block hrow5 (fun g hg => hj.other g (fun e => row_ne hrow5 hA5.b1 (by decide) (by rw [hg, e])))
          have HR6 := hid hrow6
          clear hA5 hrow5 hj hrow6 hle HSF
          go_wp2_with fail
          refine bodyPost_ret (v := .tuple #[.agg #[.int .i64 1, .string N, .slice kp K.length kc, .string ⟨#[]⟩], .bool true]) (results_two rfl _ _ _ _ _ _ _ rfl HD.out.1 Tryd.underlying39 rfl (by kernel_rfl) _ rfl) rfl ⟨_, rfl, ⟨1, N, kp, K.length, kc, ⟨#[]⟩, rfl, ⟨rfl, by rw [← HNN.out]; rfl, HR6.out, rfl⟩, trivial⟩, HD.out.2⟩
        · obtain rfl : ro = none := by have := HSF.out; rwa [if_neg hle] at this
          have q1 : (S.size : Int) > P.window := by omega
          have HD := hA5.done (.int .i64 0) (.string ⟨#[]⟩) (.slice none 0 0) (.string ⟨#[]⟩)
          clear hA5 hrow5 hle HSF
          go_wp2_with fail
          refine bodyPost_ret (v := .tuple #[.agg zeroEv, .bool false]) (results_two rfl _ _ _ _ _ _ _ rfl HD.out.1 Tryd.underlying39 rfl (by kernel_rfl) _ rfl) rfl ⟨_, rfl, rfl, HD.out.2⟩
end Go.Proofs.YtkcgmimldjeaiaaDoor

/-
  Package sieve: Take, New: their walks.
-/
namespace Go.Proofs.YtkcgmimldjeaiaaDoor
open Go.RowKit Go.Lib Own

theorem StA.grown {w W W' : World} {b : Nat} {e : EvP} {u : Value} {cs cs' : Array Value} (h : StA w W b e u cs) (g : W.grownBy W' (some b)) (s : W'.heap[b]? = some (.cells cs' 119 (0, 0))) : StA w W' b e u cs' :=
  have hb := h.bb
  ⟨h.g.trans g, s, (g.block _ (block_lt h.b0) (fun e => by cases e; omega)).trans h.b0, (g.block _ (block_lt h.b1) (fun e => by cases e; omega)).trans h.b1, hb⟩
theorem evs1_low {W : World} {B base : Nat} (hb : base ≤ B) {k n a t : Value} {ev : Ev} (h : EvsAt W B [k, n, a, t] [ev]) : EvsAt W base [k, n, a, t] [ev] := by
  cases ev with
  | text x => exact h
  | start n x => exact ⟨⟨h.1.1, h.1.2.1, row_low h.1.2.2.1 hb, h.1.2.2.2⟩, trivial⟩
  | stop x => exact h
/-- the answer's box is another block -/
theorem evs1_just {W W' : World} {base b : Nat} {cs cs' : Array Value} (hb : W.heap[b]? = some (.cells cs 39 (0, 0))) (j : Just W W' b cs' 39) {k n a t : Value} {ev : Ev} (h : EvsAt W base [k, n, a, t] [ev]) : EvsAt W' base [k, n, a, t] [ev] := by
  cases ev with
  | text x => exact h
  | start n x => exact ⟨⟨h.1.1, h.1.2.1, row_just h.1.2.2.1 hb (by decide) j.other, h.1.2.2.2⟩, trivial⟩
  | stop x => exact h

set_option maxHeartbeats 8000000 in
set_option maxRecDepth 100000 in
theorem take_any (w0 : World) (b : Nat) (vr vs vd : Value) (P : PolP) (sk : List UInt8) (cnt : Nat) (e : EvP) (u : Value) (m : Int) (w : World) (h : SvAt w0 w b vr vs vd P sk cnt) (hF : P.Few) (hu : AttrsR w u e.a) (hs : e.n.length + e.t.length + bulkA e.a ≤ 4000000) (hc : cnt ≤ 1000000000)
    (hm : w.cell? ⟨10, 0, none⟩ = some (.int .i64 m)) :
    Calls Tryd.prog 38 #[.pointer (some ⟨b, 0, none⟩), .agg (evC e u)] w fun r w' => ∃ v, r = .returned v ∧ TakeV w' w.heap.size (sieveL P (sk, cnt) e).2 v ∧ w'.heap[b]? = some (.cells (sieveC vr vs vd P (sieveL P (sk, cnt) e).1.1 (sieveL P (sk, cnt) e).1.2) 119 (0, 0)) ∧ w.grownBy w' (some b) := by
  obtain ⟨up, uc, rfl⟩ := hu.len
  obtain ⟨W1, hW1⟩ : ∃ W1, (w.alloc (.cells (evC e (.slice up e.a.length uc)) 39)).alloc (.cells zeroEv 39) = W1 := ⟨_, rfl⟩
  have hB : Below w.heap.size w W1 := by rw [← hW1]; exact ((Below.refl w.heap.size w).alloc (Nat.le_refl _) _).alloc (by simp) _
  have hA : StA w W1 b e (.slice up e.a.length uc) (sieveC vr vs vd P sk cnt) := by
    refine ⟨grown_below hB _, (hB.block b (block_lt h.at_)).trans h.at_, ?_, ?_, block_lt h.at_⟩
    · rw [← hW1]; exact (Go.Lib.alloc_old _ _ _ (by simp)).trans (heap_alloc_new w _)
    · rw [← hW1]; exact heap_two_new w _ _ _
  have hS1 := h.below hB
  have hu1 := hu.below hB
  have hm1 := cell_low hm hB (cell_block hm)
  obtain ⟨c2, c4, c5, c6, f5, f6⟩ := sieve_cells hA.s
  obtain ⟨d0, d1, d2, d3⟩ := evC_at hA.b0
  obtain ⟨z0, z1, z2, z3, y0, y1, y2, y3⟩ := hA.cells
  have HA := hid hA
  have hsz : w.heap.size ≤ W1.heap.size := hB.size
  by_cases hcz : 0 < cnt
  · have hsk := sieveSkip_any w0 b vr vs vd P sk cnt e (.slice up e.a.length uc) W1 hS1 ⟨_, _, _, rfl⟩ hcz hc
    have es : sieveL P (sk, cnt) e = ((sk, skipF (sk, cnt) e), none) := by unfold sieveL; rw [if_pos hcz]
    rw [es]
    simp only
    generalize skipF (sk, cnt) e = cnt2 at hsk ⊢
    have HSK := hid hsk
    unfold evC at hW1 HSK ⊢
    unfold zeroEv at hW1
    clear hsk es hS1 hu1 hm1 hA hB h hu hm hF
    go_enter Tryd.func38, Tryd.ntmps38
    go_upto_region 1 with fail
    clear hW1
    go_wp2_with fail
    refine HSK.out.mono ?_
    rintro r W2 ⟨rfl, s2, g2⟩
    have hA2 := HA.out.grown g2 s2
    clear z0 z1 z2 z3 y0 y1 y2 y3
    obtain ⟨z0, z1, z2, z3, y0, y1, y2, y3⟩ := hA2.cells
    have HD := hA2.done (.int .i64 0) (.string ⟨#[]⟩) (.slice none 0 0) (.string ⟨#[]⟩)
    clear hA2 s2 g2 HA HSK c2 c4 c5 c6 f5 f6
    go_wp2_with fail
    refine bodyPost_ret (v := .tuple #[.agg zeroEv, .bool false]) (results_two rfl _ _ _ _ _ _ _ rfl HD.out.1 Tryd.underlying39 rfl (by kernel_rfl) _ rfl) rfl ⟨_, rfl, rfl, HD.out.2⟩
  obtain rfl : cnt = 0 := by omega
  by_cases k1 : e.k = 1
  · have hst := start_any w0 b vr vs vd P sk e (.slice up e.a.length uc) m W1 hS1 hF hu1 (by omega) k1 hm1
    generalize sieveL P (sk, 0) e = q at hst ⊢
    obtain ⟨⟨q1, q2⟩, q3⟩ := q
    simp only at hst ⊢
    have HST := hid hst
    unfold evC at hW1 HST ⊢
    unfold zeroEv at hW1
    rw [k1] at d0
    simp only [k1] at hW1 HST ⊢
    clear hst hS1 hu1 hm1 hA hB h hu hm hF k1
    go_enter Tryd.func38, Tryd.ntmps38
    go_upto_region 1 with fail
    clear hW1
    go_wp2_with fail
    refine HST.out.mono ?_
    rintro r W2 ⟨rv, rfl, hrv, s2, g2⟩
    have hA2 := HA.out.grown g2 s2
    clear z0 z1 z2 z3 y0 y1 y2 y3
    obtain ⟨z0, z1, z2, z3, y0, y1, y2, y3⟩ := hA2.cells
    cases q3 with
    | none =>
      obtain rfl : rv = _ := hrv
      unfold zeroEv
      have HD := hA2.done (.int .i64 0) (.string ⟨#[]⟩) (.slice none 0 0) (.string ⟨#[]⟩)
      clear hA2 s2 g2 HA HST c2 c4 c5 c6 f5 f6
      go_wp2_with fail
      refine bodyPost_ret (v := .tuple #[.agg zeroEv, .bool false]) (results_two rfl _ _ _ _ _ _ _ rfl HD.out.1 Tryd.underlying39 rfl (by kernel_rfl) _ rfl) rfl ⟨_, rfl, rfl, HD.out.2⟩
    | some ev =>
      obtain ⟨ek, en, ap, am, ac, et, rfl, hev⟩ := hrv
      have HD := hA2.done (.int .i64 ek) (.string en) (.slice ap am ac) (.string et)
      have hj := zero_just (p0 := .int .i64 ek) (p1 := .string en) (p2 := .slice ap am ac) (p3 := .string et) (by have := hA2.b1; unfold zeroEv at this; exact this)
      have hev2 := hid (evs1_low hsz (evs1_just hA2.b1 hj hev))
      clear hA2 s2 g2 HA HST c2 c4 c5 c6 f5 f6 hj hev
      go_wp2_with fail
      refine bodyPost_ret (v := .tuple #[.agg #[.int .i64 ek, .string en, .slice ap am ac, .string et], .bool true]) (results_two rfl _ _ _ _ _ _ _ rfl HD.out.1 Tryd.underlying39 rfl (by kernel_rfl) _ rfl) rfl ⟨_, rfl, ⟨ek, en, ap, am, ac, et, rfl, hev2.out⟩, HD.out.2⟩
  have n1 := int_ne' k1
  have es : sieveL P (sk, 0) e = ((sk, 0), outL P e) := by unfold sieveL; rw [if_neg hcz, if_neg (fun h => k1 h.1)]
  rw [es]
  simp only
  by_cases k2 : e.k = 2
  · have eo : outL P e = if (ruleL P.rules e.n).isSome = true then some (.stop e.n) else none := by unfold outL; rw [if_neg k1, if_pos k2]
    rw [eo]
    have hru := rule_any w0 b vr vs vd P sk 0 (bs e.n) W1 hS1 hF
    rw [bs_toList] at hru
    obtain ⟨ro, hro⟩ : ∃ ro, ruleL P.rules e.n = ro := ⟨_, rfl⟩
    rw [hro] at hru ⊢
    obtain ⟨N, hN⟩ : ∃ N, bs e.n = N := ⟨_, rfl⟩
    rw [hN] at hru d1
    have HRU := hid hru
    unfold evC at hW1 ⊢
    unfold zeroEv at hW1
    rw [k2] at d0 n1
    simp only [k2, hN] at hW1 ⊢
    have HNN := hid hN
    clear hru hro eo es hS1 hu1 hm1 hA hB h hu hm hF hN k1 k2
    go_enter Tryd.func38, Tryd.ntmps38
    go_upto_region 1 with fail
    clear hW1
    go_wp2_with fail
    refine HRU.out.mono ?_
    rintro r W2 ⟨rv, rfl, hrv, b2⟩
    have hA2 := HA.out.below b2
    clear z0 z1 z2 z3 y0 y1 y2 y3 d0 d1 d2 d3
    cases ro with
    | none =>
      obtain rfl : rv = _ := hrv
      have hA3 : StA w (W2.alloc (.cells #[.string ⟨#[]⟩, .slice none 0 0] 73)) b e (.slice up e.a.length uc) (sieveC vr vs vd P sk 0) := hA2.below ((Below.refl _ _).alloc (Nat.le_refl _) _)
      obtain ⟨z0, z1, z2, z3, y0, y1, y2, y3⟩ := hA3.cells
      have HD := hA3.done (.int .i64 0) (.string ⟨#[]⟩) (.slice none 0 0) (.string ⟨#[]⟩)
      clear hA2 hA3 HA HRU b2 c2 c4 c5 c6 f5 f6
      go_wp2_with fail
      refine bodyPost_ret (v := .tuple #[.agg zeroEv, .bool false]) (results_two rfl _ _ _ _ _ _ _ rfl HD.out.1 Tryd.underlying39 rfl (by kernel_rfl) _ rfl) rfl ⟨_, rfl, rfl, HD.out.2⟩
    | some l =>
      obtain ⟨ru, rfl, hwr⟩ := hrv
      obtain ⟨rp, rc, rfl, _⟩ := hwr.len
      obtain ⟨W3, hW3⟩ : ∃ W3, W2.alloc (.cells #[.string N, .slice rp l.length rc] 73) = W3 := ⟨_, rfl⟩
      have hA3 := hA2.below (W' := W3) (by rw [← hW3]; exact (Below.refl _ _).alloc (Nat.le_refl _) _)
      rw [HNN.out]
      obtain ⟨d0, d1, d2, -⟩ := evC_at hA3.b0
      rw [HNN.out] at d1
      obtain ⟨z0, z1, z2, z3, y0, y1, y2, y3⟩ := hA3.cells
      have HD := hA3.done (.int .i64 2) (.string N) (.slice none 0 0) (.string ⟨#[]⟩)
      clear hA2 hA3 HA HRU b2 hwr c2 c4 c5 c6 f5 f6
      go_wp2_with fail
      refine bodyPost_ret (v := .tuple #[.agg #[.int .i64 2, .string N, .slice none 0 0, .string ⟨#[]⟩], .bool true]) (results_two rfl _ _ _ _ _ _ _ rfl HD.out.1 Tryd.underlying39 rfl (by kernel_rfl) _ rfl) rfl ⟨_, rfl, ⟨2, N, none, 0, 0, ⟨#[]⟩, rfl, ⟨rfl, by rw [← HNN.out]; rfl, rfl, rfl⟩, trivial⟩, HD.out.2⟩
  have n2 := int_ne' k2
  by_cases k3 : e.k = 3
  · have eo : outL P e = if e.t = [] then none else some (.text e.t) := by unfold outL; rw [if_neg k1, if_neg k2, if_pos k3]
    rw [eo]
    obtain ⟨T, hT⟩ : ∃ T, bs e.t = T := ⟨_, rfl⟩
    have hTL : T.toList = e.t := by rw [← hT, bs_toList]
    rw [hT] at d3
    unfold evC at hW1 ⊢
    unfold zeroEv at hW1
    rw [k3] at d0 n1 n2
    simp only [k3, hT] at hW1 ⊢
    have HTT := hid hT
    by_cases h4 : e.t = []
    · rw [if_pos h4]
      have q : (T.toList != []) = false := by rw [hTL, h4]; rfl
      have qe : T.toList.isEmpty = true := by rw [hTL, h4]; rfl
      have HD := HA.out.done (.int .i64 0) (.string ⟨#[]⟩) (.slice none 0 0) (.string ⟨#[]⟩)
      clear eo es hS1 hu1 hm1 hA hB h hu hm hF hT k1 k2 k3 hTL h4 HA
      go_enter Tryd.func38, Tryd.ntmps38
      go_upto_region 1 with fail
      clear hW1
      go_wp2_with fail
      refine bodyPost_ret (v := .tuple #[.agg zeroEv, .bool false]) (results_two rfl _ _ _ _ _ _ _ rfl HD.out.1 Tryd.underlying39 rfl (by kernel_rfl) _ rfl) rfl ⟨_, rfl, rfl, HD.out.2⟩
    · rw [if_neg h4]
      have q : (T.toList != []) = true := by rw [hTL]; exact bne_iff_ne.2 h4
      have qe : T.toList.isEmpty = false := by rw [hTL]; cases hh : e.t with | nil => exact absurd hh h4 | cons x y => rfl
      have HD := HA.out.done (.int .i64 3) (.string ⟨#[]⟩) (.slice none 0 0) (.string T)
      clear eo es hS1 hu1 hm1 hA hB h hu hm hF hT k1 k2 k3 hTL h4 HA
      go_enter Tryd.func38, Tryd.ntmps38
      go_upto_region 1 with fail
      clear hW1
      go_wp2_with fail
      refine bodyPost_ret (v := .tuple #[.agg #[.int .i64 3, .string ⟨#[]⟩, .slice none 0 0, .string T], .bool true]) (results_two rfl _ _ _ _ _ _ _ rfl HD.out.1 Tryd.underlying39 rfl (by kernel_rfl) _ rfl) rfl ⟨_, rfl, ⟨3, ⟨#[]⟩, none, 0, 0, T, rfl, ⟨rfl, rfl, rfl, by rw [← HTT.out]; rfl⟩, trivial⟩, HD.out.2⟩
  have n3 := int_ne' k3
  have eo : outL P e = none := by unfold outL; rw [if_neg k1, if_neg k2, if_neg k3]
  rw [eo]
  have HD := HA.out.done (.int .i64 0) (.string ⟨#[]⟩) (.slice none 0 0) (.string ⟨#[]⟩)
  unfold evC at hW1 ⊢
  unfold zeroEv at hW1
  clear eo es hS1 hu1 hm1 hA hB h hu hm hF k1 k2 k3 HA
  go_enter Tryd.func38, Tryd.ntmps38
  go_upto_region 1 with fail
  clear hW1
  go_wp2_with fail
  refine bodyPost_ret (v := .tuple #[.agg zeroEv, .bool false]) (results_two rfl _ _ _ _ _ _ _ rfl HD.out.1 Tryd.underlying39 rfl (by kernel_rfl) _ rfl) rfl ⟨_, rfl, rfl, HD.out.2⟩

set_option maxHeartbeats 2000000 in
theorem sieveNew_any (vr vs vd : Value) (P : PolP) (w : World) (h : PolR w vr vs vd P) :
    Calls Tryd.prog 37 #[.agg (polC vr vs vd P)] w fun r w' => r = .returned (.pointer (some ⟨w.heap.size + 1, 0, none⟩)) ∧ SvAt w w' (w.heap.size + 1) vr vs vd P [] 0 ∧ w'.heap.size = w.heap.size + 2 := by
  obtain ⟨r1, r2, r3, rfl⟩ := h.rules.shape
  obtain ⟨s1, s2, s3, rfl⟩ := h.schemes.shape
  obtain ⟨d1, d2, d3, rfl⟩ := h.drop.shape
  have hX : SvAt w ((w.alloc (.cells (polC (.slice r1 r2 r3) (.slice s1 s2 s3) (.slice d1 d2 d3) P) 35)).alloc (.cells (sieveC (.slice r1 r2 r3) (.slice s1 s2 s3) (.slice d1 d2 d3) P [] 0) 119)) (w.heap.size + 1) (.slice r1 r2 r3) (.slice s1 s2 s3) (.slice d1 d2 d3) P [] 0 :=
    ⟨heap_two_new w _ _ _, h, ((Below.refl w.heap.size w).alloc (Nat.le_refl _) _).alloc (by simp) _, by omega⟩
  have HX := hid hX
  unfold polC sieveC at HX
  unfold polC
  clear hX h
  go_enter Tryd.func37, Tryd.ntmps37
  go_wp2
  go_ret
  exact ⟨rfl, HX.out, by simp⟩
end Go.Proofs.YtkcgmimldjeaiaaDoor

/-
  The statements' freshEvents: its walk.
-/
namespace Go.Proofs.YtkcgmimldjeaiaaDoor
open Go.RowKit Go.Lib Own

/-- the lists of attributes of events' cells -/
def colA : List Value → List Value
  | _ :: _ :: a :: _ :: r => a :: colA r
  | _ => []
theorem colA_get {W : World} {base : Nat} : ∀ (xs : List Value) (l : List Ev) (k : Nat), EvsAt W base xs l → k < l.length → (colA xs)[k]? = xs[k * 4 + 2]?
  | [], [], k, _, h => by simp at h
  | _ :: _ :: a :: _ :: r, e :: l, 0, _, _ => rfl
  | x0 :: x1 :: a :: x3 :: r, e :: l, k + 1, ⟨_, h2⟩, h => by
    have := colA_get r l k h2 (by simpa using h)
    show (a :: colA r)[k + 1]? = _
    rw [List.getElem?_cons_succ, this, show (k + 1) * 4 + 2 = k * 4 + 2 + 4 by omega]
    rfl
  | [], _ :: _, _, h, _ => h.elim
  | [_], _, _, h, _ => by cases ‹List Ev› <;> exact h.elim
  | [_, _], _, _, h, _ => by cases ‹List Ev› <;> exact h.elim
  | [_, _, _], _, _, h, _ => by cases ‹List Ev› <;> exact h.elim
  | _ :: _ :: _ :: _ :: _, [], _, h, _ => h.elim
theorem colA_len {W : World} {base : Nat} : ∀ (xs : List Value) (l : List Ev), EvsAt W base xs l → (colA xs).length = l.length
  | [], [], _ => rfl
  | _ :: _ :: a :: _ :: r, e :: l, ⟨_, h2⟩ => by
    have := colA_len r l h2
    show (a :: colA r).length = _
    simp [this]
  | [], _ :: _, h => h.elim
  | [_], _, h => by cases ‹List Ev› <;> exact h.elim
  | [_, _], _, h => by cases ‹List Ev› <;> exact h.elim
  | [_, _, _], _, h => by cases ‹List Ev› <;> exact h.elim
  | _ :: _ :: _ :: _ :: _, [], h => h.elim
theorem notIn_col {g : Nat} : ∀ (xs : List Value), NotIn g xs → ∀ (k : Nat) (v : Value), (colA xs)[k]? = some v → v.ownBlock ≠ some g
  | _ :: _ :: a :: _ :: r, h, 0, v, hv => by
    have : a = v := by simpa [colA] using hv
    rw [← this]
    exact h.1
  | _ :: _ :: a :: _ :: r, h, k + 1, v, hv => notIn_col r h.2 k v (by simpa [colA] using hv)
  | [], _, k, v, hv => by simp [colA] at hv
  | [_], _, k, v, hv => by simp [colA] at hv
  | [_, _], _, k, v, hv => by simp [colA] at hv
  | [_, _, _], _, k, v, hv => by simp [colA] at hv
theorem dist_of : ∀ (xs : List Value), Apart xs → Dist (colA xs)
  | _ :: _ :: a :: _ :: r, h => by
    have ih := dist_of r h.2
    intro j k v u hj hk hne g hg
    cases j with
    | zero =>
      cases k with
      | zero => exact absurd rfl hne
      | succ k =>
        have e1 : a = v := by simpa [colA] using hj
        rw [← e1] at hg
        exact notIn_col r (h.1 g hg) k u (by simpa [colA] using hk)
    | succ j =>
      cases k with
      | zero =>
        have e1 : a = u := by simpa [colA] using hk
        intro e2
        rw [← e1] at e2
        exact notIn_col r (h.1 g e2) j v (by simpa [colA] using hj) hg
      | succ k => exact ih j k v u (by simpa [colA] using hj) (by simpa [colA] using hk) (by omega) g hg
  | [], _ => fun j k v u hj => by simp [colA] at hj
  | [_], _ => fun j k v u hj => by simp [colA] at hj
  | [_, _], _ => fun j k v u hj => by simp [colA] at hj
  | [_, _, _], _ => fun j k v u hj => by simp [colA] at hj

theorem four_set {sc r : List Value} {i : Nat} {k n a t k' n' a' t' : Value} (h : sc.length = i * 4) : ((((sc ++ k :: n :: a :: t :: r).set (i * 4) k').set (i * 4 + 1) n').set (i * 4 + 2) a').set (i * 4 + 3) t' = sc ++ [k', n', a', t'] ++ r := by
  rw [← h, List.set_append, if_neg (by omega), Nat.sub_self, List.set_cons_zero, List.set_append, if_neg (by omega), Nat.add_sub_cancel_left, List.set_append, if_neg (by omega), Nat.add_sub_cancel_left, List.set_append, if_neg (by omega), Nat.add_sub_cancel_left]
  simp
/-- the rows of the attributes -/
def Rows4 (W : World) (base : Nat) (J : List Ev) (vs : List Value) : Prop := ∀ (k : Nat) (e : Ev) (v : Value), J[k]? = some e → vs[k]? = some v → W.ownsRow base 101 2 v (evA e).length (attrsV (evA e))
theorem rows4_of {W : World} {base : Nat} {xs : List Value} {J : List Ev} (h : EvsAt W base xs J) : Rows4 W base J (colA xs) := by
  intro k e v he hv
  have hk : k < J.length := (List.getElem?_eq_some_iff.1 he).1
  rw [colA_get xs J k h hk] at hv
  obtain ⟨a, _, _, h3, _, h5, _⟩ := evs_get xs J k e h he
  rw [h3] at hv
  obtain rfl := Option.some.inj hv
  exact h5
theorem Rows4.mono {W W' : World} {base : Nat} {J : List Ev} {vs : List Value} (h : Rows4 W base J vs) (hr : ∀ a n ys, W.ownsRow base 101 2 a n ys → W'.ownsRow base 101 2 a n ys) : Rows4 W' base J vs :=
  fun k e v he hv => hr _ _ _ (h k e v he hv)

/-- what freshEvents holds on its way -/
structure Frs (w W : World) (base : Nat) (J : List Ev) (vs : List Value) (gv : Value) (n : Nat) (cs : List Value) (lgv : Value) (i : Nat) : Prop where
  be : Below base w W
  got : W.ownsRow base 39 4 gv n cs
  lg : W.ownsRow base 37 1 lgv i (vs.take i)
  rows : Rows4 W base J vs
  kp : KeepT w W
/-- a list more -/
theorem Frs.list {w W w2 : World} {base : Nat} {J : List Ev} {vs : List Value} {gv lgv lgv2 v : Value} {n i : Nat} {cs : List Value} {X : Obj} (h : Frs w W base J vs gv n cs lgv i) (hb : base ≤ w.heap.size) (hv : vs[i]? = some v)
    (h2 : w2.ownsRow base 37 1 lgv2 (i + 1) (vs.take i ++ [v])) (hg : (W.alloc X).grownBy w2 lgv.ownBlock) : Frs w w2 base J vs gv n cs lgv2 (i + 1) := by
  have hbs := h.be.size
  have hlg := h.lg.alloc X
  refine ⟨h.be.trans (((Below.refl base W).alloc (by omega) X).grown hg (by simp; omega) (fun k hk => (hlg.lt k hk).1)), (h.got.alloc X).kept hg (rows_ne (h.got.alloc X) hlg (by decide)), ?_, h.rows.mono (fun a n ys hr => (hr.alloc X).kept hg (rows_ne (hr.alloc X) hlg (by decide))), h.kp.trans (KeepT.row h.lg (.inr (.inr rfl)) (fun k hk hne => (hg.block k (by simp; omega) (fun e => hne e.symm)).trans (Go.Lib.alloc_old W X k hk)))⟩
  rw [List.take_add_one, hv]
  exact h2
/-- an event is written over -/
theorem Frs.over {w W : World} {base g n c : Nat} {J : List Ev} {vs : List Value} {lgv : Value} {i l : Nat} {sc r : List Value} {k m a t k' m' a' t' : Value} (h : Frs w W base J vs (.slice (some ⟨g, 0, none⟩) n c) n (sc ++ k :: m :: a :: t :: r) lgv l) (hsc : sc.length = i * 4) (hgb : base ≤ g) :
    Frs w ((((W.setCell ⟨g, i * 4, none⟩ k').setCell ⟨g, i * 4 + 1, none⟩ m').setCell ⟨g, i * 4 + 2, none⟩ a').setCell ⟨g, i * 4 + 3, none⟩ t') base J vs (.slice (some ⟨g, 0, none⟩) n c) n (sc ++ [k', m', a', t'] ++ r) lgv l := by
  have h1 := ((((((h.got.stored (i * 4) k').1.stored (i * 4 + 1) m').1.stored (i * 4 + 2) a').1.stored (i * 4 + 3) t').1))
  rw [four_set hsc] at h1
  obtain ⟨cur, hcur⟩ : ∃ cur, W.heap[g]? = some (.cells cur 39 (0, 0)) := by
    rcases h.got.2 with ⟨e, _⟩ | ⟨g2, cap2, cur, e, _, hh, _⟩
    · cases e
    · cases e
      exact ⟨cur, hh⟩
  have hk : ∀ k2, k2 ≠ g → ((((W.setCell ⟨g, i * 4, none⟩ k').setCell ⟨g, i * 4 + 1, none⟩ m').setCell ⟨g, i * 4 + 2, none⟩ a').setCell ⟨g, i * 4 + 3, none⟩ t').heap[k2]? = W.heap[k2]? := fun k2 hne => by
    rw [heap_setCell_other _ _ _ _ hne, heap_setCell_other _ _ _ _ hne, heap_setCell_other _ _ _ _ hne, heap_setCell_other _ _ _ _ hne]
  exact ⟨(((h.be.setCell hgb _).setCell hgb _).setCell hgb _).setCell hgb _, h1, row_just h.lg hcur (by decide) hk, h.rows.mono (fun a n ys hr => row_just hr hcur (by decide) hk), h.kp.trans (KeepT.row h.got (.inl rfl) (fun k2 _ hne => hk k2 (fun e => hne (by rw [e]; rfl))))⟩
/-- the answer grows -/
theorem Frs.more {w W w2 : World} {base : Nat} {J : List Ev} {vs : List Value} {gv gv2 lgv : Value} {n i : Nat} {cs news : List Value} {X : Obj} (h : Frs w W base J vs gv n cs lgv i) (hb : base ≤ w.heap.size)
    (h2 : w2.ownsRow base 39 4 gv2 (n + 1) (cs ++ news)) (hg : (W.alloc X).grownBy w2 gv.ownBlock) : Frs w w2 base J vs gv2 (n + 1) (cs ++ news) lgv i := by
  have hbs := h.be.size
  have hgt := h.got.alloc X
  exact ⟨h.be.trans (((Below.refl base W).alloc (by omega) X).grown hg (by simp; omega) (fun k hk => (hgt.lt k hk).1)), h2, (h.lg.alloc X).kept hg (rows_ne (h.lg.alloc X) hgt (by decide)), h.rows.mono (fun a n ys hr => (hr.alloc X).kept hg (rows_ne (hr.alloc X) hgt (by decide))), h.kp.trans (KeepT.row h.got (.inl rfl) (fun k hk hne => (hg.block k (by simp; omega) (fun e => hne e.symm)).trans (Go.Lib.alloc_old W X k hk)))⟩

theorem drop_four {xs : List Value} {N i : Nat} (h : xs.length = N * 4) (hi : i < N) : ∃ k n a t, xs.drop (i * 4) = k :: n :: a :: t :: xs.drop ((i + 1) * 4) ∧ xs[i * 4 + 2]? = some a := by
  have h0 : i * 4 < xs.length := by omega
  have h1 : i * 4 + 1 < xs.length := by omega
  have h2 : i * 4 + 1 + 1 < xs.length := by omega
  have h3 : i * 4 + 1 + 1 + 1 < xs.length := by omega
  refine ⟨xs[i * 4], xs[i * 4 + 1], xs[i * 4 + 1 + 1], xs[i * 4 + 1 + 1 + 1], ?_, List.getElem?_eq_getElem h2⟩
  rw [List.drop_eq_getElem_cons h0, List.drop_eq_getElem_cons h1, List.drop_eq_getElem_cons h2, List.drop_eq_getElem_cons h3, show i * 4 + 1 + 1 + 1 + 1 = (i + 1) * 4 by omega]
theorem ev4_at {sc r : List Value} {i : Nat} {k n a t : Value} (h : sc.length = i * 4) : (sc ++ k :: n :: a :: t :: r)[i * 4]? = some k ∧ (sc ++ k :: n :: a :: t :: r)[i * 4 + 1]? = some n ∧ (sc ++ k :: n :: a :: t :: r)[i * 4 + 2]? = some a ∧ (sc ++ k :: n :: a :: t :: r)[i * 4 + 3]? = some t := by
  rw [← h]
  refine ⟨?_, ?_, ?_, ?_⟩
  · rw [List.getElem?_append_right (by omega), Nat.sub_self]; rfl
  · rw [List.getElem?_append_right (by omega), Nat.add_sub_cancel_left]; rfl
  · rw [List.getElem?_append_right (by omega), Nat.add_sub_cancel_left]; rfl
  · rw [List.getElem?_append_right (by omega), Nat.add_sub_cancel_left]; rfl

set_option maxHeartbeats 8000000 in
set_option maxRecDepth 100000 in
theorem fresh_any (base B2 : Nat) (gv dv : Value) (xs ys : List Value) (J : List Ev) (a : Option Addr) (mc : Nat) (ss : List ByteArray) (w : World) (hg : w.ownsRow base 39 4 gv J.length xs) (he : EvsAt w base xs J) (hap : Apart xs) (hd : w.ownsRow B2 39 4 dv J.length ys) (hde : EvsAt w B2 ys J)
    (hJ : J.length ≤ 5000000) (hA : ∀ e ∈ J, (evA e).length ≤ 5000000) (hb : base ≤ w.heap.size) (hs : ss.length ≤ 5000000) (hw : WordsAt w base a ss) (hP : PowB base w) :
    Calls Tryd.prog 9 #[gv, dv, .slice a ss.length mc] w fun e w' => e = .returned (.bool true) ∧ Below base w w' ∧ KeepT w w' := by
  have hsame := sameEvents_any base B2 gv dv xs ys J w hg he hd hde
  obtain ⟨p, c, rfl⟩ := row_shape hg
  obtain ⟨p2, c2, rfl⟩ := row_shape hd
  obtain ⟨vs, hvs⟩ : ∃ vs, colA xs = vs := ⟨_, rfl⟩
  have hvl : vs.length = J.length := by rw [← hvs]; exact colA_len xs J he
  have hcol : ∀ k, k < J.length → vs[k]? = xs[k * 4 + 2]? := fun k hk => by rw [← hvs]; exact colA_get xs J k he hk
  have hD : Dist vs := by rw [← hvs]; exact dist_of xs hap
  have hR4 : Rows4 w base J vs := by rw [← hvs]; exact rows4_of he
  have hxl : xs.length = J.length * 4 := evs_len xs J he
  have hns : ∀ k, k < J.length → ((J[k]?.map fun e => (evA e).length).getD 0) ≤ 5000000 := fun k hk => by
    rw [List.getElem?_eq_getElem hk]
    exact hA _ (List.getElem_mem hk)
  have hfam : ∀ W, Rows4 W base J vs → Fam W base vs (fun k => (J[k]?.map fun e => (evA e).length).getD 0) 0 := fun W h => ⟨fun k v hk => by
    have hkl : k < J.length := by rw [← hvl]; exact (List.getElem?_eq_some_iff.1 hk).1
    refine ⟨fun h => absurd h (Nat.not_lt_zero _), attrsV (evA J[k]), ?_⟩
    have := h k J[k] v (List.getElem?_eq_getElem hkl) hk
    simp only [List.getElem?_eq_getElem hkl, Option.map_some, Option.getD_some]
    exact this⟩
  have hone : ∀ k, k < J.length → ∀ W, Rows4 W base J vs → ∀ v, vs[k]? = some v → ∃ p n c, v = .slice p n c := fun k hk W h v hv => by
    obtain ⟨p, c, e⟩ := row_shape (h k J[k] v (List.getElem?_eq_getElem hk) hv)
    exact ⟨p, _, c, e⟩
  obtain ⟨N, hN⟩ : ∃ N, J.length = N := ⟨_, rfl⟩
  rw [hN] at hsame hg hd hJ hvl hcol hxl hns hone ⊢
  have hfin : ∀ lv W, Frs w W base J vs (.slice p N c) N xs lv N → True := fun _ _ _ => trivial
  have hend : ∀ (lp : Option Addr) (lc : Nat) (gv2 : Value) (n2 : Nat) (cs2 : List Value) (W : World), Frs w W base J vs gv2 n2 cs2 (.slice lp N lc) N → Calls Tryd.prog 30 #[.slice lp N lc, .slice a ss.length mc] W fun e w' => e = .returned (.bool true) ∧ Below base w w' ∧ KeepT w w' := fun lp lc gv2 n2 cs2 W h => by
    have hl := h.lg
    have hbs := h.be.size
    rw [List.take_of_length_le (by omega)] at hl
    have := apart_any base (.slice lp N lc) vs (fun k => (J[k]?.map fun e => (evA e).length).getD 0) a mc ss W (by rw [hvl]; exact hl) (hfam W h.rows) hD (by rw [hvl]; exact hns) (by omega) (by omega) hs (hw.below h.be) (hP.below h.be)
    exact this.mono fun e w' h2 => ⟨h2.1, h.be.trans h2.2.1, h.kp.trans h2.2.2⟩
  have H0 : ∀ nd, Frs w (w.drewN nd) base J vs (.slice p N c) N xs (.slice none 0 0) 0 := fun nd => ⟨below_drewN (Below.refl base w) nd, hg, World.ownsRow_nil _ _ _ _, hR4, KeepT.refl _⟩
  obtain ⟨li0, lhi, lhz0, lhz1, lhz2⟩ := info_parts info_list
  obtain ⟨ei0, ehi, ehz0, ehz1, ehz2⟩ := info_parts info_event
  have HS := hid hsame
  have H0 := hid H0
  have HEND := hid hend
  have HONE := hid hone
  have HCOL := hid hcol
  have HXL := hid (fun (_ : True) => hxl)
  have HVL := hid (fun (_ : True) => hvl)
  have HW := hid hw
  clear hsame hend hone hcol hxl hvl hvs hg hd he hde hap hD hR4 hns hfam hfin hN hA hw hP
  go_enter Tryd.func9, Tryd.ntmps9
  go_wp2_with (go_at_call 11; refine HS.out.mono ?_; rintro e w1 ⟨rfl, nd, rfl⟩)
  go_loopw [7, 16] (fun lgv iv wr => ∃ (i : Nat) (sc r : List Value), iv = .int .i64 i ∧ i ≤ N ∧ Hid (Frs w wr base J vs (.slice p N c) N (sc ++ r) lgv i ∧ sc.length = i * 4 ∧ r = xs.drop (i * 4))) (fun _ iv _ => N - (RowKit.intOf iv).toNat)
  case atStart => exact ⟨0, [], xs, rfl, Nat.zero_le _, hid ⟨H0.out nd, rfl, rfl⟩⟩
  case round =>
    obtain ⟨i, sc, r, rfl, hi, HX⟩ := hrel
    obtain ⟨lgp, lgc, rfl⟩ := row_shape HX.out.1.lg
    by_cases hiN : i < N
    · obtain ⟨k0, n0, a0, t0, hr4, ha0⟩ := drop_four (HXL.out trivial) hiN
      have hv := HCOL.out i hiN
      rw [ha0] at hv
      obtain ⟨ap, an, ac, rfl⟩ := HONE.out i hiN _ HX.out.1.rows _ hv
      have hX1 := HX.out.1
      rw [HX.out.2.2, hr4] at hX1
      have hX2 := HX.out.2.1
      obtain ⟨g, cap, e0, hg1, hg2, hgc⟩ := row_at hX1.got (by omega)
      cases e0
      obtain ⟨q0, q1, q2, q3⟩ := ev4_at (r := xs.drop ((i + 1) * 4)) (k := k0) (n := n0) (a := .slice ap an ac) (t := t0) hX2
      have c2 := (hgc (i * 4 + 2) (by omega)).trans q2
      have hlg := hX1.lg
      have hbs := hX1.be.size
      have HX1 := hid hX1
      have HX2 := hid (fun (_ : True) => hX2)
      have HV := hid hv
      have HQ := hid (And.intro q0 (And.intro q1 (And.intro q2 q3)))
      clear hX1 hX2 hv hgc q0 q1 q2 q3 hr4 ha0 HX
      go_wp2_with (at_builtin; refine wpList_append_own _ rfl (.tmp 19) (.tmp 25) 25 rfl base 37 li0 (.slice none 0 0) 1 24 Tryd.underlying25 lhi lhz0 lhz1 lhz2 rfl (by decide) _ _ _ rfl (hlg.alloc _) ⟨_, 0, none⟩ 1 1 [.slice ap an ac] rfl rfl (cells_newV _ _ _) (by simp [Value.oneCell']) (by unfold maxLen; omega) (by omega) (by simp; omega) ?_)
      intro v' w2 hown2 hgrow2 _
      have F2 := HX1.out.list hb HV.out hown2 hgrow2
      obtain ⟨g', cap', e1, hg1', hg2', hgc⟩ := row_at F2.got (by omega)
      cases e1
      obtain ⟨q0, q1, q2, q3⟩ := HQ.out
      have k0 := (hgc (i * 4) (by omega)).trans q0
      have k1 := (hgc (i * 4 + 1) (by omega)).trans q1
      have k2 := (hgc (i * 4 + 2) (by omega)).trans q2
      have k3 := (hgc (i * 4 + 3) (by omega)).trans q3
      have f0 := F2.got.frozenAt (i * 4)
      have f1 := F2.got.frozenAt (i * 4 + 1)
      have f2 := F2.got.frozenAt (i * 4 + 2)
      have f3 := F2.got.frozenAt (i * 4 + 3)
      have hov := F2.over (k' := .int .i64 0) (m' := .string ⟨#[115, 99, 114, 97, 119, 108]⟩) (a' := .slice none 0 0) (t' := .string ⟨#[]⟩) (HX2.out trivial) hg1'
      have hsl : (sc ++ [Value.int .i64 0, .string ⟨#[115, 99, 114, 97, 119, 108]⟩, .slice none 0 0, .string ⟨#[]⟩]).length = (i + 1) * 4 := by
        rw [List.length_append, HX2.out trivial]
        simp
        omega
      have HZ := hid (And.intro hov (And.intro hsl (rfl : xs.drop ((i + 1) * 4) = xs.drop ((i + 1) * 4))))
      clear hov hsl hown2 hgrow2 F2 hgc q0 q1 q2 q3 HX1 HX2 HQ HV hlg
      go_wp2
      go_roundw
      case rel => first | exact ⟨i + 1, _, _, rfl, by omega, HZ⟩ | ((repeat apply Exists.intro); exact ⟨⟨i + 1, _, _, rfl, by omega, HZ⟩, rfl⟩)
      case measure => simp [RowKit.intOf]; omega
    · obtain rfl : i = N := by omega
      have hX1 := HX.out.1
      have hgt := hX1.got
      have hbs := hX1.be.size
      obtain ⟨cs0, hcs0⟩ : ∃ cs0, sc ++ r = cs0 := ⟨_, rfl⟩
      rw [hcs0] at hX1 hgt
      have HX1 := hid hX1
      clear hX1 hcs0 HX
      go_wp2_with (at_builtin; refine wpList_append_own _ rfl (.tmp 32) (.tmp 34) 22 rfl base 39 ei0 (.agg #[.int .i64 0, .string ⟨#[]⟩, .slice none 0 0, .string ⟨#[]⟩]) 4 64 Tryd.underlying22 ehi ehz0 ehz1 ehz2 rfl (by decide) _ _ _ rfl (hgt.alloc _) ⟨_, 0, none⟩ 1 1 [.int .i64 0, .string ⟨#[115, 99, 114, 97, 119, 108]⟩, .slice none 0 0, .string ⟨#[]⟩] rfl rfl (cells_newV _ _ _) (by simp [Value.oneCell']) (by unfold maxLen; omega) (by omega) (by simp; omega) ?_)
      intro v' w2 hown2 hgrow2 _
      have F2 := hid (HX1.out.more hb hown2 hgrow2)
      clear hown2 hgrow2 HX1 hgt
      go_wp2_with fail
      go_loopw [0, 38] (fun gv2 iv wr => ∃ (k : Nat) (cs2 : List Value), iv = .int .i64 k ∧ k ≤ ss.length ∧ Hid (Frs w wr base J vs gv2 (i + 1 + k) cs2 (.slice lgp i lgc) i)) (fun _ iv _ => ss.length - (RowKit.intOf iv).toNat)
      case atStart => exact ⟨0, _, rfl, Nat.zero_le _, F2⟩
      case round =>
        obtain ⟨k, cs2, rfl, hk, HF⟩ := hrel
        clear F2
        obtain ⟨gp, gc, rfl⟩ := row_shape HF.out.got
        by_cases hkl : k < ss.length
        · obtain ⟨b, o, rfl, hb2, hc⟩ := HW.out.at_ k hkl
          have hc2 := cell_low hc HF.out.be hb2
          obtain ⟨x, hx⟩ : ∃ x, ss.getD k ByteArray.empty = x := ⟨_, rfl⟩
          rw [hx] at hc2
          have hgt := HF.out.got
          have hbs := HF.out.be.size
          clear hc hx
          go_wp2_with (at_builtin; refine wpList_append_own _ rfl (.tmp 41) (.tmp 47) 22 rfl base 39 ei0 (.agg #[.int .i64 0, .string ⟨#[]⟩, .slice none 0 0, .string ⟨#[]⟩]) 4 64 Tryd.underlying22 ehi ehz0 ehz1 ehz2 rfl (by decide) _ _ _ rfl (hgt.alloc _) ⟨_, 0, none⟩ 1 1 [.int .i64 0, .string x, .slice none 0 0, .string ⟨#[]⟩] rfl rfl (cells_newV _ _ _) (by simp [Value.oneCell']) (by unfold maxLen; omega) (by omega) (by simp; omega) ?_)
          intro v3 w3 hown3 hgrow3 _
          have F3 := hid (HF.out.more hb hown3 hgrow3)
          clear hown3 hgrow3 HF hgt
          go_wp2
          go_roundw
          case rel => first | exact ⟨k + 1, _, rfl, by omega, F3⟩ | ((repeat apply Exists.intro); exact ⟨⟨k + 1, _, rfl, by omega, F3⟩, rfl⟩)
          case measure => simp [RowKit.intOf]; omega
        · go_wp2_with (go_at_call 30; refine (HEND.out _ _ _ _ _ _ HF.out).mono ?_; rintro e w4 ⟨rfl, b4, k4⟩)
          go_ret
          exact ⟨rfl, b4, k4⟩
end Go.Proofs.YtkcgmimldjeaiaaDoor
