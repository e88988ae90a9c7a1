/-
  Parts of the walk, joined: PwB.
-/
import Derived.Deep.RegionHeld3
import Derived.Test.YtcncbhbdpcpkeaaGreatDoorPJBT
import Derived.Test.YtcncbhbdpcpkeaaGreatDoorPJBM
import Derived.Test.YtcncbhbdpcpkeaaGreatDoorPJAH
import Derived.Test.YtcncbhbdpcpkeaaGreatDoorPJBG
import Derived.Test.YtcncbhbdpcpkeaaGreatDoorPJBV
/-
  The statements' plainEvents: its walk.
-/
namespace Go.Proofs.YtcncbhbdpcpkeaaGreatDoor
open Go.RowKit Go.Lib Own

/-- events without attributes -/
def evN0 (l : List EvP) : List (EvP × Value) := l.map fun e => (e, .slice none 0 0)
def evC0 (e : EvP) : List Value := [.int .i64 e.k, .string (bs e.n), .slice none 0 0, .string (bs e.t)]
theorem evN0_app (l : List EvP) (e : EvP) : ecells (evN0 (l ++ [e])) = ecells (evN0 l) ++ evC0 e := by
  unfold evN0 ecells evC0
  rw [List.map_append, List.flatMap_append]
  rfl
/-- two lists of events under way, in blocks of their own -/
structure TwoE (w W : World) (v1 v2 : Value) (l1 l2 : List EvP) : Prop where
  r1 : W.ownsRow w.heap.size 60 4 v1 l1.length (ecells (evN0 l1))
  r2 : W.ownsRow w.heap.size 60 4 v2 l2.length (ecells (evN0 l2))
  ne : ∀ g, v1.ownBlock = some g → v2.ownBlock ≠ some g
  be : Below w.heap.size w W
theorem TwoE.swap {w W : World} {v1 v2 : Value} {l1 l2 : List EvP} (h : TwoE w W v1 v2 l1 l2) : TwoE w W v2 v1 l2 l1 := ⟨h.r2, h.r1, fun g h2 h1 => h.ne g h1 h2, h.be⟩
theorem TwoE.below {w W W' : World} {v1 v2 : Value} {l1 l2 : List EvP} (h : TwoE w W v1 v2 l1 l2) (hb : Below W.heap.size W W') : TwoE w W' v1 v2 l1 l2 := ⟨row_below h.r1 hb, row_below h.r2 hb, h.ne, h.be.trans (hb.mono h.be.size)⟩
theorem TwoE.add {w W w' : World} {v1 v2 : Value} {l1 l2 : List EvP} {g cap : Nat} {X : Obj} {e : EvP} (h : TwoE w W v1 v2 l1 l2) (hr : w'.ownsRow w.heap.size 60 4 (.slice (some ⟨g, 0, none⟩) (l1.length + 1) cap) (l1.length + 1) (ecells (evN0 l1) ++ evC0 e))
    (hg : (W.alloc X).grownBy w' v1.ownBlock) (hd : v1.ownBlock = some g ∨ W.heap.size ≤ g) : TwoE w w' (.slice (some ⟨g, 0, none⟩) (l1.length + 1) cap) v2 (l1 ++ [e]) l2 := by
  have hbs := h.be.size
  refine ⟨?_, ?_, ?_, ?_⟩
  · rw [List.length_append, List.length_singleton, evN0_app]
    exact hr
  · exact (h.r2.alloc X).kept hg (by
      cases hv : v2.ownBlock with
      | none => exact .inl rfl
      | some q => exact .inr (fun e => h.ne q e.symm hv))
  · intro q hq hv
    have hq' : g = q := Option.some.inj hq
    subst hq'
    rcases hd with hd | hd
    · exact h.ne g hd hv
    · have := (h.r2.lt g hv).2
      omega
  · exact h.be.trans (((Below.refl w.heap.size W).alloc hbs X).grown hg (by simp; omega) (fun k hk => (h.r1.lt k hk).1))
theorem TwoE.box {w W W' : World} {v1 v2 : Value} {l1 l2 : List EvP} {g9 : Nat} {cs : Array Value} {T : TypeId} (h : TwoE w W v1 v2 l1 l2) (hj : Just W W' g9 cs T) (h1 : v1.ownBlock ≠ some g9) (h2 : v2.ownBlock ≠ some g9) (hlo : w.heap.size ≤ g9) : TwoE w W' v1 v2 l1 l2 :=
  ⟨h.r1.kept (just_grown hj) (.inr h1), h.r2.kept (just_grown hj) (.inr h2), h.ne, h.be.trans (just_low hj hlo)⟩
theorem TwoE.evs {w W : World} {v1 v2 : Value} {l1 l2 : List EvP} (h : TwoE w W v1 v2 l1 l2) (ha : ∀ e ∈ l1, e.a = []) : EvsR W v1 l1 := by
  have hl : (evN0 l1).length = l1.length := by unfold evN0; rw [List.length_map]
  have h1 := h.r1
  rw [← hl] at h1
  have := evsR_row h1 (fun x hx => by
    unfold evN0 at hx
    obtain ⟨e, he, rfl⟩ := List.mem_map.1 hx
    show AttrsR W (.slice none 0 0) e.a
    rw [ha e he]
    exact AttrsR.nil W)
  have h2 : (evN0 l1).map Prod.fst = l1 := by unfold evN0; rw [List.map_map]; simp [Function.comp_def]
  rw [h2] at this
  exact this
/-- an event made plain -/
def plE (e : EvP) : EvP := ⟨e.k, e.n, [], e.t.map pwC⟩
def plK (cut : Int) (e : EvP) : Nat := (withinP cut 0 e.t.length).toNat
def plWhole (es : List EvP) : List EvP := xE :: es.map plE
def plParts (cut : Int) (es : List EvP) : List EvP := xE :: (es.map plE).flatMap fun e => cutE (plK cut e) e
theorem plWhole_next {es : List EvP} {k : Nat} {e : EvP} (h : es[k]? = some e) : plWhole (es.take (k + 1)) = plWhole (es.take k) ++ [plE e] := by
  unfold plWhole
  rw [List.take_add_one, h]
  simp
theorem plParts_next {cut : Int} {es : List EvP} {k : Nat} {e : EvP} (h : es[k]? = some e) : plParts cut (es.take (k + 1)) = plParts cut (es.take k) ++ cutE (plK cut (plE e)) (plE e) := by
  unfold plParts
  rw [List.take_add_one, h]
  simp
theorem plWhole_a (es : List EvP) : ∀ e ∈ plWhole es, e.a = [] ∧ plainT e.t := fun e he => by
  rcases List.mem_cons.1 he with rfl | he
  · exact ⟨rfl, fun c hc => by rw [List.mem_singleton.1 hc]; decide⟩
  · obtain ⟨x, _, rfl⟩ := List.mem_map.1 he
    exact ⟨rfl, pwC_plain x.t⟩
theorem cutE_a {k : Nat} {e : EvP} (h : e.a = []) : ∀ x ∈ cutE k e, x.a = [] := fun x hx => by
  unfold cutE at hx
  split at hx
  · simp only [List.mem_cons, List.not_mem_nil, or_false] at hx
    rcases hx with rfl | rfl
    · rfl
    · exact h
  · rw [List.mem_singleton.1 hx]; exact h
theorem plParts_a (cut : Int) (es : List EvP) : ∀ e ∈ plParts cut es, e.a = [] := fun e he => by
  rcases List.mem_cons.1 he with rfl | he
  · rfl
  · obtain ⟨x, hx, hx2⟩ := List.mem_flatMap.1 he
    obtain ⟨y, _, rfl⟩ := List.mem_map.1 hx
    exact cutE_a rfl e hx2
theorem plParts_len (cut : Int) (es : List EvP) : (plParts cut es).length ≤ 2 * es.length + 1 := by
  have h : ∀ l : List EvP, (l.flatMap fun e => cutE (plK cut e) e).length ≤ 2 * l.length := fun l => by
    induction l with
    | nil => exact Nat.le_refl _
    | cons e r ih =>
      rw [List.flatMap_cons, List.length_append, List.length_cons]
      have : (cutE (plK cut e) e).length ≤ 2 := by unfold cutE; split <;> simp
      omega
  have := h (es.map plE)
  rw [List.length_map] at this
  unfold plParts
  rw [List.length_cons]
  omega
theorem plWhole_len (es : List EvP) : (plWhole es).length = es.length + 1 := by unfold plWhole; rw [List.length_cons, List.length_map]
theorem within_nat {cut : Int} {n : Nat} : withinP cut 0 n = ((withinP cut 0 n).toNat : Int) ∧ (withinP cut 0 n).toNat ≤ n := by
  have := within_bounds cut 0 n (by omega)
  omega
/-- what plainEvents answers -/
structure PlainOut (w w' : World) (cut : Int) (es : List EvP) (e : Ending) : Prop where
  it : ∃ v1 v2, e = .returned (.tuple #[v1, v2]) ∧ EvsR w' v1 (plWhole es) ∧ EvsR w' v2 (plParts cut es) ∧ Below w.heap.size w w'
theorem new_row1 (W : World) (base : Nat) (h : base ≤ W.heap.size) (e : EvP) : (W.alloc (.cells (evC0 e).toArray 60)).ownsRow base 60 4 (.slice (some ⟨W.heap.size, 0, none⟩) 1 1) 1 (ecells (evN0 [e])) :=
  ⟨rfl, .inr ⟨W.heap.size, 1, _, rfl, h, heap_alloc_new W _, Nat.le_refl _, by decide, rfl, rfl⟩⟩
set_option maxHeartbeats 8000000 in
set_option maxRecDepth 100000 in
theorem plainEvents_any (ev : Value) (es : List EvP) (cut : Int) (w : World) (h : EvsR w ev es) (hs : bulkE es ≤ 1100000) (h0 : -9223372036854775808 ≤ cut) (h1 : cut ≤ 9223372036854775807) :
    Calls Tryz.prog 7 #[ev, .int .i64 cut] w fun e w' => PlainOut w w' cut es e := by
  obtain ⟨p, c, rfl, hl, hcm, hcell⟩ := h
  have hlen := bulkE_len es
  obtain ⟨i0, hi, hz0, hz1, hz2⟩ := info_parts info_event
  have hT0 : TwoE w ((w.alloc (.cells (evC0 xE).toArray 60)).alloc (.cells (evC0 xE).toArray 60)) (.slice (some ⟨w.heap.size, 0, none⟩) 1 1) (.slice (some ⟨w.heap.size + 1, 0, none⟩) 1 1) (plWhole (es.take 0)) (plParts cut (es.take 0)) := by
    have h2 := new_row1 (w.alloc (.cells (evC0 xE).toArray 60)) w.heap.size (by simp) xE
    rw [show (w.alloc (.cells (evC0 xE).toArray 60)).heap.size = w.heap.size + 1 by simp] at h2
    refine ⟨(new_row1 w w.heap.size (Nat.le_refl _) xE).alloc _, h2, fun g e e2 => ?_, ((Below.refl _ _).alloc (Nat.le_refl _) _).alloc (by simp) _⟩
    have e3 : w.heap.size = g := Option.some.inj e
    have e4 : w.heap.size + 1 = g := Option.some.inj e2
    omega
  have HT0 := hid hT0
  have HC := hid hcell
  have hcut := fun (e : EvP) (W : World) (he : e.t.length ≤ 4000000) => withinG_any cut 0 e.t.length h0 h1 (by omega) (by omega) (by omega) W
  have HCU := hid hcut
  have hln : es.length ≤ 1100000 := by omega
  clear hT0 hcell hcut
  go_enter Tryz.func7, Tryz.ntmps7
  go_wp2_with fail
  go_loopw [6, 7, 17] (fun v1 v2 iv wr => ∃ (k : Nat), iv = .int .i64 k ∧ k ≤ es.length ∧ Hid (TwoE w wr v1 v2 (plWhole (es.take k)) (plParts cut (es.take k)))) (fun _ _ iv _ => es.length - (RowKit.intOf iv).toNat)
  case atStart => exact ⟨0, rfl, Nat.zero_le _, HT0⟩
  case round =>
    clear HT0
    obtain ⟨k, rfl, hk, HX⟩ := hrel
    by_cases hkl : k < es.length
    · obtain ⟨e, he⟩ : ∃ e, es[k]? = some e := ⟨_, List.getElem?_eq_getElem hkl⟩
      obtain ⟨b, o, u, rfl, q0, q1, q2, q3, q4⟩ := HC.out k e he
      have hab := bulkE_get he
      obtain ⟨p1, c1, rfl⟩ := row_shape HX.out.r1
      obtain ⟨p2, c2, rfl⟩ := row_shape HX.out.r2
      have hbx := HX.out.be
      replace q0 := cell_low q0 hbx (cell_block q0)
      replace q1 := cell_low q1 hbx (cell_block q1)
      replace q3 := cell_low q3 hbx (cell_block q3)
      have hle : k < c := by omega
      have hpw := fun W => plainWords_any e.t W (by omega)
      obtain ⟨PT, hPT⟩ : ∃ PT, bs (e.t.map pwC) = PT := ⟨_, rfl⟩
      obtain ⟨ET, hET⟩ : ∃ ET, bs e.t = ET := ⟨_, rfl⟩
      obtain ⟨EN, hEN⟩ : ∃ EN, bs e.n = EN := ⟨_, rfl⟩
      rw [hPT, hET] at hpw
      rw [hET] at q3
      rw [hEN] at q1
      have HPW := hid hpw
      have HE := hid (fun (_ : True) => And.intro he (And.intro hPT (And.intro hEN hab)))
      have hbs := hbx.size
      clear hpw hPT hET hEN he hab hbx q4 q2
      have m0 : wr.heap.size ≠ b := by have := cell_block q0; omega
      have m1 : b ≠ wr.heap.size := fun e => m0 e.symm
      have m3 : b < wr.heap.size := cell_block q0
      go_upto_region 6 with fail
      apply cut_app (R := fun g cap W => Hid (Below wr.heap.size wr W ∧ wr.heap.size ≤ g ∧ W.heap[g]? = some (.cells #[.int .i64 e.k, .string EN, .slice none 0 0, .string PT] 60 (0, 0))))
      case h =>
        go_region_held3 (fun w' => w'.cell? ⟨b, o + k * 4, none⟩ = some (.int .i64 e.k) ∧ w'.cell? ⟨b, o + k * 4 + 1, none⟩ = some (.string EN) ∧ w'.cell? ⟨b, o + k * 4 + 3, none⟩ = some (.string ET)) (go_keep)
          (first | (go_at_call 25; refine (HPW.out _).mono ?_; rintro r W4 ⟨rfl, hb4⟩; have hbw : Below wr.heap.size wr W4 := (by first | exact (below_drewN (Below.refl wr.heap.size wr) 1).trans hb4 | exact ((below_drewN (Below.refl wr.heap.size wr) 1).alloc (Nat.le_refl _) _).trans (hb4.mono (by simp))); have w0' := cell_low q0 hbw (cell_block q0); have w1' := cell_low q1 hbw (cell_block q1); have w3' := cell_low q3 hbw (cell_block q3); have n0' : W4.heap.size ≠ b := (by have := hbw.size; omega); have HB4 := hid hbw; clear hbw; first | (have HZ4 := hid ((hb4.block wr.heap.size (by simp)).trans (heap_alloc_new wr.drew _)); clear hb4; have z0 := cell_at HZ4.out (j := 0) rfl; have z1 := cell_at HZ4.out (j := 1) rfl; have z2 := cell_at HZ4.out (j := 2) rfl; have z3 := cell_at HZ4.out (j := 3) rfl; have y0 := free_at HZ4.out 0; have y1 := free_at HZ4.out 1; have y2 := free_at HZ4.out 2; have y3 := free_at HZ4.out 3) | (clear hb4)))
        case' _ =>
          have HR := hid (And.intro (HB4.out.alloc HB4.out.size (.cells #[.int .i64 e.k, .string EN, .slice none 0 0, .string PT] 60)) (And.intro HB4.out.size (heap_alloc_new W4 (.cells #[.int .i64 e.k, .string EN, .slice none 0 0, .string PT] 60))))
          clear n0'
          dsimp only [Exit.then]
          obtain ⟨d1, -⟩ : ∃ d : Nat, d = d := ⟨0, rfl⟩
          generalize W4.heap.size = g at HR ⊢
          exact ⟨g, d1, rfl, HR⟩
        case' _ =>
          have hj := just4 HZ4.out (.int .i64 e.k) (.string EN) (.slice none 0 0) (.string PT)
          have HR := hid (And.intro (HB4.out.trans (just_low hj (Nat.le_refl _))) (And.intro (Nat.le_refl wr.heap.size) hj.at_))
          clear hj HZ4 HB4 z0 z1 z2 z3 y0 y1 y2 y3 m0 m1 m3 n0' hbs
          dsimp only [Exit.then]
          obtain ⟨d1, -⟩ : ∃ d : Nat, d = d := ⟨0, rfl⟩
          generalize wr.heap.size = g at HR ⊢
          exact ⟨g, d1, rfl, HR⟩
      case hk =>
        intro g9 d9 W5 HQ
        clear m0 m1 m3
        have hT5 := HX.out.below HQ.out.1
        have hb9 : ∀ g, (Value.slice p1 (plWhole (es.take k)).length c1).ownBlock = some g → g ≠ g9 := fun g hg e => by have := (HX.out.r1.lt g hg).2; have := HQ.out.2.1; omega
        have hb9' : ∀ g, (Value.slice p2 (plParts cut (es.take k)).length c2).ownBlock = some g → g ≠ g9 := fun g hg e => by have := (HX.out.r2.lt g hg).2; have := HQ.out.2.1; omega
        have n9 := HQ.out.2.2
        have hl9 := block_lt n9
        have x0 := cell_at n9 (j := 0) rfl
        have x1 := cell_at n9 (j := 1) rfl
        have x2 := cell_at n9 (j := 2) rfl
        have x3 := cell_at n9 (j := 3) rfl
        have hr1 := hT5.r1
        have hbs5 := hT5.be.size
        have hwl := plWhole_len (es.take k)
        have hpl := plParts_len cut (es.take k)
        rw [List.length_take, Nat.min_eq_left hk] at hwl hpl
        have HT5 := hid hT5
        have HB9 := hid (And.intro hb9 (And.intro hb9' (Nat.le_trans hbs HQ.out.2.1)))
        have HN9 := hid n9
        have hwb : (plWhole (es.take k)).length ≤ 3000000 := by omega
        have hpb : (plParts cut (es.take k)).length ≤ 3000000 := by omega
        clear hT5 hb9 hb9' n9 HX HQ hwl hpl hbs q0 q1 q3
        try dsimp only
        go_wp2_with (at_builtin; refine wpList_append_two _ rfl (.tmp 37) (.tmp 39) 22 rfl w.heap.size 60 i0 (.agg #[.int .i64 0, .string ⟨#[]⟩, .slice none 0 0, .string ⟨#[]⟩]) 4 64 Tryz.underlying22 hi hz0 hz1 hz2 rfl (by decide) _ _ _ rfl (hr1.alloc _) ⟨_, 0, none⟩ 1 1 [.int .i64 e.k, .string EN, .slice none 0 0, .string PT] rfl rfl (cells_newV _ _ _) (by simp [Value.oneCell']) (by decide) (by unfold maxLen; omega) (by omega) (by simp; omega) ?_)
        intro g6 cap6 w6 hown6 hgrow6 hd6
        have hev : evC0 (plE e) = [.int .i64 e.k, .string EN, .slice none 0 0, .string PT] := by
          show [Value.int .i64 e.k, .string (bs e.n), .slice none 0 0, .string (bs (e.t.map pwC))] = _
          rw [(HE.out trivial).2.1, (HE.out trivial).2.2.1]
        have hT6 := HT5.out.add (e := plE e) (by rw [hev]; exact hown6) hgrow6 (hd6.imp id (fun h => by have := h.1; omega))
        rw [← plWhole_next (HE.out trivial).1] at hT6
        have n6 := (hgrow6.block g9 (by simp; omega) (fun e => HB9.out.1 g9 e.symm rfl)).trans ((alloc_old W5 _ g9 hl9).trans HN9.out)
        have hg6 : g6 ≠ g9 := by
          rcases hd6 with h | h
          · exact HB9.out.1 g6 h
          · have := h.1; omega
        have HG6 := hid hg6
        have hl6 := block_lt n6
        have HT6 := hid hT6
        have HN6 := hid n6
        have x0 := cell_at n6 (j := 0) rfl
        have x1 := cell_at n6 (j := 1) rfl
        have x2 := cell_at n6 (j := 2) rfl
        have x3 := cell_at n6 (j := 3) rfl
        have y3 := free_at n6 3
        have hr2 := hT6.r2
        have hbs6 := hT6.be.size
        clear hT6 n6 hown6 hgrow6 hd6 hr1 hbs5 HT5 HN9 hev hg6
        by_cases hk3 : e.k = 3
        case neg =>
          have z1 : (e.k == 3) = false := beq_eq_false_iff_ne.2 hk3
          have hcut : cutE (plK cut (plE e)) (plE e) = [plE e] := if_neg hk3
          have HK := hid hcut
          clear hcut hk3
          go_wp2_with (at_builtin; refine wpList_append_two _ rfl (.tmp 62) (.tmp 64) 22 rfl w.heap.size 60 i0 (.agg #[.int .i64 0, .string ⟨#[]⟩, .slice none 0 0, .string ⟨#[]⟩]) 4 64 Tryz.underlying22 hi hz0 hz1 hz2 rfl (by decide) _ _ _ rfl (hr2.alloc _) ⟨_, 0, none⟩ 1 1 [.int .i64 e.k, .string EN, .slice none 0 0, .string PT] rfl rfl (cells_newV _ _ _) (by simp [Value.oneCell']) (by decide) (by unfold maxLen; omega) (by omega) (by simp; omega) ?_)
          intro g7 cap7 w7 hown7 hgrow7 hd7
          have hev : evC0 (plE e) = [.int .i64 e.k, .string EN, .slice none 0 0, .string PT] := by
            show [Value.int .i64 e.k, .string (bs e.n), .slice none 0 0, .string (bs (e.t.map pwC))] = _
            rw [(HE.out trivial).2.1, (HE.out trivial).2.2.1]
          have hT7 := HT6.out.swap.add (e := plE e) (by rw [hev]; exact hown7) hgrow7 (hd7.imp id (fun h => by have := h.1; omega))
          have hnx := plParts_next (cut := cut) (HE.out trivial).1
          rw [HK.out] at hnx
          rw [← hnx] at hT7
          have hT8 := hT7.swap
          have hl1 := congrArg List.length (plWhole_next (HE.out trivial).1)
          have hl2 := congrArg List.length hnx
          rw [List.length_append, List.length_singleton] at hl1 hl2
          have HT8 := hid hT8
          clear hT7 hT8 hnx hown7 hgrow7 hd7 hr2 hbs6 HT6 HN6 hev hl1 hl2
          go_wp2_with fail
          go_roundw
          case rel => first | exact ⟨k + 1, rfl, by omega, HT8⟩ | ((repeat apply Exists.intro); exact ⟨⟨k + 1, rfl, by omega, HT8⟩, rfl⟩)
          case measure => simp [RowKit.intOf]; omega
        case pos =>
          have z1 : (e.k == 3) = true := beq_iff_eq.2 hk3
          have hab := (HE.out trivial).2.2.2
          have hcu := HCU.out (plE e) w6 (by show (e.t.map pwC).length ≤ _; rw [List.length_map]; omega)
          have hps : PT.size = (plE e).t.length := by rw [← (HE.out trivial).2.1, bs_size]; rfl
          rw [← hps] at hcu
          obtain ⟨K, hK⟩ : ∃ K, plK cut (plE e) = K := ⟨_, rfl⟩
          have hwn := within_nat (cut := cut) (n := (plE e).t.length)
          rw [← hps] at hwn
          have hKe : (withinP cut 0 PT.size).toNat = K := by rw [← hK, hps]; rfl
          rw [hKe] at hwn
          rw [hwn.1] at hcu
          have hKs : K ≤ PT.size := hwn.2
          have hPb : PT.size ≤ 4000000 := by rw [hps]; show (e.t.map pwC).length ≤ _; rw [List.length_map]; omega
          have hx1 := mid_bs PT 0 K
          have hx2 := mid_bs PT K PT.size
          have hPd : PT.data.toList = (plE e).t := by rw [← (HE.out trivial).2.1]; rfl
          rw [hPd, List.drop_zero, Nat.sub_zero] at hx1
          rw [hPd, List.take_of_length_le (by rw [List.length_drop]; omega)] at hx2
          obtain ⟨PA, hPA⟩ : ∃ X, bs ((plE e).t.take K) = X := ⟨_, rfl⟩
          obtain ⟨PB, hPB⟩ : ∃ X, bs ((plE e).t.drop K) = X := ⟨_, rfl⟩
          rw [hPA] at hx1
          rw [hPB] at hx2
          have hcut : cutE (plK cut (plE e)) (plE e) = [⟨3, [], [], (plE e).t.take K⟩, ⟨e.k, e.n, [], (plE e).t.drop K⟩] := by
            rw [hK]
            exact if_pos hk3
          have HKK := hid (And.intro hcut (And.intro hPA hPB))
          have HCK := hid hcu
          clear hcut hPA hPB hcu hPd hwn hKe hps hK hk3 hab
          go_wp2_with fail
          refine HCK.out.mono ?_
          rintro r w6' ⟨rfl, rfl⟩
          go_wp2_with (at_builtin; refine wpList_append_two _ rfl (.tmp 49) (.tmp 55) 22 rfl w.heap.size 60 i0 (.agg #[.int .i64 0, .string ⟨#[]⟩, .slice none 0 0, .string ⟨#[]⟩]) 4 64 Tryz.underlying22 hi hz0 hz1 hz2 rfl (by decide) _ _ _ rfl (hr2.alloc _) ⟨_, 0, none⟩ 1 1 [.int .i64 3, .string ⟨#[]⟩, .slice none 0 0, .string PA] rfl rfl (cells_newV _ _ _) (by simp [Value.oneCell']) (by decide) (by unfold maxLen; omega) (by omega) (by simp; omega) ?_)
          intro g7 cap7 w7 hown7 hgrow7 hd7
          have hev : evC0 ⟨3, [], [], (plE e).t.take K⟩ = [.int .i64 3, .string ⟨#[]⟩, .slice none 0 0, .string PA] := by
            show [Value.int .i64 3, .string (bs []), .slice none 0 0, .string (bs ((plE e).t.take K))] = _
            rw [HKK.out.2.1]
            rfl
          have hT7 := HT6.out.swap.add (e := ⟨3, [], [], (plE e).t.take K⟩) (by rw [hev]; exact hown7) hgrow7 (hd7.imp id (fun h => by have := h.1; omega))
          have n7 := (hgrow7.block g9 (by simp; omega) (fun e => HB9.out.2.1 g9 e.symm rfl)).trans ((alloc_old w6' _ g9 hl6).trans HN6.out)
          have hl7 := block_lt n7
          have x0 := cell_at n7 (j := 0) rfl
          have x1 := cell_at n7 (j := 1) rfl
          have x2 := cell_at n7 (j := 2) rfl
          have x3 := cell_at n7 (j := 3) rfl
          have y3 := free_at n7 3
          have hg7 : g7 ≠ g9 := by
            rcases hd7 with h | h
            · exact HB9.out.2.1 g7 h
            · have := h.1; omega
          have HT7 := hid hT7
          have HN7 := hid n7
          have HG7 := hid hg7
          clear hT7 n7 hown7 hgrow7 hd7 hr2 hbs6 HT6 HN6 hev hg7 hl6
          go_upto_region 12 with fail
          have hj := just_put (j := 3) HN7.out (.string PB) rfl
          have hT8 := HT7.out.box hj (fun e => HG7.out (Option.some.inj e)) (fun e => HG6.out (Option.some.inj e)) HB9.out.2.2
          have n8 := hj.at_
          obtain ⟨W8, hW8⟩ : ∃ W8, w7.setCell ⟨g9, 3, none⟩ (.string PB) = W8 := ⟨_, rfl⟩
          rw [hW8] at hT8 n8
          simp only [hW8]
          clear hW8 hj HT7 HN7 x0 x1 x2 x3 y3 hl7
          have x0 := cell_at n8 (j := 0) rfl
          have x1 := cell_at n8 (j := 1) rfl
          have x2 := cell_at n8 (j := 2) rfl
          have x3 := cell_at n8 (j := 3) rfl
          have hr3 := hT8.r1
          have hbs8 := hT8.be.size
          have hl8 : (plParts cut (es.take k) ++ [(⟨3, [], [], (plE e).t.take K⟩ : EvP)]).length = (plParts cut (es.take k)).length + 1 := by rw [List.length_append, List.length_singleton]
          rw [hl8] at hr3
          have HT8 := hid hT8
          have HL8 := hid hl8
          clear hT8 n8 hl8
          go_wp2_with (at_builtin; refine wpList_append_two _ rfl (.tmp 62) (.tmp 64) 22 rfl w.heap.size 60 i0 (.agg #[.int .i64 0, .string ⟨#[]⟩, .slice none 0 0, .string ⟨#[]⟩]) 4 64 Tryz.underlying22 hi hz0 hz1 hz2 rfl (by decide) _ _ _ rfl (hr3.alloc _) ⟨_, 0, none⟩ 1 1 [.int .i64 e.k, .string EN, .slice none 0 0, .string PB] rfl rfl (cells_newV _ _ _) (by simp [Value.oneCell']) (by decide) (by unfold maxLen; omega) (by omega) (by simp; omega) ?_)
          intro g10 cap10 w10 hown10 hgrow10 hd10
          have hev : evC0 ⟨e.k, e.n, [], (plE e).t.drop K⟩ = [.int .i64 e.k, .string EN, .slice none 0 0, .string PB] := by
            show [Value.int .i64 e.k, .string (bs e.n), .slice none 0 0, .string (bs ((plE e).t.drop K))] = _
            rw [(HE.out trivial).2.2.1, HKK.out.2.2]
          have hT10 := HT8.out.add (cap := cap10) (e := ⟨e.k, e.n, [], (plE e).t.drop K⟩) (by rw [hev, HL8.out]; exact hown10) hgrow10 (hd10.imp id (fun h => by have := h.1; omega))
          have hnx := plParts_next (cut := cut) (HE.out trivial).1
          rw [HKK.out.1] at hnx
          have hnx2 : plParts cut (es.take k) ++ [(⟨3, [], [], (plE e).t.take K⟩ : EvP)] ++ [(⟨e.k, e.n, [], (plE e).t.drop K⟩ : EvP)] = plParts cut (es.take (k + 1)) := by rw [hnx, List.append_assoc]; rfl
          rw [hnx2, HL8.out] at hT10
          have hl1 := congrArg List.length (plWhole_next (HE.out trivial).1)
          have hl2 := congrArg List.length hnx2
          rw [List.length_append, List.length_singleton] at hl1
          rw [List.length_append, List.length_append, List.length_singleton, List.length_singleton] at hl2
          have HT11 := hid hT10.swap
          clear hT10 hnx hnx2 hown10 hgrow10 hd10 hr3 hbs8 HT8 HL8 hev hl1 hl2 HKK HE
          go_wp2_with fail
          go_roundw
          case rel => first | exact ⟨k + 1, rfl, by omega, HT11⟩ | ((repeat apply Exists.intro); exact ⟨⟨k + 1, rfl, by omega, HT11⟩, rfl⟩)
          case measure => simp [RowKit.intOf]; omega
    · obtain rfl : k = es.length := by omega
      have hT := HX.out
      rw [List.take_length] at hT
      have HZ : Hid (PlainOut w wr cut es (.returned (.tuple #[_, _]))) := hid ⟨_, _, rfl, hT.evs (fun e he => (plWhole_a es e he).1), hT.swap.evs (plParts_a cut es), hT.be⟩
      clear HX hT HC HCU
      go_wp2_with fail
      go_ret2
      exact HZ.out
end Go.Proofs.YtcncbhbdpcpkeaaGreatDoor
