/-
  Parts of the walk, joined: PrA, PrB.
-/
import Derived.Test.YtcncbhbdpcpkeaaGreatDoorPJBM
import Derived.Test.YtcncbhbdpcpkeaaGreatDoorPJAV
/-
  The parser's take: its walk.
-/
namespace Go.Proofs.YtcncbhbdpcpkeaaGreatDoor
open Go.RowKit Go.Lib Own

/-- what a token gives -/
structure PrTakeOut (K : Nat → Array Value → Prop) (w0 w' : World) (b : Nat) (s : PS) (tok : Ev) (e : Ending) : Prop where
  ans : e = .returned (.int .i64 (stepP s tok).1)
  prt : ∃ op' ns' eat', PrTo K w0 w' b op' eat' ns' ∧ ((stepP s tok).1 = 0 → (stepP s tok).2 = ⟨op', ns', eat'⟩)
theorem PrS.flagged {K K2 : Nat → Array Value → Prop} {w0 W : World} {b : Nat} {op : List (List UInt8)} {prs : List (EvP × Value)} {eat : Bool} {ov nv : Value} (h : PrS K2 w0 W b op prs eat ov nv) (hk : ∀ k c, K k c → K2 k c) (e : Bool) : PrTo K w0 (W.setCell ⟨b, 2, none⟩ (.bool e)) b op e (prs.map Prod.fst) :=
  ((h.flag e).less hk).same
theorem step_textV {op : List (List UInt8)} {ns : List EvP} {eat : Bool} {t : List UInt8} : (stepP ⟨op, ns, eat⟩ (.text t)).1 = (textS op ns (eaten eat t)).1 ∧ ((stepP ⟨op, ns, eat⟩ (.text t)).1 = 0 → (stepP ⟨op, ns, eat⟩ (.text t)).2 = ⟨op, (textS op ns (eaten eat t)).2, false⟩) := by
  unfold textS stepP
  dsimp only
  split
  · exact ⟨rfl, fun _ => rfl⟩
  · split
    · exact ⟨rfl, fun h => by cases h⟩
    · exact ⟨rfl, fun _ => rfl⟩
theorem step_stopV {op : List (List UInt8)} {ns : List EvP} {eat : Bool} {x : List UInt8} : (stepP ⟨op, ns, eat⟩ (.stop x)).1 = (if op.getLast? = some x then 0 else if modI op = 3 then 1 else 9) ∧ ((stepP ⟨op, ns, eat⟩ (.stop x)).1 = 0 → (stepP ⟨op, ns, eat⟩ (.stop x)).2 = ⟨if op.getLast? = some x then op.dropLast else op, ns, false⟩) := by
  unfold stepP
  dsimp only
  split
  · exact ⟨rfl, fun _ => rfl⟩
  · split
    · exact ⟨rfl, fun h => by cases h⟩
    · exact ⟨rfl, fun h => by cases h⟩
theorem step_startV {op : List (List UInt8)} {ns : List EvP} {eat : Bool} {x : List UInt8} {al : List AttrP} (hn : (al.map Prod.fst).Nodup) : (stepP ⟨op, ns, eat⟩ (.start x al)).1 = judgeP op x ∧ ((stepP ⟨op, ns, eat⟩ (.start x al)).1 = 0 → (stepP ⟨op, ns, eat⟩ (.start x al)).2 = ⟨if judgeP op x = 0 ∧ modX x ≠ 9 then op ++ [x] else op, if judgeP op x = 0 then ns ++ [⟨op.length, x, al, []⟩] else ns, eatsL x⟩) := by
  unfold stepP
  dsimp only
  rw [if_neg (fun h => h hn)]
  by_cases hj : judgeP op x = 0
  · rw [if_neg (fun h => h hj), if_pos hj, hj]
    refine ⟨rfl, fun _ => ?_⟩
    by_cases h9 : modX x = 9
    · rw [if_pos h9, if_neg (fun h => h.2 h9)]
    · rw [if_neg h9, if_pos ⟨rfl, h9⟩]
  · rw [if_pos hj]
    exact ⟨rfl, fun h => absurd h hj⟩
set_option maxHeartbeats 8000000 in
set_option maxRecDepth 100000 in
theorem prTakeText (K : Nat → Array Value → Prop) (w0 : World) (b : Nat) (op : List (List UInt8)) (prs : List (EvP × Value)) (eat : Bool) (ov nv : Value) (t : List UInt8) (av : Value) (w : World) (h : PrS K w0 w b op prs eat ov nv) (hl : prs.length ≤ 90000000) (ht : t.length ≤ 100000000) (hav : ∃ p n c, av = .slice p n c) :
    Calls Tryz.prog 35 #[.pointer (some ⟨b, 0, none⟩), .agg #[.int .i64 3, .string ⟨#[]⟩, av, .string (bs t)]] w fun e w' => PrTakeOut K w0 w' b ⟨op, prs.map Prod.fst, eat⟩ (.text t) e := by
  obtain ⟨ap, an, ac, rfl⟩ := hav
  obtain ⟨W1, hW1⟩ : ∃ W1, w.alloc (.cells #[.int .i64 3, .string ⟨#[]⟩, .slice ap an ac, .string (bs t)] 60) = W1 := ⟨_, rfl⟩
  have hb1 : Below w.heap.size w W1 := by rw [← hW1]; exact (Below.refl _ _).alloc (Nat.le_refl _) _
  have n1 : W1.heap[w.heap.size]? = some (.cells #[.int .i64 3, .string ⟨#[]⟩, .slice ap an ac, .string (bs t)] 60 (0, 0)) := by rw [← hW1]; exact heap_alloc_new _ _
  have h1 := (h.below hb1).more n1
  have e0 := cell_at n1 (j := 0) rfl
  have e1 := cell_at n1 (j := 1) rfl
  have e2 := cell_at n1 (j := 2) rfl
  have e3 := cell_at n1 (j := 3) rfl
  have hc := prText_any _ w0 b op prs eat ov nv t W1 h1 hl ht
  have hst := @step_textV op (prs.map Prod.fst) eat t
  have HC := hid hc
  have HS := hid hst
  clear hc hst n1 h1 hb1 h
  go_enter Tryz.func35, Tryz.ntmps35
  go_wp2_with fail
  refine HC.out.mono ?_
  rintro e W2 ⟨rfl, prs', ov', nv', hp, hns⟩
  have n2 := hp.kp _ _ (.inr ⟨rfl, rfl⟩)
  have e0 := cell_at n2 (j := 0) rfl
  have e1 := cell_at n2 (j := 1) rfl
  have f2 := free_at hp.at_ 2
  have c2 := cell_at hp.at_ (j := 2) rfl
  have HZ := hid (And.intro (hp.flagged (K := K) (fun _ _ hk => .inl hk) false) hns)
  clear n2 hp HC hns
  go_wp2_with fail
  go_ret
  exact ⟨by rw [HS.out.1]; rfl, _, _, _, HZ.out.1, fun hz => by rw [HS.out.2 hz, HZ.out.2]⟩
set_option maxHeartbeats 8000000 in
set_option maxRecDepth 100000 in
theorem prTakeStop (K : Nat → Array Value → Prop) (w0 : World) (b : Nat) (op : List (List UInt8)) (prs : List (EvP × Value)) (eat : Bool) (ov nv : Value) (x : List UInt8) (av : Value) (w : World) (h : PrS K w0 w b op prs eat ov nv) (hx : x ≠ []) (hav : ∃ p n c, av = .slice p n c) :
    Calls Tryz.prog 35 #[.pointer (some ⟨b, 0, none⟩), .agg #[.int .i64 2, .string (bs x), av, .string ⟨#[]⟩]] w fun e w' => PrTakeOut K w0 w' b ⟨op, prs.map Prod.fst, eat⟩ (.stop x) e := by
  obtain ⟨ap, an, ac, rfl⟩ := hav
  obtain ⟨W1, hW1⟩ : ∃ W1, w.alloc (.cells #[.int .i64 2, .string (bs x), .slice ap an ac, .string ⟨#[]⟩] 60) = W1 := ⟨_, rfl⟩
  have hb1 : Below w.heap.size w W1 := by rw [← hW1]; exact (Below.refl _ _).alloc (Nat.le_refl _) _
  have n1 : W1.heap[w.heap.size]? = some (.cells #[.int .i64 2, .string (bs x), .slice ap an ac, .string ⟨#[]⟩] 60 (0, 0)) := by rw [← hW1]; exact heap_alloc_new _ _
  have h1 := (h.below hb1).more n1
  have e0 := cell_at n1 (j := 0) rfl
  have e1 := cell_at n1 (j := 1) rfl
  have e2 := cell_at n1 (j := 2) rfl
  have e3 := cell_at n1 (j := 3) rfl
  have hc := prEnd_any _ w0 b op prs eat ov nv x W1 h1 hx
  have hst := @step_stopV op (prs.map Prod.fst) eat x
  obtain ⟨V, hV⟩ : ∃ V, (if op.getLast? = some x then 0 else if modI op = 3 then 1 else 9) = V := ⟨_, rfl⟩
  rw [hV] at hc hst
  have HC := hid hc
  have HS := hid hst
  clear hc hst n1 h1 hb1 h hV hx
  go_enter Tryz.func35, Tryz.ntmps35
  go_wp2_with fail
  refine HC.out.mono ?_
  rintro e W2 ⟨rfl, prs', ov', nv', hp, hns⟩
  have n2 := hp.kp _ _ (.inr ⟨rfl, rfl⟩)
  have e0 := cell_at n2 (j := 0) rfl
  have e1 := cell_at n2 (j := 1) rfl
  have f2 := free_at hp.at_ 2
  have c2 := cell_at hp.at_ (j := 2) rfl
  have HZ := hid (And.intro (hp.flagged (K := K) (fun _ _ hk => .inl hk) false) hns)
  clear n2 hp HC hns
  go_wp2_with fail
  go_ret
  exact ⟨by rw [HS.out.1]; rfl, _, _, _, HZ.out.1, fun hz => by rw [HS.out.2 hz, HZ.out.2]⟩
set_option maxHeartbeats 8000000 in
set_option maxRecDepth 100000 in
theorem prTakeStart (K : Nat → Array Value → Prop) (w0 : World) (b : Nat) (op : List (List UInt8)) (prs : List (EvP × Value)) (eat : Bool) (ov nv : Value) (x : List UInt8) (al : List AttrP) (av : Value) (w : World) (h : PrS K w0 w b op prs eat ov nv) (ha : w.ownsRow w0.heap.size 122 2 av al.length (attrsV al)) (hn : ∀ g, av.ownBlock = some g → ∀ (k : Nat) y, prs[k]? = some y → y.2.ownBlock ≠ some g) (hl : prs.length ≤ 90000000) (hd : (al.map Prod.fst).Nodup) :
    Calls Tryz.prog 35 #[.pointer (some ⟨b, 0, none⟩), .agg #[.int .i64 1, .string (bs x), av, .string ⟨#[]⟩]] w fun e w' => PrTakeOut K w0 w' b ⟨op, prs.map Prod.fst, eat⟩ (.start x al) e := by
  obtain ⟨ap, ac, rfl⟩ := row_shape ha
  obtain ⟨W1, hW1⟩ : ∃ W1, w.alloc (.cells #[.int .i64 1, .string (bs x), .slice ap al.length ac, .string ⟨#[]⟩] 60) = W1 := ⟨_, rfl⟩
  have hb1 : Below w.heap.size w W1 := by rw [← hW1]; exact (Below.refl _ _).alloc (Nat.le_refl _) _
  have n1 : W1.heap[w.heap.size]? = some (.cells #[.int .i64 1, .string (bs x), .slice ap al.length ac, .string ⟨#[]⟩] 60 (0, 0)) := by rw [← hW1]; exact heap_alloc_new _ _
  have h1 := (h.below hb1).more n1
  have e0 := cell_at n1 (j := 0) rfl
  have e1 := cell_at n1 (j := 1) rfl
  have e2 := cell_at n1 (j := 2) rfl
  have e3 := cell_at n1 (j := 3) rfl
  have hc := prStart_any _ w0 b op prs eat ov nv x ⟨#[]⟩ 1 _ al W1 h1 (row_below ha hb1) hn hl
  have hst := @step_startV op (prs.map Prod.fst) eat x al hd
  have hen := fun W => eats_any (bs x) W
  rw [bs_data] at hen
  unfold StartOut at hc
  obtain ⟨V, hV⟩ : ∃ V, judgeP op x = V := ⟨_, rfl⟩
  rw [hV] at hc hst
  have HC := hid hc
  have HS := hid hst
  have HE := hid hen
  clear hc hst hen n1 h1 hb1 h ha hn hd hV
  go_enter Tryz.func35, Tryz.ntmps35
  go_wp2_with fail
  refine HC.out.mono ?_
  rintro e W2 ⟨rfl, prs', ov', nv', hp, hns⟩
  have n2 := hp.kp _ _ (.inr ⟨rfl, rfl⟩)
  have e0 := cell_at n2 (j := 0) rfl
  have e1 := cell_at n2 (j := 1) rfl
  have f2 := free_at hp.at_ 2
  have c2 := cell_at hp.at_ (j := 2) rfl
  have HZ := hid (And.intro (hp.flagged (K := K) (fun _ _ hk => .inl hk) (eatsL x)) hns)
  clear n2 hp HC hns
  go_wp2_with fail
  refine (HE.out _).mono ?_
  rintro e W3 ⟨rfl, rfl⟩
  go_wp2_with fail
  go_ret
  exact ⟨by rw [HS.out.1]; rfl, _, _, _, HZ.out.1, fun hz => by rw [HS.out.2 hz, HZ.out.2]⟩
theorem prTake_any (K : Nat → Array Value → Prop) (w0 : World) (b : Nat) (op : List (List UInt8)) (prs : List (EvP × Value)) (eat : Bool) (ov nv : Value) (tok : Ev) (av : Value) (w : World) (h : PrS K w0 w b op prs eat ov nv)
    (ha : w.ownsRow w0.heap.size 122 2 av (evA tok).length (attrsV (evA tok))) (hn : ∀ g, av.ownBlock = some g → ∀ (k : Nat) y, prs[k]? = some y → y.2.ownBlock ≠ some g) (hl : prs.length ≤ 90000000) (ht : (evT tok).length ≤ 100000000)
    (hs : ∀ x, tok = .stop x → x ≠ []) (hd : ((evA tok).map Prod.fst).Nodup) :
    Calls Tryz.prog 35 #[.pointer (some ⟨b, 0, none⟩), .agg #[.int .i64 (evK tok : Nat), .string (bs (evN tok)), av, .string (bs (evT tok))]] w fun e w' => PrTakeOut K w0 w' b ⟨op, prs.map Prod.fst, eat⟩ tok e := by
  have hav : ∃ p n c, av = .slice p n c := by obtain ⟨p, c, h⟩ := row_shape ha; exact ⟨p, _, c, h⟩
  cases tok with
  | text t => exact prTakeText K w0 b op prs eat ov nv t av w h hl ht hav
  | stop x => exact prTakeStop K w0 b op prs eat ov nv x av w h (hs x rfl) hav
  | start x al => exact prTakeStart K w0 b op prs eat ov nv x al av w h ha hn hl hd
end Go.Proofs.YtcncbhbdpcpkeaaGreatDoor

/-
  markup.Parse: its walk.
-/
namespace Go.Proofs.YtcncbhbdpcpkeaaGreatDoor
open Go.RowKit Go.Lib Own

theorem tok_stop_ne {l r x : List UInt8} (h : tokP l = some (.stop x, r)) : x ≠ [] := by
  unfold tokP at h
  split at h
  · split at h
    · split at h
      · cases h
      · rename_i h1
        simp only [Option.some.injEq, Prod.mk.injEq, Ev.stop.injEq] at h
        obtain ⟨rfl, _⟩ := h
        intro e
        have h2 := congrArg List.length e
        have h3 := wordN_le [] (l.drop 2)
        rw [List.length_take] at h2
        simp only [List.length_nil] at h2
        exact h1 (.inl (by omega))
    · split at h
      · cases h
      · obtain ⟨y, _, hx⟩ := Option.map_eq_some_iff.1 h
        simp at hx
  · obtain ⟨y, _, hx⟩ := Option.map_eq_some_iff.1 h
    simp at hx
theorem tok_evT {l r : List UInt8} {t : Ev} (h : tokP l = some (t, r)) : (evT t).length ≤ l.length := by
  unfold tokP at h
  split at h
  · split at h
    · split at h
      · cases h
      · simp only [Option.some.injEq, Prod.mk.injEq] at h
        obtain ⟨rfl, _⟩ := h
        exact Nat.zero_le _
    · split at h
      · cases h
      · obtain ⟨y, _, hx⟩ := Option.map_eq_some_iff.1 h
        simp only [Prod.mk.injEq] at hx
        obtain ⟨rfl, _⟩ := hx
        exact Nat.zero_le _
  · obtain ⟨y, hy, hx⟩ := Option.map_eq_some_iff.1 h
    simp only [Prod.mk.injEq] at hx
    obtain ⟨rfl, _⟩ := hx
    exact Nat.le_trans (decP_len _ _ _ (Nat.le_refl _) hy).1 (takeWhile_len _ _)
theorem step_few (s : PS) (t : Ev) : (stepP s t).2.ns.length ≤ s.ns.length + 1 := by
  cases t with
  | text t =>
    unfold stepP
    dsimp only
    split
    · exact Nat.le_succ _
    · split
      · exact Nat.le_succ _
      · simp
  | stop x =>
    unfold stepP
    dsimp only
    split
    · exact Nat.le_succ _
    · split <;> exact Nat.le_succ _
  | start x al =>
    unfold stepP
    dsimp only
    split
    · exact Nat.le_succ _
    · split
      · exact Nat.le_succ _
      · simp
/-- what Parse answers -/
structure ParseOut (w w' : World) (l : List UInt8) (e : Ending) : Prop where
  it : ∃ nv prs, e = .returned (.agg #[.int .i64 (parseP l).1, nv]) ∧ MadeN w' w.heap.size nv prs ∧ prs.map Prod.fst = (parseP l).2 ∧ Below w.heap.size w w'
theorem parse_end {K : Nat → Array Value → Prop} {w W0 wr : World} {b : Nat} {op : List (List UInt8)} {prs : List (EvP × Value)} {eat : Bool} {ov nv : Value} (hW0 : w.alloc (.cells #[.int .i64 0, .slice none 0 0] 31) = W0) (h : PrS K W0 wr b op prs eat ov nv) (v u : Value) :
    ((wr.setCell ⟨w.heap.size, 0, none⟩ v).setCell ⟨w.heap.size, 1, none⟩ u).heap[w.heap.size]? = some (.cells #[v, u] 31 (0, 0)) ∧ Below w.heap.size w ((wr.setCell ⟨w.heap.size, 0, none⟩ v).setCell ⟨w.heap.size, 1, none⟩ u) ∧ MadeN ((wr.setCell ⟨w.heap.size, 0, none⟩ v).setCell ⟨w.heap.size, 1, none⟩ u) w.heap.size nv prs := by
  subst hW0
  have hsz : (w.alloc (.cells #[.int .i64 0, .slice none 0 0] 31)).heap.size = w.heap.size + 1 := by simp
  have hn := heap_alloc_new w (.cells #[.int .i64 0, .slice none 0 0] 31)
  have hres := (h.be.block w.heap.size (by rw [hsz]; omega)).trans hn
  have hj1 := just_put (j := 0) hres v rfl
  have hj2 := just_put (j := 1) hj1.at_ u rfl
  have hj := hj1.andThen hj2
  have hlo : w.heap.size ≤ (w.alloc (.cells #[.int .i64 0, .slice none 0 0] 31)).heap.size := by rw [hsz]; omega
  refine ⟨hj.at_, ?_, ?_⟩
  · exact (((Below.refl w.heap.size w).alloc (Nat.le_refl _) _).trans (h.be.mono hlo)).trans (just_low hj (Nat.le_refl _))
  · have hm : MadeN wr w.heap.size nv prs := ⟨row_low h.nodes.row hlo, fun k x hx => row_low (h.nodes.own k x hx) hlo, h.nodes.ap⟩
    exact hm.keep (fun _ _ _ hr => row_just hr hres (by decide) hj.other) (fun _ _ _ hr => row_just hr hres (by decide) hj.other)
theorem parseS_nil2 (s : PS) (h : s.op ≠ []) : parseS s [] = (10, []) := (parseS_nil s).trans (if_neg h)
theorem parseS_nil1 (s : PS) (h : s.op = []) : parseS s [] = (0, s.ns) := (parseS_nil s).trans (if_pos h)
theorem parseS_none (s : PS) {l : List UInt8} (h0 : l ≠ []) (h : tokP l = none) : parseS s l = (1, []) := by rw [parseS_step s h0, h]
theorem parseS_some (s : PS) {l r : List UInt8} {t : Ev} (h0 : l ≠ []) (h : tokP l = some (t, r)) : parseS s l = if (stepP s t).1 = 0 then parseS (stepP s t).2 r else ((stepP s t).1, []) := by rw [parseS_step s h0, h]
theorem step_twice {s : PS} {t : Ev} (h : ¬ ((evA t).map Prod.fst).Nodup) : (stepP s t).1 = 2 := by
  cases t with
  | text t => exact absurd List.nodup_nil h
  | stop x => exact absurd List.nodup_nil h
  | start x al =>
    have h2 : ¬ (al.map Prod.fst).Nodup := h
    unfold stepP
    dsimp only
    rw [if_pos h2]
/-- the parser at work, and what is left to read -/
structure ParseAt (w W0 wr : World) (b : Nat) (r : List UInt8) (R : Nat × List EvP) (op : List (List UInt8)) (prs : List (EvP × Value)) (eat : Bool) (ov nv : Value) : Prop where
  pr : PrS (fun _ _ => False) W0 wr b op prs eat ov nv
  res : parseS ⟨op, prs.map Prod.fst, eat⟩ r = R
  len : prs.length + r.length ≤ 80000000
theorem parse_no {w W0 wr : World} {b : Nat} {l : List UInt8} {op : List (List UInt8)} {prs : List (EvP × Value)} {eat : Bool} {ov nv : Value} {v : Nat} (hW0 : w.alloc (.cells #[.int .i64 0, .slice none 0 0] 31) = W0) (h : PrS (fun _ _ => False) W0 wr b op prs eat ov nv) (hv : parseP l = (v, [])) :
    ((wr.setCell ⟨w.heap.size, 0, none⟩ (.int .i64 v)).setCell ⟨w.heap.size, 1, none⟩ (.slice none 0 0)).heap[w.heap.size]? = some (.cells #[.int .i64 v, .slice none 0 0] 31 (0, 0)) ∧
    ParseOut w ((wr.setCell ⟨w.heap.size, 0, none⟩ (.int .i64 v)).setCell ⟨w.heap.size, 1, none⟩ (.slice none 0 0)) l (.returned (.agg #[.int .i64 v, .slice none 0 0])) := by
  have hp := parse_end hW0 h (.int .i64 v) (.slice none 0 0)
  exact ⟨hp.1, ⟨_, [], by rw [hv], MadeN.nil _ _, by rw [hv]; rfl, hp.2.1⟩⟩
set_option maxHeartbeats 8000000 in
set_option maxRecDepth 100000 in
theorem parse_any (l : List UInt8) (m : Int) (w : World) (hs : l.length ≤ 80000000) (hM : MRefTab w) (hm : w.cell? ⟨4, 0, none⟩ = some (.int .i64 m)) (hK : KindsTab w) :
    Calls Tryz.prog 11 #[.string (bs l)] w fun e w' => ParseOut w w' l e := by
  obtain ⟨W0, hW0⟩ : ∃ W0, w.alloc (.cells #[.int .i64 0, .slice none 0 0] 31) = W0 := ⟨_, rfl⟩
  have hz0 : W0.heap.size = w.heap.size + 1 := by rw [← hW0]; simp
  have hb0 : Below w.heap.size w W0 := by rw [← hW0]; exact (Below.refl _ _).alloc (Nat.le_refl _) _
  obtain ⟨W1, hW1⟩ : ∃ W1, W0.alloc (.cells #[.slice none 0 0, .slice none 0 0, .bool false] 82) = W1 := ⟨_, rfl⟩
  have n1 : W1.heap[w.heap.size + 1]? = some (.cells #[.slice none 0 0, .slice none 0 0, .bool false] 82 (0, 0)) := by rw [← hW1, ← hz0]; exact heap_alloc_new _ _
  have hb1 : Below W0.heap.size W0 W1 := by rw [← hW1]; exact (Below.refl _ _).alloc (Nat.le_refl _) _
  have hp1 : PrS (fun _ _ => False) W0 W1 (w.heap.size + 1) [] [] false (.slice none 0 0) (.slice none 0 0) := ⟨n1, World.ownsRow_nil _ _ _ _, MadeN.nil _ _, by simp, hb1, hK.below hb0, by omega, fun _ _ h => h.elim⟩
  obtain ⟨R, hR⟩ : ∃ R, parseP l = R := ⟨_, rfl⟩
  have H1 : Hid (ParseAt w W0 W1 (w.heap.size + 1) l R [] [] false (.slice none 0 0) (.slice none 0 0)) := hid ⟨hp1, hR, by simp; omega⟩
  have HR := hid (fun (_ : True) => hR)
  have HG := hid (And.intro hM (And.intro hm (And.intro hb0 hz0)))
  have HW0 := hid (fun (_ : True) => hW0)
  rw [← hW0] at hW1
  clear hM hm hK hb0 hz0 n1 hb1 hp1 hR hW0
  go_enter Tryz.func11, Tryz.ntmps11
  go_wp2_with fail
  go_loopw [0] (fun tv wr => ∃ r op prs eat ov nv, tv = .string (bs r) ∧ Hid (ParseAt w W0 wr (w.heap.size + 1) r R op prs eat ov nv)) (fun tv _ => strN tv)
  case atStart => exact ⟨l, [], [], false, _, _, rfl, H1⟩
  case round =>
    clear H1 hW1
    obtain ⟨r, op, prs, eat, ov, nv, rfl, HP⟩ := hrel
    obtain ⟨np, nc, rfl⟩ := row_shape HP.out.pr.nodes.row
    obtain ⟨oq, oc, rfl⟩ := HP.out.pr.row.shape
    have hres : wr.heap[w.heap.size]? = some (.cells #[.int .i64 0, .slice none 0 0] 31 (0, 0)) := by
      have := HP.out.pr.be.block w.heap.size (by rw [HG.out.2.2.2]; omega)
      rw [this, ← HW0.out trivial]
      exact heap_alloc_new _ _
    by_cases h0 : r = []
    · subst h0
      have z1 : (bs ([] : List UInt8)).toList = [] := bs_toList []
      have z2 : ((bs ([] : List UInt8)).toList != []) = false := by rw [z1]; rfl
      have z3 : ((bs ([] : List UInt8)).toList == []) = true := by rw [z1]; rfl
      have hr := HP.out.res
      have c0 := cell_at HP.out.pr.at_ (j := 0) rfl
      have c1 := cell_at HP.out.pr.at_ (j := 1) rfl
      have y0 := cell_at hres (j := 0) rfl
      have y1 := cell_at hres (j := 1) rfl
      have g0 := free_at hres 0
      have g1 := free_at hres 1
      by_cases ho : op = []
      · rw [parseS_nil1 _ ho] at hr
        have hpe := parse_end (HW0.out trivial) HP.out.pr (.int .i64 0) (.slice np prs.length nc)
        have HZ : Hid (ParseOut w ((wr.setCell ⟨w.heap.size, 0, none⟩ (.int .i64 0)).setCell ⟨w.heap.size, 1, none⟩ (.slice np prs.length nc)) l (.returned (.agg #[.int .i64 0, .slice np prs.length nc]))) := hid ⟨_, prs, by rw [HR.out trivial, ← hr]; rfl, hpe.2.2, by rw [HR.out trivial, ← hr], hpe.2.1⟩
        have HY := hid hpe.1
        have d1 : decide ((op.length : Int) > 0) = false := decide_eq_false (by rw [ho]; simp)
        have d2 : decide ((0 : Int) < (op.length : Int)) = false := decide_eq_false (by rw [ho]; simp)
        have d3 : decide (0 < op.length) = false := decide_eq_false (by rw [ho]; simp)
        clear hpe hr HP hres z1 ho HG
        go_wp2_with fail
        refine bodyPost_ret (v := .agg #[.int .i64 0, .slice np prs.length nc]) ?_ rfl HZ.out
        exact results_cell_row rfl _ _ _ _ _ _ _ rfl HY.out Tryz.underlying31 rfl (by kernel_rfl)
      · rw [parseS_nil2 _ ho] at hr
        have hpn := parse_no (HW0.out trivial) HP.out.pr (l := l) ((HR.out trivial).trans hr.symm)
        have HZ := hid hpn
        have hol : 0 < op.length := List.length_pos_iff.2 ho
        have d1 : decide ((op.length : Int) > 0) = true := decide_eq_true (by omega)
        have d2 : decide ((0 : Int) < (op.length : Int)) = true := decide_eq_true (by omega)
        have d3 : decide (0 < op.length) = true := decide_eq_true hol
        clear hpn hr HP hres z1 ho HG
        go_wp2_with fail
        refine bodyPost_ret (v := .agg #[.int .i64 10, .slice none 0 0]) ?_ rfl HZ.out.2
        exact results_cell_row rfl _ _ _ _ _ _ _ rfl HZ.out.1 Tryz.underlying31 rfl (by kernel_rfl)
    · have z2 : ((bs r).toList != []) = true := by rw [bs_toList, bne_iff_ne]; exact h0
      have z3 : ((bs r).toList == []) = false := by rw [bs_toList, beq_eq_false_iff_ne]; exact h0
      have hbw : Below w.heap.size w wr := HG.out.2.2.1.trans (HP.out.pr.be.mono HG.out.2.2.1.size)
      have hct := cutToken_any r m wr (by have := HP.out.len; omega) (HG.out.1.below hbw) (cell_low HG.out.2.1 hbw (cell_block HG.out.2.1))
      have HC := hid hct
      have H0 := hid (fun (_ : True) => h0)
      clear hct hbw h0 hres
      go_wp2_with fail
      refine HC.out.mono ?_
      rintro e W2 ⟨k, v, n, t, rest, av, al, rfl, hrow, hb2, hal, hnone, hsome⟩
      obtain ⟨ap, ac, rfl⟩ := row_shape hrow
      go_upto_region 4 with fail
      obtain ⟨W3, hW3⟩ : ∃ W3, W2.alloc (.cells #[.int .i64 k, .string (bs n), .slice ap al.length ac, .string (bs t)] 60) = W3 := ⟨_, rfl⟩
      have hb3 : Below W2.heap.size W2 W3 := by rw [← hW3]; exact (Below.refl _ _).alloc (Nat.le_refl _) _
      have n3 : W3.heap[W2.heap.size]? = some (.cells #[.int .i64 k, .string (bs n), .slice ap al.length ac, .string (bs t)] 60 (0, 0)) := by rw [← hW3]; exact heap_alloc_new _ _
      simp only [hW3]
      clear hW3
      have hb23 := hb2.trans (hb3.mono hb2.size)
      have e0 := cell_at n3 (j := 0) rfl
      have e1 := cell_at n3 (j := 1) rfl
      have e2 := cell_at n3 (j := 2) rfl
      have e3 := cell_at n3 (j := 3) rfl
      have hp3 := HP.out.pr.below hb23
      have hfr := HP.out.pr.nodes.fresh (u := .slice ap al.length ac) (fun g hg => (hrow.lt g hg).1)
      have hro3 := row_low (row_below hrow hb3) HP.out.pr.base
      have H3 := hid (And.intro hp3 (And.intro hfr hro3))
      have hres : W3.heap[w.heap.size]? = some (.cells #[.int .i64 0, .slice none 0 0] 31 (0, 0)) := by
        have := hp3.be.block w.heap.size (by rw [HG.out.2.2.2]; omega)
        rw [this, ← HW0.out trivial]
        exact heap_alloc_new _ _
      have y0 := cell_at hres (j := 0) rfl
      have y1 := cell_at hres (j := 1) rfl
      have g0 := free_at hres 0
      have g1 := free_at hres 1
      obtain ⟨EB, hEB⟩ : ∃ n, W2.heap.size = n := ⟨_, rfl⟩
      rw [hEB] at e0 e1 e2 e3
      simp only [hEB]
      clear hEB hb2 hb3 hb23 hp3 hfr hro3 hrow n3 HC hres z2 z3
      cases htk : tokP r with
      | none =>
        have hv := hnone htk
        have hr := HP.out.res
        rw [parseS_none _ (H0.out trivial) htk] at hr
        have HZ := hid (parse_no (HW0.out trivial) H3.out.1 (l := l) ((HR.out trivial).trans hr.symm))
        subst hv
        clear hnone hsome hr htk HP H3 HG
        go_wp2_with fail
        refine bodyPost_ret (v := .agg #[.int .i64 1, .slice none 0 0]) ?_ rfl HZ.out.2
        exact results_cell_row rfl _ _ _ _ _ _ _ rfl HZ.out.1 Tryz.underlying31 rfl (by kernel_rfl)
      | some x =>
        obtain ⟨tok, r'⟩ := x
        obtain ⟨rfl, rfl, rfl, rfl, rfl, hv⟩ := hsome tok r' htk
        clear hnone hsome
        by_cases hnd : ((evA tok).map Prod.fst).Nodup
        case neg =>
          rw [if_neg hnd] at hv
          have hr := HP.out.res
          rw [parseS_some _ (H0.out trivial) htk, if_neg (by rw [step_twice hnd]; decide), step_twice hnd] at hr
          have HZ := hid (parse_no (HW0.out trivial) H3.out.1 (l := l) ((HR.out trivial).trans hr.symm))
          subst hv
          clear hr htk HP H3 HG hnd
          go_wp2_with fail
          refine bodyPost_ret (v := .agg #[.int .i64 2, .slice none 0 0]) ?_ rfl HZ.out.2
          exact results_cell_row rfl _ _ _ _ _ _ _ rfl HZ.out.1 Tryz.underlying31 rfl (by kernel_rfl)
        case pos =>
          rw [if_pos hnd] at hv
          subst hv
          have htl := tok_len htk (H0.out trivial)
          have hln := HP.out.len
          have hta := prTake_any _ W0 (w.heap.size + 1) op prs eat _ _ tok _ W3 H3.out.1 H3.out.2.2 H3.out.2.1 (by omega) (by have := tok_evT htk; omega) (fun x hx => tok_stop_ne (by rw [← hx]; exact htk)) hnd
          have HT := hid hta
          have hr := HP.out.res
          rw [parseS_some _ (H0.out trivial) htk] at hr
          have hfw := step_few ⟨op, prs.map Prod.fst, eat⟩ tok
          have HS := hid (And.intro hr (And.intro hfw (And.intro htl hln)))
          have HGG := HG
          clear hta hr hfw htl hln htk H3 HP hnd y0 y1 g0 g1
          go_wp2_with fail
          refine HT.out.mono ?_
          rintro e W4 ⟨rfl, op', ns', eat', ⟨prs', ov', nv', hp, hns⟩, hst⟩
          have hres : W4.heap[w.heap.size]? = some (.cells #[.int .i64 0, .slice none 0 0] 31 (0, 0)) := by
            have := hp.be.block w.heap.size (by rw [HGG.out.2.2.2]; omega)
            rw [this, ← HW0.out trivial]
            exact heap_alloc_new _ _
          have y0 := cell_at hres (j := 0) rfl
          have y1 := cell_at hres (j := 1) rfl
          have g0 := free_at hres 0
          have g1 := free_at hres 1
          have HPP := hid hp
          have HST := hid (And.intro hst hns)
          clear hp hst hns hres HT HG HGG
          obtain ⟨V, hV⟩ : ∃ V, (stepP ⟨op, prs.map Prod.fst, eat⟩ tok).1 = V := ⟨_, rfl⟩
          have HV := hid (fun (_ : True) => hV)
          simp only [hV]
          clear hV
          by_cases hv : V = 0
          · have hr := HS.out.1
            have hs2 := HST.out.1 ((HV.out trivial).trans hv)
            rw [if_pos ((HV.out trivial).trans hv), hs2] at hr
            have hfw := HS.out.2.1
            rw [hs2] at hfw
            have HNX : Hid (ParseAt w W0 W4 (w.heap.size + 1) rest R op' prs' eat' ov' nv') := hid ⟨HPP.out, by rw [HST.out.2]; exact hr, by
              have h1 := HS.out.2.2.1
              have h2 := HS.out.2.2.2
              have h3 := congrArg List.length HST.out.2
              simp only [List.length_map] at hfw h3
              omega⟩
            have hlt := HS.out.2.2.1
            subst hv
            clear hr hs2 hfw HS HST HV HPP
            go_wp2_with fail
            go_roundw
            case rel => exact ⟨rest, op', prs', eat', ov', nv', rfl, HNX⟩
            case measure => simp only [strN, bs_size]; omega
          · have hr := HS.out.1
            rw [if_neg (fun e => hv ((HV.out trivial).symm.trans e)), HV.out trivial] at hr
            have HZ := hid (parse_no (HW0.out trivial) HPP.out (l := l) ((HR.out trivial).trans hr.symm))
            have q1 : ((V : Int) == 0) = false := beq_eq_false_iff_ne.2 (by omega)
            have q2 : ((V : Int) != 0) = true := by rw [bne_iff_ne]; omega
            clear hr HS HST HV HPP hv
            go_wp2_with fail
            refine bodyPost_ret (v := .agg #[.int .i64 V, .slice none 0 0]) ?_ rfl HZ.out.2
            exact results_cell_row rfl _ _ _ _ _ _ _ rfl HZ.out.1 Tryz.underlying31 rfl (by kernel_rfl)
end Go.Proofs.YtcncbhbdpcpkeaaGreatDoor
