/-
  Parts of the walk, joined: PrA, RpL.
-/
import Derived.Test.YtcncbhbdpcpkeaaGreatDoorPJBI
import Derived.Test.YtcncbhbdpcpkeaaGreatDoorPJBO
import Derived.Test.YtcncbhbdpcpkeaaGreatDoorPJAG
/-
  The parser's take: its walk.
-/
namespace Go.Proofs.YtcncbhbdpcpkeaaGreatDoor
open Go.RowKit Go.Lib Own

/-- what a token gives -/
structure PrTakeOut (K : Nat → Array Value → Prop) (w0 w' : World) (b : Nat) (s : PS) (tok : Ev) (e : Ending) : Prop where
  ans : e = .returned (.int .i64 (stepP s tok).1)
  prt : ∃ op' ns' eat', PrTo K w0 w' b op' eat' ns' ∧ ((stepP s tok).1 = 0 → (stepP s tok).2 = ⟨op', ns', eat'⟩)
theorem PrS.flagged {K K2 : Nat → Array Value → Prop} {w0 W : World} {b : Nat} {op : List (List UInt8)} {prs : List (EvP × Value)} {eat : Bool} {ov nv : Value} (h : PrS K2 w0 W b op prs eat ov nv) (hk : ∀ k c, K k c → K2 k c) (e : Bool) : PrTo K w0 (W.setCell ⟨b, 2, none⟩ (.bool e)) b op e (prs.map Prod.fst) :=
  ((h.flag e).less hk).same
theorem step_textV {op : List (List UInt8)} {ns : List EvP} {eat : Bool} {t : List UInt8} : (stepP ⟨op, ns, eat⟩ (.text t)).1 = (textS op ns (eaten eat t)).1 ∧ ((stepP ⟨op, ns, eat⟩ (.text t)).1 = 0 → (stepP ⟨op, ns, eat⟩ (.text t)).2 = ⟨op, (textS op ns (eaten eat t)).2, false⟩) := by
  unfold textS stepP
  dsimp only
  split
  · exact ⟨rfl, fun _ => rfl⟩
  · split
    · exact ⟨rfl, fun h => by cases h⟩
    · exact ⟨rfl, fun _ => rfl⟩
theorem step_stopV {op : List (List UInt8)} {ns : List EvP} {eat : Bool} {x : List UInt8} : (stepP ⟨op, ns, eat⟩ (.stop x)).1 = (if op.getLast? = some x then 0 else if modI op = 3 then 1 else 9) ∧ ((stepP ⟨op, ns, eat⟩ (.stop x)).1 = 0 → (stepP ⟨op, ns, eat⟩ (.stop x)).2 = ⟨if op.getLast? = some x then op.dropLast else op, ns, false⟩) := by
  unfold stepP
  dsimp only
  split
  · exact ⟨rfl, fun _ => rfl⟩
  · split
    · exact ⟨rfl, fun h => by cases h⟩
    · exact ⟨rfl, fun h => by cases h⟩
theorem step_startV {op : List (List UInt8)} {ns : List EvP} {eat : Bool} {x : List UInt8} {al : List AttrP} (hn : (al.map Prod.fst).Nodup) : (stepP ⟨op, ns, eat⟩ (.start x al)).1 = judgeP op x ∧ ((stepP ⟨op, ns, eat⟩ (.start x al)).1 = 0 → (stepP ⟨op, ns, eat⟩ (.start x al)).2 = ⟨if judgeP op x = 0 ∧ modX x ≠ 9 then op ++ [x] else op, if judgeP op x = 0 then ns ++ [⟨op.length, x, al, []⟩] else ns, eatsL x⟩) := by
  unfold stepP
  dsimp only
  rw [if_neg (fun h => h hn)]
  by_cases hj : judgeP op x = 0
  · rw [if_neg (fun h => h hj), if_pos hj, hj]
    refine ⟨rfl, fun _ => ?_⟩
    by_cases h9 : modX x = 9
    · rw [if_pos h9, if_neg (fun h => h.2 h9)]
    · rw [if_neg h9, if_pos ⟨rfl, h9⟩]
  · rw [if_pos hj]
    exact ⟨rfl, fun h => absurd h hj⟩
set_option maxHeartbeats 8000000 in
set_option maxRecDepth 100000 in
theorem prTakeText (K : Nat → Array Value → Prop) (w0 : World) (b : Nat) (op : List (List UInt8)) (prs : List (EvP × Value)) (eat : Bool) (ov nv : Value) (t : List UInt8) (av : Value) (w : World) (h : PrS K w0 w b op prs eat ov nv) (hl : prs.length ≤ 90000000) (ht : t.length ≤ 100000000) (hav : ∃ p n c, av = .slice p n c) :
    Calls Tryz.prog 35 #[.pointer (some ⟨b, 0, none⟩), .agg #[.int .i64 3, .string ⟨#[]⟩, av, .string (bs t)]] w fun e w' => PrTakeOut K w0 w' b ⟨op, prs.map Prod.fst, eat⟩ (.text t) e := by
  obtain ⟨ap, an, ac, rfl⟩ := hav
  obtain ⟨W1, hW1⟩ : ∃ W1, w.alloc (.cells #[.int .i64 3, .string ⟨#[]⟩, .slice ap an ac, .string (bs t)] 60) = W1 := ⟨_, rfl⟩
  have hb1 : Below w.heap.size w W1 := by rw [← hW1]; exact (Below.refl _ _).alloc (Nat.le_refl _) _
  have n1 : W1.heap[w.heap.size]? = some (.cells #[.int .i64 3, .string ⟨#[]⟩, .slice ap an ac, .string (bs t)] 60 (0, 0)) := by rw [← hW1]; exact heap_alloc_new _ _
  have h1 := (h.below hb1).more n1
  have e0 := cell_at n1 (j := 0) rfl
  have e1 := cell_at n1 (j := 1) rfl
  have e2 := cell_at n1 (j := 2) rfl
  have e3 := cell_at n1 (j := 3) rfl
  have hc := prText_any _ w0 b op prs eat ov nv t W1 h1 hl ht
  have hst := @step_textV op (prs.map Prod.fst) eat t
  have HC := hid hc
  have HS := hid hst
  clear hc hst n1 h1 hb1 h
  go_enter Tryz.func35, Tryz.ntmps35
  go_wp2_with fail
  refine HC.out.mono ?_
  rintro e W2 ⟨rfl, prs', ov', nv', hp, hns⟩
  have n2 := hp.kp _ _ (.inr ⟨rfl, rfl⟩)
  have e0 := cell_at n2 (j := 0) rfl
  have e1 := cell_at n2 (j := 1) rfl
  have f2 := free_at hp.at_ 2
  have c2 := cell_at hp.at_ (j := 2) rfl
  have HZ := hid (And.intro (hp.flagged (K := K) (fun _ _ hk => .inl hk) false) hns)
  clear n2 hp HC hns
  go_wp2_with fail
  go_ret
  exact ⟨by rw [HS.out.1]; rfl, _, _, _, HZ.out.1, fun hz => by rw [HS.out.2 hz, HZ.out.2]⟩
set_option maxHeartbeats 8000000 in
set_option maxRecDepth 100000 in
theorem prTakeStop (K : Nat → Array Value → Prop) (w0 : World) (b : Nat) (op : List (List UInt8)) (prs : List (EvP × Value)) (eat : Bool) (ov nv : Value) (x : List UInt8) (av : Value) (w : World) (h : PrS K w0 w b op prs eat ov nv) (hx : x ≠ []) (hav : ∃ p n c, av = .slice p n c) :
    Calls Tryz.prog 35 #[.pointer (some ⟨b, 0, none⟩), .agg #[.int .i64 2, .string (bs x), av, .string ⟨#[]⟩]] w fun e w' => PrTakeOut K w0 w' b ⟨op, prs.map Prod.fst, eat⟩ (.stop x) e := by
  obtain ⟨ap, an, ac, rfl⟩ := hav
  obtain ⟨W1, hW1⟩ : ∃ W1, w.alloc (.cells #[.int .i64 2, .string (bs x), .slice ap an ac, .string ⟨#[]⟩] 60) = W1 := ⟨_, rfl⟩
  have hb1 : Below w.heap.size w W1 := by rw [← hW1]; exact (Below.refl _ _).alloc (Nat.le_refl _) _
  have n1 : W1.heap[w.heap.size]? = some (.cells #[.int .i64 2, .string (bs x), .slice ap an ac, .string ⟨#[]⟩] 60 (0, 0)) := by rw [← hW1]; exact heap_alloc_new _ _
  have h1 := (h.below hb1).more n1
  have e0 := cell_at n1 (j := 0) rfl
  have e1 := cell_at n1 (j := 1) rfl
  have e2 := cell_at n1 (j := 2) rfl
  have e3 := cell_at n1 (j := 3) rfl
  have hc := prEnd_any _ w0 b op prs eat ov nv x W1 h1 hx
  have hst := @step_stopV op (prs.map Prod.fst) eat x
  obtain ⟨V, hV⟩ : ∃ V, (if op.getLast? = some x then 0 else if modI op = 3 then 1 else 9) = V := ⟨_, rfl⟩
  rw [hV] at hc hst
  have HC := hid hc
  have HS := hid hst
  clear hc hst n1 h1 hb1 h hV hx
  go_enter Tryz.func35, Tryz.ntmps35
  go_wp2_with fail
  refine HC.out.mono ?_
  rintro e W2 ⟨rfl, prs', ov', nv', hp, hns⟩
  have n2 := hp.kp _ _ (.inr ⟨rfl, rfl⟩)
  have e0 := cell_at n2 (j := 0) rfl
  have e1 := cell_at n2 (j := 1) rfl
  have f2 := free_at hp.at_ 2
  have c2 := cell_at hp.at_ (j := 2) rfl
  have HZ := hid (And.intro (hp.flagged (K := K) (fun _ _ hk => .inl hk) false) hns)
  clear n2 hp HC hns
  go_wp2_with fail
  go_ret
  exact ⟨by rw [HS.out.1]; rfl, _, _, _, HZ.out.1, fun hz => by rw [HS.out.2 hz, HZ.out.2]⟩
set_option maxHeartbeats 8000000 in
set_option maxRecDepth 100000 in
theorem prTakeStart (K : Nat → Array Value → Prop) (w0 : World) (b : Nat) (op : List (List UInt8)) (prs : List (EvP × Value)) (eat : Bool) (ov nv : Value) (x : List UInt8) (al : List AttrP) (av : Value) (w : World) (h : PrS K w0 w b op prs eat ov nv) (ha : w.ownsRow w0.heap.size 122 2 av al.length (attrsV al)) (hn : ∀ g, av.ownBlock = some g → ∀ (k : Nat) y, prs[k]? = some y → y.2.ownBlock ≠ some g) (hl : prs.length ≤ 90000000) (hd : (al.map Prod.fst).Nodup) :
    Calls Tryz.prog 35 #[.pointer (some ⟨b, 0, none⟩), .agg #[.int .i64 1, .string (bs x), av, .string ⟨#[]⟩]] w fun e w' => PrTakeOut K w0 w' b ⟨op, prs.map Prod.fst, eat⟩ (.start x al) e := by
  obtain ⟨ap, ac, rfl⟩ := row_shape ha
  obtain ⟨W1, hW1⟩ : ∃ W1, w.alloc (.cells #[.int .i64 1, .string (bs x), .slice ap al.length ac, .string ⟨#[]⟩] 60) = W1 := ⟨_, rfl⟩
  have hb1 : Below w.heap.size w W1 := by rw [← hW1]; exact (Below.refl _ _).alloc (Nat.le_refl _) _
  have n1 : W1.heap[w.heap.size]? = some (.cells #[.int .i64 1, .string (bs x), .slice ap al.length ac, .string ⟨#[]⟩] 60 (0, 0)) := by rw [← hW1]; exact heap_alloc_new _ _
  have h1 := (h.below hb1).more n1
  have e0 := cell_at n1 (j := 0) rfl
  have e1 := cell_at n1 (j := 1) rfl
  have e2 := cell_at n1 (j := 2) rfl
  have e3 := cell_at n1 (j := 3) rfl
  have hc := prStart_any _ w0 b op prs eat ov nv x ⟨#[]⟩ 1 _ al W1 h1 (row_below ha hb1) hn hl
  have hst := @step_startV op (prs.map Prod.fst) eat x al hd
  have hen := fun W => eats_any (bs x) W
  rw [bs_data] at hen
  unfold StartOut at hc
  obtain ⟨V, hV⟩ : ∃ V, judgeP op x = V := ⟨_, rfl⟩
  rw [hV] at hc hst
  have HC := hid hc
  have HS := hid hst
  have HE := hid hen
  clear hc hst hen n1 h1 hb1 h ha hn hd hV
  go_enter Tryz.func35, Tryz.ntmps35
  go_wp2_with fail
  refine HC.out.mono ?_
  rintro e W2 ⟨rfl, prs', ov', nv', hp, hns⟩
  have n2 := hp.kp _ _ (.inr ⟨rfl, rfl⟩)
  have e0 := cell_at n2 (j := 0) rfl
  have e1 := cell_at n2 (j := 1) rfl
  have f2 := free_at hp.at_ 2
  have c2 := cell_at hp.at_ (j := 2) rfl
  have HZ := hid (And.intro (hp.flagged (K := K) (fun _ _ hk => .inl hk) (eatsL x)) hns)
  clear n2 hp HC hns
  go_wp2_with fail
  refine (HE.out _).mono ?_
  rintro e W3 ⟨rfl, rfl⟩
  go_wp2_with fail
  go_ret
  exact ⟨by rw [HS.out.1]; rfl, _, _, _, HZ.out.1, fun hz => by rw [HS.out.2 hz, HZ.out.2]⟩
theorem prTake_any (K : Nat → Array Value → Prop) (w0 : World) (b : Nat) (op : List (List UInt8)) (prs : List (EvP × Value)) (eat : Bool) (ov nv : Value) (tok : Ev) (av : Value) (w : World) (h : PrS K w0 w b op prs eat ov nv)
    (ha : w.ownsRow w0.heap.size 122 2 av (evA tok).length (attrsV (evA tok))) (hn : ∀ g, av.ownBlock = some g → ∀ (k : Nat) y, prs[k]? = some y → y.2.ownBlock ≠ some g) (hl : prs.length ≤ 90000000) (ht : (evT tok).length ≤ 100000000)
    (hs : ∀ x, tok = .stop x → x ≠ []) (hd : ((evA tok).map Prod.fst).Nodup) :
    Calls Tryz.prog 35 #[.pointer (some ⟨b, 0, none⟩), .agg #[.int .i64 (evK tok : Nat), .string (bs (evN tok)), av, .string (bs (evT tok))]] w fun e w' => PrTakeOut K w0 w' b ⟨op, prs.map Prod.fst, eat⟩ tok e := by
  have hav : ∃ p n c, av = .slice p n c := by obtain ⟨p, c, h⟩ := row_shape ha; exact ⟨p, _, c, h⟩
  cases tok with
  | text t => exact prTakeText K w0 b op prs eat ov nv t av w h hl ht hav
  | stop x => exact prTakeStop K w0 b op prs eat ov nv x av w h (hs x rfl) hav
  | start x al => exact prTakeStart K w0 b op prs eat ov nv x al av w h ha hn hl hd
end Go.Proofs.YtcncbhbdpcpkeaaGreatDoor

/-
  The reference's foster: its walk.
-/
namespace Go.Proofs.YtcncbhbdpcpkeaaGreatDoor
open Go.RowKit Go.Lib Own

theorem ws_has (c : UInt8) : ([9, 10, 12, 32] : List UInt8).contains c = wsP c := by
  have := u8_all (p := fun c => ([9, 10, 12, 32] : List UInt8).contains c == wsP c) (by decide +kernel) c
  exact beq_iff_eq.1 this
theorem ws_past : ∀ l : List UInt8, decide ((l.takeWhile ([9, 10, 12, 32] : List UInt8).contains).length < l.length) = !l.all wsP
  | [] => rfl
  | c :: r => by
    rw [List.takeWhile_cons, ws_has, List.all_cons]
    cases h : wsP c with
    | true =>
      rw [if_pos rfl, Bool.true_and, ← ws_past r, List.length_cons, List.length_cons, Bool.eq_iff_iff, decide_eq_true_iff, decide_eq_true_iff]
      omega
    | false =>
      rw [if_neg Bool.false_ne_true]
      simp
set_option maxHeartbeats 4000000 in
set_option maxRecDepth 100000 in
theorem foster_any (ov : Value) (op : List (List UInt8)) (t : List UInt8) (w : World) (h : Words w ov op) (hfw : op.length ≤ 100000000) (ht : t.length ≤ 4000000) :
    Calls Tryz.prog 115 #[ov, .string (bs t)] w fun e w' => e = .returned (.bool (decide (innT op = 5 ∨ innT op = 6 ∨ innT op = 7) && !t.all wsP)) ∧ w' = w := by
  have hin := refInner_any ov op w h hfw
  have hiw := innE_word op.reverse
  rw [show innT op = innR op.reverse from rfl]
  rw [hiw.1] at hin
  have hii := hiw.2
  have hpa := past_at (bs t) 0 [9, 10, 12, 32] (Nat.zero_le _) (by rw [bs_size]; exact ht) (by decide) 0 rfl t (by rw [bs_data]; rfl) _ rfl w
  have hws := ws_past t
  obtain ⟨op', on, oc, rfl⟩ : ∃ p n c, ov = .slice p n c := h.shape
  generalize innR op.reverse = IT at hin hii ⊢
  rw [Nat.zero_add] at hpa
  rw [← hws]
  have hsz := bs_size t
  generalize (t.takeWhile ([9, 10, 12, 32] : List UInt8).contains).length = K at hpa ⊢
  rw [← hsz]
  generalize bs t = B at hpa hsz ⊢
  have HP := hid hpa
  have HN := hid hin
  clear hpa hin h hiw hws hsz
  have hz : decide ((K : Int) < (B.size : Int)) = decide (K < B.size) := by rw [Bool.eq_iff_iff, decide_eq_true_iff, decide_eq_true_iff]; omega
  have hIT : IT = 0 ∨ IT = 8 ∨ IT = 5 ∨ IT = 6 ∨ IT = 7 := by omega
  clear hii
  have HN0 : IT = 0 → Hid (Calls Tryz.prog 176 #[.slice op' on oc] w fun e w' => e = .returned (.string ⟨#[]⟩) ∧ w' = w) := fun e => by subst e; exact HN
  have HN8 : IT = 8 → Hid (Calls Tryz.prog 176 #[.slice op' on oc] w fun e w' => e = .returned (.string ⟨#[99, 101, 108, 108]⟩) ∧ w' = w) := fun e => by subst e; exact HN
  have HN5 : IT = 5 → Hid (Calls Tryz.prog 176 #[.slice op' on oc] w fun e w' => e = .returned (.string ⟨#[116, 97, 98, 108, 101]⟩) ∧ w' = w) := fun e => by subst e; exact HN
  have HN6 : IT = 6 → Hid (Calls Tryz.prog 176 #[.slice op' on oc] w fun e w' => e = .returned (.string ⟨#[115, 101, 99, 116, 105, 111, 110]⟩) ∧ w' = w) := fun e => by subst e; exact HN
  have HN7 : IT = 7 → Hid (Calls Tryz.prog 176 #[.slice op' on oc] w fun e w' => e = .returned (.string ⟨#[114, 111, 119]⟩) ∧ w' = w) := fun e => by subst e; exact HN
  clear HN
  obtain ⟨R, hR⟩ : ∃ R, (decide (IT = 5 ∨ IT = 6 ∨ IT = 7) && decide (K < B.size)) = R := ⟨_, rfl⟩
  rw [hR]
  rcases hIT with rfl | rfl | rfl | rfl | rfl
  case' inl => have HI := HN0 rfl
  case' inr.inl => have HI := HN8 rfl
  case' inr.inr.inl => have HI := HN5 rfl
  case' inr.inr.inr.inl => have HI := HN6 rfl
  case' inr.inr.inr.inr => have HI := HN7 rfl
  all_goals
    clear HN0 HN8 HN5 HN6 HN7
    simp only [Nat.reduceEqDiff, or_self, or_true, or_false, decide_true, decide_false, Bool.true_and, Bool.false_and] at hR
    have HR := hid (fun (_ : True) => hR)
    clear hR
    go_enter Tryz.func115, Tryz.ntmps115
    go_wp2_with fail
    refine HI.out.mono ?_
    rintro e W1 ⟨rfl, rfl⟩
    go_wp2_with fail
    first
      | (go_ret; exact ⟨by rw [← HR.out trivial]; rfl, rfl⟩)
      | (refine HP.out.mono ?_; rintro e W1 ⟨rfl, rfl⟩; go_wp2_with fail; go_ret; exact ⟨by rw [← HR.out trivial]; first | rfl | (rw [← hz]; rfl), rfl⟩)
end Go.Proofs.YtcncbhbdpcpkeaaGreatDoor
