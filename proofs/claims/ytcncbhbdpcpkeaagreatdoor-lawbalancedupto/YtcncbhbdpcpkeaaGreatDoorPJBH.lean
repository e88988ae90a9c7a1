/-
  Parts of the walk, joined: BalB, BalC, BalD.
-/
import Derived.BigQuiet
import Derived.Test.YtcncbhbdpcpkeaaGreatDoorPJAY
import Derived.Test.YtcncbhbdpcpkeaaGreatDoorPJBG
/-
  The balancer's state; its put and openElement: their walks.
-/
namespace Go.Proofs.YtcncbhbdpcpkeaaGreatDoor
open Go.RowKit Go.Lib Own

/-- the balancer's box, its open elements, what it gives -/
structure BalAt (W : World) (base ob b : Nat) (d : Int) (op : List (List UInt8)) (ov outv : Value) (J : List Ev) (xs : List Value) : Prop where
  lo : base ≤ b
  bx : W.heap[b]? = some (.cells #[.int .i64 d, ov, outv] 117 (0, 0))
  op : OpenR W base ov op
  out : MadeE W ob outv J xs
/-- what stays while the balancer works -/
structure BalF (b : Nat) (ov outv ov' outv' : Value) (W W' : World) : Prop where
  os : W'.os = W.os
  tape : W'.tape = W.tape
  output : W'.output = W.output
  size : W.heap.size ≤ W'.heap.size
  other : ∀ k, k < W.heap.size → k ≠ b → ov.ownBlock ≠ some k → outv.ownBlock ≠ some k → W'.heap[k]? = W.heap[k]?
  o1 : ∀ g, ov'.ownBlock = some g → ov.ownBlock = some g ∨ W.heap.size ≤ g
  o2 : ∀ g, outv'.ownBlock = some g → outv.ownBlock = some g ∨ W.heap.size ≤ g
theorem BalF.refl (b : Nat) (ov outv : Value) (W : World) : BalF b ov outv ov outv W W := ⟨rfl, rfl, rfl, Nat.le_refl _, fun _ _ _ _ _ => rfl, fun _ h => .inl h, fun _ h => .inl h⟩
theorem BalF.trans {b : Nat} {ov outv ov1 outv1 ov2 outv2 : Value} {W W1 W2 : World} (h : BalF b ov outv ov1 outv1 W W1) (h2 : BalF b ov1 outv1 ov2 outv2 W1 W2) : BalF b ov outv ov2 outv2 W W2 := by
  refine ⟨h2.os.trans h.os, h2.tape.trans h.tape, h2.output.trans h.output, Nat.le_trans h.size h2.size, fun k hk hb h3 h4 => ?_, fun g hg => ?_, fun g hg => ?_⟩
  · rw [h2.other k (Nat.lt_of_lt_of_le hk h.size) hb (fun e => ?_) (fun e => ?_)]
    · exact h.other k hk hb h3 h4
    · rcases h.o1 k e with e2 | e2
      · exact h3 e2
      · omega
    · rcases h.o2 k e with e2 | e2
      · exact h4 e2
      · omega
  · rcases h2.o1 g hg with e | e
    · exact h.o1 g e
    · exact .inr (Nat.le_trans h.size e)
  · rcases h2.o2 g hg with e | e
    · exact h.o2 g e
    · exact .inr (Nat.le_trans h.size e)
theorem BalF.of_below {b : Nat} {ov outv : Value} {W W1 : World} (h : Below W.heap.size W W1) : BalF b ov outv ov outv W W1 :=
  ⟨h.os, h.tape, h.output, h.size, fun k hk _ _ _ => h.block k hk, fun _ h => .inl h, fun _ h => .inl h⟩
theorem BalAt.below {W W1 : World} {base ob b : Nat} {d : Int} {op : List (List UInt8)} {ov outv : Value} {J : List Ev} {xs : List Value} (h : BalAt W base ob b d op ov outv J xs) (hb : Below W.heap.size W W1) : BalAt W1 base ob b d op ov outv J xs :=
  ⟨h.lo, (hb.block _ (block_lt h.bx)).trans h.bx, row_below h.op hb, h.out.below hb⟩
/-- a block that the balancer does not work in -/
theorem BalF.keep {b : Nat} {ov outv ov' outv' : Value} {W W' : World} (h : BalF b ov outv ov' outv' W W') {k : Nat} {o : Obj} (hk : W.heap[k]? = some o) (h1 : k ≠ b) (h2 : ov.ownBlock ≠ some k) (h3 : outv.ownBlock ≠ some k) : W'.heap[k]? = some o :=
  (h.other k (block_lt hk) h1 h2 h3).trans hk
theorem BalF.below {b B : Nat} {ov outv ov' outv' : Value} {W W' : World} (h : BalF b ov outv ov' outv' W W') (hB : B ≤ W.heap.size) (hb : B ≤ b) (h1 : ∀ g, ov.ownBlock = some g → B ≤ g) (h2 : ∀ g, outv.ownBlock = some g → B ≤ g) : Below B W W' :=
  ⟨h.os, h.tape, h.output, h.size, fun k hk => h.other k (by omega) (by omega) (fun e => by have := h1 k e; omega) (fun e => by have := h2 k e; omega)⟩
/-- rows of attributes and the like stay -/
theorem BalF.row {b base B ob z n : Nat} {e : TypeId} {v : Value} {xs : List Value} {d : Int} {op : List (List UInt8)} {ov outv ov' outv' : Value} {J : List Ev} {ys : List Value} {W W' : World} (h : BalF b ov outv ov' outv' W W') (hs : BalAt W base ob b d op ov outv J ys) (hr : W.ownsRow B e z v n xs)
    (h1 : 117 ≠ e) (h2 : e ≠ 172) (h3 : e ≠ 60) : W'.ownsRow B e z v n xs :=
  row_of_block hr (fun g hg => h.other g (hr.lt g hg).2 (fun e => row_ne hr hs.bx h1 (by rw [hg, e])) (fun e => rows_ne2 hr hs.op h2 g hg e) (fun e => rows_ne2 hr hs.out.row h3 g hg e))

theorem rows_ne3 {W : World} {B1 B2 : Nat} {e1 e2 : TypeId} {z1 z2 n1 n2 : Nat} {v1 v2 : Value} {xs1 xs2 : List Value} (h1 : W.ownsRow B1 e1 z1 v1 n1 xs1) (h2 : W.ownsRow B2 e2 z2 v2 n2 xs2) (hne : e1 ≠ e2) : v1.ownBlock = none ∨ v1.ownBlock ≠ v2.ownBlock := by
  rcases ho : v1.ownBlock with _ | g
  · exact .inl rfl
  · exact .inr (fun e => rows_ne2 h1 h2 hne g ho e.symm)
theorem Just.grown {W W' : World} {b : Nat} {cs : Array Value} {T : TypeId} (j : Just W W' b cs T) : W.grownBy W' (some b) :=
  ⟨j.os, j.tape, j.output, by rw [j.size]; exact Nat.le_refl _, fun k _ hk => j.other k (fun e => hk (by rw [e]))⟩
/-- the balancer's box takes its list that has grown -/
theorem BalAt.gave {base ob b : Nat} {d : Int} {op : List (List UInt8)} {ov outv outv' : Value} {J : List Ev} {xs : List Value} {W W2 : World} {kv nv av tv : Value} {ev : Ev} {X : Obj} (h : BalAt W base ob b d op ov outv J xs)
    (he : EvsAt W ob [kv, nv, av, tv] [ev]) (hn : ∀ g, av.ownBlock = some g → NotIn g xs) (hg : (W.alloc X).grownBy W2 outv.ownBlock) (hv : W2.ownsRow ob 60 4 outv' (J.length + 1) (xs ++ [kv, nv, av, tv])) (hnew : ∀ g, outv'.ownBlock = some g → outv.ownBlock = some g ∨ W.heap.size ≤ g) :
    BalAt (W2.setCell ⟨b, 2, none⟩ outv') base ob b d op ov outv' (J ++ [ev]) (xs ++ [kv, nv, av, tv]) ∧ BalF b ov outv ov outv' W (W2.setCell ⟨b, 2, none⟩ outv') := by
  have hra := h.out.row.alloc X
  have bxa := (Go.Lib.alloc_old W X _ (block_lt h.bx)).trans h.bx
  have bx2 := grown_at hg bxa (row_ne hra bxa (by decide))
  have j := just_put (j := 2) (cs2 := #[.int .i64 d, ov, outv']) bx2 outv' (by simp)
  have hm := h.out.more he hn hg hv
  have hm2 := hm.grown j.grown (.inr (row_ne hm.row bx2 (by decide))) (fun a n ys hr => .inr (row_ne hr bx2 (by decide)))
  have hop := row_just ((h.op.alloc X).kept hg (rows_ne3 (h.op.alloc X) hra (by decide))) bx2 (by decide) j.other
  refine ⟨⟨h.lo, j.at_, hop, hm2⟩, ⟨j.os.trans hg.os, j.tape.trans hg.tape, j.output.trans hg.output, ?_, fun k hk h1 _ h3 => ?_, fun g hg => .inl hg, hnew⟩⟩
  · have h1 := hg.size
    have h2 := alloc_lt W X
    rw [j.size]
    omega
  · rw [j.other k h1, hg.block k (by have := alloc_lt W X; omega) (fun e => h3 e.symm), Go.Lib.alloc_old _ _ _ hk]
/-- the balancer's box takes its open elements that have grown -/
theorem BalAt.opened {base ob b : Nat} {d : Int} {op : List (List UInt8)} {ov outv ov' : Value} {J : List Ev} {xs : List Value} {W W2 : World} {x : List UInt8} {X : Obj} (h : BalAt W base ob b d op ov outv J xs)
    (hg : (W.alloc X).grownBy W2 ov.ownBlock) (hv : W2.ownsRow base 172 3 ov' (op.length + 1) (elems op ++ [.string (bs x), .int .i64 (clsX x : Nat), .int .i64 (modX x : Nat)])) (hnew : ∀ g, ov'.ownBlock = some g → ov.ownBlock = some g ∨ W.heap.size ≤ g) :
    BalAt (W2.setCell ⟨b, 1, none⟩ ov') base ob b d (op ++ [x]) ov' outv J xs ∧ BalF b ov outv ov' outv W (W2.setCell ⟨b, 1, none⟩ ov') := by
  have hra := h.op.alloc X
  have bxa := (Go.Lib.alloc_old W X _ (block_lt h.bx)).trans h.bx
  have bx2 := grown_at hg bxa (row_ne hra bxa (by decide))
  have j := just_put (j := 1) (cs2 := #[.int .i64 d, ov', outv]) bx2 ov' (by simp)
  have hal : Below W.heap.size W (W.alloc X) := (Below.refl _ _).alloc (Nat.le_refl _) X
  have hm := (h.out.below hal).grown hg (rows_ne3 (h.out.row.alloc X) hra (by decide)) (fun a n ys hr => rows_ne3 hr hra (by decide))
  have hm2 := hm.grown j.grown (.inr (row_ne hm.row bx2 (by decide))) (fun a n ys hr => .inr (row_ne hr bx2 (by decide)))
  have hop : OpenR (W2.setCell ⟨b, 1, none⟩ ov') base ov' (op ++ [x]) := by
    unfold OpenR
    rw [List.length_append, elems_app]
    exact row_just hv bx2 (by decide) j.other
  refine ⟨⟨h.lo, j.at_, hop, hm2⟩, ⟨j.os.trans hg.os, j.tape.trans hg.tape, j.output.trans hg.output, ?_, fun k hk h1 h3 _ => ?_, hnew, fun g hg => .inl hg⟩⟩
  · have h1 := hg.size
    have h2 := alloc_lt W X
    rw [j.size]
    omega
  · rw [j.other k h1, hg.block k (by have := alloc_lt W X; omega) (fun e => h3 e.symm), Go.Lib.alloc_old _ _ _ hk]
theorem info_elem : (Tryz.prog.info? 172).map (fun i => (i.zero, i.size, i.bytes)) = some (some (.agg #[.string ⟨#[]⟩, .int .i64 0, .int .i64 0]), 3, 32) := by kernel_rfl

set_option maxHeartbeats 8000000 in
set_option maxRecDepth 100000 in
theorem balPut_any (base ob b : Nat) (d : Int) (op : List (List UInt8)) (ov outv : Value) (J : List Ev) (xs : List Value) (k : Int) (n t : ByteArray) (av : Value) (ev : Ev) (w : World) (h : BalAt w base ob b d op ov outv J xs) (hob : ob ≤ w.heap.size)
    (he : EvsAt w ob [.int .i64 k, .string n, av, .string t] [ev]) (hn : ∀ g, av.ownBlock = some g → NotIn g xs) (ho : ∃ p m c, av = .slice p m c) (hl : J.length ≤ 540000000) :
    Calls Tryz.prog 131 #[.pointer (some ⟨b, 0, none⟩), .agg #[.int .i64 k, .string n, av, .string t]] w fun e w' => e = .returned (.tuple #[]) ∧
      ∃ outv', BalAt w' base ob b d op ov outv' (J ++ [ev]) (xs ++ [.int .i64 k, .string n, av, .string t]) ∧ BalF b ov outv ov outv' w w' := by
  obtain ⟨i0, hi, hz0, hz1, hz2⟩ := info_parts info_event
  obtain ⟨ap, an, ac, rfl⟩ := ho
  obtain ⟨W1, hW1⟩ : ∃ W1, w.alloc (.cells #[.int .i64 k, .string n, .slice ap an ac, .string t] 60) = W1 := ⟨_, rfl⟩
  have hb1 : Below w.heap.size w W1 := by rw [← hW1]; exact (Below.refl _ _).alloc (Nat.le_refl _) _
  have n1 : W1.heap[w.heap.size]? = some (.cells #[.int .i64 k, .string n, .slice ap an ac, .string t] 60 (0, 0)) := by rw [← hW1]; exact heap_alloc_new _ _
  have h1 := h.below hb1
  have he1 := evs_mono (fun _ _ _ hr => row_below hr hb1) _ _ he
  have e0 := cell_at n1 (j := 0) rfl
  have e1 := cell_at n1 (j := 1) rfl
  have e2 := cell_at n1 (j := 2) rfl
  have e3 := cell_at n1 (j := 3) rfl
  have hrow := h1.out.row
  have hbx := h1.bx
  have c2 := cell_at hbx (j := 2) rfl
  have f2 := free_at hbx 2
  have hne := row_ne hrow hbx (by decide)
  have hsz1 := hb1.size
  have hbs := block_lt hbx
  have hns := block_lt n1
  have hnn : b ≠ w.heap.size := fun e => by have := block_lt h.bx; omega
  have H1 := hid (And.intro h1 (And.intro he1 (And.intro hn (And.intro h hb1))))
  have hone : ∀ u ∈ [Value.int .i64 k, .string n, .slice ap an ac, .string t], u.oneCell' = true := by simp [Value.oneCell']
  have HB1 := hid hW1
  clear n1 h1 he1 hb1 he hn h
  obtain ⟨op', ocap, rfl⟩ := row_shape hrow
  go_enter Tryz.func131, Tryz.ntmps131
  go_upto_region 1 with fail
  clear hW1
  go_region_law (refine step_append_lies _ rfl (.tmp 8) (.tmp 10) 22 rfl ob 60 i0 (.agg #[.int .i64 0, .string ⟨#[]⟩, .slice none 0 0, .string ⟨#[]⟩]) 4 64 Tryz.underlying22 hi hz0 hz1 hz2 rfl (by decide) (.slice op' J.length ocap) J.length xs (by simp [Act.eval]) (by exact hrow.alloc _) ⟨_, 0, none⟩ 1 1 [.int .i64 k, .string n, .slice ap an ac, .string t] (by simp [Act.eval]) rfl (cells_newV _ _ _) hone (by omega) (by unfold maxLen; omega) (by omega) (by simp; omega) _ rfl ?_; rintro g cap w10 hrow10 hgrow10 hnew10 -; have hb10 : w10.heap[b]? = some (.cells #[.int .i64 d, ov, .slice op' J.length ocap] 117 (0, 0)) := ((hgrow10.block b (by simp; omega) (fun e => hne e.symm)).trans (Go.Lib.alloc_old _ _ b (by exact hbs))).trans (by exact hbx); have ce10 := cell_at (j := 2) hb10 rfl; have fe10 := free_at hb10 2)
  all_goals
    have hg10 : (W1.alloc (.cells #[.int .i64 k, .string n, .slice ap an ac, .string t] 60)).grownBy w10 (Value.slice op' J.length ocap).ownBlock := ⟨hgrow10.os, hgrow10.tape, hgrow10.output, hgrow10.size, hgrow10.block⟩
    have hnw : ∀ g', (Value.slice (some ⟨g, 0, none⟩) (J.length + 1) cap).ownBlock = some g' → (Value.slice op' J.length ocap).ownBlock = some g' ∨ W1.heap.size ≤ g' := fun g' e => by
      obtain rfl := Option.some.inj e
      rcases hnew10 with e2 | e2
      · exact .inl e2
      · exact .inr (by rw [e2]; simp)
    have hfin := H1.out.1.gave (outv' := .slice (some ⟨g, 0, none⟩) (J.length + 1) cap) H1.out.2.1 H1.out.2.2.1 hg10 hrow10 hnw
    have HF := hid hfin
    have HW := hid H1.out.2.2.2.2
    clear hfin hg10 hnw hrow10 hgrow10 hnew10 hb10 ce10 fe10
    go_end0
    exact ⟨rfl, _, HF.out.1, (BalF.of_below HW.out).trans HF.out.2⟩

set_option maxHeartbeats 8000000 in
set_option maxRecDepth 100000 in
theorem openEl_any (base ob b : Nat) (d : Int) (op : List (List UInt8)) (ov outv : Value) (J : List Ev) (xs : List Value) (x : List UInt8) (av : Value) (al : List AttrP) (w : World) (h : BalAt w base ob b d op ov outv J xs) (hob : ob ≤ w.heap.size) (hbase : base ≤ w.heap.size)
    (hx : modX x < 10) (ha : w.ownsRow ob 122 2 av al.length (attrsV al)) (hn : ∀ g, av.ownBlock = some g → NotIn g xs) (hl : J.length ≤ 480000000) (hop : op.length ≤ 1000000) :
    Calls Tryz.prog 126 #[.pointer (some ⟨b, 0, none⟩), .agg #[.string (bs x), .int .i64 (clsX x : Nat), .int .i64 (modX x : Nat)], av] w fun e w' => e = .returned (.tuple #[]) ∧
      ∃ ov' outv', BalAt w' base ob b d (op ++ if modX x = 9 then [] else [x]) ov' outv' (J ++ [.start x al]) (xs ++ [.int .i64 1, .string (bs x), av, .string ⟨#[]⟩]) ∧ BalF b ov outv ov' outv' w w' := by
  obtain ⟨i0, hi, hz0, hz1, hz2⟩ := info_parts info_elem
  obtain ⟨ap, ac, rfl⟩ := row_shape ha
  obtain ⟨W1, hW1⟩ : ∃ W1, w.alloc (.cells #[.string (bs x), .int .i64 (clsX x : Nat), .int .i64 (modX x : Nat)] 172) = W1 := ⟨_, rfl⟩
  have hb1 : Below w.heap.size w W1 := by rw [← hW1]; exact (Below.refl _ _).alloc (Nat.le_refl _) _
  have n1 : W1.heap[w.heap.size]? = some (.cells #[.string (bs x), .int .i64 (clsX x : Nat), .int .i64 (modX x : Nat)] 172 (0, 0)) := by rw [← hW1]; exact heap_alloc_new _ _
  have h1 := h.below hb1
  have hev : EvsAt W1 ob [.int .i64 1, .string (bs x), .slice ap al.length ac, .string ⟨#[]⟩] [.start x al] := ⟨⟨rfl, rfl, row_below ha hb1, rfl⟩, trivial⟩
  have hput := balPut_any base ob b d op ov outv J xs 1 (bs x) ⟨#[]⟩ (.slice ap al.length ac) (.start x al) W1 h1 (Nat.le_trans hob hb1.size) hev hn ⟨_, _, _, rfl⟩ (by omega)
  have hkb : w.heap.size ≠ b := fun e => by have := block_lt h.bx; omega
  have hk1 : ov.ownBlock ≠ some w.heap.size := fun e => by have := (h.op.lt _ e).2; omega
  have hk2 : outv.ownBlock ≠ some w.heap.size := fun e => by have := (h.out.row.lt _ e).2; omega
  have e0 := cell_at n1 (j := 0) rfl
  have e1 := cell_at n1 (j := 1) rfl
  have e2 := cell_at n1 (j := 2) rfl
  have HP := hid hput
  have HN := hid (And.intro n1 hb1)
  have hv := fun W => elemVoid_any (.string (bs x)) (clsX x) (modX x) W
  have HV := hid hv
  obtain ⟨BX, hBX⟩ : ∃ n, bs x = n := ⟨_, rfl⟩
  obtain ⟨CX, hCX⟩ : ∃ n, clsX x = n := ⟨_, rfl⟩
  obtain ⟨MX, hMX⟩ : ∃ n, modX x = n := ⟨_, rfl⟩
  have HX := hid (And.intro hBX (And.intro hCX hMX))
  have HB := hid (And.intro hW1 hop)
  rw [hBX, hCX, hMX] at hW1 e0 e1 e2 HN HV
  rw [hBX] at HP
  rw [hMX] at hx
  rw [hBX, hCX, hMX]
  clear hput hv h1 hev hb1 n1 h ha hn hBX hCX hMX
  go_enter Tryz.func126, Tryz.ntmps126
  go_wp2_with fail
  refine HP.out.mono ?_
  rintro e W2 ⟨rfl, outv2, hs2, hf2⟩
  have n2 := hf2.keep HN.out.1 hkb hk1 hk2
  replace e0 := cell_at n2 (j := 0) rfl
  replace e1 := cell_at n2 (j := 1) rfl
  replace e2 := cell_at n2 (j := 2) rfl
  have H2 := hid (And.intro hs2 (And.intro ((BalF.of_below HN.out.2).trans hf2) n2))
  clear hs2 hf2 n2
  go_wp2_with fail
  refine (HV.out _).mono ?_
  rintro e W3 ⟨rfl, hb3⟩
  have hs3 := H2.out.1.below hb3
  have hf3 := H2.out.2.1.trans (BalF.of_below hb3)
  have n3 := (hb3.block _ (block_lt H2.out.2.2)).trans H2.out.2.2
  have H3 := hid (And.intro hs3 hf3)
  replace e0 := cell_at n3 (j := 0) rfl
  replace e1 := cell_at n3 (j := 1) rfl
  replace e2 := cell_at n3 (j := 2) rfl
  by_cases hv9 : MX = 9
  · subst hv9
    clear n3 hb3 hs3 hf3 H2 e0 e1 e2
    go_wp2_with fail
    go_end0
    exact ⟨rfl, _, _, H3.out.1, H3.out.2⟩
  · have q : ((MX : Int) == 9) = false := by rw [Bool.eq_false_iff]; intro h; rw [beq_iff_eq] at h; omega
    have hrow := hs3.op
    have hbx := hs3.bx
    have c1 := cell_at hbx (j := 1) rfl
    have f1 := free_at hbx 1
    have hne := row_ne hrow hbx (by decide)
    have hbs := block_lt hbx
    have hns := block_lt n3
    have hnn : b ≠ w.heap.size := fun e => hkb e.symm
    have hbW3 : base ≤ W3.heap.size := Nat.le_trans hbase hf3.size
    have hopl := HB.out.2
    obtain ⟨op', ocap, rfl⟩ := row_shape hrow
    have hone : ∀ u ∈ [Value.string BX, .int .i64 (CX : Nat), .int .i64 (MX : Nat)], u.oneCell' = true := by simp [Value.oneCell']
    clear hs3 hf3 n3 hb3 H2 HP HN HV
    go_wp2_with fail
    go_region_law (refine step_append_lies _ rfl (.tmp 19) (.tmp 21) 80 rfl base 172 i0 (.agg #[.string ⟨#[]⟩, .int .i64 0, .int .i64 0]) 3 32 Tryz.underlying80 hi hz0 hz1 hz2 rfl (by decide) (.slice op' op.length ocap) op.length (elems op) (by simp [Act.eval]) (by exact hrow.alloc _) ⟨_, 0, none⟩ 1 1 [.string BX, .int .i64 (CX : Nat), .int .i64 (MX : Nat)] (by simp [Act.eval]) rfl (cells_newV _ _ _) hone (by omega) (by unfold maxLen; omega) (by omega) (by simp; omega) _ rfl ?_; rintro g cap w10 hrow10 hgrow10 hnew10 -; have hb10 : w10.heap[b]? = some (.cells #[.int .i64 d, .slice op' op.length ocap, outv2] 117 (0, 0)) := ((hgrow10.block b (by simp; omega) (fun e => hne e.symm)).trans (Go.Lib.alloc_old _ _ b (by exact hbs))).trans (by exact hbx); have ce10 := cell_at (j := 1) hb10 rfl; have fe10 := free_at hb10 1)
    all_goals
      have hg10 : (W3.alloc (.cells #[.string BX, .int .i64 (CX : Nat), .int .i64 (MX : Nat)] 172)).grownBy w10 (Value.slice op' op.length ocap).ownBlock := ⟨hgrow10.os, hgrow10.tape, hgrow10.output, hgrow10.size, hgrow10.block⟩
      have hnw : ∀ g', (Value.slice (some ⟨g, 0, none⟩) (op.length + 1) cap).ownBlock = some g' → (Value.slice op' op.length ocap).ownBlock = some g' ∨ W3.heap.size ≤ g' := fun g' e => by
        obtain rfl := Option.some.inj e
        rcases hnew10 with e2 | e2
        · exact .inl e2
        · exact .inr (by rw [e2]; simp)
      rw [← HX.out.1, ← HX.out.2.1, ← HX.out.2.2] at hrow10
      have hfin := H3.out.1.opened (x := x) (ov' := .slice (some ⟨g, 0, none⟩) (op.length + 1) cap) hg10 hrow10 hnw
      have HF := hid hfin
      clear hfin hg10 hnw hrow10 hgrow10 hnew10 hb10 ce10 fe10
      go_end0
      try rw [if_neg hv9]
      exact ⟨rfl, _, _, HF.out.1, H3.out.2.trans HF.out.2⟩
end Go.Proofs.YtcncbhbdpcpkeaaGreatDoor

/-
  The balancer's openImplied and closeTo: their walks.
-/
namespace Go.Proofs.YtcncbhbdpcpkeaaGreatDoor
open Go.RowKit Go.Lib Own

/-- the balancer at work, since the world w0 -/
structure BalS (w0 W : World) (ob b : Nat) (d : Int) (op : List (List UInt8)) (ov outv : Value) (J : List Ev) (xs : List Value) : Prop where
  at_ : BalAt W w0.heap.size ob b d op ov outv J xs
  be : Below w0.heap.size w0 W
  kt : KindsTab w0
  nt : NestTab w0
  h1 : w0.heap.size ≤ ob
  h2 : ob ≤ W.heap.size
section
variable {w0 W W' : World} {ob b : Nat} {d : Int} {op op' : List (List UInt8)} {ov outv ov' outv' : Value} {J J' : List Ev} {xs xs' : List Value}
theorem BalS.step (h : BalS w0 W ob b d op ov outv J xs) (ha : BalAt W' w0.heap.size ob b d op' ov' outv' J' xs') (hf : BalF b ov outv ov' outv' W W') : BalS w0 W' ob b d op' ov' outv' J' xs' :=
  ⟨ha, h.be.trans (hf.below h.be.size h.at_.lo (fun g hg => (h.at_.op.lt g hg).1) (fun g hg => Nat.le_trans h.h1 (h.at_.out.row.lt g hg).1)), h.kt, h.nt, h.h1, Nat.le_trans h.h2 hf.size⟩
theorem BalS.below (h : BalS w0 W ob b d op ov outv J xs) (hb : Below W.heap.size W W') : BalS w0 W' ob b d op ov outv J xs :=
  ⟨h.at_.below hb, h.be.trans (hb.mono h.be.size), h.kt, h.nt, h.h1, Nat.le_trans h.h2 hb.size⟩
theorem BalS.kinds (h : BalS w0 W ob b d op ov outv J xs) : KindsTab W := h.kt.below h.be
theorem BalS.nest (h : BalS w0 W ob b d op ov outv J xs) : NestTab W := h.nt.below h.be
theorem BalS.base (h : BalS w0 W ob b d op ov outv J xs) : w0.heap.size ≤ W.heap.size := h.be.size
/-- a block that is new to the balancer stays -/
theorem BalS.fresh (h : BalS w0 W ob b d op ov outv J xs) {k : Nat} (hk : W.heap.size ≤ k) : k ≠ b ∧ ov.ownBlock ≠ some k ∧ outv.ownBlock ≠ some k := by
  refine ⟨fun e => ?_, fun e => ?_, fun e => ?_⟩
  · have := block_lt h.at_.bx; omega
  · have := (h.at_.op.lt k e).2; omega
  · have := (h.at_.out.row.lt k e).2; omega
/-- what is open, at less -/
theorem BalS.shut {p : Option Addr} {n c k : Nat} (h : BalS w0 W ob b d op (.slice p n c) outv J xs) (hk : k ≤ op.length) (hn : n = op.length) :
    BalS w0 (W.setCell ⟨b, 1, none⟩ (.slice p k c)) ob b d (op.take k) (.slice p k c) outv J xs ∧ BalF b (.slice p n c) outv (.slice p k c) outv W (W.setCell ⟨b, 1, none⟩ (.slice p k c)) := by
  have j := just_put (j := 1) (cs2 := #[.int .i64 d, .slice p k c, outv]) h.at_.bx (.slice p k c) (by simp)
  have ho : OpenR (W.setCell ⟨b, 1, none⟩ (.slice p k c)) w0.heap.size (.slice p k c) (op.take k) := row_just (h.at_.op.front hk hn) h.at_.bx (by decide) j.other
  have hm := h.at_.out.grown j.grown (.inr (row_ne h.at_.out.row h.at_.bx (by decide))) (fun a n ys hr => .inr (row_ne hr h.at_.bx (by decide)))
  have hf : BalF b (.slice p n c) outv (.slice p k c) outv W (W.setCell ⟨b, 1, none⟩ (.slice p k c)) :=
    ⟨j.os, j.tape, j.output, by rw [j.size]; exact Nat.le_refl _, fun x _ hx _ _ => j.other x hx, fun g hg => .inl (by cases p with | none => cases hg | some a => exact hg), fun g hg => .inl hg⟩
  exact ⟨h.step ⟨h.at_.lo, j.at_, ho, hm⟩ hf, hf⟩
end
theorem elem_some {x : List UInt8} (h : elemL x ≠ none) : elemL x = some (clsX x, modX x) := by
  unfold clsX modX
  cases hx : elemL x with
  | none => exact absurd hx h
  | some p => rfl
theorem known_lt (x : List UInt8) (h : elemL x ≠ none) : modX x < 10 ∧ clsX x < 10 := by
  have := known_bd x h
  omega
theorem openE_app (a b : List (List UInt8)) : openE (a ++ b) = openE a ++ openE b := List.map_append
set_option maxHeartbeats 8000000 in
set_option maxRecDepth 100000 in
theorem openImp_any (w0 : World) (ob b : Nat) (d : Int) (op : List (List UInt8)) (ov outv : Value) (J : List Ev) (xs : List Value) (nv : Value) (names : List (List UInt8)) (B : Nat) (w : World) (h : BalS w0 w ob b d op ov outv J xs) (hw : w.ownsRow B 9 1 nv names.length (wordsV names))
    (hnm : ∀ x ∈ names, elemL x ≠ none ∧ modX x ≠ 9) (hnl : names.length ≤ 10) (hl : J.length ≤ 420000000) (hop : op.length ≤ 900000) :
    Calls Tryz.prog 125 #[.pointer (some ⟨b, 0, none⟩), nv] w fun e w' => e = .returned (.tuple #[]) ∧
      ∃ ov' outv' xs', BalS w0 w' ob b d (op ++ names) ov' outv' (J ++ openE names) xs' ∧ BalF b ov outv ov' outv' w w' := by
  obtain ⟨np, nc, rfl⟩ := row_shape hw
  have HW := hid hw
  have HN := hid hnm
  have H0 := hid (And.intro h (BalF.refl b ov outv w))
  clear hw hnm h
  go_enter Tryz.func125, Tryz.ntmps125
  go_wp2_with fail
  go_loopw [10] (fun iv wr => ∃ (k : Nat) (ov' outv' : Value) (xs' : List Value), iv = .int .i64 k ∧ k ≤ names.length ∧ Hid (BalS w0 wr ob b d (op ++ names.take k) ov' outv' (J ++ openE (names.take k)) xs' ∧ BalF b ov outv ov' outv' w wr) ∧ Hid (wr.ownsRow B 9 1 (.slice np names.length nc) names.length (wordsV names))) (fun iv _ => names.length - (RowKit.intOf iv).toNat)
  case atStart => exact ⟨0, ov, outv, xs, rfl, Nat.zero_le _, hid (by rw [List.take_zero, List.append_nil, show openE [] = [] from rfl, List.append_nil]; exact H0.out), HW⟩
  case round =>
    clear H0 HW
    obtain ⟨k, ov1, outv1, xs1, rfl, hk, HX, HW⟩ := hrel
    by_cases hkl : k < names.length
    · obtain ⟨x, hx⟩ : ∃ x, names[k]? = some x := ⟨_, List.getElem?_eq_getElem hkl⟩
      obtain ⟨hx1, hx2⟩ := HN.out x (List.mem_of_getElem? hx)
      obtain ⟨p', c', e3, hle, _, hcell, _⟩ := Words.row HW.out
      cases e3
      obtain ⟨gb, go, rfl, hc⟩ := hcell k x hx
      have hfd := find_any (bs x) wr HX.out.1.kinds
      rw [bs_toList, elem_some hx1] at hfd
      have hlt := known_lt x hx1
      have htk : names.take (k + 1) = names.take k ++ [x] := by rw [List.take_add_one, hx]; rfl
      have hlen : (J ++ openE (names.take k)).length ≤ 480000000 := by
        rw [List.length_append]
        unfold openE
        rw [List.length_map, List.length_take]
        omega
      have hlen2 : (op ++ names.take k).length ≤ 1000000 := by rw [List.length_append, List.length_take]; omega
      have HF := hid hfd
      have HL := hid (And.intro hlen (And.intro hlen2 (And.intro htk (And.intro hx2 hlt))))
      clear hfd hlen hlen2 htk hx hx1 hx2 hcell hlt
      go_wp2_with fail
      refine HF.out.mono ?_
      rintro e W1 ⟨rfl, hb1⟩
      have hs1 := HX.out.1.below hb1
      have hf1 := HX.out.2.trans (BalF.of_below hb1)
      have hr1 := row_below HW.out hb1
      have H1 := hid (And.intro hs1 (And.intro hf1 hr1))
      unfold foundV elemC
      dsimp only
      clear hs1 hf1 hr1 hb1 HX HW HF hc
      go_upto_region 4 with fail
      obtain ⟨W2, hW2⟩ : ∃ W2, W1.alloc (.cells #[.string (bs x), .int .i64 (clsX x : Nat), .int .i64 (modX x : Nat)] 172) = W2 := ⟨_, rfl⟩
      have hb2 : Below W1.heap.size W1 W2 := by rw [← hW2]; exact (Below.refl _ _).alloc (Nat.le_refl _) _
      have n2 : W2.heap[W1.heap.size]? = some (.cells #[.string (bs x), .int .i64 (clsX x : Nat), .int .i64 (modX x : Nat)] 172 (0, 0)) := by rw [← hW2]; exact heap_alloc_new _ _
      simp only [hW2]
      clear hW2
      have e0 := cell_at n2 (j := 0) rfl
      have e1 := cell_at n2 (j := 1) rfl
      have e2 := cell_at n2 (j := 2) rfl
      have hs2 := H1.out.1.below hb2
      have hf2 := H1.out.2.1.trans (BalF.of_below hb2)
      have hr2 := row_below H1.out.2.2 hb2
      have hcl := openEl_any w0.heap.size ob b d _ ov1 outv1 _ xs1 x (.slice none 0 0) [] W2 hs2.at_ hs2.h2 hs2.base HL.out.2.2.2.2.1 (World.ownsRow_nil _ _ _ _) (fun g e => by cases e) HL.out.1 HL.out.2.1
      have HC := hid hcl
      have H2 := hid (And.intro hs2 (And.intro hf2 hr2))
      clear hcl hs2 hf2 hr2 H1 hb2 n2
      go_wp2_with fail
      refine HC.out.mono ?_
      rintro e W3 ⟨rfl, ov3, outv3, ha3, hf3⟩
      rw [if_neg HL.out.2.2.2.1, List.append_assoc, ← HL.out.2.2.1] at ha3
      have hs3 := H2.out.1.step ha3 hf3
      have hr3 := hf3.row H2.out.1.at_ H2.out.2.2 (by decide) (by decide) (by decide)
      have hJ : J ++ openE (names.take k) ++ [Ev.start x []] = J ++ openE (names.take (k + 1)) := by rw [HL.out.2.2.1, openE_app, List.append_assoc]; rfl
      rw [hJ] at hs3
      have HZ := hid (And.intro hs3 (H2.out.2.1.trans hf3))
      have HR := hid hr3
      clear hs3 hr3 hJ ha3 hf3 HC H2 HL e0 e1 e2
      go_wp2_with fail
      go_roundw
      case rel => exact ⟨k + 1, ov3, outv3, _, rfl, by omega, HZ, HR⟩
      case measure => simp [RowKit.intOf]; omega
    · obtain rfl : k = names.length := by omega
      have hz := HX.out
      rw [List.take_length] at hz
      have HZ := hid hz
      clear hz HX HW
      go_wp2_with fail
      go_end0
      exact ⟨rfl, ov1, outv1, xs1, HZ.out.1, HZ.out.2⟩
/-- the End of one more -/
theorem closeE_next {op : List (List UInt8)} {m : Nat} {x : List UInt8} (h : op[m]? = some x) : closeE m op = closeE (m + 1) op ++ [.stop x] := by
  unfold closeE
  rw [drop_at h, List.reverse_cons, List.map_append]
  rfl

set_option maxHeartbeats 8000000 in
set_option maxRecDepth 100000 in
theorem closeTo_any (w0 : World) (ob b : Nat) (d : Int) (op : List (List UInt8)) (ov outv : Value) (J : List Ev) (xs : List Value) (n : Nat) (w : World) (h : BalS w0 w ob b d op ov outv J xs) (hn : n ≤ op.length) (hl : J.length ≤ 420000000) (hop : op.length ≤ 900000) :
    Calls Tryz.prog 68 #[.pointer (some ⟨b, 0, none⟩), .int .i64 n] w fun e w' => e = .returned (.tuple #[]) ∧
      ∃ ov' outv' xs', BalS w0 w' ob b d (op.take n) ov' outv' (J ++ closeE n op) xs' ∧ BalF b ov outv ov' outv' w w' := by
  obtain ⟨op', oc, rfl⟩ := row_shape h.at_.op
  have hcl0 : closeE op.length op = [] := by unfold closeE; rw [List.drop_length]; rfl
  have h0 : BalS w0 w ob b d (op.take op.length) (.slice op' op.length oc) outv (J ++ closeE op.length op) xs := by rw [hcl0, List.append_nil, List.take_length]; exact h
  have c1 := cell_at h.at_.bx (j := 1) rfl
  have H0 := hid (And.intro h0 (BalF.refl b (.slice op' op.length oc) outv w))
  have hw1 : IntKind.i64.wrap ((op.length : Int) - 1) = (op.length : Int) - 1 := by rw [IntKind.wrap_i64]; omega
  clear hcl0 h0 h
  go_enter Tryz.func68, Tryz.ntmps68
  go_wp2_with fail
  clear c1 hw1
  go_loopw [4] (fun iv wr => ∃ (m : Nat) (ov' outv' : Value) (xs' : List Value), iv = .int .i64 ((m : Int) - 1) ∧ n ≤ m ∧ m ≤ op.length ∧ Hid (BalS w0 wr ob b d (op.take m) ov' outv' (J ++ closeE m op) xs' ∧ BalF b (.slice op' op.length oc) outv ov' outv' w wr)) (fun iv _ => (RowKit.intOf iv + 1).toNat)
  case atStart => exact ⟨op.length, _, outv, xs, rfl, hn, Nat.le_refl _, H0⟩
  case round =>
    clear H0
    obtain ⟨m, ov1, outv1, xs1, rfl, hm, hm2, HX⟩ := hrel
    by_cases hmn : n < m
    · obtain ⟨m', rfl⟩ : ∃ m', m = m' + 1 := ⟨m - 1, by omega⟩
      obtain ⟨x, hx⟩ : ∃ x, op[m']? = some x := ⟨_, List.getElem?_eq_getElem (by omega)⟩
      have hlo : (op.take (m' + 1)).length = m' + 1 := by rw [List.length_take]; omega
      have hrow := HX.out.1.at_.op
      obtain ⟨p1, c1', rfl⟩ := row_shape hrow
      unfold OpenR at hrow
      rw [hlo] at hrow HX
      have hv1 : (((m' + 1 : Nat) : Int) - 1) = (m' : Int) := by omega
      rw [hv1]
      have hx2 : (op.take (m' + 1))[m']? = some x := by rw [List.getElem?_take_of_lt (by omega)]; exact hx
      obtain ⟨g, cap, e3, hg1, hg2, hcell⟩ := row_at hrow (by omega)
      cases e3
      obtain ⟨a0, _, _⟩ := elems_at _ _ x hx2
      have c0 := (hcell (m' * 3) (by omega)).trans a0
      have hbx := HX.out.1.at_.bx
      have c1 := cell_at hbx (j := 1) rfl
      have hev : EvsAt wr ob [.int .i64 2, .string (bs x), .slice none 0 0, .string ⟨#[]⟩] [.stop x] := ⟨⟨rfl, rfl, rfl, rfl⟩, trivial⟩
      have hlen : (J ++ closeE (m' + 1) op).length ≤ 480000000 := by
        rw [List.length_append]
        unfold closeE
        rw [List.length_map, List.length_reverse, List.length_drop]
        omega
      have hput := balPut_any w0.heap.size ob b d _ _ outv1 _ xs1 2 (bs x) ⟨#[]⟩ (.slice none 0 0) (.stop x) wr HX.out.1.at_ HX.out.1.h2 hev (fun g e => by cases e) ⟨_, _, _, rfl⟩ (by omega)
      have HP := hid hput
      have hcn := closeE_next hx
      have HCN := hid hcn
      have hcap := (row_cap hrow).2
      obtain ⟨BX, hBX⟩ : ∃ n, bs x = n := ⟨_, rfl⟩
      rw [hBX] at HP c0
      clear hput hcn hx hx2 hev hcell a0 hlen hBX hrow hbx
      go_wp2_with fail
      refine HP.out.mono ?_
      rintro e W2 ⟨rfl, outv2, ha2, hf2⟩
      have hs2 := HX.out.1.step ha2 hf2
      obtain ⟨hs3, hf3⟩ := hs2.shut (k := m') (by omega) hlo.symm
      have htt : (op.take (m' + 1)).take m' = op.take m' := by rw [List.take_take, Nat.min_eq_left (by omega)]
      rw [htt, List.append_assoc, ← HCN.out] at hs3
      have H3 := hid (And.intro hs3 (HX.out.2.trans (hf2.trans hf3)))
      replace c1 := cell_at ha2.bx (j := 1) rfl
      have f1 := free_at ha2.bx 1
      clear hs3 hf3 htt hs2 ha2 hf2 HX HP HCN
      go_wp2_with fail
      go_roundw
      case rel => exact ⟨m', _, outv2, _, rfl, by omega, by omega, H3⟩
      case measure => simp [RowKit.intOf]
    · obtain rfl : m = n := by omega
      go_wp2_with fail
      go_end0
      exact ⟨rfl, ov1, outv1, xs1, HX.out.1, HX.out.2⟩
end Go.Proofs.YtcncbhbdpcpkeaaGreatDoor

/-
  The balancer's find, reach and end: their walks.
-/
namespace Go.Proofs.YtcncbhbdpcpkeaaGreatDoor
open Go.RowKit Go.Lib Own

def downF (c : Nat) (op : List (List UInt8)) (R : Nat × Nat) : Nat → Prop
  | 0 => R = (0, 0)
  | k + 1 => findP c op k = R
theorem down_up {c k : Nat} {op : List (List UInt8)} {R : Nat × Nat} (h : downF c op R (k + 1)) (hu : nestP (modO (op.take k)) c = 1) : downF c op R k := by
  cases k with
  | zero =>
    have h1 : findP c op 0 = R := h
    unfold findP at h1
    rw [if_pos hu] at h1
    exact h1.symm
  | succ k =>
    have h1 : findP c op (k + 1) = R := h
    show findP c op k = R
    unfold findP at h1
    rw [if_pos hu] at h1
    exact h1
theorem down_here {c k : Nat} {op : List (List UInt8)} {R : Nat × Nat} (h : downF c op R (k + 1)) (hu : nestP (modO (op.take k)) c ≠ 1) : R = (k, nestP (modO (op.take k)) c) := by
  unfold downF at h
  rw [← h]
  exact findP_self rfl hu
theorem modX_lt (x : List UInt8) : modX x < 10 := by
  by_cases h : elemL x = none
  · unfold modX; rw [h]; exact Nat.succ_pos 9
  · exact (known_lt x h).1
theorem clsX_lt (x : List UInt8) : clsX x < 10 := by
  by_cases h : elemL x = none
  · unfold clsX; rw [h]; exact Nat.succ_pos 9
  · exact (known_lt x h).2
theorem modO_lt (op : List (List UInt8)) : modO op < 10 := by
  unfold modO
  split
  · omega
  · exact modX_lt _

set_option maxHeartbeats 4000000 in
set_option maxRecDepth 100000 in
theorem findB_any (w0 : World) (ob b : Nat) (d : Int) (op : List (List UInt8)) (ov outv : Value) (J : List Ev) (xs : List Value) (c n : Nat) (w : World) (h : BalS w0 w ob b d op ov outv J xs) (hn : n ≤ op.length) (hc : c < 10) (hop : op.length ≤ 900000) :
    Calls Tryz.prog 122 #[.pointer (some ⟨b, 0, none⟩), .int .i64 c, .int .i64 n] w fun e w' => e = .returned (.tuple #[.int .i64 ((findP c op n).1 : Nat), .int .i64 ((findP c op n).2 : Nat)]) ∧ w' = w := by
  obtain ⟨op', oc, rfl⟩ := row_shape h.at_.op
  obtain ⟨R, hR⟩ : ∃ R, findP c op n = R := ⟨_, rfl⟩
  rw [hR]
  have HR : Hid (downF c op R (n + 1)) := hR
  have c1 := cell_at h.at_.bx (j := 1) rfl
  have hfr := fun k (hk : k ≤ op.length) => modIn_any w0.heap.size _ _ w (h.at_.op.front hk rfl) (by rw [List.length_take]; omega)
  have hns := fun k => nest_any (modO (op.take k)) c w h.nest (by have := modO_lt (op.take k); omega) (by omega)
  have hcap := (row_cap h.at_.op).2
  have HF := hid hfr
  have HS := hid hns
  clear hR hfr hns h
  go_enter Tryz.func122, Tryz.ntmps122
  go_wp2_with fail
  go_loopw [6, 7] (fun iv pv wr => ∃ (j : Nat) (pz : Int), iv = .int .i64 ((j : Int) - 1) ∧ pv = .int .i64 pz ∧ j ≤ n + 1 ∧ wr = w ∧ Hid (downF c op R j)) (fun iv _ _ => (RowKit.intOf iv + 1).toNat)
  case atStart => exact ⟨n + 1, 0, by first | rfl | (congr 1; omega) | simp, rfl, Nat.le_refl _, rfl, HR⟩
  case round =>
    clear HR
    obtain ⟨j, pz, rfl, rfl, hj, rfl, HK⟩ := hrel
    cases j with
    | zero =>
      have hk : R = (0, 0) := HK.out
      subst hk
      clear HK
      go_wp2_with fail
      go_ret2
      exact ⟨rfl, rfl⟩
    | succ k =>
      have hv1 : (((k + 1 : Nat) : Int) - 1) = (k : Int) := by omega
      rw [hv1]
      have hm := HF.out k (by omega)
      have hs := HS.out k
      have HM := hid hm
      have HN := hid hs
      have hkc : k ≤ oc := by omega
      clear hm hs
      go_wp2_with fail
      refine HM.out.mono ?_
      rintro e W1 ⟨rfl, rfl⟩
      go_wp2_with fail
      refine HN.out.mono ?_
      rintro e W2 ⟨rfl, rfl⟩
      by_cases hu : nestP (modO (op.take k)) c = 1
      · have hd := hid (down_up HK.out hu)
        rw [hu]
        clear HK HM HN
        go_wp2_with fail
        go_roundw
        case rel => exact ⟨k, _, rfl, rfl, by omega, by first | rfl | trivial, hd⟩
        case measure => simp [RowKit.intOf]
      · have hd := down_here HK.out hu
        subst hd
        have q : ((nestP (modO (op.take k)) c : Int) != 1) = true := by rw [bne_iff_ne]; omega
        have q2 : ((nestP (modO (op.take k)) c : Int) == 1) = false := by rw [Bool.eq_false_iff]; intro h; rw [beq_iff_eq] at h; omega
        clear HK HM HN
        go_wp2_with fail
        go_ret2
        exact ⟨rfl, rfl⟩
theorem of_bsT (s : ByteArray) : bs s.toList = s := by rw [Lib.toList_data]; exact of_bs s
/-- where x stands first; -1: nowhere -/
def idxI (op : List (List UInt8)) (x : List UInt8) : Int := if op.contains x = true then (op.idxOf x : Int) else -1
/-- what is found from k on -/
def idxF (op : List (List UInt8)) (x : List UInt8) (k : Nat) : Int := if (op.drop k).contains x = true then (k : Int) + ((op.drop k).idxOf x : Int) else -1
theorem idxF_zero (op : List (List UInt8)) (x : List UInt8) : idxF op x 0 = idxI op x := by unfold idxF idxI; simp
theorem idxF_yes {op : List (List UInt8)} {x y : List UInt8} {k : Nat} (h : op[k]? = some y) (e : y = x) : idxF op x k = k := by
  subst e
  unfold idxF
  rw [drop_at h]
  simp
theorem idxF_no {op : List (List UInt8)} {x y : List UInt8} {k : Nat} (h : op[k]? = some y) (e : y ≠ x) : idxF op x k = idxF op x (k + 1) := by
  have h3 : (y == x) = false := by rw [Bool.eq_false_iff]; intro q; rw [beq_iff_eq] at q; exact e q
  have h2 : (x == y) = false := by rw [Bool.eq_false_iff]; intro q; rw [beq_iff_eq] at q; exact e q.symm
  unfold idxF
  rw [drop_at h, List.contains_cons, List.idxOf_cons, h2, h3, Bool.false_or]
  split
  · simp; omega
  · rfl
theorem idxF_end {op : List (List UInt8)} {x : List UInt8} {k : Nat} (h : op.length ≤ k) : idxF op x k = -1 := by
  unfold idxF
  rw [List.drop_of_length_le h]
  rfl

set_option maxHeartbeats 4000000 in
set_option maxRecDepth 100000 in
theorem idx_any (base : Nat) (ov : Value) (op : List (List UInt8)) (x : List UInt8) (w : World) (h : OpenR w base ov op) (hop : op.length ≤ 900000) :
    Calls Tryz.prog 182 #[ov, .agg #[.string (bs x), .int .i64 (clsX x : Nat), .int .i64 (modX x : Nat)]] w fun e w' => e = .returned (.int .i64 (idxI op x)) ∧ Below w.heap.size w w' := by
  obtain ⟨op', oc, rfl⟩ := row_shape h
  obtain ⟨R, hR⟩ : ∃ R, idxI op x = R := ⟨_, rfl⟩
  have HR : Hid (idxF op x 0 = R) := (idxF_zero op x).trans hR
  rw [hR]
  obtain ⟨W1, hW1⟩ : ∃ W1, w.alloc (.cells #[.string (bs x), .int .i64 (clsX x : Nat), .int .i64 (modX x : Nat)] 172) = W1 := ⟨_, rfl⟩
  have hb1 : Below w.heap.size w W1 := by rw [← hW1]; exact (Below.refl _ _).alloc (Nat.le_refl _) _
  have n1 : W1.heap[w.heap.size]? = some (.cells #[.string (bs x), .int .i64 (clsX x : Nat), .int .i64 (modX x : Nat)] 172 (0, 0)) := by rw [← hW1]; exact heap_alloc_new _ _
  have hrow := row_below h hb1
  have e0 := cell_at n1 (j := 0) rfl
  have e1 := cell_at n1 (j := 1) rfl
  have e2 := cell_at n1 (j := 2) rfl
  have HW := hid hrow
  have HB := hid hb1
  obtain ⟨BX, hBX⟩ : ∃ n, bs x = n := ⟨_, rfl⟩
  have hbx : BX.toList = x := by rw [← hBX]; exact bs_toList x
  rw [hBX] at hW1 e0 ⊢
  have HBX := hid hbx
  clear h hR hb1 n1 hrow hbx hBX
  go_enter Tryz.func182, Tryz.ntmps182
  go_wp2_with fail
  clear hW1
  go_loopw [8] (fun iv wr => ∃ k : Nat, iv = .int .i64 k ∧ k ≤ op.length ∧ Hid (∃ n, wr = W1.drewN n) ∧ Hid (idxF op x k = R)) (fun iv _ => op.length - (RowKit.intOf iv).toNat)
  case atStart => exact ⟨0, rfl, Nat.zero_le _, hid ⟨0, rfl⟩, HR⟩
  case round =>
    clear HR
    obtain ⟨k, rfl, hk, HQ, HK⟩ := hrel
    by_cases hkl : k < op.length
    · obtain ⟨y, hy⟩ : ∃ y, op[k]? = some y := ⟨_, List.getElem?_eq_getElem hkl⟩
      obtain ⟨g, cap, e3, _, _, hcell⟩ := row_at HW.out (by omega)
      cases e3
      obtain ⟨a0, a1, a2⟩ := elems_at op k y hy
      have hq := HQ.out
      have f0 := cell_drew hq e0
      have f1 := cell_drew hq e1
      have f2 := cell_drew hq e2
      have d0 := cell_drew hq ((hcell (k * 3) (by omega)).trans a0)
      have d1 := cell_drew hq ((hcell (k * 3 + 1) (by omega)).trans a1)
      have d2 := cell_drew hq ((hcell (k * 3 + 2) (by omega)).trans a2)
      have hle := (row_cap HW.out).2
      clear hq a0 a1 a2 hcell
      by_cases q : y = x
      · subst q
        have hfin := idxF_yes hy rfl
        rw [HK.out] at hfin
        subst hfin
        have hby : bs y = BX := by rw [← HBX.out]; exact of_bsT BX
        rw [hby] at d0
        have hs1 : (BX.toList == BX.toList) = true := beq_self_eq_true _
        clear hy HK HW hby
        go_wp2_with fail
        go_quiet (fail)
        go_wp2_with fail
        go_ret
        obtain ⟨n, rfl⟩ := HQ.out
        exact ⟨rfl, below_drewN (below_drewN HB.out n) nq⟩
      · have hnx := idxF_no hy q
        rw [HK.out] at hnx
        have HN := hid hnx.symm
        have q1 : ((bs y).toList == BX.toList) = false := by rw [bs_toList, HBX.out, Bool.eq_false_iff]; intro e; rw [beq_iff_eq] at e; exact q e
        have q2 : (BX.toList == (bs y).toList) = false := by rw [bs_toList, HBX.out, Bool.eq_false_iff]; intro e; rw [beq_iff_eq] at e; exact q e.symm
        clear hy HK HW hnx
        go_wp2_with fail
        go_quiet (fail)
        go_wp2_with fail
        go_roundw
        case rel =>
          obtain ⟨n, hn⟩ := HQ.out
          exact ⟨k + 1, rfl, by omega, hid ⟨n + nq, by rw [hn]; simp⟩, HN⟩
        case measure => simp [RowKit.intOf]; omega
    · have hfin := idxF_end (op := op) (x := x) (show op.length ≤ k by omega)
      rw [HK.out] at hfin
      subst hfin
      clear HK HW
      go_wp2_with fail
      go_ret
      obtain ⟨n, rfl⟩ := HQ.out
      exact ⟨rfl, below_drewN HB.out n⟩
end Go.Proofs.YtcncbhbdpcpkeaaGreatDoor
