/-
  Parts of the walk, joined: BalF, BalP, TabsOf.
-/
import Derived.Test.YtcncbhbdpcpkeaaGreatDoorRows
import Derived.LoopN
import Derived.Deep.MidRow
import Derived.Lib.LaidU8T
import Derived.Lib.LaidTab
import Derived.ChangeSame
import Derived.ChangeArms
import Derived.Test.YtcncbhbdpcpkeaaGreatDoorPJBO
import Derived.Test.YtcncbhbdpcpkeaaGreatDoorPJBH
import Derived.Test.YtcncbhbdpcpkeaaGreatDoorPJAH
import Derived.Test.YtcncbhbdpcpkeaaGreatDoorPJAA
import Derived.Test.YtcncbhbdpcpkeaaGreatDoorPJAB
import Derived.Test.YtcncbhbdpcpkeaaGreatDoorPJAE
/-
  The balancer's addText: its walk.
-/
namespace Go.Proofs.YtcncbhbdpcpkeaaGreatDoor
open Go.RowKit Go.Lib Own

/-- what one event does to the balancer -/
structure BalOut (w0 w : World) (ob b : Nat) (d : Int) (ov outv : Value) (J : List Ev) (R : List (List UInt8) × List Ev) (e : Ending) (w' : World) : Prop where
  ret : e = .returned (.tuple #[])
  it : ∃ ov' outv' xs', BalS w0 w' ob b d R.1 ov' outv' (J ++ R.2) xs' ∧ BalF b ov outv ov' outv' w w'
theorem ev_text {W : World} {base : Nat} (t : List UInt8) : EvsAt W base [.int .i64 3, .string ⟨#[]⟩, .slice none 0 0, .string (bs t)] [.text t] := ⟨⟨rfl, rfl, rfl, rfl⟩, trivial⟩
theorem bs_ne {t : List UInt8} (h : t ≠ []) : ((bs t).toList == []) = false ∧ ((bs t).toList != []) = true := by
  rw [bs_toList]
  exact ⟨by rw [Bool.eq_false_iff]; intro e; rw [beq_iff_eq] at e; exact h e, by rw [bne_iff_ne]; exact h⟩
theorem bs_nilE : ((bs ([] : List UInt8)).toList == []) = true ∧ ((bs ([] : List UInt8)).toList != []) = false := by
  rw [bs_toList]
  exact ⟨rfl, rfl⟩
theorem textP_take {d : Nat} {op : List (List UInt8)} {t : List UInt8} (h : nestP (modO op) 3 = 2) : textP d op t = (op, if t = [] then [] else [.text t]) := by unfold textP; rw [if_pos h]
theorem textP_none {d : Nat} {op : List (List UInt8)} {t : List UInt8} (h : nestP (modO op) 3 ≠ 2) (h2 : trimP t = [] ∨ d < op.length + (impP (nestP (modO op) 3)).length) : textP d op t = (op, []) := by unfold textP; rw [if_neg h, if_pos h2]
theorem textP_imp {d : Nat} {op : List (List UInt8)} {t : List UInt8} (h : nestP (modO op) 3 ≠ 2) (h2 : ¬ (trimP t = [] ∨ d < op.length + (impP (nestP (modO op) 3)).length)) : textP d op t = (op ++ impP (nestP (modO op) 3), openE (impP (nestP (modO op) 3)) ++ [.text (trimP t)]) := by unfold textP; rw [if_neg h, if_neg h2]

set_option maxHeartbeats 8000000 in
set_option maxRecDepth 100000 in
theorem addText_any (w0 : World) (ob b d : Nat) (op : List (List UInt8)) (ov outv : Value) (J : List Ev) (xs : List Value) (t : List UInt8) (w : World) (h : BalS w0 w ob b d op ov outv J xs) (hl : J.length ≤ 360000000) (hop : op.length ≤ 800000) :
    Calls Tryz.prog 67 #[.pointer (some ⟨b, 0, none⟩), .string (bs t)] w (BalOut w0 w ob b d ov outv J (textP d op t)) := by
  obtain ⟨op', oc, rfl⟩ := row_shape h.at_.op
  have hmi := modIn_any w0.heap.size _ op w h.at_.op (by omega)
  have hns := nest_any (modO op) 3 w h.nest (by have := modO_lt op; omega) (by omega)
  have c1 := cell_at h.at_.bx (j := 1) rfl
  obtain ⟨R, hR⟩ : ∃ R, textP d op t = R := ⟨_, rfl⟩
  rw [hR]
  have HR := hid hR
  have H0 := hid h
  have HM := hid hmi
  have HN := hid hns
  have hnl := nest_lt (modO op) 3
  clear hmi hns h hR
  go_enter Tryz.func67, Tryz.ntmps67
  go_wp2_with fail
  refine HM.out.mono ?_
  rintro e W1 ⟨rfl, rfl⟩
  go_wp2_with fail
  refine HN.out.mono ?_
  rintro e W2 ⟨rfl, rfl⟩
  clear HM HN
  by_cases hp : nestP (modO op) 3 = 2
  · have hfin := textP_take (d := d) (t := t) hp
    rw [HR.out] at hfin
    rw [hp]
    by_cases ht : t = []
    · subst ht
      rw [if_pos rfl] at hfin
      subst hfin
      obtain ⟨z1, z2⟩ := bs_nilE
      clear hp hnl c1
      go_wp2_with fail
      go_end0
      exact ⟨rfl, _, _, xs, by rw [List.append_nil]; exact H0.out, BalF.refl _ _ _ _⟩
    · obtain ⟨z1, z2⟩ := bs_ne ht
      rw [if_neg ht] at hfin
      subst hfin
      have hput := balPut_any w0.heap.size ob b d op _ outv J xs 3 ⟨#[]⟩ (bs t) (.slice none 0 0) (.text t) W2 H0.out.at_ H0.out.h2 (ev_text t) (fun g e => by cases e) ⟨_, _, _, rfl⟩ (by omega)
      have HP := hid hput
      clear hp hnl c1 hput ht
      go_wp2_with fail
      refine HP.out.mono ?_
      rintro e W3 ⟨rfl, outv3, ha3, hf3⟩
      have HZ := hid (And.intro (H0.out.step ha3 hf3) hf3)
      clear ha3 hf3
      go_wp2_with fail
      go_end0
      exact ⟨rfl, _, _, _, HZ.out.1, HZ.out.2⟩
  · have q : ((nestP (modO op) 3 : Int) != 2) = true := by rw [bne_iff_ne]; omega
    have htr := trimF_any t W2
    have him := implied_any (nestP (modO op) 3) hnl W2
    have himl := imp_len (nestP (modO op) 3)
    have himo := fun x (hx : x ∈ impP (nestP (modO op) 3)) => imp_ok hx
    have HT := hid htr
    have HI := hid him
    have HO := hid himo
    have HP := hid hp
    obtain ⟨P, hP⟩ : ∃ P, nestP (modO op) 3 = P := ⟨_, rfl⟩
    rw [hP] at q HI himl HO hnl ⊢
    have HPP := hid hP
    clear htr him himo hp c1 hP
    go_wp2_with fail
    refine HT.out.mono ?_
    rintro e W3 ⟨rfl, rfl⟩
    go_wp2_with fail
    refine HI.out.mono ?_
    rintro e W4 ⟨iv, rfl, hrow, hb4⟩
    have hs4 := H0.out.below hb4
    obtain ⟨ip, ic, rfl⟩ := row_shape hrow
    have c0 := cell_at hs4.at_.bx (j := 0) rfl
    have c1 := cell_at hs4.at_.bx (j := 1) rfl
    have H4 := hid (And.intro hs4 (And.intro hb4 hrow))
    have hw1 : IntKind.i64.wrap ((op.length : Int) + ((impP P).length : Int)) = (op.length : Int) + ((impP P).length : Int) := by rw [IntKind.wrap_i64]; omega
    clear hs4 hrow hb4 HT HI
    by_cases ht : trimP t = []
    · have hfin : textP d op t = (op, []) := textP_none HP.out (.inl ht)
      rw [HR.out] at hfin
      subst hfin
      rw [ht]
      obtain ⟨z1, z2⟩ := bs_nilE
      clear ht
      go_wp2_with fail
      go_quiet (fail)
      go_wp2_with fail
      (try simp only [Exit.inBlock, Exit.then]); refine bodyPost_ret (results_none rfl _ _ _) rfl ?_
      exact ⟨rfl, _, _, xs, by rw [List.append_nil]; exact H4.out.1.below (below_drewN (Below.refl _ _) nq), BalF.of_below (below_drewN H4.out.2.1 nq)⟩
    · obtain ⟨z1, z2⟩ := bs_ne ht
      obtain ⟨TT, hTT⟩ : ∃ n, bs (trimP t) = n := ⟨_, rfl⟩
      by_cases hdp : d < op.length + (impP P).length
      · have hfin : textP d op t = (op, []) := textP_none HP.out (.inr (by rw [HPP.out]; exact hdp))
        rw [HR.out] at hfin
        subst hfin
        have hdd : decide ((d : Int) < (op.length : Int) + ((impP P).length : Int)) = true := decide_eq_true (by omega)
        have hdd2 : (d : Int) < (op.length : Int) + ((impP P).length : Int) := by omega
        rw [hTT] at z1 z2 ⊢
        clear ht hTT
        go_wp2_with fail
        go_quiet (fail)
        go_wp2_with fail
        (try simp only [Exit.inBlock, Exit.then]); refine bodyPost_ret (results_none rfl _ _ _) rfl ?_
        exact ⟨rfl, _, _, xs, by rw [List.append_nil]; exact H4.out.1.below (below_drewN (Below.refl _ _) nq), BalF.of_below (below_drewN H4.out.2.1 nq)⟩
      · have hfin : textP d op t = _ := textP_imp HP.out (fun h => by rw [HPP.out] at h; exact h.elim ht hdp)
        rw [HR.out, HPP.out] at hfin
        subst hfin
        have hdd : decide ((d : Int) < (op.length : Int) + ((impP P).length : Int)) = false := decide_eq_false (by omega)
        have hdd2 : ¬ (d : Int) < (op.length : Int) + ((impP P).length : Int) := by omega
        have hoi := fun nq => openImp_any w0 ob b d op _ outv J xs _ (impP P) _ (W4.drewN nq) (H4.out.1.below (below_drewN (Below.refl _ _) nq)) (row_below H4.out.2.2 (below_drewN (Below.refl _ _) nq)) (fun x hx => ⟨(HO.out x hx).1, (HO.out x hx).2.1⟩) (by omega) (by omega) (by omega)
        have HOI := hid hoi
        have HTT := hid hTT
        rw [hTT] at z1 z2 ⊢
        clear ht hTT hoi
        go_wp2_with fail
        go_quiet (fail)
        go_wp2_with fail
        refine (HOI.out _).mono ?_
        rintro e W5 ⟨rfl, ov5, outv5, xs5, hs5, hf5⟩
        have hput := balPut_any w0.heap.size ob b d _ ov5 outv5 _ xs5 3 ⟨#[]⟩ (bs (trimP t)) (.slice none 0 0) (.text (trimP t)) W5 hs5.at_ hs5.h2 (ev_text (trimP t)) (fun g e => by cases e) ⟨_, _, _, rfl⟩ (by rw [List.length_append]; unfold openE; rw [List.length_map]; omega)
        rw [HTT.out] at hput
        have HPU := hid hput
        have H5 := hid (And.intro hs5 ((BalF.of_below (below_drewN H4.out.2.1 nq)).trans hf5))
        clear hput hs5 hf5 HOI
        go_wp2_with fail
        refine HPU.out.mono ?_
        rintro e W6 ⟨rfl, outv6, ha6, hf6⟩
        have hz := H5.out.1.step ha6 hf6
        rw [List.append_assoc] at hz
        have HZ := hid (And.intro hz (H5.out.2.trans hf6))
        clear hz ha6 hf6 HPU H5
        go_wp2_with fail
        go_end0
        exact ⟨rfl, _, _, _, HZ.out.1, HZ.out.2⟩
end Go.Proofs.YtcncbhbdpcpkeaaGreatDoor

/-
  The stream's Put of a whole list: its walk.
-/
namespace Go.Proofs.YtcncbhbdpcpkeaaGreatDoor
open Go.RowKit Go.Lib Own

/-- the stream in its box -/
def StrX (W : World) (base b : Nat) (ev p v : Value) (evs : List Ev) (pend : List UInt8) (xs : List Value) : Prop := StreamX W base b 0 #[ev, p, v] 69 evs pend xs
theorem strT (ev p v : Value) : StreamT 69 #[ev, p, v] 0 := ⟨by kernel_rfl, by decide, by decide, by decide⟩
theorem StrX.parts {W : World} {base b : Nat} {ev p v : Value} {evs : List Ev} {pend : List UInt8} {xs : List Value} (h : StrX W base b ev p v evs pend xs) : InB W base b 1 #[ev, p, v] 69 p v pend ∧ W.ownsRow base 60 4 ev evs.length xs ∧ EvsAt W base xs evs ∧ Apart xs := by
  obtain ⟨ev', p', v', h1, h2, h3⟩ := h.itx
  have e1 : ev' = ev := (Option.some.inj (h1 : some ev = some ev')).symm
  have e2 : p' = p := (Option.some.inj (h2.cp : some p = some p')).symm
  have e3 : v' = v := (Option.some.inj (h2.cv : some v = some v')).symm
  subst e1 e2 e3
  exact ⟨h2, h3⟩
theorem StrX.mk {W : World} {base b : Nat} {ev p v : Value} {evs : List Ev} {pend : List UInt8} {xs : List Value} (h : InB W base b 1 #[ev, p, v] 69 p v pend) (h1 : W.ownsRow base 60 4 ev evs.length xs) (h2 : EvsAt W base xs evs) (h3 : Apart xs) : StrX W base b ev p v evs pend xs := ⟨ev, p, v, rfl, h, h1, h2, h3⟩
theorem StrX.below {W W' : World} {base b : Nat} {ev p v : Value} {evs : List Ev} {pend : List UInt8} {xs : List Value} (h : StrX W base b ev p v evs pend xs) (hb : Below W.heap.size W W') : StrX W' base b ev p v evs pend xs := StreamX.below h hb
theorem rowF_of_block {W W' : World} {base : Nat} {e : TypeId} {size n : Nat} {v : Value} {xs : List Value} (h : W.ownsRowF base e size v n xs) (hk : ∀ g, v.ownBlock = some g → W'.heap[g]? = W.heap[g]?) : W'.ownsRowF base e size v n xs := by
  refine ⟨h.1, ?_⟩
  rcases h.2 with h2 | ⟨g, cap, cur, fz, rfl, hg0, hg, rest⟩
  · exact .inl h2
  · exact .inr ⟨g, cap, cur, fz, rfl, hg0, (hk g rfl).trans hg, rest⟩
theorem rowF_lt {W : World} {base : Nat} {e : TypeId} {size n : Nat} {v : Value} {xs : List Value} (h : W.ownsRowF base e size v n xs) {g : Nat} (hg : v.ownBlock = some g) : base ≤ g ∧ g < W.heap.size ∧ ∃ cur fz, W.heap[g]? = some (.cells cur e fz) := by
  rcases h.2 with ⟨rfl, _⟩ | ⟨g', cap, cur, fz, rfl, hg0, hg1, _⟩
  · cases hg
  · obtain rfl := Option.some.inj hg
    exact ⟨hg0, (Array.getElem?_eq_some_iff.1 hg1).1, cur, fz, hg1⟩
/-- what the stream keeps where its blocks are kept -/
theorem StrX.keep {W W' : World} {base b : Nat} {ev p v : Value} {evs : List Ev} {pend : List UInt8} {xs : List Value} (h : StrX W base b ev p v evs pend xs)
    (hk : ∀ (k : Nat) (cs : Array Value) (T : TypeId) (fz : Nat × Nat), W.heap[k]? = some (Obj.cells cs T fz) → T = 69 ∨ T = 60 ∨ T = 122 ∨ T = 5 → W'.heap[k]? = W.heap[k]?) : StrX W' base b ev p v evs pend xs := by
  obtain ⟨h1, h2, h3, h4⟩ := h.parts
  have rows : ∀ e z n u ys, (e = 60 ∨ e = 122) → W.ownsRow base e z u n ys → W'.ownsRow base e z u n ys := fun e z n u ys he hr =>
    row_of_block hr (fun g hg => by
      rcases hr.2 with ⟨rfl, _⟩ | ⟨g', cap, cur, rfl, _, hg1, _⟩
      · cases hg
      · obtain rfl := Option.some.inj hg
        exact hk _ _ _ _ hg1 (by rcases he with rfl | rfl <;> simp))
  refine StrX.mk ⟨(hk _ _ _ _ h1.at_ (.inl rfl)).trans h1.at_, h1.lo, h1.cp, h1.cv, h1.hp, rowF_of_block h1.own (fun g hg => ?_), h1.ne⟩ (rows _ _ _ _ _ (.inl rfl) h2) (evs_mono (fun a n ys hr => rows _ _ _ _ _ (.inr rfl) hr) _ _ h3) h4
  obtain ⟨_, _, cur, fz, hg1⟩ := rowF_lt h1.own hg
  exact hk _ _ _ _ hg1 (.inr (.inr (.inr rfl)))

set_option maxHeartbeats 1000000 in
theorem putText_x (base b : Nat) (ev p v : Value) (evs : List Ev) (pend : List UInt8) (xs : List Value) (s : ByteArray) (w : World) (h : StrX w base b ev p v evs pend xs) (hlen : pend.length + s.size ≤ 140737488355328) :
    Calls Tryz.prog 63 #[.pointer (some ⟨b, 0, none⟩), .string s] w fun e w' => e = .returned (.tuple #[]) ∧
      ∃ p' v', StrX w' base b ev p' v' evs (pend ++ s.data.toList) xs ∧ Below base w w' ∧ (∀ k, k < w.heap.size → k ≠ b → v.ownBlock ≠ some k → w'.heap[k]? = w.heap[k]?) := by
  obtain ⟨hin, hrow, hevs, hap⟩ := h.parts
  have hT := strT ev p v
  have hw := write_in base b 1 #[ev, p, v] 69 p v pend s w hin hT.lies hT.n0 hlen
  have HW := hid hw
  clear hw
  go_enter Tryz.func63, Tryz.ntmps63
  go_wp2_with (go_at_call 69; refine HW.out.mono ?_; rintro e w1 ⟨rfl, v', hin', hbel, hk⟩)
  go_end0
  exact ⟨rfl, .pointer (some ⟨b, 1, none⟩), v', StrX.mk hin' (row_keep hrow hin.at_ hT.n2 hin.own (by decide) hk) (evs_keep hin.at_ hT.n1 hin.own hk xs evs hevs) hap, hbel, hk⟩
/-- what stays while the stream takes events: all but its box, its list, its builder's bytes -/
def StrF (b : Nat) (ev v : Value) (W W' : World) : Prop := ∀ k, k < W.heap.size → k ≠ b → ev.ownBlock ≠ some k → v.ownBlock ≠ some k → W'.heap[k]? = W.heap[k]?
theorem StrX.other {W W' : World} {base b : Nat} {ev p v : Value} {evs : List Ev} {pend : List UInt8} {xs : List Value} (h : StrX W base b ev p v evs pend xs) (hf : StrF b ev v W W') {k : Nat} {cs : Array Value} {T : TypeId} {fz : Nat × Nat} (hk : W.heap[k]? = some (Obj.cells cs T fz))
    (h1 : T ≠ 69) (h2 : T ≠ 5) (h3 : ev.ownBlock ≠ some k) : W'.heap[k]? = W.heap[k]? := by
  obtain ⟨p1, p2, _, _⟩ := h.parts
  refine hf k (Array.getElem?_eq_some_iff.1 hk).1 (fun e => ?_) h3 (fun e => ?_)
  · subst e
    rw [p1.at_] at hk
    simp only [Option.some.injEq, Obj.cells.injEq] at hk
    exact h1 hk.2.1.symm
  · obtain ⟨_, _, cur, fz', hg⟩ := rowF_lt p1.own e
    rw [hg] at hk
    simp only [Option.some.injEq, Obj.cells.injEq] at hk
    exact h2 hk.2.1.symm
theorem StrX.ev_ne {W : World} {base b : Nat} {ev p v : Value} {evs : List Ev} {pend : List UInt8} {xs : List Value} (h : StrX W base b ev p v evs pend xs) {k : Nat} {cs : Array Value} {T : TypeId} {fz : Nat × Nat} (hk : W.heap[k]? = some (Obj.cells cs T fz)) (hT : T ≠ 60) : ev.ownBlock ≠ some k := fun e => by
  obtain ⟨_, p2, _, _⟩ := h.parts
  rcases p2.2 with ⟨rfl, _⟩ | ⟨g', cap, cur, rfl, _, hg1, _⟩
  · cases e
  · obtain rfl := Option.some.inj e
    rw [hg1] at hk
    simp only [Option.some.injEq, Obj.cells.injEq] at hk
    exact hT hk.2.1.symm
/-- a list that was made stays while the stream takes events -/
theorem MadeE.str {W W' : World} {base b ob : Nat} {ev p v : Value} {evs : List Ev} {pend : List UInt8} {xs : List Value} (h : StrX W base b ev p v evs pend xs) (hf : StrF b ev v W W') {lv : Value} {L : List Ev} {ys : List Value} (hm : MadeE W ob lv L ys) (hg : ∀ g, ev.ownBlock = some g → lv.ownBlock ≠ some g) : MadeE W' ob lv L ys := by
  refine ⟨row_of_block hm.row (fun g e => ?_), evs_mono (fun a n zs hr => row_of_block hr (fun g e => ?_)) _ _ hm.evs, hm.ap⟩
  · rcases hm.row.2 with ⟨rfl, _⟩ | ⟨g', cap, cur, rfl, _, hg1, _⟩
    · cases e
    · obtain rfl := Option.some.inj e
      exact h.other hf hg1 (by decide) (by decide) (fun e2 => hg _ e2 rfl)
  · rcases hr.2 with ⟨rfl, _⟩ | ⟨g', cap, cur, rfl, _, hg1, _⟩
    · cases e
    · obtain rfl := Option.some.inj e
      exact h.other hf hg1 (by decide) (by decide) (h.ev_ne hg1 (by decide))
/-- the balancer's blocks stay -/
def BalK (W W' : World) : Prop := ∀ (k : Nat) (cs : Array Value) (T : TypeId) (fz : Nat × Nat), W.heap[k]? = some (Obj.cells cs T fz) → T = 117 ∨ T = 172 → W'.heap[k]? = W.heap[k]?
theorem BalK.trans {W W1 W2 : World} (h : BalK W W1) (h2 : BalK W1 W2) : BalK W W2 := fun k cs T fz hk hT => (h2 k cs T fz ((h k cs T fz hk hT).trans hk) hT).trans (h k cs T fz hk hT)
theorem BalK.of_below {W W1 : World} (h : Below W.heap.size W W1) : BalK W W1 := fun k _ _ _ hk _ => h.block k (Array.getElem?_eq_some_iff.1 hk).1
theorem StrX.balK {W W' : World} {base b : Nat} {ev p v : Value} {evs : List Ev} {pend : List UInt8} {xs : List Value} (h : StrX W base b ev p v evs pend xs) (hf : StrF b ev v W W') : BalK W W' := fun k cs T fz hk hT =>
  h.other hf hk (by rcases hT with rfl | rfl <;> decide) (by rcases hT with rfl | rfl <;> decide) (h.ev_ne hk (by rcases hT with rfl | rfl <;> decide))
/-- no list of attributes of the events from k on stands among these -/
def FreeFrom (ys xs : List Value) (k : Nat) : Prop := ∀ j a g, k ≤ j → ys[j * 4 + 2]? = some a → a.ownBlock = some g → NotIn g xs
theorem notIn_at {g : Nat} : ∀ (ys : List Value) (L : List Ev) (W : World) (base : Nat), EvsAt W base ys L → NotIn g ys → ∀ j a, ys[j * 4 + 2]? = some a → a.ownBlock ≠ some g
  | [], [], _, _, _, _, j, a, h => by simp at h
  | _ :: _ :: x :: _ :: r, e :: l, W, base, ⟨_, h2⟩, hn, 0, a, h => by
    simp at h
    subst h
    exact hn.1
  | _ :: _ :: x :: _ :: r, e :: l, W, base, ⟨_, h2⟩, hn, j + 1, a, h => by
    rw [show (j + 1) * 4 + 2 = j * 4 + 2 + 4 by omega] at h
    exact notIn_at r l W base h2 hn.2 j a h
  | [], _ :: _, _, _, h, _, _, _, _ => h.elim
  | [_], _, _, _, h, _, _, _, _ => by cases ‹List Ev› <;> exact h.elim
  | [_, _], _, _, _, h, _, _, _, _ => by cases ‹List Ev› <;> exact h.elim
  | [_, _, _], _, _, _, h, _, _, _, _ => by cases ‹List Ev› <;> exact h.elim
  | _ :: _ :: _ :: _ :: _, [], _, _, h, _, _, _, _ => h.elim
theorem apart_at : ∀ (ys : List Value) (L : List Ev) (W : World) (base : Nat), EvsAt W base ys L → Apart ys → ∀ i j a a' g, i < j → ys[i * 4 + 2]? = some a → ys[j * 4 + 2]? = some a' → a.ownBlock = some g → a'.ownBlock ≠ some g
  | [], [], _, _, _, _, i, j, a, a', g, _, h, _, _ => by simp at h
  | _ :: _ :: x :: _ :: r, e :: l, W, base, ⟨_, h2⟩, hp, 0, j, a, a', g, hij, h, h', ha => by
    simp at h
    subst h
    obtain ⟨j', rfl⟩ : ∃ j', j = j' + 1 := ⟨j - 1, by omega⟩
    rw [show (j' + 1) * 4 + 2 = j' * 4 + 2 + 4 by omega] at h'
    exact notIn_at r l W base h2 (hp.1 g ha) j' a' h'
  | _ :: _ :: x :: _ :: r, e :: l, W, base, ⟨_, h2⟩, hp, i + 1, j, a, a', g, hij, h, h', ha => by
    obtain ⟨j', rfl⟩ : ∃ j', j = j' + 1 := ⟨j - 1, by omega⟩
    rw [show (j' + 1) * 4 + 2 = j' * 4 + 2 + 4 by omega] at h'
    rw [show (i + 1) * 4 + 2 = i * 4 + 2 + 4 by omega] at h
    exact apart_at r l W base h2 hp.2 i j' a a' g (by omega) h h' ha
  | [], _ :: _, _, _, h, _, _, _, _, _, _, _, _, _, _ => h.elim
  | [_], _, _, _, h, _, _, _, _, _, _, _, _, _, _ => by cases ‹List Ev› <;> exact h.elim
  | [_, _], _, _, _, h, _, _, _, _, _, _, _, _, _, _ => by cases ‹List Ev› <;> exact h.elim
  | [_, _, _], _, _, _, h, _, _, _, _, _, _, _, _, _, _ => by cases ‹List Ev› <;> exact h.elim
  | _ :: _ :: _ :: _ :: _, [], _, _, h, _, _, _, _, _, _, _, _, _, _ => h.elim
end Go.Proofs.YtcncbhbdpcpkeaaGreatDoor

/-
  From what a row says of the six tables to what lies in memory.
-/
namespace Go.Proofs.YtcncbhbdpcpkeaaGreatDoor
open Go.RowKit Go.Lib Go.ChangeShapes

theorem range_of {P : Program} {w : World} {n : String} {g : Nat} {cs : Array Value} {L : List Value} (hg : P.globalNamed n = some g) (hvar : w.var? P n = some cs) (h : ∀ (j : Nat) (v : Value), L[j]? = some v → cs.toList[j]? = some v) : w.rangeAt g 0 L := by
  intro j v hv
  rw [Nat.zero_add, World.var?_cell hg hvar j, ← Array.getElem?_toList]
  exact h j v hv
theorem one_at {α : Type} {l : List α} {j : Nat} {x : α} (h : (l.drop j).take 1 = [x]) : l[j]? = some x := by
  have := congrArg (·[0]?) h
  simpa using this
theorem flat_even {f g : List UInt8 × Int → Value} : ∀ (T : List (List UInt8 × Int)) (k : Nat), (T.flatMap fun t => [f t, g t])[k * 2]? = T[k]?.map f ∧ (T.flatMap fun t => [f t, g t])[k * 2 + 1]? = T[k]?.map g
  | [], k => by simp
  | t :: T, 0 => by simp
  | t :: T, k + 1 => by
    have := flat_even (f := f) (g := g) T k
    rw [show (k + 1) * 2 = k * 2 + 2 from by omega, show k * 2 + 2 + 1 = k * 2 + 1 + 2 from by omega, List.flatMap_cons]
    simpa using this
theorem pairs_of {P : Program} {w : World} {n : String} {g t e m ts ti : Nat} {f0 f1 : Field} {T : List (List UInt8 × Int)} (hg : P.globalNamed n = some g) (ht : (P.globals[g]?).map (·.type) = some t)
    (hu : P.underlying t = some (.array m e)) (he : P.underlying e = some (.struct #[f0, f1])) (hce : P.cellsOf e = 2) (hm : T.length = m)
    (h0 : f0.type = ts ∧ f0.offset = 0) (h1 : f1.type = ti ∧ f1.offset = 1) (hs : P.underlying ts = some .string) (hcs : P.cellsOf ts = 1) (hi : P.underlying ti = some (.int .i32)) (hci : P.cellsOf ti = 1)
    (h : VarReads P w n (.agg (T.map fun x => .agg [.lit (.string x.1), .lit (.int .i32 x.2)]))) : w.rangeAt g 0 (T.flatMap fun t => [strV t.1, .int .i32 t.2]) := by
  obtain ⟨g', t', cs, fuel, p, hg', hty, hvar, hd⟩ := h
  obtain rfl := Option.some.inj (hg.symm.trans hg')
  obtain rfl := Option.some.inj (ht.symm.trans hty)
  have key : ∀ k x, T[k]? = some x → cs.toList[k * 2]? = some (strV x.1) ∧ cs.toList[k * 2 + 1]? = some (.int .i32 x.2) := by
    intro k x hx
    obtain ⟨fuel', d, q, hdi, hel⟩ := array_elem hu hd k (by rw [← hm]; exact (List.getElem?_eq_some_iff.1 hx).1)
    rw [List.getElem?_map, hx] at hdi
    simp only [Option.map_some, Option.some.injEq] at hdi
    subst hdi
    obtain ⟨y0, y1, n', hy, _, e0, e1⟩ := trod_struct2 he hel
    rw [h0.1, h0.2, hcs, hce] at e0
    rw [h1.1, h1.2, hci, hce] at e1
    obtain ⟨s, hs1, hs2, _⟩ := DataW.trod_string hs e0
    obtain ⟨z, hz1, hz2, _⟩ := DataW.trod_int hi e1
    rw [hs2, hz2] at hy
    simp only [Prod.mk.injEq, DataW.agg.injEq, List.cons.injEq, DataW.lit.injEq, Lit.string.injEq, Lit.int.injEq, true_and, and_true] at hy
    have a0 := one_at hs1
    have a1 := one_at hz1
    rw [List.getElem?_take_of_lt (by omega), List.getElem?_drop] at a0 a1
    refine ⟨?_, ?_⟩
    · rw [show k * 2 = k * 2 + 0 from rfl, a0]
      unfold strV
      rw [hy.1.1]
    · rw [a1, hy.1.2]
  refine range_of hg hvar (fun j v hv => ?_)
  obtain ⟨f1', f2'⟩ := flat_even (f := fun t => strV t.1) (g := fun t => .int .i32 t.2) T (j / 2)
  rcases Nat.mod_two_eq_zero_or_one j with h2 | h2
  · have e : j = j / 2 * 2 := by omega
    rw [e] at hv ⊢
    rw [f1'] at hv
    obtain ⟨x, hx, rfl⟩ := Option.map_eq_some_iff.1 hv
    exact (key _ x hx).1
  · have e : j = j / 2 * 2 + 1 := by omega
    rw [e] at hv ⊢
    rw [f2'] at hv
    obtain ⟨x, hx, rfl⟩ := Option.map_eq_some_iff.1 hv
    exact (key _ x hx).2
end Go.Proofs.YtcncbhbdpcpkeaaGreatDoor
