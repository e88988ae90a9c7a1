/-
  Parts of the walk, joined: ParR, LendE, FoldN.
-/
import Derived.Test.YtcncbhbdpcpkeaaGreatDoorPJAU
import Derived.Test.YtcncbhbdpcpkeaaGreatDoorPJAS
import Derived.Test.YtcncbhbdpcpkeaaGreatDoorPJAR
import Derived.Test.YtcncbhbdpcpkeaaGreatDoorPJAQ
import Derived.Test.YtcncbhbdpcpkeaaGreatDoorPJAB
import Derived.Test.YtcncbhbdpcpkeaaGreatDoorPJAO
import Derived.Test.YtcncbhbdpcpkeaaGreatDoorPJAF
/-
  What Parse accepts is read again from its own writing. Plain.
-/
namespace Go.Proofs.YtcncbhbdpcpkeaaGreatDoor
open Go.RowKit Go.Lib Own

/-- an event of a plain list as one that is written -/
def toP (e : Ev) : EvP := ⟨(evK e : Nat), evN e, evA e, evT e⟩
theorem toP_text (b : List UInt8) : toP (.text b) = ⟨3, [], [], b⟩ := rfl
theorem toP_start (n : List UInt8) (al : List AttrP) : toP (.start n al) = ⟨1, n, al, []⟩ := rfl
theorem toP_stop (n : List UInt8) : toP (.stop n) = ⟨2, n, [], []⟩ := rfl
def wEv (eat : Bool) (l : List Ev) : List UInt8 := writeW eat (l.map toP)
theorem wEv_nil (eat : Bool) : wEv eat [] = [] := rfl
theorem wEv_text {eat : Bool} {b : List UInt8} (h : b ≠ []) (r : List Ev) : wEv eat (.text b :: r) = (if eat = true ∧ b.head? = some 10 then [10] else []) ++ escL false b ++ wEv false r := by
  show (textW eat b).2 ++ writeW (textW eat b).1 (r.map toP) = _
  unfold textW
  rw [if_neg h]
  rfl
theorem wEv_start (eat : Bool) (n : List UInt8) (al : List AttrP) (r : List Ev) : wEv eat (.start n al :: r) = openL n al ++ wEv (eatsL n) r := rfl
theorem wEv_stop (eat : Bool) (n : List UInt8) (r : List Ev) : wEv eat (.stop n :: r) = etagL n ++ wEv false r := rfl

/-- one event taken as it is: no newline is lost -/
def stepV (s : PS) : Ev → Nat × PS
  | .text t => if (innT s.op = 5 ∨ innT s.op = 6 ∨ innT s.op = 7) ∧ t.all wsP = false then (8, s) else (0, ⟨s.op, s.ns ++ [⟨s.op.length, [], [], t⟩], false⟩)
  | e => stepP s e
def runE : PS → List Ev → Nat × List EvP
  | s, [] => if s.op = [] then (0, s.ns) else (10, [])
  | s, e :: r => if (stepV s e).1 = 0 then runE (stepV s e).2 r else ((stepV s e).1, [])
theorem runE_cons (s : PS) (e : Ev) (r : List Ev) : runE s (e :: r) = if (stepV s e).1 = 0 then runE (stepV s e).2 r else ((stepV s e).1, []) := rfl
/-- events that are read back -/
def okE : Ev → Prop
  | .text b => b ≠ [] ∧ gt b = true
  | .start n al => wordOk [] n = true ∧ ∀ a ∈ al, attrOk a = true
  | .stop n => wordOk [] n = true
def noText : List Ev → Prop
  | .text _ :: _ => False
  | _ => True
def CleanE : List Ev → Prop
  | [] => True
  | .text b :: r => okE (.text b) ∧ noText r ∧ CleanE r
  | e :: r => okE e ∧ CleanE r
theorem CleanE.tail {e : Ev} {r : List Ev} (h : CleanE (e :: r)) : CleanE r := by
  cases e with
  | text b => exact h.2.2
  | start n al => exact h.2
  | stop n => exact h.2
theorem CleanE.head {e : Ev} {r : List Ev} (h : CleanE (e :: r)) : okE e := by
  cases e with
  | text b => exact h.1
  | start n al => exact h.1
  | stop n => exact h.1
theorem tagAhead_write {eat : Bool} {r : List Ev} (h : noText r) : tagAhead (wEv eat r) := by
  cases r with
  | nil => exact .inl rfl
  | cons e q =>
    cases e with
    | text b => exact absurd h id
    | start n al => rw [wEv_start]; exact .inr rfl
    | stop n => rw [wEv_stop]; exact .inr rfl
theorem esc_cons10 (b : List UInt8) : [10] ++ escL false b = escL false (10 :: b) := by
  rw [show escL false (10 :: b) = esc1 false 10 ++ escL false b by rw [escL, if_neg (by simp)]]
  rfl
theorem gt_ten (b : List UInt8) : gt (10 :: b) = gt b := gt_app (a := [10]) (by decide)
/-- what is written is read as the events that were written -/
theorem parse_run : ∀ (evs : List Ev) (s : PS), CleanE evs → parseS s (wEv s.eat evs) = runE s evs
  | [], s, _ => by rw [wEv_nil, parseS_nil]; rfl
  | .text b :: r, s, h => by
    obtain ⟨⟨hb, hg⟩, hr, hc⟩ := h
    have ht := tagAhead_write (eat := false) hr
    obtain ⟨B, hB, hBn, hBg, hBe⟩ : ∃ B : List UInt8, (if s.eat = true ∧ b.head? = some 10 then [10] else []) ++ escL false b = escL false B ∧ B ≠ [] ∧ gt B = true ∧ eaten s.eat B = b := by
      by_cases h1 : s.eat = true ∧ b.head? = some 10
      · refine ⟨10 :: b, by rw [if_pos h1]; exact esc_cons10 b, by simp, by rw [gt_ten]; exact hg, ?_⟩
        unfold eaten
        rw [if_pos ⟨h1.1, rfl⟩]
        rfl
      · refine ⟨b, by rw [if_neg h1]; rfl, hb, hg, ?_⟩
        unfold eaten
        rw [if_neg h1]
    rw [wEv_text hb, hB]
    have hne : escL false B ++ wEv false r ≠ [] := fun e => esc_ne (q := false) hBn (List.append_eq_nil_iff.1 e).1
    rw [parseS_step s hne, tok_text hBn hBg ht]
    simp only
    have hstep : stepP s (.text B) = stepV s (.text b) := by
      unfold stepP stepV
      simp only
      rw [hBe, if_neg hb]
    rw [hstep, runE_cons]
    split
    · rename_i h0
      have he : (stepV s (.text b)).2.eat = false := by
        unfold stepV at h0 ⊢
        simp only at h0 ⊢
        split at h0
        · exact absurd h0 (by simp)
        · rename_i h1; rw [if_neg h1]
      have ih := parse_run r (stepV s (.text b)).2 hc
      rw [he] at ih
      exact ih
    · rfl
  | .start n al :: r, s, h => by
    obtain ⟨⟨hn, ha⟩, hc⟩ := h
    rw [wEv_start]
    have hne : openL n al ++ wEv (eatsL n) r ≠ [] := by simp [openL]
    rw [parseS_step s hne, tok_start hn ha, runE_cons]
    simp only
    show (if (stepP s (.start n al)).1 = 0 then _ else _) = if (stepP s (.start n al)).1 = 0 then runE (stepP s (.start n al)).2 r else _
    split
    · rename_i h0
      have he : (stepP s (.start n al)).2.eat = eatsL n := by
        unfold stepP at h0 ⊢
        simp only at h0 ⊢
        split at h0
        · exact absurd h0 (by simp)
        · rename_i h1
          split at h0
          · rename_i h2; exact absurd h0 h2
          · rename_i h2; rw [if_neg h1, if_neg h2]
      have ih := parse_run r (stepP s (.start n al)).2 hc
      rw [he] at ih
      exact ih
    · rfl
  | .stop n :: r, s, h => by
    obtain ⟨hn, hc⟩ := h
    rw [wEv_stop]
    have hne : etagL n ++ wEv false r ≠ [] := by simp [etagL]
    rw [parseS_step s hne, tok_stop hn, runE_cons]
    simp only
    show (if (stepP s (.stop n)).1 = 0 then _ else _) = if (stepP s (.stop n)).1 = 0 then runE (stepP s (.stop n)).2 r else _
    split
    · rename_i h0
      have he : (stepP s (.stop n)).2.eat = false := by
        unfold stepP at h0 ⊢
        simp only at h0 ⊢
        split at h0
        · rename_i h1; rw [if_pos h1]
        · split at h0
          · exact absurd h0 (by simp)
          · exact absurd h0 (by simp)
      have ih := parse_run r (stepP s (.stop n)).2 hc
      rw [he] at ih
      exact ih
    · rfl
theorem elem_nil {x : List UInt8} (h : elemL x ≠ none) : x ≠ [] := fun e => h (by rw [e]; decide +kernel)
theorem closeE_snoc0 {op : List (List UInt8)} {x : List UInt8} (h : op.getLast? = some x) {k : Nat} (hk : k ≤ op.length - 1) : closeE k op = .stop x :: closeE k op.dropLast ∧ op.take k = op.dropLast.take k := by
  have hne : op ≠ [] := by rintro rfl; cases h
  have hx : op.getLast hne = x := by
    rw [List.getLast?_eq_some_getLast hne] at h
    exact Option.some.inj h
  have hop := List.dropLast_concat_getLast hne
  rw [hx] at hop
  have hl : op.dropLast.length = op.length - 1 := List.length_dropLast
  have h1 : closeE k (op.dropLast ++ [x]) = .stop x :: closeE k op.dropLast := by
    unfold closeE
    rw [List.drop_append_of_le_length (by omega), List.reverse_append]
    rfl
  have h2 : (op.dropLast ++ [x]).take k = op.dropLast.take k := List.take_append_of_le_length (by omega)
  rw [hop] at h1 h2
  exact ⟨h1, h2⟩
end Go.Proofs.YtcncbhbdpcpkeaaGreatDoor

/-
  The statements' longAttrs: its walk; what the memory of lent events or nodes holds.
-/
namespace Go.Proofs.YtcncbhbdpcpkeaaGreatDoor
open Go.RowKit Go.Lib Own

theorem attrsR_row {W : World} {base : Nat} {v : Value} {al : List AttrP} (h : W.ownsRow base 122 2 v al.length (attrsV al)) : AttrsR W v al := by
  have hc : ∀ j a, al[j]? = some a → ∃ b o, (∃ n c, v = .slice (some ⟨b, o, none⟩) n c) ∧ W.cell? ⟨b, o + j * 2, none⟩ = some (.string (bs a.1)) ∧ W.cell? ⟨b, o + j * 2 + 1, none⟩ = some (.string (bs a.2)) := fun j a hj => by
    have hlt := (List.getElem?_eq_some_iff.1 hj).1
    obtain ⟨g, cap, rfl, _, _, hcell⟩ := row_at h (by omega)
    obtain ⟨x1, x2⟩ := attrs_at al j a hj
    exact ⟨g, 0, ⟨_, _, rfl⟩, by rw [Nat.zero_add]; exact (hcell _ (by omega)).trans x1, by rw [Nat.zero_add]; exact (hcell _ (by omega)).trans x2⟩
  rcases h.2 with ⟨rfl, h0⟩ | ⟨g, cap, cur, rfl, _, _, h1, h2, _⟩
  · exact ⟨none, 0, by rw [h0], by omega, by omega, fun j s hj => by have := (List.getElem?_eq_some_iff.1 hj).1; omega, fun _ => rfl⟩
  · refine ⟨some ⟨g, 0, none⟩, cap, rfl, h1, by unfold maxLen at h2; omega, fun j s hj => ?_, fun e => by cases e⟩
    obtain ⟨b, o, ⟨n, c, e⟩, hcell⟩ := hc j s hj
    cases e
    exact ⟨g, 0, rfl, hcell⟩
theorem attrsV_one (al : List AttrP) : ∀ u ∈ attrsV al, u.oneCell' = true := by
  intro u hu
  unfold attrsV at hu
  obtain ⟨s, _, hs⟩ := List.mem_flatMap.1 hu
  simp only [List.mem_cons, List.not_mem_nil, or_false] at hs
  rcases hs with rfl | rfl <;> rfl
/-- attributes appended to a row of attributes that the call owns -/
theorem wpList_append_attrs {w : World} {ops : Array Oper} {rest : List Oper} {o : Oper} {a : Act} {Q : Exit → Act → World → Prop} (hgd : o.guard = none) (s x : Operand)
    (ho : o.op = .call { callee := .builtin .append, args := #[s, x], argTypes := #[36, 36] }) (base : Nat) (v vx : Value) (l m : List AttrP) (hs : a.eval s = v) (hx : a.eval x = vx)
    (hown : w.ownsRow base 122 2 v l.length (attrsV l)) (hw : AttrsR w vx m) (hbase : base ≤ w.heap.size) (hsz : l.length + m.length ≤ 1000000000)
    (h : ∀ v' w', w'.ownsRow base 122 2 v' (l ++ m).length (attrsV (l ++ m)) → w.grownBy w' v.ownBlock → wpList Tryz.prog ops Q rest (a.put o.dst v') w') : wpList Tryz.prog ops Q (o :: rest) a w := by
  obtain ⟨i0, hi, hz0, hz1, hz2⟩ := info_parts info_attr
  obtain ⟨p, c, rfl, hc, hm, hcell, hnone⟩ := hw
  cases p with
  | none =>
    obtain rfl : c = 0 := hnone rfl
    obtain rfl : m = [] := List.length_eq_zero_iff.1 (by omega)
    refine wpList_append_own_none hgd s x 36 ho base 122 i0 2 Tryz.underlying36 hi v l.length (attrsV l) hs hown hx ?_
    exact h v w (by rw [List.append_nil]; exact hown) ⟨rfl, rfl, rfl, Nat.le_refl _, fun _ _ _ => rfl⟩
  | some ad =>
    refine wpList_append_own w hgd s x 36 ho base 122 i0 (.agg #[.string ⟨#[]⟩, .string ⟨#[]⟩]) 2 32 Tryz.underlying36 hi hz0 hz1 hz2 rfl (by decide) v l.length (attrsV l) hs hown ad m.length c (attrsV m) hx (attrsV_len m) ?_ (attrsV_one m) (by unfold maxLen; omega) (by omega) hbase ?_
    · intro j u hj
      have hjl := (List.getElem?_eq_some_iff.1 hj).1
      rw [attrsV_len] at hjl
      obtain ⟨t, ht⟩ : ∃ t, m[j / 2]? = some t := ⟨_, List.getElem?_eq_getElem (by omega)⟩
      obtain ⟨b, o', e, hd1, hd2⟩ := hcell _ t ht
      obtain ⟨x1, x2⟩ := attrs_at m _ t ht
      cases e
      have hadd : (⟨b, o', none⟩ : Addr).add j = ⟨b, o' + j, none⟩ := by unfold Addr.add; split <;> simp_all
      rw [hadd]
      rcases (show j = j / 2 * 2 ∨ j = j / 2 * 2 + 1 by omega) with e | e
      · rw [← e] at x1 hd1
        obtain rfl := Option.some.inj (x1.symm.trans hj)
        exact hd1
      · rw [← e] at x2
        rw [Nat.add_assoc, ← e] at hd2
        obtain rfl := Option.some.inj (x2.symm.trans hj)
        exact hd2
    · intro v' w' h2 h3 _
      exact h v' w' (by rw [List.length_append, attrsV_app]; exact h2) h3
/-! ## cells of events, lists of attributes beside them -/

def ecells (prs : List (EvP × Value)) : List Value := prs.flatMap fun x => [.int .i64 x.1.k, .string (bs x.1.n), x.2, .string (bs x.1.t)]
theorem ecells_app (a b : List (EvP × Value)) : ecells (a ++ b) = ecells a ++ ecells b := List.flatMap_append
theorem ecells_at : ∀ (a : List (EvP × Value)) (k : Nat) (x : EvP × Value), a[k]? = some x → (ecells a)[k * 4]? = some (.int .i64 x.1.k) ∧ (ecells a)[k * 4 + 1]? = some (.string (bs x.1.n)) ∧ (ecells a)[k * 4 + 2]? = some x.2 ∧ (ecells a)[k * 4 + 3]? = some (.string (bs x.1.t))
  | [], k, x, h => by simp at h
  | y :: r, 0, x, h => by
    simp only [List.getElem?_cons_zero, Option.some.injEq] at h
    subst h
    exact ⟨rfl, rfl, rfl, rfl⟩
  | y :: r, k + 1, x, h => by
    rw [List.getElem?_cons_succ] at h
    obtain ⟨h1, h2, h3, h4⟩ := ecells_at r k x h
    exact ⟨by rw [show (k + 1) * 4 = k * 4 + 1 + 1 + 1 + 1 by omega]; exact h1, by rw [show (k + 1) * 4 + 1 = k * 4 + 1 + 1 + 1 + 1 + 1 by omega]; exact h2,
      by rw [show (k + 1) * 4 + 2 = k * 4 + 2 + 1 + 1 + 1 + 1 by omega]; exact h3, by rw [show (k + 1) * 4 + 3 = k * 4 + 3 + 1 + 1 + 1 + 1 by omega]; exact h4⟩
theorem evsR_row {T : TypeId} {W : World} {base : Nat} {v : Value} {prs : List (EvP × Value)} (h : W.ownsRow base T 4 v prs.length (ecells prs)) (ha : ∀ x ∈ prs, AttrsR W x.2 x.1.a) : EvsR W v (prs.map Prod.fst) := by
  have hlen : (prs.map Prod.fst).length = prs.length := List.length_map _
  have hc : ∀ j e, (prs.map Prod.fst)[j]? = some e → ∃ b o u, (∃ n c, v = .slice (some ⟨b, o, none⟩) n c) ∧ W.cell? ⟨b, o + j * 4, none⟩ = some (.int .i64 e.k) ∧ W.cell? ⟨b, o + j * 4 + 1, none⟩ = some (.string (bs e.n)) ∧ W.cell? ⟨b, o + j * 4 + 2, none⟩ = some u ∧ W.cell? ⟨b, o + j * 4 + 3, none⟩ = some (.string (bs e.t)) ∧ AttrsR W u e.a := fun j e hj => by
    rw [List.getElem?_map] at hj
    obtain ⟨x, hx, rfl⟩ := Option.map_eq_some_iff.1 hj
    have hlt := (List.getElem?_eq_some_iff.1 hx).1
    obtain ⟨g, cap, rfl, _, _, hcell⟩ := row_at h (by omega)
    obtain ⟨x1, x2, x3, x4⟩ := ecells_at prs j x hx
    refine ⟨g, 0, x.2, ⟨_, _, rfl⟩, ?_, ?_, ?_, ?_, ha x (List.mem_of_getElem? hx)⟩
    all_goals rw [Nat.zero_add]
    · exact (hcell _ (by omega)).trans x1
    · exact (hcell _ (by omega)).trans x2
    · exact (hcell _ (by omega)).trans x3
    · exact (hcell _ (by omega)).trans x4
  rcases h.2 with ⟨rfl, h0⟩ | ⟨g, cap, cur, rfl, _, _, h1, h2, _⟩
  · exact ⟨none, 0, by rw [hlen, h0], by omega, by omega, fun j s hj => by have := (List.getElem?_eq_some_iff.1 hj).1; omega⟩
  · refine ⟨some ⟨g, 0, none⟩, cap, by rw [hlen], by omega, by unfold maxLen at h2; omega, fun j s hj => ?_⟩
    obtain ⟨b, o, u, ⟨n, c, e⟩, hcell⟩ := hc j s hj
    cases e
    exact ⟨g, 0, u, rfl, hcell⟩
/-! ## events or nodes that are being lent: the box of the answer, the box of the list, the lists -/

section
variable {T LT : TypeId} {w W W2 : World} {wv av : Value} {es : List EvP} {mA : List AttrP} {prs : List (EvP × Value)} {us : List Value}
end
theorem EvsR.drewN {W : World} {v : Value} {l : List EvP} (h : EvsR W v l) (n : Nat) : EvsR (W.drewN n) v l := h
end Go.Proofs.YtcncbhbdpcpkeaaGreatDoor

/-
  Nodes that a call made: their row, and their lists of attributes, which stand apart; which elements are void: two walks.
-/
namespace Go.Proofs.YtcncbhbdpcpkeaaGreatDoor
open Go.RowKit Go.Lib Own

structure MadeN (W : World) (base : Nat) (v : Value) (prs : List (EvP × Value)) : Prop where
  row : W.ownsRow base 38 4 v prs.length (ecells prs)
  own : ∀ (k : Nat) (x : EvP × Value), prs[k]? = some x → W.ownsRow base 122 2 x.2 x.1.a.length (attrsV x.1.a)
  ap : Dist (prs.map Prod.snd)
theorem MadeN.nil (W : World) (base : Nat) : MadeN W base (.slice none 0 0) [] := ⟨World.ownsRow_nil _ _ _ _, fun k x h => by simp at h, fun j k v u h => by simp at h⟩
theorem MadeN.keep {W W' : World} {base : Nat} {v : Value} {prs : List (EvP × Value)} (h : MadeN W base v prs) (h1 : ∀ v n xs, W.ownsRow base 38 4 v n xs → W'.ownsRow base 38 4 v n xs)
    (h2 : ∀ a n ys, W.ownsRow base 122 2 a n ys → W'.ownsRow base 122 2 a n ys) : MadeN W' base v prs := ⟨h1 _ _ _ h.row, fun k x hx => h2 _ _ _ (h.own k x hx), h.ap⟩
theorem MadeN.below {W W' : World} {base : Nat} {v : Value} {prs : List (EvP × Value)} (h : MadeN W base v prs) (hb : Below W.heap.size W W') : MadeN W' base v prs :=
  h.keep (fun _ _ _ hr => row_below hr hb) (fun _ _ _ hr => row_below hr hb)
theorem MadeN.drewN {W : World} {base : Nat} {v : Value} {prs : List (EvP × Value)} (h : MadeN W base v prs) (n : Nat) : MadeN (W.drewN n) base v prs := h.keep (fun _ _ _ hr => hr) (fun _ _ _ hr => hr)
theorem dist_end {vs : List Value} {v : Value} (h : Dist vs) (hn : ∀ (k : Nat) u, vs[k]? = some u → ∀ g, v.ownBlock = some g → u.ownBlock ≠ some g) : Dist (vs ++ [v]) := by
  intro j k a b hj hk hne g hg
  by_cases hjl : j < vs.length
  · rw [List.getElem?_append_left hjl] at hj
    by_cases hkl : k < vs.length
    · rw [List.getElem?_append_left hkl] at hk
      exact h j k a b hj hk hne g hg
    · have hk' : k = vs.length := by have := (List.getElem?_eq_some_iff.1 hk).1; simp at this; omega
      rw [hk', List.getElem?_append_right (Nat.le_refl _), Nat.sub_self] at hk
      obtain rfl : v = b := Option.some.inj hk
      exact fun e => hn j a hj g e hg
  · have hj' : j = vs.length := by have := (List.getElem?_eq_some_iff.1 hj).1; simp at this; omega
    rw [hj', List.getElem?_append_right (Nat.le_refl _), Nat.sub_self] at hj
    obtain rfl : v = a := Option.some.inj hj
    by_cases hkl : k < vs.length
    · rw [List.getElem?_append_left hkl] at hk
      exact hn k b hk g hg
    · have hk' : k = vs.length := by have := (List.getElem?_eq_some_iff.1 hk).1; simp at this; omega
      omega
/-- one more node -/
theorem MadeN.more {W W2 : World} {base : Nat} {v v' : Value} {prs : List (EvP × Value)} {x : EvP × Value} {X : Obj} (h : MadeN W base v prs) (hx : W.ownsRow base 122 2 x.2 x.1.a.length (attrsV x.1.a))
    (hn : ∀ g, x.2.ownBlock = some g → ∀ (k : Nat) y, prs[k]? = some y → y.2.ownBlock ≠ some g) (hg : (W.alloc X).grownBy W2 v.ownBlock)
    (hv : W2.ownsRow base 38 4 v' (prs.length + 1) (ecells prs ++ [.int .i64 x.1.k, .string (bs x.1.n), x.2, .string (bs x.1.t)])) : MadeN W2 base v' (prs ++ [x]) := by
  have hra := h.row.alloc X
  have mono : ∀ a n ys, W.ownsRow base 122 2 a n ys → W2.ownsRow base 122 2 a n ys := fun a n ys hr => (hr.alloc X).kept hg (rows_ne (hr.alloc X) hra (by decide))
  refine ⟨by rw [List.length_append, ecells_app]; exact hv, fun k y hy => ?_, ?_⟩
  · by_cases hk : k < prs.length
    · rw [List.getElem?_append_left hk] at hy
      exact mono _ _ _ (h.own k y hy)
    · have hk' : k = prs.length := by have := (List.getElem?_eq_some_iff.1 hy).1; simp at this; omega
      rw [hk', List.getElem?_append_right (Nat.le_refl _), Nat.sub_self] at hy
      obtain rfl : x = y := Option.some.inj hy
      exact mono _ _ _ hx
  · rw [List.map_append]
    refine dist_end h.ap (fun k u hu g hg2 => ?_)
    rw [List.getElem?_map] at hu
    obtain ⟨y, hy, rfl⟩ := Option.map_eq_some_iff.1 hu
    exact hn g hg2 k y hy
theorem MadeN.evs {W : World} {base : Nat} {v : Value} {prs : List (EvP × Value)} (h : MadeN W base v prs) : EvsR W v (prs.map Prod.fst) :=
  evsR_row h.row (fun x hx => by obtain ⟨k, hk⟩ := List.mem_iff_getElem?.1 hx; exact attrsR_row (h.own k x hk))
/-- what was made in a block that is new is no older node's -/
theorem MadeN.fresh {W : World} {base : Nat} {v : Value} {prs : List (EvP × Value)} (h : MadeN W base v prs) {u : Value} (hu : ∀ g, u.ownBlock = some g → W.heap.size ≤ g) : ∀ g, u.ownBlock = some g → ∀ (k : Nat) y, prs[k]? = some y → y.2.ownBlock ≠ some g := by
  intro g hg k y hy e
  have h1 := ((h.own k y hy).lt g e).2
  have h2 := hu g hg
  omega
theorem info_node : (Tryz.prog.info? 38).map (fun i => (i.zero, i.size, i.bytes)) = some (some (.agg #[.int .i64 0, .string ⟨#[]⟩, .slice none 0 0, .string ⟨#[]⟩]), 4, 64) := by kernel_rfl

/-! ## which elements are void -/

theorem elemF_mem (x : List UInt8) (r : Nat × Nat) : ∀ T : List (List (List UInt8) × Nat × Nat), elemF T x = some r → ∃ k ∈ T, k.1.contains x = true ∧ k.2 = r
  | [], h => by cases h
  | k :: T, h => by
    unfold elemF at h
    by_cases hc : k.1.contains x = true
    · rw [if_pos hc] at h
      exact ⟨k, List.mem_cons_self .., hc, Option.some.inj h⟩
    · rw [if_neg hc] at h
      obtain ⟨q, h1, h2⟩ := elemF_mem x r T h
      exact ⟨q, List.mem_cons_of_mem _ h1, h2⟩
def voidE : Option (Nat × Nat) → Bool
  | some (_, m) => (m : Int) == 9
  | none => false
theorem void_elem (x : List UInt8) : voidE (elemL x) = voidL x := by
  by_cases h1 : x = [98, 114]
  · subst h1; decide +kernel
  by_cases h2 : x = [104, 114]
  · subst h2; decide +kernel
  by_cases h3 : x = [105, 109, 103]
  · subst h3; decide +kernel
  have hv : voidL x = false := by
    unfold voidL
    rw [beq_eq_false_iff_ne.2 h1, beq_eq_false_iff_ne.2 h2, beq_eq_false_iff_ne.2 h3]
    rfl
  rw [hv]
  cases h : elemL x with
  | none => rfl
  | some r =>
    obtain ⟨c, m⟩ := r
    obtain ⟨k, hk, hc, e⟩ := elemF_mem x _ kindT h
    refine beq_eq_false_iff_ne.2 (fun hm => ?_)
    have h9 := (by decide +kernel : ∀ k ∈ kindT, k.2.2 = 9 → k.1 = [[98, 114], [105, 109, 103]] ∨ k.1 = [[104, 114]]) k hk (by rw [e]; show m = 9; omega)
    rcases h9 with e2 | e2
    · rw [e2] at hc
      simp at hc
      rcases hc with hc | hc
      · exact h1 hc
      · exact h3 hc
    · rw [e2] at hc
      simp at hc
      exact h2 hc

theorem elemVoid_any (a : Value) (c m : Nat) (w : World) : Calls Tryz.prog 147 #[.agg #[a, .int .i64 c, .int .i64 m]] w fun e w' => e = .returned (.bool ((m : Int) == 9)) ∧ Below w.heap.size w w' := by
  have hb := (Below.refl w.heap.size w).alloc (Nat.le_refl _) (.cells #[a, .int .i64 c, .int .i64 m] 172)
  have hn := heap_alloc_new w (.cells #[a, .int .i64 c, .int .i64 m] 172)
  have c2 := cell_at (j := 2) hn rfl
  go_enter Tryz.func147, Tryz.ntmps147
  go_wp2
  go_ret
  exact ⟨rfl, hb⟩
theorem isVoid_any (x : ByteArray) (w : World) (hT : KindsTab w) : Calls Tryz.prog 107 #[.string x] w fun e w' => e = .returned (.bool (voidL x.toList)) ∧ Below w.heap.size w w' := by
  have hf := find_any x w hT
  rw [← void_elem]
  obtain ⟨o, ho⟩ : ∃ o, elemL x.toList = o := ⟨_, rfl⟩
  rw [ho] at hf ⊢
  have HF := hid hf
  have HV := hid (fun a c m w => elemVoid_any a c m w)
  clear hf ho
  go_enter Tryz.func107, Tryz.ntmps107
  go_wp2_with fail
  refine HF.out.mono ?_
  rintro r W1 ⟨rfl, b1⟩
  cases o with
  | none =>
    unfold foundV zeroE
    have hb2 := (Below.refl W1.heap.size W1).alloc (Nat.le_refl _) (.cells #[.string ⟨#[]⟩, .int .i64 0, .int .i64 0] 172)
    have hl := elem_load (heap_alloc_new W1 (.cells #[.string ⟨#[]⟩, .int .i64 0, .int .i64 0] 172))
    have HB := hid (b1.trans (hb2.mono b1.size))
    have hsz := b1.size
    clear b1 hb2
    go_wp2_with (go_at_call 147; refine (HV.out _ 0 0 _).mono ?_; rintro r W3 ⟨rfl, b3⟩)
    have HZ := hid (HB.out.trans (b3.mono HB.out.size))
    clear b3 HB
    go_ret
    exact ⟨rfl, HZ.out⟩
  | some q =>
    obtain ⟨c, m⟩ := q
    unfold foundV elemC
    have hb2 := (Below.refl W1.heap.size W1).alloc (Nat.le_refl _) (.cells #[.string (bs x.toList), .int .i64 c, .int .i64 m] 172)
    have hl := elem_load (heap_alloc_new W1 (.cells #[.string (bs x.toList), .int .i64 c, .int .i64 m] 172))
    have HB := hid (b1.trans (hb2.mono b1.size))
    have hsz := b1.size
    clear b1 hb2
    go_wp2_with (go_at_call 147; refine (HV.out _ c m _).mono ?_; rintro r W3 ⟨rfl, b3⟩)
    have HZ := hid (HB.out.trans (b3.mono HB.out.size))
    clear b3 HB
    go_ret
    exact ⟨rfl, HZ.out⟩
end Go.Proofs.YtcncbhbdpcpkeaaGreatDoor
