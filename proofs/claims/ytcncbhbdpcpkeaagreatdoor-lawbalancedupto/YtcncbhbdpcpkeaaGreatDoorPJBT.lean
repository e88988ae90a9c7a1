/-
  Parts of the walk, joined: BalR, BnB, PwA, Read, TabsN.
-/
import Derived.Test.YtcncbhbdpcpkeaaGreatDoorPJBS
import Derived.Test.YtcncbhbdpcpkeaaGreatDoorPJBQ
import Derived.Test.YtcncbhbdpcpkeaaGreatDoorPJAZ
import Derived.Test.YtcncbhbdpcpkeaaGreatDoorPJAQ
import Derived.Test.YtcncbhbdpcpkeaaGreatDoorPJAK
import Derived.Test.YtcncbhbdpcpkeaaGreatDoorPJAC
import Derived.Test.YtcncbhbdpcpkeaaGreatDoorPJAP
import Derived.Test.YtcncbhbdpcpkeaaGreatDoorPJAY
/-
  Balance: how much it puts out; its state through the walk.
-/
namespace Go.Proofs.YtcncbhbdpcpkeaaGreatDoor
open Go.RowKit Go.Lib Own

theorem closeE_len (k : Nat) (op : List (List UInt8)) : (closeE k op).length = op.length - k := by unfold closeE; simp
theorem openE_len (l : List (List UInt8)) : (openE l).length = l.length := by unfold openE; simp
theorem known_ne {x : List UInt8} (h : elemL x ≠ none) : x ≠ [] := fun e => by
  subst e
  exact h (by decide +kernel)
/-- never more open than the depth -/
theorem start_len {d : Nat} {op : List (List UInt8)} {x : List UInt8} {al : List AttrP} (h : op.length ≤ d) : (startP d op x al).1.length ≤ d ∧ (startP d op x al).2.length + (startP d op x al).1.length ≤ op.length + 8 * min 1 x.length := by
  by_cases h1 : elemL x = none
  · rw [startP_unknown h1]
    exact ⟨h, by simp⟩
  · by_cases h2 : (findP (clsX x) op (reachP op x)).2 = 0 ∨ d < (findP (clsX x) op (reachP op x)).1 + (impP (findP (clsX x) op (reachP op x)).2).length + 1
    · rw [startP_no h1 h2]
      exact ⟨h, by simp⟩
    · rw [startP_yes h1 h2]
      have h3 := imp_len (findP (clsX x) op (reachP op x)).2
      have h4 : (findP (clsX x) op (reachP op x)).1 ≤ op.length := Nat.le_trans (findP_le _ _ _) (reachP_le _ _)
      have h5 : 1 ≤ x.length := List.length_pos_iff.2 (known_ne h1)
      have h6 : min 1 x.length = 1 := by omega
      have h7 : (if modX x = 9 then ([] : List (List UInt8)) else [x]).length ≤ 1 := by split <;> simp
      simp only [List.length_append, List.length_take, closeE_len, openE_len, List.length_cons, List.length_nil]
      rw [h6]
      omega
theorem text_len {d : Nat} {op : List (List UInt8)} {t : List UInt8} (h : op.length ≤ d) : (textP d op t).1.length ≤ d ∧ (textP d op t).2.length + (textP d op t).1.length ≤ op.length + 8 * min 1 t.length := by
  by_cases h1 : nestP (modO op) 3 = 2
  · rw [textP_take h1]
    refine ⟨h, ?_⟩
    by_cases ht : t = []
    · rw [if_pos ht]; simp
    · rw [if_neg ht]
      have h5 : 1 ≤ t.length := List.length_pos_iff.2 ht
      have h6 : min 1 t.length = 1 := by omega
      rw [h6]
      simp only [List.length_cons, List.length_nil]
      omega
  · by_cases h2 : trimP t = [] ∨ d < op.length + (impP (nestP (modO op) 3)).length
    · rw [textP_none h1 h2]
      exact ⟨h, by simp⟩
    · rw [textP_imp h1 h2]
      have h3 := imp_len (nestP (modO op) 3)
      have ht : t ≠ [] := fun e => by subst e; exact h2 (.inl rfl)
      have h5 : 1 ≤ t.length := List.length_pos_iff.2 ht
      have h6 : min 1 t.length = 1 := by omega
      simp only [List.length_append, openE_len, List.length_cons, List.length_nil]
      rw [h6]
      omega
theorem end_len {d : Nat} {op : List (List UInt8)} {x : List UInt8} (h : op.length ≤ d) : (endP op x).1.length ≤ d ∧ (endP op x).2.length + (endP op x).1.length ≤ op.length := by
  by_cases h1 : elemL x = none
  · unfold endP
    rw [if_pos h1]
    exact ⟨h, by simp⟩
  · rw [endP_eq op x h1]
    cases hc : closesP op x op.length with
    | none => exact ⟨h, by simp [endR]⟩
    | some k =>
      have := closes_lt hc
      simp only [endR, List.length_take, closeE_len]
      omega
theorem balS_len {d : Nat} {op : List (List UInt8)} {e : EvP} (h : op.length ≤ d) : (balS d op e).1.length ≤ d ∧ (balS d op e).2.length + (balS d op e).1.length ≤ op.length + 4 * (e.n.length + e.t.length + bulkA e.a + 1) := by
  by_cases k1 : e.k = 1
  · rw [balS_one k1]
    have := start_len (x := e.n) (al := e.a) h
    omega
  · by_cases k2 : e.k = 2
    · rw [balS_two k2]
      have := end_len (x := e.n) h
      omega
    · by_cases k3 : e.k = 3
      · rw [balS_three k3]
        have := text_len (t := e.t) h
        omega
      · rw [balS_else k1 k2 k3]
        exact ⟨h, by simp only [List.length_nil]; omega⟩
/-- the bytes of texts -/
def txtN (L : List Ev) : Nat := (L.map fun e => (evT e).length).sum
theorem txtN_app (a b : List Ev) : txtN (a ++ b) = txtN a + txtN b := by unfold txtN; rw [List.map_append, List.sum_append]
theorem txtN_open (l : List (List UInt8)) : txtN (openE l) = 0 := by
  induction l with
  | nil => rfl
  | cons x r ih => show (evT (.start x [])).length + txtN (openE r) = 0; rw [ih]; rfl
theorem txtN_stops : ∀ l : List (List UInt8), txtN (l.map .stop) = 0
  | [] => rfl
  | x :: r => by show (evT (.stop x)).length + txtN (r.map .stop) = 0; rw [txtN_stops r]; rfl
theorem txtN_close (k : Nat) (op : List (List UInt8)) : txtN (closeE k op) = 0 := txtN_stops _
theorem balS_txt (d : Nat) (op : List (List UInt8)) (e : EvP) : txtN (balS d op e).2 ≤ e.t.length := by
  by_cases k1 : e.k = 1
  · rw [balS_one k1]
    unfold startP
    split
    · exact Nat.zero_le _
    · split
      · exact Nat.zero_le _
      · rw [txtN_app, txtN_app, txtN_close, txtN_open]
        exact Nat.zero_le _
  · by_cases k2 : e.k = 2
    · rw [balS_two k2]
      unfold endP
      split
      · exact Nat.zero_le _
      · split
        · exact Nat.zero_le _
        · rw [txtN_close]; exact Nat.zero_le _
    · by_cases k3 : e.k = 3
      · rw [balS_three k3]
        unfold textP
        split
        · simp only
          split
          · exact Nat.zero_le _
          · show (evT (.text e.t)).length + 0 ≤ _; exact Nat.le_refl _
        · split
          · exact Nat.zero_le _
          · rw [txtN_app, txtN_open]
            have : (trimP e.t).length ≤ e.t.length := (List.dropWhile_sublist _).length_le
            show 0 + ((trimP e.t).length + 0) ≤ _
            omega
      · rw [balS_else k1 k2 k3]; exact Nat.zero_le _
theorem putEs_pend : ∀ (L : List Ev) (s : List Ev × List UInt8), (putEs s L).2.length ≤ s.2.length + txtN L
  | [], s => Nat.le_add_right _ _
  | e :: L, s => by
    have h := putEs_pend L (putE s e)
    have h2 : (putE s e).2.length ≤ s.2.length + (evT e).length := by
      by_cases h3 : evK e = 3
      · cases e with
        | text t => rw [putE_text]; simp only [List.length_append]; exact Nat.le_refl _
        | start n a => exact absurd h3 (by show (1 : Nat) ≠ 3; omega)
        | stop n => exact absurd h3 (by show (2 : Nat) ≠ 3; omega)
      · rw [putE_other s e h3]; exact Nat.zero_le _
    have h3 : txtN (e :: L) = (evT e).length + txtN L := rfl
    show (putEs (putE s e) L).2.length ≤ _
    omega
theorem txtN_take (L : List Ev) (k : Nat) : txtN (L.take k) ≤ txtN L := by
  have h := txtN_app (L.take k) (L.drop k)
  rw [List.take_append_drop] at h
  omega
theorem txtN_mem {L : List Ev} {e : Ev} (h : e ∈ L) : (evT e).length ≤ txtN L := by
  obtain ⟨k, hk⟩ := List.getElem?_of_mem h
  exact sum_get (fun e : Ev => (evT e).length) L k e hk
theorem bulkE_next {es : List EvP} {k : Nat} {e : EvP} (h : es[k]? = some e) : bulkE (es.take (k + 1)) = bulkE (es.take k) + (e.n.length + e.t.length + bulkA e.a + 1) := by
  rw [List.take_add_one, h]
  unfold bulkE
  rw [List.map_append, List.sum_append]
  simp
theorem bulkE_take (es : List EvP) (k : Nat) : bulkE (es.take k) ≤ bulkE es := by
  have h : bulkE (es.take k ++ es.drop k) = bulkE (es.take k) + bulkE (es.drop k) := by unfold bulkE; rw [List.map_append, List.sum_append]
  rw [List.take_append_drop] at h
  omega
theorem rawB_next {d : Nat} {op : List (List UInt8)} {es : List EvP} {k : Nat} {e : EvP} (h : es[k]? = some e) : rawB d op (es.drop k) = (balS d op e).2 ++ rawB d (balS d op e).1 (es.drop (k + 1)) := by
  rw [drop_at h, rawB_step]
/-- the attributes of a list that a call made are new to what lay there -/
theorem free_new {W W1 : World} {ob base : Nat} {lv : Value} {L : List Ev} {ys : List Value} {evs : List Ev} {xs : List Value} (hm : MadeE W ob lv L ys) (he : EvsAt W1 base xs evs) (ho : W1.heap.size ≤ ob) : FreeFrom ys xs 0 := fun j a g _ hja hag => by
  have hlen := evs_len ys L hm.evs
  have hj := (List.getElem?_eq_some_iff.1 hja).1
  obtain ⟨e, he0⟩ : ∃ e, L[j]? = some e := ⟨_, List.getElem?_eq_getElem (by omega)⟩
  obtain ⟨a', _, _, h3, _, h5, _⟩ := evs_get ys L j e hm.evs he0
  obtain rfl := Option.some.inj (hja.symm.trans h3)
  exact notIn_new (Nat.le_trans ho (h5.lt g hag).1) _ _ he
/-- the stream stays while the balancer works -/
theorem StrX.bal {W W' : World} {base b bb B : Nat} {ev p v : Value} {evs : List Ev} {pend : List UInt8} {xs : List Value} (h : StrX W base b ev p v evs pend xs) {op : List (List UInt8)} {ov ov' outv' : Value} {cs : Array Value}
    (hf : BalF bb ov (.slice none 0 0) ov' outv' W W') (hbx : W.heap[bb]? = some (.cells cs 117 (0, 0))) (hop : OpenR W B ov op) : StrX W' base b ev p v evs pend xs := by
  refine h.keep (fun k cs2 T fz hk hT => hf.other k (Array.getElem?_eq_some_iff.1 hk).1 (fun e => ?_) (fun e => ?_) (fun e => by cases e))
  · subst e
    rw [hbx] at hk
    simp only [Option.some.injEq, Obj.cells.injEq] at hk
    rw [← hk.2.1] at hT
    revert hT
    decide
  · rcases hop.2 with ⟨rfl, _⟩ | ⟨g', cap, cur, rfl, _, hg1, _⟩
    · cases e
    · obtain rfl := Option.some.inj e
      rw [hg1] at hk
      simp only [Option.some.injEq, Obj.cells.injEq] at hk
      rw [← hk.2.1] at hT
      revert hT
      decide
/-- the balancer stays while the stream takes its list -/
theorem BalS.put {w0 W W' : World} {ob b bs_ base n : Nat} {d : Int} {op : List (List UInt8)} {ov outv : Value} {J evs : List Ev} {xs : List Value} {pend : List UInt8} (h : BalS w0 W ob b d op ov outv J xs) (hp : PutAt W W' base ob bs_ outv J xs n evs pend) (hb : base = w0.heap.size) : BalS w0 W' ob b d op ov outv J xs := by
  subst hb
  refine ⟨⟨h.at_.lo, (hp.bk _ _ _ _ h.at_.bx (.inl rfl)).trans h.at_.bx, row_of_block h.at_.op (fun g hg => ?_), hp.ma⟩, h.be.trans hp.be, h.kt, h.nt, h.h1, Nat.le_trans h.h2 hp.be.size⟩
  rcases h.at_.op.2 with ⟨rfl, _⟩ | ⟨g', cap, cur, rfl, _, hg1, _⟩
  · cases hg
  · obtain rfl := Option.some.inj hg
    exact hp.bk _ _ _ _ hg1 (.inr rfl)
end Go.Proofs.YtcncbhbdpcpkeaaGreatDoor

/-
  Plain texts, wherever they are cut: what the balancer gives is the same; how it is written. Plain.
-/
namespace Go.Proofs.YtcncbhbdpcpkeaaGreatDoor
open Go.RowKit Go.Lib Own

/-! ## wherever texts are cut -/

theorem mrg_congr {X Y : List Ev} (h : ∀ q, mrg q X = mrg q Y) : ∀ (A : List Ev) (p : List UInt8), mrg p (A ++ X) = mrg p (A ++ Y)
  | [], p => h p
  | .text b :: r, p => mrg_congr h r (p ++ b)
  | .start x al :: r, p => by
    show txE p ++ .start x al :: mrg [] (r ++ X) = txE p ++ .start x al :: mrg [] (r ++ Y)
    rw [mrg_congr h r []]
  | .stop x :: r, p => by
    show txE p ++ .stop x :: mrg [] (r ++ X) = txE p ++ .stop x :: mrg [] (r ++ Y)
    rw [mrg_congr h r []]
theorem text_split {d : Nat} {op : List (List UInt8)} (h : StackOk d op) (a b : List UInt8) : (textP d (textP d op a).1 b).1 = (textP d op (a ++ b)).1 ∧ ∀ p R, mrg p ((textP d op a).2 ++ ((textP d (textP d op a).1 b).2 ++ R)) = mrg p ((textP d op (a ++ b)).2 ++ R) := by
  by_cases h2 : nestP (modO op) 3 = 2
  · have e : ∀ t, textP d op t = (op, txE t) := fun t => by unfold textP; rw [if_pos h2]; rfl
    rw [e a]
    simp only
    rw [e b, e (a ++ b)]
    exact ⟨rfl, fun p R => by rw [mrg_tx, mrg_tx, mrg_tx, List.append_assoc]⟩
  · have hno : ∀ t, (trimP t = [] ∨ d < op.length + (impP (nestP (modO op) 3)).length) → textP d op t = (op, []) := fun t ht => by unfold textP; rw [if_neg h2, if_pos ht]
    have hyes : ∀ t, ¬ (trimP t = [] ∨ d < op.length + (impP (nestP (modO op) 3)).length) → textP d op t = (op ++ impP (nestP (modO op) 3), openE (impP (nestP (modO op) 3)) ++ [.text (trimP t)]) := fun t ht => by unfold textP; rw [if_neg h2, if_neg ht]
    have htr : trimP (a ++ b) = if (trimP a).isEmpty then trimP b else trimP a ++ b := List.dropWhile_append
    by_cases hd : d < op.length + (impP (nestP (modO op) 3)).length
    · rw [hno a (.inr hd)]
      simp only
      rw [hno b (.inr hd), hno (a ++ b) (.inr hd)]
      exact ⟨rfl, fun p R => rfl⟩
    · by_cases ha : trimP a = []
      · rw [hno a (.inl ha)]
        simp only
        have hb : trimP (a ++ b) = trimP b := by rw [htr, ha]; rfl
        have e : textP d op (a ++ b) = textP d op b := by unfold textP; rw [if_neg h2, if_neg h2, hb]
        rw [e]
        exact ⟨rfl, fun p R => rfl⟩
      · have hb : trimP (a ++ b) = trimP a ++ b := by
          rw [htr, if_neg]
          rw [List.isEmpty_iff]
          exact ha
        rw [hyes a (fun q => q.elim ha hd), hyes (a ++ b) (fun q => q.elim (fun e => ha (by rw [hb] at e; exact (List.append_eq_nil_iff.1 e).1)) hd), hb]
        simp only
        have hm := chain_mod h.chain (by omega) (by omega)
        have hi := nest_imp (nest_text hm.1 hm.2)
        have h3 : nestP (modO (op ++ impP (nestP (modO op) 3))) 3 = 2 := by
          rw [modO_E, modO_E, modE_app]
          exact hi.2
        have e : textP d (op ++ impP (nestP (modO op) 3)) b = (op ++ impP (nestP (modO op) 3), txE b) := by unfold textP; rw [if_pos h3]; rfl
        rw [e]
        refine ⟨rfl, fun p R => ?_⟩
        rw [List.append_assoc, List.append_assoc]
        refine mrg_congr (fun q => ?_) _ p
        show mrg (q ++ trimP a) (txE b ++ R) = mrg (q ++ (trimP a ++ b)) R
        rw [mrg_tx, List.append_assoc]
/-- an event, its text cut at k -/
def cutE (k : Nat) (e : EvP) : List EvP := if e.k = 3 then [⟨3, [], [], e.t.take k⟩, ⟨e.k, e.n, e.a, e.t.drop k⟩] else [e]
theorem cut_raw {d : Nat} (K : EvP → Nat) : ∀ (es : List EvP) (op : List (List UInt8)), StackOk d op → ∀ p, mrg p (rawB d op (es.flatMap fun e => cutE (K e) e)) = mrg p (rawB d op es)
  | [], op, _, p => rfl
  | e :: r, op, h, p => by
    have h1 := tk_bal h e
    have ih := cut_raw K r _ h1.2
    rw [List.flatMap_cons, rawB_step d op e r]
    unfold cutE
    by_cases hk : e.k = 3
    · rw [if_pos hk]
      have hb : ∀ (o : List (List UInt8)) (n : List UInt8) (al : List AttrP) (t : List UInt8), balS d o ⟨3, n, al, t⟩ = textP d o t := fun o n al t => rfl
      have hb2 : balS d op e = textP d op e.t := by unfold balS; rw [if_neg (by omega), if_neg (by omega), if_pos hk]
      rw [hb2] at ih ⊢
      have hs := text_split h (e.t.take (K e)) (e.t.drop (K e))
      rw [List.take_append_drop] at hs
      show mrg p (rawB d op (⟨3, [], [], e.t.take (K e)⟩ :: ⟨e.k, e.n, e.a, e.t.drop (K e)⟩ :: _)) = _
      rw [hk, rawB_step, rawB_step, hb, hb, hs.1, hs.2]
      exact mrg_congr ih _ p
    · rw [if_neg hk]
      show mrg p (rawB d op (e :: _)) = _
      rw [rawB_step]
      exact mrg_congr ih _ p
/-! ## the plain events -/

def xE : EvP := ⟨3, [], [], [120]⟩
theorem raw_x (d : Nat) (es : List EvP) : rawB d [] (xE :: es) = .text [120] :: rawB d [] es := rfl
theorem cut_bal (d : Nat) (K : EvP → Nat) (es : List EvP) : balP d (xE :: es.flatMap fun e => cutE (K e) e) = balP d (xE :: es) := by
  rw [balP_mrg, balP_mrg, raw_x, raw_x]
  exact cut_raw K es [] ⟨rfl, Nat.zero_le _⟩ [120]
theorem mrg_begun : ∀ (L : List Ev) (p : List UInt8), ∃ q r, mrg (120 :: p) L = .text (120 :: q) :: r
  | [], p => ⟨p, [], rfl⟩
  | .text b :: r, p => mrg_begun r (p ++ b)
  | .start _ _ :: _, p => ⟨p, _, rfl⟩
  | .stop _ :: _, p => ⟨p, _, rfl⟩
theorem bal_begun (d : Nat) (es : List EvP) : ∃ q r, balP d (xE :: es) = .text (120 :: q) :: r := by
  rw [balP_mrg, raw_x]
  exact mrg_begun _ []
def pwB (c : UInt8) : Bool := c == 120 || wsP c
def plainT (t : List UInt8) : Prop := ∀ c ∈ t, pwB c = true
def plainEv : Ev → Prop
  | .text b => plainT b
  | .start _ al => al = []
  | .stop _ => True
def PlainL (L : List Ev) : Prop := ∀ e ∈ L, plainEv e
theorem PlainL.app {a b : List Ev} (h1 : PlainL a) (h2 : PlainL b) : PlainL (a ++ b) := fun e he => (List.mem_append.1 he).elim (h1 e) (h2 e)
theorem PlainL.none : PlainL [] := fun _ he => absurd he List.not_mem_nil
theorem PlainL.one {e : Ev} (h : plainEv e) : PlainL [e] := fun x hx => by rw [List.mem_singleton.1 hx]; exact h
theorem plain_close (k : Nat) (op : List (List UInt8)) : PlainL (closeE k op) := fun e he => by
  unfold closeE at he
  obtain ⟨x, _, rfl⟩ := List.mem_map.1 he
  exact trivial
theorem plain_open (l : List (List UInt8)) : PlainL (openE l) := fun e he => by
  unfold openE at he
  obtain ⟨x, _, rfl⟩ := List.mem_map.1 he
  exact rfl
theorem plain_trim {t : List UInt8} (h : plainT t) : plainT (trimP t) := fun c hc => h c ((List.dropWhile_sublist _).subset hc)
theorem plain_bal {d : Nat} {op : List (List UInt8)} {e : EvP} (ha : e.a = []) (ht : plainT e.t) : PlainL (balS d op e).2 := by
  unfold balS
  split
  · unfold startP
    split
    · exact PlainL.none
    · split
      · exact PlainL.none
      · exact ((plain_close _ op).app (plain_open _)).app (PlainL.one ha)
  · split
    · unfold endP
      split
      · exact PlainL.none
      · split
        · exact PlainL.none
        · exact plain_close _ op
    · split
      · unfold textP
        split
        · split
          · exact PlainL.none
          · exact PlainL.one ht
        · split
          · exact PlainL.none
          · exact (plain_open _).app (PlainL.one (plain_trim ht))
      · exact PlainL.none
theorem plain_raw {d : Nat} : ∀ (es : List EvP) (op : List (List UInt8)), (∀ e ∈ es, e.a = [] ∧ plainT e.t) → PlainL (rawB d op es)
  | [], op, _ => plain_close 0 op
  | e :: r, op, h => by
    rw [rawB_step]
    have h1 := h e (List.mem_cons_self ..)
    exact (plain_bal h1.1 h1.2).app (plain_raw r _ fun x hx => h x (List.mem_cons_of_mem _ hx))
theorem plain_tx {p : List UInt8} (h : plainT p) : PlainL (txE p) := by
  unfold txE
  split
  · exact PlainL.none
  · exact PlainL.one h
theorem plain_app {a b : List UInt8} (h1 : plainT a) (h2 : plainT b) : plainT (a ++ b) := fun c hc => (List.mem_append.1 hc).elim (h1 c) (h2 c)
theorem plain_nil : plainT [] := fun _ hc => absurd hc List.not_mem_nil
theorem plain_mrg : ∀ (L : List Ev) (p : List UInt8), plainT p → PlainL L → PlainL (mrg p L)
  | [], p, hp, _ => plain_tx hp
  | .text b :: r, p, hp, h => plain_mrg r (p ++ b) (plain_app hp (h _ (List.mem_cons_self ..))) fun x hx => h x (List.mem_cons_of_mem _ hx)
  | .start x al :: r, p, hp, h => (plain_tx hp).app fun e he => by
    rcases List.mem_cons.1 he with rfl | he
    · exact h _ (List.mem_cons_self ..)
    · exact plain_mrg r [] plain_nil (fun x hx => h x (List.mem_cons_of_mem _ hx)) e he
  | .stop x :: r, p, hp, h => (plain_tx hp).app fun e he => by
    rcases List.mem_cons.1 he with rfl | he
    · exact h _ (List.mem_cons_self ..)
    · exact plain_mrg r [] plain_nil (fun x hx => h x (List.mem_cons_of_mem _ hx)) e he
theorem plain_gt : ∀ t : List UInt8, plainT t → gt t = true
  | [], _ => rfl
  | c :: r, h => by
    have hc := h c (List.mem_cons_self ..)
    have h1 : gt [c] = true := by
      have hall := u8_all (p := fun c => !pwB c || gt [c]) (by decide +kernel) c
      rw [hc] at hall
      exact hall
    have h2 := gt_app (b := r) h1
    rw [List.singleton_append] at h2
    rw [h2]
    exact plain_gt r fun x hx => h x (List.mem_cons_of_mem _ hx)
theorem known_word (x : List UInt8) (h : elemL x ≠ none) : wordOk [] x = true ∧ x.length ≤ 10 := by
  revert h
  exact elem_all (fun x => elemL x ≠ none → wordOk [] x = true ∧ x.length ≤ 10) (by decide +kernel) (fun x h1 _ h => absurd h1 h) x
theorem nodup_plain : ∀ L : List Ev, PlainL L → nodupA L
  | [], _ => trivial
  | .text b :: r, h => nodup_plain r fun x hx => h x (List.mem_cons_of_mem _ hx)
  | .start x al :: r, h => by
    have : al = [] := h (.start x al) (List.mem_cons_self ..)
    subst this
    exact ⟨List.nodup_nil, nodup_plain r fun x hx => h x (List.mem_cons_of_mem _ hx)⟩
  | .stop x :: r, h => nodup_plain r fun x hx => h x (List.mem_cons_of_mem _ hx)
theorem take_chain {op : List (List UInt8)} {x : List UInt8} (hc : chainB 1 op = true) (h1 : elemL x ≠ none) (h2 : nestP (modE 1 op) (clsX x) = 2) : chainB 1 (if modX x = 9 then op else op ++ [x]) = true := by
  split
  · exact hc
  · rename_i h9; exact (chain_app _ _ _).2 ⟨hc, (chain_cons _ _ _).2 ⟨h1, h9, h2, rfl⟩⟩
theorem drop_chain {op : List (List UInt8)} (hc : chainB 1 op = true) : chainB 1 op.dropLast = true := by rw [List.dropLast_eq_take]; exact chain_take hc _
theorem clean_take {d : Nat} : ∀ (L : List Ev) (op : List (List UInt8)), chainB 1 op = true → TkR d op L [] → PlainL L → apartT L → CleanE L
  | [], _, _, _, _, _ => trivial
  | .text b :: r, op, hc, h, hp, ha => ⟨⟨h.1, plain_gt b (hp _ (List.mem_cons_self ..))⟩, ha.1, clean_take r op hc h.2.2 (fun x hx => hp x (List.mem_cons_of_mem _ hx)) ha.2⟩
  | .start x al :: r, op, hc, h, hp, ha => by
    have : al = [] := hp (.start x al) (List.mem_cons_self ..)
    subst this
    exact ⟨⟨(known_word x h.1).1, fun a ha => absurd ha List.not_mem_nil⟩, clean_take r _ (take_chain hc h.1 h.2.1) h.2.2.2.2 (fun x hx => hp x (List.mem_cons_of_mem _ hx)) ha⟩
  | .stop x :: r, op, hc, h, hp, ha => ⟨(known_word x (chain_mem hc x (List.mem_of_getLast? h.1)).1).1, clean_take r _ (drop_chain hc) h.2 (fun x hx => hp x (List.mem_cons_of_mem _ hx)) ha⟩
/-- the balanced events of plain ones are read with no repair as their own tree -/
theorem bal_read {d : Nat} (hd : d ≤ 256) (es : List EvP) (h : ∀ e ∈ es, e.a = [] ∧ plainT e.t) : parseP (wEv false (balP d es)) = (0, foldP ((balP d es).map toP)) := by
  have ht := (bal_taken d es).1
  have hp : PlainL (balP d es) := by rw [balP_mrg]; exact plain_mrg _ [] plain_nil (plain_raw es [] h)
  have ha : apartT (balP d es) := by rw [balP_mrg]; exact mrg_apart _ []
  have hr := parse_run (balP d es) ⟨[], [], false⟩ (clean_take _ [] rfl ht hp ha)
  have hrun := run_take hd (balP d es) [] [] false rfl ht (nodup_plain _ hp)
  have hj := join_plain (balP d es) [] ht ha
  show parseS ⟨[], [], false⟩ (wEv false (balP d es)) = _
  rw [hr, hrun]
  show (0, [] ++ piecesL 0 _) = (0, joinN (piecesL 0 _))
  rw [List.nil_append]
  exact congrArg (Prod.mk 0) hj.symm
/-- no element stands too deep -/
theorem pieces_deep {d : Nat} : ∀ (L : List Ev) (op : List (List UInt8)), TkR d op L [] → ∀ n ∈ piecesL op.length (L.map toP), n.n ≠ [] → n.k < d
  | [], op, _, n, hn, _ => absurd hn List.not_mem_nil
  | .text t :: r, op, h, n, hn, hne => by
    rw [List.map_cons, toP_text, pieces_text _ _ _ rfl h.1] at hn
    rcases List.mem_cons.1 hn with rfl | hn
    · exact absurd rfl hne
    · exact pieces_deep r op h.2.2 n hn hne
  | .start x al :: r, op, h, n, hn, hne => by
    obtain ⟨h1, h2, h3, h4, h5⟩ := h
    have hv := void_mod x
    have hl : (if modX x = 9 then op else op ++ [x]).length = if voidL x = true then op.length else op.length + 1 := by
      rw [hv]
      by_cases h9 : modX x = 9
      · rw [if_pos h9, if_pos (by rw [h9]; rfl)]
      · rw [if_neg h9, if_neg (by rw [beq_iff_eq]; exact h9)]; simp
    rw [List.map_cons, toP_start, pieces_step, if_pos rfl, if_neg (elem_nil h1)] at hn
    rcases List.mem_cons.1 hn with rfl | hn
    · simp only; omega
    · have ih := pieces_deep r _ h5 n
      rw [hl] at ih
      exact ih hn hne
  | .stop x :: r, op, h, n, hn, hne => by
    have ih := pieces_deep r _ h.2 n
    rw [List.length_dropLast] at ih
    rw [List.map_cons, toP_stop, pieces_step, if_neg (show ¬ ((2 : Int) = 1) by decide), if_pos rfl] at hn
    exact ih hn hne
theorem bal_deep (d : Nat) (es : List EvP) : ∀ n ∈ foldP ((balP d es).map toP), n.n ≠ [] → n.k < d := by
  have ht := (bal_taken d es).1
  have ha : apartT (balP d es) := by rw [balP_mrg]; exact mrg_apart _ []
  have hj := join_plain (balP d es) [] ht ha
  unfold foldP
  show ∀ n ∈ joinN (piecesL ([] : List (List UInt8)).length _), _
  rw [hj]
  exact pieces_deep _ [] ht

/-! ## how long it is -/

def cntSN (s : List Ev × List UInt8) : Nat := (flushE s).length
theorem flushN_nil (l : List Ev) : flushE (l, []) = l := rfl
theorem cntN_put (s : List Ev × List UInt8) (e : Ev) : cntSN (putE s e) ≤ cntSN s + 1 := by
  cases e with
  | text b =>
    show (flushE (s.1, s.2 ++ b)).length ≤ (flushE s).length + 1
    unfold flushE
    split <;> split <;> simp only [List.length_append, List.length_cons, List.length_nil] <;> omega
  | start n a =>
    show (flushE (flushE s ++ [.start n a], [])).length ≤ _
    rw [flushN_nil, List.length_append]
    exact Nat.le_refl _
  | stop n =>
    show (flushE (flushE s ++ [.stop n], [])).length ≤ _
    rw [flushN_nil, List.length_append]
    exact Nat.le_refl _
theorem cntN_puts : ∀ (L : List Ev) (s : List Ev × List UInt8), cntSN (putEs s L) ≤ cntSN s + L.length
  | [], _ => Nat.le_refl _
  | e :: L, s => by
    have h1 := cntN_puts L (putE s e)
    have h2 := cntN_put s e
    show cntSN (putEs (putE s e) L) ≤ _
    rw [List.length_cons]
    omega
theorem rawN_bd (d : Nat) : ∀ (es : List EvP) (op : List (List UInt8)), op.length ≤ d → (rawB d op es).length ≤ op.length + 4 * bulkE es ∧ txtN (rawB d op es) ≤ bulkE es
  | [], op, _ => by
    show (closeE 0 op).length ≤ _ ∧ txtN (closeE 0 op) ≤ _
    rw [txtN_close]
    refine ⟨?_, Nat.zero_le _⟩
    unfold closeE
    rw [List.length_map, List.length_reverse, List.length_drop]
    omega
  | e :: r, op, h => by
    obtain ⟨h1, h2⟩ := balS_len (e := e) h
    have h3 := balS_txt d op e
    obtain ⟨h4, h5⟩ := rawN_bd d r (balS d op e).1 h1
    have h6 : bulkE (e :: r) = e.n.length + e.t.length + bulkA e.a + 1 + bulkE r := rfl
    rw [rawB_step, List.length_append, txtN_app, h6]
    omega

theorem txtN_cons (e : Ev) (r : List Ev) : txtN (e :: r) = (evT e).length + txtN r := by unfold txtN; rw [List.map_cons, List.sum_cons]
theorem txtN_tx (p : List UInt8) (r : List Ev) : txtN (txE p ++ r) = p.length + txtN r := by
  unfold txE
  split
  · rename_i h; rw [h]; simp
  · exact txtN_cons _ _
theorem mrg_txt : ∀ (L : List Ev) (p : List UInt8), txtN (mrg p L) = p.length + txtN L
  | [], p => by
    have := txtN_tx p []
    rw [List.append_nil] at this
    exact this
  | .text b :: r, p => by
    have ih := mrg_txt r (p ++ b)
    rw [List.length_append] at ih
    rw [txtN_cons]
    show txtN (mrg (p ++ b) r) = p.length + (b.length + txtN r)
    omega
  | .start x al :: r, p => by
    have ih := mrg_txt r []
    show txtN (txE p ++ .start x al :: mrg [] r) = _
    rw [txtN_tx, txtN_cons, txtN_cons, ih]
    simp
  | .stop x :: r, p => by
    have ih := mrg_txt r []
    show txtN (txE p ++ .stop x :: mrg [] r) = _
    rw [txtN_tx, txtN_cons, txtN_cons, ih]
    simp
theorem bal_txt (d : Nat) (es : List EvP) : txtN (balP d es) ≤ bulkE es := by
  rw [balP_mrg, mrg_txt]
  have := (rawN_bd d es [] (Nat.zero_le _)).2
  simp only [List.length_nil]
  omega
theorem bal_cnt (d : Nat) (es : List EvP) : (balP d es).length ≤ 4 * bulkE es := by
  have h1 := cntN_puts (rawB d [] es) ([], [])
  have h2 := (rawN_bd d es [] (Nat.zero_le _)).1
  have h3 : cntSN (([] : List Ev), ([] : List UInt8)) = 0 := rfl
  simp only [List.length_nil] at h2
  show cntSN (putEs ([], []) (rawB d [] es)) ≤ _
  omega
theorem take_bulk {d : Nat} : ∀ (L : List Ev) (op : List (List UInt8)), chainB 1 op = true → TkR d op L [] → PlainL L → bulkE (L.map toP) ≤ 11 * L.length + txtN L
  | [], _, _, _, _ => Nat.le_refl _
  | .text b :: r, op, hc, h, hp => by
    have ih := take_bulk r op hc h.2.2 (fun x hx => hp x (List.mem_cons_of_mem _ hx))
    rw [List.map_cons, toP_text, bulkE_cons, txtN_cons, List.length_cons]
    show 0 + b.length + 0 + 1 + _ ≤ 11 * (r.length + 1) + (b.length + txtN r)
    omega
  | .start x al :: r, op, hc, h, hp => by
    have : al = [] := hp (.start x al) (List.mem_cons_self ..)
    subst this
    have ih := take_bulk r _ (take_chain hc h.1 h.2.1) h.2.2.2.2 (fun x hx => hp x (List.mem_cons_of_mem _ hx))
    have hw := (known_word x h.1).2
    rw [List.map_cons, toP_start, bulkE_cons, txtN_cons, List.length_cons]
    show x.length + 0 + 0 + 1 + _ ≤ 11 * (r.length + 1) + (0 + txtN r)
    omega
  | .stop x :: r, op, hc, h, hp => by
    have ih := take_bulk r _ (drop_chain hc) h.2 (fun x hx => hp x (List.mem_cons_of_mem _ hx))
    have hw := (known_word x (chain_mem hc x (List.mem_of_getLast? h.1)).1).2
    rw [List.map_cons, toP_stop, bulkE_cons, txtN_cons, List.length_cons]
    show x.length + 0 + 0 + 1 + _ ≤ 11 * (r.length + 1) + (0 + txtN r)
    omega
theorem bal_bulk (d : Nat) (es : List EvP) (h : ∀ e ∈ es, e.a = [] ∧ plainT e.t) : bulkE ((balP d es).map toP) ≤ 45 * bulkE es := by
  have hp : PlainL (balP d es) := by rw [balP_mrg]; exact plain_mrg _ [] plain_nil (plain_raw es [] h)
  have h1 := take_bulk _ [] rfl (bal_taken d es).1 hp
  have h2 := bal_txt d es
  have h3 := bal_cnt d es
  omega
theorem plain_esc : ∀ t : List UInt8, plainT t → escL false t = t
  | [], _ => by rw [escL]
  | c :: r, h => by
    have hc := h c (List.mem_cons_self ..)
    have hall := u8_all (p := fun c => !pwB c || (decide (c ≠ 194) && decide (esc1 false c = [c]))) (by decide +kernel) c
    rw [hc] at hall
    simp only [Bool.not_true, Bool.false_or, Bool.and_eq_true, decide_eq_true_eq] at hall
    rw [escL, if_neg (fun q => hall.1 q.1), hall.2, plain_esc r fun x hx => h x (List.mem_cons_of_mem _ hx)]
    rfl
theorem take_wide {d : Nat} : ∀ (L : List Ev) (op : List (List UInt8)) (eat : Bool), chainB 1 op = true → TkR d op L [] → PlainL L → (wEv eat L).length ≤ 13 * L.length + txtN L
  | [], _, _, _, _, _ => Nat.le_refl _
  | .text b :: r, op, eat, hc, h, hp => by
    have ih := take_wide r op false hc h.2.2 (fun x hx => hp x (List.mem_cons_of_mem _ hx))
    rw [wEv_text h.1, plain_esc b (hp _ (List.mem_cons_self ..)), txtN_cons, List.length_cons, List.length_append, List.length_append]
    have h1 : (if eat = true ∧ b.head? = some 10 then ([10] : List UInt8) else []).length ≤ 1 := by split <;> simp
    show _ + b.length + _ ≤ 13 * (r.length + 1) + (b.length + txtN r)
    omega
  | .start x al :: r, op, eat, hc, h, hp => by
    have : al = [] := hp (.start x al) (List.mem_cons_self ..)
    subst this
    have ih := take_wide r _ (eatsL x) (take_chain hc h.1 h.2.1) h.2.2.2.2 (fun x hx => hp x (List.mem_cons_of_mem _ hx))
    have hw := (known_word x h.1).2
    rw [wEv_start, txtN_cons, List.length_cons, List.length_append]
    have h1 : (openL x []).length = x.length + 2 := by unfold openL; simp
    show _ ≤ 13 * (r.length + 1) + (0 + txtN r)
    omega
  | .stop x :: r, op, eat, hc, h, hp => by
    have ih := take_wide r _ false (drop_chain hc) h.2 (fun x hx => hp x (List.mem_cons_of_mem _ hx))
    have hw := (known_word x (chain_mem hc x (List.mem_of_getLast? h.1)).1).2
    rw [wEv_stop, txtN_cons, List.length_cons, List.length_append]
    have h1 : (etagL x).length = x.length + 3 := by unfold etagL; simp
    show _ ≤ 13 * (r.length + 1) + (0 + txtN r)
    omega
theorem bal_wide (d : Nat) (es : List EvP) (h : ∀ e ∈ es, e.a = [] ∧ plainT e.t) : (wEv false (balP d es)).length ≤ 53 * bulkE es := by
  have hp : PlainL (balP d es) := by rw [balP_mrg]; exact plain_mrg _ [] plain_nil (plain_raw es [] h)
  have h1 := take_wide _ [] false rfl (bal_taken d es).1 hp
  have h2 := bal_txt d es
  have h3 := bal_cnt d es
  omega
end Go.Proofs.YtcncbhbdpcpkeaaGreatDoor

/-
  The statements' plainWords: its walk.
-/
namespace Go.Proofs.YtcncbhbdpcpkeaaGreatDoor
open Go.RowKit Go.Lib Own

def pwC (c : UInt8) : UInt8 := if c = 32 ∨ c = 9 ∨ c = 10 ∨ c = 12 then c else 120
theorem pwC_plain (t : List UInt8) : plainT (t.map pwC) := fun c hc => by
  obtain ⟨x, _, rfl⟩ := List.mem_map.1 hc
  have := u8_all (p := fun c => pwB (pwC c)) (by decide +kernel) x
  exact this
theorem pw_next {l : List UInt8} {k : Nat} {c : UInt8} (h : l[k]? = some c) : (l.take (k + 1)).map pwC = (l.take k).map pwC ++ [pwC c] := by
  rw [List.take_add_one, h]
  simp
theorem bytes_snoc (a : List UInt8) (c : UInt8) : byteCells a ++ [.int .u8 (c.toNat : Int)] = byteCells (a ++ [c]) := by
  rw [Lib.byteCells_append]
  rfl
set_option maxHeartbeats 4000000 in
set_option maxRecDepth 100000 in
theorem plainWords_any (l : List UInt8) (w : World) (hs : l.length ≤ 4000000) :
    Calls Tryz.prog 25 #[.string (bs l)] w fun e w' => e = .returned (.string (bs (l.map pwC))) ∧ Below w.heap.size w w' := by
  obtain ⟨R, hR⟩ : ∃ R, l.map pwC = R := ⟨_, rfl⟩
  rw [hR]
  obtain ⟨i0, hi, hz0, hz1, hz2⟩ := info_parts info_u8
  have hsz := bs_size l
  have hidx : ∀ (k : Nat) (h : k < (bs l).size) (c : UInt8), l[k]? = some c → (bs l)[k]'h = c := fun k h c hc => by
    have := getElem_list h rfl
    rw [bs_data, hc] at this
    exact (Option.some.inj this).symm
  have HIX := hid hidx
  have HSZ := hid (fun (_ : True) => hsz)
  have HR := hid (fun (_ : True) => hR)
  clear hidx hR hsz
  generalize bs l = S at *
  go_enter Tryz.func25, Tryz.ntmps25
  go_wp2_with fail
  go_loopw [3, 4] (fun bv iv wr => ∃ (k : Nat) (acc : List UInt8), iv = .int .i64 k ∧ k ≤ l.length ∧ acc.length = k ∧ Hid (wr.ownsRow w.heap.size 5 1 bv k (byteCells acc) ∧ Below w.heap.size w wr ∧ acc = (l.take k).map pwC)) (fun _ iv _ => l.length - (RowKit.intOf iv).toNat)
  case atStart => exact ⟨0, [], rfl, Nat.zero_le _, rfl, hid ⟨World.ownsRow_nil _ _ _ _, Below.refl _ _, rfl⟩⟩
  case round =>
    obtain ⟨k, acc, rfl, hk, hak, HX⟩ := hrel
    obtain ⟨bp, bc, rfl⟩ := row_shape HX.out.1
    have hszl := HSZ.out trivial
    by_cases hkl : k < l.length
    · obtain ⟨c, hc⟩ : ∃ c, l[k]? = some c := ⟨_, List.getElem?_eq_getElem hkl⟩
      have hks : k < S.size := by omega
      have hg := HIX.out k hks c hc
      have p1 : decide ((k : Int) < (S.size : Int)) = true := decide_eq_true (by omega)
      have hwi : IntKind.i64.wrap ((k : Int) + 1) = (k : Int) + 1 := by rw [IntKind.wrap_i64]; omega
      have hown := HX.out.1
      have hbw := HX.out.2.1
      have hbs := hbw.size
      have hnx := pw_next hc
      have hacc := HX.out.2.2
      have HN := hid (And.intro hnx hacc)
      have hkb : k ≤ 4000000 := by omega
      clear hc hnx hacc HIX hszl HR hak
      have hcase : (c = 32 ∨ c = 9 ∨ c = 10 ∨ c = 12) ∨ (((c.toNat : Int) == 32) = false ∧ ((c.toNat : Int) == 9) = false ∧ ((c.toNat : Int) == 10) = false ∧ ((c.toNat : Int) == 12) = false ∧ Hid (pwC c = 120)) := by
        by_cases h : c = 32 ∨ c = 9 ∨ c = 10 ∨ c = 12
        · exact .inl h
        · refine .inr ⟨?_, ?_, ?_, ?_, hid (if_neg h)⟩ <;> rw [beq_eq_false_iff_ne] <;> intro e <;> exact h (by
            first
              | exact .inl (u8_ext (by show c.toNat = 32; omega))
              | exact .inr (.inl (u8_ext (by show c.toNat = 9; omega)))
              | exact .inr (.inr (.inl (u8_ext (by show c.toNat = 10; omega))))
              | exact .inr (.inr (.inr (u8_ext (by show c.toNat = 12; omega)))))
      rcases hcase with (rfl | rfl | rfl | rfl) | ⟨z1, z2, z3, z4, HPC⟩
      all_goals
        go_wp2_with (at_builtin; first | refine wpList_append_own _ rfl (.tmp 22) (.tmp 26) 65 rfl w.heap.size 5 i0 (.int .u8 0) 1 1 Tryz.underlying65 hi hz0 hz1 hz2 rfl (by decide) _ _ _ rfl (hown.alloc _) ⟨_, 0, none⟩ 1 1 [.int .u8 _] rfl rfl (cells_newV _ _ _) (by simp [Value.oneCell']) (by unfold maxLen; omega) (by omega) (by simp; omega) ?_ | refine wpList_append_own _ rfl (.tmp 14) (.tmp 15) 65 rfl w.heap.size 5 i0 (.int .u8 0) 1 1 Tryz.underlying65 hi hz0 hz1 hz2 rfl (by decide) _ _ _ rfl (hown.alloc _) ⟨_, 0, none⟩ 1 1 [.int .u8 _] rfl rfl (cells_newV _ _ _) (by simp [Value.oneCell']) (by unfold maxLen; omega) (by omega) (by simp; omega) ?_)
        intro v' w2 hown2 hgrow _
        have hbw2 : Below w.heap.size w w2 := (hbw.alloc hbs _).grown hgrow (by simp; omega) (fun j hj => (hown.lt j hj).1)
        first
          | (rw [show (Value.int IntKind.u8 120) = .int .u8 (((120 : UInt8).toNat : Nat) : Int) from rfl, bytes_snoc] at hown2
             have hw2 := HN.out.1
             rw [HPC.out, ← HN.out.2] at hw2
             have HZ := hid (And.intro hown2 (And.intro hbw2 hw2.symm)))
          | (rw [show (Value.int IntKind.u8 32) = .int .u8 (((32 : UInt8).toNat : Nat) : Int) from rfl, bytes_snoc] at hown2
             have hw2 := HN.out.1
             rw [show pwC 32 = 32 from rfl, ← HN.out.2] at hw2
             have HZ := hid (And.intro hown2 (And.intro hbw2 hw2.symm)))
          | (rw [show (Value.int IntKind.u8 9) = .int .u8 (((9 : UInt8).toNat : Nat) : Int) from rfl, bytes_snoc] at hown2
             have hw2 := HN.out.1
             rw [show pwC 9 = 9 from rfl, ← HN.out.2] at hw2
             have HZ := hid (And.intro hown2 (And.intro hbw2 hw2.symm)))
          | (rw [show (Value.int IntKind.u8 10) = .int .u8 (((10 : UInt8).toNat : Nat) : Int) from rfl, bytes_snoc] at hown2
             have hw2 := HN.out.1
             rw [show pwC 10 = 10 from rfl, ← HN.out.2] at hw2
             have HZ := hid (And.intro hown2 (And.intro hbw2 hw2.symm)))
          | (rw [show (Value.int IntKind.u8 12) = .int .u8 (((12 : UInt8).toNat : Nat) : Int) from rfl, bytes_snoc] at hown2
             have hw2 := HN.out.1
             rw [show pwC 12 = 12 from rfl, ← HN.out.2] at hw2
             have HZ := hid (And.intro hown2 (And.intro hbw2 hw2.symm)))
        obtain ⟨p2, c2, rfl⟩ := row_shape hown2
        have hln := congrArg List.length HN.out.2
        clear hown2 hgrow hbw2 hw2 hown hbw HX hg HN
        go_wp2_with fail
        go_roundw
        case rel =>
          have hl2 := congrArg List.length HZ.out.2.2
          rw [List.length_map, List.length_take] at hl2
          first | exact ⟨k + 1, _, rfl, by omega, by omega, HZ⟩ | ((repeat apply Exists.intro); exact ⟨⟨k + 1, _, rfl, by omega, by omega, HZ⟩, rfl⟩)
        case measure => simp [RowKit.intOf]; omega
    · have hk2 : k = l.length := by omega
      have hr : acc = R := by
        rw [HX.out.2.2, ← HR.out trivial, List.take_of_length_le (by omega)]
      subst hr
      have hown := HX.out.1
      rw [← hak] at hown
      have ht := own_textF wr _ _ acc (World.ownsRowF_of hown)
      have p1 : decide ((k : Int) < (S.size : Int)) = false := decide_eq_false (by omega)
      have p2 : ¬ k < S.size := by omega
      have p3 : decide (k < S.size) = false := decide_eq_false p2
      have HZ := hid HX.out.2.1
      rw [hak] at ht
      clear HX HR HIX hown hszl hak hk2
      go_wp2_with fail

      go_ret
      exact ⟨rfl, HZ.out⟩
end Go.Proofs.YtcncbhbdpcpkeaaGreatDoor

/-
  scrubref.readBytes: its walk: the text, what is left over, and the CR.
-/
namespace Go.Proofs.YtcncbhbdpcpkeaaGreatDoor
open Go.RowKit Go.Lib

theorem info_u8 : (Tryz.prog.info? 5).map (fun i => (i.zero, i.size, i.bytes)) = some (some (.int .u8 0), 1, 1) := by kernel_rfl

theorem nil_text (W : World) : (convert 65 9 (.slice none 0 0)).run Tryz.prog W = .ok (.string ⟨#[]⟩) W := by
  rw [run_convert_bytes_string W 65 9 5 none 0 0 Tryz.underlying65 Tryz.underlying5 Tryz.underlying9]
  rfl
end Go.Proofs.YtcncbhbdpcpkeaaGreatDoor

/-
  From what a row says of the nesting table to what lies in memory.
-/
namespace Go.Proofs.YtcncbhbdpcpkeaaGreatDoor
open Go.RowKit Go.Lib Go.ChangeShapes Go.Deep

set_option maxRecDepth 100000 in
theorem nest_of {w : World} (h : VarReads Tryz.prog w "scrub/vocabulary.nesting" (.agg (nestT.map fun r => .agg (r.map fun n : Nat => .lit (.int .i64 (n : Int)))))) : NestTab w := by
  obtain ⟨g', t', cs, fuel, p, hg', hty, hvar, hd⟩ := h
  obtain rfl := Option.some.inj ((show Tryz.prog.globalNamed "scrub/vocabulary.nesting" = some 1 by kernel_rfl).symm.trans hg')
  obtain rfl := Option.some.inj ((show (Tryz.prog.globals[1]?).map (·.type) = some 217 by kernel_rfl).symm.trans hty)
  have k7 : Tryz.prog.cellsOf 216 = 7 := by kernel_rfl
  have k1 : Tryz.prog.cellsOf 175 = 1 := by kernel_rfl
  refine range_ofK (by kernel_rfl) hvar (fun j v hv => ?_)
  rw [List.getElem?_map] at hv
  obtain ⟨n, hn, rfl⟩ := Option.map_eq_some_iff.1 hv
  have hj : j < 56 := (List.getElem?_eq_some_iff.1 hn).1
  have hi : j / 7 < 8 := by omega
  have hk : j % 7 < 7 := Nat.mod_lt _ (by decide)
  have hf := nest_flat (j / 7) hi (j % 7) hk
  rw [show j / 7 * 7 + j % 7 = j by omega, hn] at hf
  have hall : ∀ i < 8, nestT[i]? = some (nestT.getD i []) ∧ ∀ k < 7, (nestT.getD i [])[k]? = some ((nestT.getD i []).getD k 0) := by decide +kernel
  obtain ⟨h1, h2⟩ := hall _ hi
  have h3 := h2 _ hk
  rw [← Option.some.inj hf] at h3
  obtain ⟨f1, d1, q1, e1, t1⟩ := array_elem Tryz.underlying217 hd (j / 7) hi
  rw [List.getElem?_map, h1] at e1
  simp only [Option.map_some, Option.some.injEq] at e1
  subst e1
  rw [k7] at t1
  obtain ⟨f2, d2, q2, e2, t2⟩ := array_elem Tryz.underlying216 t1 (j % 7) hk
  rw [List.getElem?_map, h3] at e2
  simp only [Option.map_some, Option.some.injEq] at e2
  subst e2
  rw [k1, Nat.mul_one] at t2
  obtain ⟨m, c1, e3, _⟩ := DataW.trod_int Tryz.underlying175 t2
  simp only [Prod.mk.injEq, DataW.lit.injEq, Lit.int.injEq, true_and] at e3
  have h4 := one_atK c1
  rw [List.getElem?_take_of_lt hk, List.getElem?_drop, show j / 7 * 7 + j % 7 = j by omega] at h4
  rw [h4, ← e3.1]
end Go.Proofs.YtcncbhbdpcpkeaaGreatDoor
