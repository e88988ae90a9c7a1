/-
  Parts of the walk, joined: BnA.
-/
import Derived.Test.YtcncbhbdpcpkeaaGreatDoorPJAV
/-
  What the balancer gives is taken piece by piece, read with no repair, and left as it is. Plain.
-/
namespace Go.Proofs.YtcncbhbdpcpkeaaGreatDoor
open Go.RowKit Go.Lib Own

/-- is each of these taken by what stands around it? -/
def chainB : Nat → List (List UInt8) → Bool
  | _, [] => true
  | m, x :: r => decide (elemL x ≠ none) && (decide (modX x ≠ 9) && (decide (nestP m (clsX x) = 2) && chainB (modX x) r))
/-- the model inside the last of these -/
def modE : Nat → List (List UInt8) → Nat
  | m, [] => m
  | _, x :: r => modE (modX x) r
theorem chain_cons (m : Nat) (x : List UInt8) (r : List (List UInt8)) : chainB m (x :: r) = true ↔ elemL x ≠ none ∧ modX x ≠ 9 ∧ nestP m (clsX x) = 2 ∧ chainB (modX x) r = true := by
  rw [chainB, Bool.and_eq_true, Bool.and_eq_true, Bool.and_eq_true, decide_eq_true_iff, decide_eq_true_iff, decide_eq_true_iff]
theorem chain_app : ∀ (a b : List (List UInt8)) (m : Nat), chainB m (a ++ b) = true ↔ chainB m a = true ∧ chainB (modE m a) b = true
  | [], b, m => by simp [chainB, modE]
  | x :: a, b, m => by
    rw [List.cons_append, chain_cons, chain_cons, chain_app a b (modX x)]
    show _ ↔ _ ∧ chainB (modE (modX x) a) b = true
    exact ⟨fun ⟨h1, h2, h3, h4, h5⟩ => ⟨⟨h1, h2, h3, h4⟩, h5⟩, fun ⟨⟨h1, h2, h3, h4⟩, h5⟩ => ⟨h1, h2, h3, h4, h5⟩⟩
theorem modE_app : ∀ (a b : List (List UInt8)) (m : Nat), modE m (a ++ b) = modE (modE m a) b
  | [], _, _ => rfl
  | x :: a, b, _ => modE_app a b (modX x)
theorem modE_last : ∀ (l : List (List UInt8)) (m : Nat), modE m l = (l.getLast?.map modX).getD m
  | [], _ => rfl
  | x :: r, m => by
    rw [List.getLast?_cons]
    show modE (modX x) r = _
    rw [modE_last r (modX x)]
    cases r.getLast? <;> rfl
theorem modO_E (op : List (List UInt8)) : modO op = modE 1 op := by
  rw [modE_last]
  unfold modO
  cases op.getLast? <;> rfl
theorem modI_E (op : List (List UInt8)) : modI op = modE 0 op := by rw [modE_last]; rfl
theorem chain_take {op : List (List UInt8)} {m : Nat} (h : chainB m op = true) (k : Nat) : chainB m (op.take k) = true := by
  have h2 := h
  rw [← List.take_append_drop k op, chain_app] at h2
  exact h2.1
theorem chain_mem : ∀ {op : List (List UInt8)} {m : Nat}, chainB m op = true → ∀ x ∈ op, elemL x ≠ none ∧ modX x ≠ 9
  | [], _, _, x, hx => absurd hx List.not_mem_nil
  | y :: r, m, h, x, hx => by
    rw [chain_cons] at h
    rcases List.mem_cons.1 hx with rfl | hx
    · exact ⟨h.1, h.2.1⟩
    · exact chain_mem h.2.2.2 x hx
theorem chain_mod : ∀ {op : List (List UInt8)} {m : Nat}, chainB m op = true → 1 ≤ m → m ≤ 8 → 1 ≤ modE m op ∧ modE m op ≤ 8
  | [], _, _, h1, h2 => ⟨h1, h2⟩
  | x :: r, m, h, _, _ => by
    rw [chain_cons] at h
    have := known_bd x h.1
    have := h.2.1
    show 1 ≤ modE (modX x) r ∧ modE (modX x) r ≤ 8
    exact chain_mod h.2.2.2 (by omega) (by omega)

/-! ## the table -/

theorem nest_two {m c : Nat} (h : nestP m c = 2) : (c = 1 → m = 1 ∨ m = 8) ∧ (c = 2 → m = 1 ∨ m = 2 ∨ m = 8) ∧ (c = 3 → m = 1 ∨ m = 2 ∨ m = 3 ∨ m = 8) ∧ (c = 4 → m = 4) ∧ (c = 5 → m = 5) ∧ (c = 6 → m = 6) ∧ (c = 7 → m = 7) := by
  have h2 : 1 ≤ m ∧ m ≤ 8 ∧ 1 ≤ c ∧ c ≤ 7 := by
    unfold nestP at h
    split at h
    · exact absurd h (by decide)
    · omega
  have : ∀ m < 9, ∀ c < 8, (nestP m c != 2 || ([(1, 1), (8, 1), (1, 2), (2, 2), (8, 2), (1, 3), (2, 3), (3, 3), (8, 3), (4, 4), (5, 5), (6, 6), (7, 7)] : List (Nat × Nat)).contains (m, c)) = true := by decide +kernel
  have h3 := this m (by omega) c (by omega)
  rw [h, show ((2 : Nat) != 2) = false from rfl, Bool.false_or, List.contains_iff_mem] at h3
  simp only [List.mem_cons, Prod.mk.injEq, List.not_mem_nil, or_false] at h3
  omega
theorem nest_imp {m c : Nat} (h : 2 ≤ nestP m c) : chainB m (impP (nestP m c)) = true ∧ nestP (modE m (impP (nestP m c))) c = 2 := by
  have h2 : 1 ≤ m ∧ m ≤ 8 ∧ 1 ≤ c ∧ c ≤ 7 := by
    unfold nestP at h
    split at h
    · exact absurd h (by decide)
    · omega
  have : ∀ m < 9, ∀ c < 8, 2 ≤ nestP m c → chainB m (impP (nestP m c)) = true ∧ nestP (modE m (impP (nestP m c))) c = 2 := by decide +kernel
  exact this m (by omega) c (by omega) h
theorem nest_text {m : Nat} (h1 : 1 ≤ m) (h2 : m ≤ 8) : 2 ≤ nestP m 3 := by
  have : ∀ m < 9, 1 ≤ m → 2 ≤ nestP m 3 := by decide +kernel
  exact this m (by omega) h1
theorem known_kinds (x : List UInt8) (h : elemL x ≠ none) : (clsX x = 5 → modX x = 6) ∧ (clsX x = 6 → modX x = 7) ∧ (clsX x = 7 → modX x = 8) ∧ (clsX x = 2 → modX x = 2 ∨ modX x = 3 ∨ modX x = 9) ∧ (headX x = true → clsX x = 1 ∧ modX x = 2) ∧ (tableX x = true → modX x ≠ 5 → 5 ≤ clsX x) ∧ clsX x ≠ 3 ∧ x ≠ [] := by
  revert h
  exact elem_all (fun x => elemL x ≠ none → (clsX x = 5 → modX x = 6) ∧ (clsX x = 6 → modX x = 7) ∧ (clsX x = 7 → modX x = 8) ∧ (clsX x = 2 → modX x = 2 ∨ modX x = 3 ∨ modX x = 9) ∧ (headX x = true → clsX x = 1 ∧ modX x = 2) ∧ (tableX x = true → modX x ≠ 5 → 5 ≤ clsX x) ∧ clsX x ≠ 3 ∧ x ≠ []) (by decide +kernel) (fun x h1 _ h => absurd h1 h) x
theorem p_mod : modX pN = 2 := by decide +kernel
/-! ## the innermost table element, forward -/

def innF : Nat → List (List UInt8) → Nat
  | a, [] => a
  | a, x :: r => innF (if tableX x = true then modX x else a) r
theorem innR_F : ∀ (l q : List (List UInt8)), innR (l.reverse ++ q) = innF (innR q) l
  | [], _ => rfl
  | x :: r, q => by
    rw [List.reverse_cons, List.append_assoc, List.singleton_append, innR_F r (x :: q)]
    rfl
theorem innT_F (op : List (List UInt8)) : innT op = innF 0 op := by
  have := innR_F op []
  rw [List.append_nil] at this
  exact this
def Inn (m a : Nat) : Prop := (m = 5 ∨ m = 6 ∨ m = 7 → a = m) ∧ (¬ (m = 5 ∨ m = 6 ∨ m = 7) → a = 0 ∨ a = 8)
theorem inn_chain : ∀ (op : List (List UInt8)) (m a : Nat), chainB m op = true → Inn m a → Inn (modE m op) (innF a op)
  | [], _, _, _, h => h
  | x :: r, m, a, hc, hi => by
    rw [chain_cons] at hc
    refine inn_chain r (modX x) _ hc.2.2.2 ?_
    obtain ⟨k5, k6, k7, k2, _, kt, k3, _⟩ := known_kinds x hc.1
    obtain ⟨n1, n2, n3, n4, n5, n6, n7⟩ := nest_two hc.2.2.1
    have hb := known_bd x hc.1
    have h9 := hc.2.1
    unfold Inn at hi ⊢
    by_cases ht : tableX x = true
    · rw [if_pos ht]
      unfold tableX at ht
      rw [decide_eq_true_iff] at ht
      omega
    · rw [if_neg ht]
      unfold tableX at ht
      rw [decide_eq_true_iff] at ht
      omega
theorem chain_inn {op : List (List UInt8)} (h : chainB 1 op = true) : Inn (modE 1 op) (innT op) := by
  rw [innT_F]
  exact inn_chain op 1 0 h ⟨fun h => by omega, fun _ => .inl rfl⟩
theorem chain_far : ∀ (op : List (List UInt8)) (m : Nat), chainB m op = true → modE m op ≠ 2 → modE m op ≠ 3 → (m ≠ 2 ∧ m ≠ 3) ∧ ∀ x ∈ op, modX x ≠ 2 ∧ modX x ≠ 3
  | [], _, _, h2, h3 => ⟨⟨h2, h3⟩, fun x hx => absurd hx List.not_mem_nil⟩
  | x :: r, m, hc, h2, h3 => by
    rw [chain_cons] at hc
    obtain ⟨⟨i2, i3⟩, ir⟩ := chain_far r (modX x) hc.2.2.2 h2 h3
    obtain ⟨k5, k6, k7, k2, _, kt, k3, _⟩ := known_kinds x hc.1
    obtain ⟨n1, n2, n3, n4, n5, n6, n7⟩ := nest_two hc.2.2.1
    have hb := known_bd x hc.1
    have h9 := hc.2.1
    refine ⟨?_, fun y hy => ?_⟩
    · omega
    · rcases List.mem_cons.1 hy with rfl | hy
      · exact ⟨i2, i3⟩
      · exact ir y hy
theorem near_not (x : List UInt8) (ws : List (List UInt8)) : ∀ l : List (List UInt8), x ∉ l → nearR x ws l = false
  | [], _ => rfl
  | y :: r, h => by
    unfold nearR
    rw [if_neg (fun e => h (by rw [e]; exact List.mem_cons_self ..))]
    split
    · rfl
    · exact near_not x ws r (fun e => h (List.mem_cons_of_mem _ e))
theorem item_not {op : List (List UInt8)} (hc : chainB 1 op = true) (h4 : modE 1 op = 4) : itemR op.reverse = false := by
  rcases List.eq_nil_or_concat op with rfl | ⟨q, y, rfl⟩
  · rfl
  · rw [List.concat_eq_append] at hc h4 ⊢
    rw [modE_app] at h4
    rw [chain_app, chain_cons] at hc
    rw [List.reverse_append, List.reverse_singleton, List.singleton_append]
    have h4' : modX y = 4 := h4
    have hf : ∀ x : List UInt8, elemL x ≠ none → modX x = 4 → clsX x ≠ 4 ∧ clsX x ≠ 2 ∧ x ≠ divN ∧ x ≠ pN :=
      fun x hx => elem_all (fun x => elemL x ≠ none → modX x = 4 → clsX x ≠ 4 ∧ clsX x ≠ 2 ∧ x ≠ divN ∧ x ≠ pN) (by decide +kernel) (fun x h1 _ h => absurd h1 h) x hx
    obtain ⟨f1, f2, f3, f4⟩ := hf y hc.2.1 h4'
    unfold itemR
    rw [if_neg f1, if_pos ⟨f2, f3, f4⟩]
/-- what is taken is accepted -/
theorem judge_take {op : List (List UInt8)} {x : List UInt8} (hc : chainB 1 op = true) (hx : elemL x ≠ none) (ht : nestP (modE 1 op) (clsX x) = 2) (hl : op.length < 256) (ha : x = aN → aN ∉ op) : judgeP op x = 0 := by
  obtain ⟨k5, k6, k7, k2, kh, kt, k3, _⟩ := known_kinds x hx
  obtain ⟨n1, n2, n3, n4, n5, n6, n7⟩ := nest_two ht
  have hb := known_bd x hx
  have hi := chain_inn hc
  have hm3 : modE 1 op ≠ 3 := by omega
  have hmi : modI op ≠ 3 := by
    rw [modI_E]
    cases op with
    | nil => decide
    | cons y r => exact hm3
  unfold judgeP
  rw [if_neg hmi, if_neg hx, if_neg (by omega)]
  have hT : judgeT op x = 0 := by
    unfold Inn at hi
    unfold judgeT
    by_cases hk : 5 ≤ clsX x
    · have hm : modE 1 op = clsX x := by omega
      have hin : innT op = clsX x := by omega
      rw [if_neg (by omega), if_neg (by omega), if_pos]
      refine .inr (.inr ?_)
      rw [hin]
      unfold partT
      split
      · assumption
      · split <;> omega
    · have hnt : ¬ (tableX x = true ∧ modX x ≠ 5) := fun h => hk (kt h.1 h.2)
      rw [if_neg (fun h => hnt h.2), if_neg (fun h => hnt h.2), if_pos]
      have : innT op = 0 ∨ innT op = 8 := by omega
      rcases this with h | h
      · exact .inl h
      · exact .inr (.inl h)
  rw [hT]
  simp only [ne_eq, not_true_eq_false, if_false]
  unfold judgeO
  rw [if_neg (fun h => by
    have := item_not hc (n4 h.1)
    rw [this] at h
    exact absurd h.2 Bool.false_ne_true)]
  rw [if_neg (fun h => by
    have hfar := chain_far op 1 hc (by omega) hm3
    have hp : pN ∉ op.reverse := fun hm => (hfar.2 pN (List.mem_reverse.1 hm)).1 p_mod
    rw [near_not pN _ _ hp] at h
    exact absurd h.2 Bool.false_ne_true)]
  rw [if_neg (fun h => by
    have hx1 := kh h.1
    have hm2 : modE 1 op ≠ 2 := by omega
    rcases List.eq_nil_or_concat op with rfl | ⟨q, y, rfl⟩
    · exact absurd h.2 (by decide)
    · rw [List.concat_eq_append] at h hm2 hc
      rw [List.getLast?_append, List.getLast?_singleton] at h
      have h2 : headX y = true := h.2
      rw [chain_app, chain_cons] at hc
      have hy := (known_kinds y hc.2.1).2.2.2.2.1 h2
      rw [modE_app] at hm2
      exact hm2 hy.2)]
  rw [if_neg (fun h => by
    have hn : aN ∉ op.reverse := fun hm => ha h.1 (List.mem_reverse.1 hm)
    rw [near_not aN _ _ hn] at h
    exact absurd h.2 Bool.false_ne_true)]

/-! ## what is taken -/

/-- events that are taken one by one, from one stack to another -/
def TkR (d : Nat) : List (List UInt8) → List Ev → List (List UInt8) → Prop
  | op, [], o => op = o
  | op, .text t :: r, o => t ≠ [] ∧ nestP (modE 1 op) 3 = 2 ∧ TkR d op r o
  | op, .start x _ :: r, o => elemL x ≠ none ∧ nestP (modE 1 op) (clsX x) = 2 ∧ op.length + 1 ≤ d ∧ (x = aN → aN ∉ op) ∧ TkR d (if modX x = 9 then op else op ++ [x]) r o
  | op, .stop x :: r, o => op.getLast? = some x ∧ TkR d op.dropLast r o
theorem tk_app {d : Nat} : ∀ (a b : List Ev) (op o1 o2 : List (List UInt8)), TkR d op a o1 → TkR d o1 b o2 → TkR d op (a ++ b) o2
  | [], b, op, o1, o2, h1, h2 => by cases h1; exact h2
  | .text t :: a, b, op, o1, o2, h1, h2 => ⟨h1.1, h1.2.1, tk_app a b _ _ _ h1.2.2 h2⟩
  | .start x al :: a, b, op, o1, o2, h1, h2 => ⟨h1.1, h1.2.1, h1.2.2.1, h1.2.2.2.1, tk_app a b _ _ _ h1.2.2.2.2 h2⟩
  | .stop x :: a, b, op, o1, o2, h1, h2 => ⟨h1.1, tk_app a b _ _ _ h1.2 h2⟩
theorem tk_close (d : Nat) : ∀ (n : Nat) (op : List (List UInt8)) (k : Nat), op.length - k = n → k ≤ op.length → TkR d op (closeE k op) (op.take k)
  | 0, op, k, h, hk => by
    have e : k = op.length := by omega
    subst e
    unfold closeE
    rw [List.drop_length, List.take_length]
    exact rfl
  | n + 1, op, k, h, hk => by
    have hne : op ≠ [] := by rintro rfl; simp at h
    obtain ⟨x, hx⟩ : ∃ x, op.getLast? = some x := ⟨_, List.getLast?_eq_some_getLast hne⟩
    obtain ⟨e1, e2⟩ := closeE_snoc0 hx (k := k) (by omega)
    rw [e1, e2]
    refine ⟨hx, tk_close d n op.dropLast k ?_ ?_⟩ <;> rw [List.length_dropLast] <;> omega
theorem tk_open (d : Nat) : ∀ (l op : List (List UInt8)), chainB (modE 1 op) l = true → op.length + l.length ≤ d → aN ∉ l → TkR d op (openE l) (op ++ l)
  | [], op, _, _, _ => by rw [List.append_nil]; exact rfl
  | x :: r, op, hc, hl, ha => by
    rw [chain_cons] at hc
    rw [List.length_cons] at hl
    refine ⟨hc.1, hc.2.2.1, by omega, fun e => absurd (by rw [e]; exact List.mem_cons_self ..) ha, ?_⟩
    rw [if_neg hc.2.1]
    have ih := tk_open d r (op ++ [x]) (by rw [modE_app]; exact hc.2.2.2) (by rw [List.length_append, List.length_singleton]; omega) (fun e => ha (List.mem_cons_of_mem _ e))
    rw [List.append_assoc] at ih
    exact ih
/-- what holds of the stack between two events -/
structure StackOk (d : Nat) (op : List (List UInt8)) : Prop where
  chain : chainB 1 op = true
  len : op.length ≤ d
theorem idx_take : ∀ (op : List (List UInt8)) (k : Nat), k ≤ op.idxOf aN → aN ∉ op.take k
  | [], k, _ => by simp
  | x :: r, 0, _ => by simp
  | x :: r, k + 1, h => by
    rw [List.take_succ_cons]
    rw [List.idxOf_cons] at h
    by_cases e : x = aN
    · subst e
      simp at h
    · have : (x == aN) = false := beq_eq_false_iff_ne.2 e
      rw [this] at h
      simp only [cond_false] at h
      intro hm
      rcases List.mem_cons.1 hm with e2 | hm
      · exact e e2.symm
      · exact idx_take r k (by omega) hm
theorem reach_not {op : List (List UInt8)} {x : List UInt8} {k : Nat} (h : k ≤ reachP op x) (e : x = aN) : aN ∉ op.take k := by
  unfold reachP at h
  rw [if_pos e] at h
  exact idx_take op k h
theorem tk_start {d : Nat} {op : List (List UInt8)} (h : StackOk d op) (x : List UInt8) (al : List AttrP) : TkR d op (startP d op x al).2 (startP d op x al).1 ∧ StackOk d (startP d op x al).1 := by
  unfold startP
  by_cases hx : elemL x = none
  · rw [if_pos hx]; exact ⟨rfl, h⟩
  rw [if_neg hx]
  have hle := findP_le (clsX x) op (reachP op x)
  have hat := findP_at (clsX x) op (reachP op x)
  have hrl : reachP op x ≤ op.length := by
    unfold reachP
    split
    · exact List.idxOf_le_length
    · exact Nat.le_refl _
  generalize hF : findP (clsX x) op (reachP op x) = F at hle hat
  by_cases hz : F.2 = 0 ∨ d < F.1 + (impP F.2).length + 1
  · rw [if_pos hz]; exact ⟨rfl, h⟩
  rw [if_neg hz]
  have hz1 : F.2 ≠ 0 := fun e => hz (.inl e)
  have hz2 : F.1 + (impP F.2).length + 1 ≤ d := by omega
  have hq := hat.2 hz1
  have hq1 := hat.1
  rw [modO_E] at hq
  have ht := nest_imp (m := modE 1 (op.take F.1)) (c := clsX x) (by rw [← hq]; omega)
  rw [← hq] at ht
  have hc1 := chain_take h.chain F.1
  have hl1 : (op.take F.1).length = F.1 := by rw [List.length_take]; omega
  have hia : aN ∉ impP F.2 := fun hm => (imp_ok hm).2.2.1 rfl
  have t1 := tk_close d (op.length - F.1) op F.1 rfl (by omega)
  have t2 := tk_open d (impP F.2) (op.take F.1) ht.1 (by rw [hl1]; omega) hia
  have hc2 : chainB 1 (op.take F.1 ++ impP F.2) = true := (chain_app _ _ _).2 ⟨hc1, ht.1⟩
  have hn2 : nestP (modE 1 (op.take F.1 ++ impP F.2)) (clsX x) = 2 := by rw [modE_app]; exact ht.2
  have t3 : TkR d (op.take F.1 ++ impP F.2) [.start x al] (op.take F.1 ++ impP F.2 ++ (if modX x = 9 then [] else [x])) := by
    refine ⟨hx, hn2, by rw [List.length_append, hl1]; omega, fun e hm => ?_, ?_⟩
    · rcases List.mem_append.1 hm with hm | hm
      · exact reach_not hle e hm
      · exact hia hm
    · show (if modX x = 9 then _ else _) = _
      split <;> simp
  refine ⟨tk_app _ _ _ _ _ (tk_app _ _ _ _ _ t1 t2) t3, ⟨?_, ?_⟩⟩
  · by_cases h9 : modX x = 9
    · rw [if_pos h9, List.append_nil]; exact hc2
    · rw [if_neg h9, chain_app]
      exact ⟨hc2, (chain_cons _ _ _).2 ⟨hx, h9, hn2, rfl⟩⟩
  · rw [List.length_append, List.length_append, hl1]
    split <;> simp <;> omega
theorem tk_text {d : Nat} {op : List (List UInt8)} (h : StackOk d op) (t : List UInt8) : TkR d op (textP d op t).2 (textP d op t).1 ∧ StackOk d (textP d op t).1 := by
  unfold textP
  rw [modO_E]
  by_cases h2 : nestP (modE 1 op) 3 = 2
  · rw [if_pos h2]
    refine ⟨?_, h⟩
    by_cases ht : t = []
    · rw [if_pos ht]; exact rfl
    · rw [if_neg ht]; exact ⟨ht, h2, rfl⟩
  rw [if_neg h2]
  by_cases hz : trimP t = [] ∨ d < op.length + (impP (nestP (modE 1 op) 3)).length
  · rw [if_pos hz]; exact ⟨rfl, h⟩
  rw [if_neg hz]
  have hm := chain_mod h.chain (by omega) (by omega)
  have hi := nest_imp (nest_text hm.1 hm.2)
  have hia : aN ∉ impP (nestP (modE 1 op) 3) := fun hm => (imp_ok hm).2.2.1 rfl
  have t2 := tk_open d _ op hi.1 (by omega) hia
  refine ⟨tk_app _ _ _ _ _ t2 ⟨fun e => hz (.inl e), by rw [modE_app]; exact hi.2, rfl⟩, ⟨(chain_app _ _ _).2 ⟨h.chain, hi.1⟩, by rw [List.length_append]; omega⟩⟩
theorem closes_ltN (op : List (List UInt8)) (x : List UInt8) : ∀ k j, closesP op x k = some j → j < k
  | 0, j, h => by cases h
  | k + 1, j, h => by
    unfold closesP at h
    split at h
    · cases h; omega
    · split at h
      · cases h
      · have := closes_ltN op x k j h; omega
theorem tk_end {d : Nat} {op : List (List UInt8)} (h : StackOk d op) (x : List UInt8) : TkR d op (endP op x).2 (endP op x).1 ∧ StackOk d (endP op x).1 := by
  unfold endP
  split
  · exact ⟨rfl, h⟩
  · cases hk : closesP op x op.length with
    | none => exact ⟨rfl, h⟩
    | some k =>
      have hlt := closes_ltN op x _ _ hk
      exact ⟨tk_close d _ op k rfl (by omega), ⟨chain_take h.chain k, by rw [List.length_take]; have := h.len; omega⟩⟩
theorem tk_bal {d : Nat} {op : List (List UInt8)} (h : StackOk d op) (e : EvP) : TkR d op (balS d op e).2 (balS d op e).1 ∧ StackOk d (balS d op e).1 := by
  unfold balS
  split
  · exact tk_start h e.n e.a
  · split
    · exact tk_end h e.n
    · split
      · exact tk_text h e.t
      · exact ⟨rfl, h⟩
theorem tk_raw {d : Nat} : ∀ (es : List EvP) (op : List (List UInt8)), StackOk d op → TkR d op (rawB d op es) []
  | [], op, _ => by
    have := tk_close d _ op 0 rfl (Nat.zero_le _)
    exact this
  | e :: r, op, h => by
    have h1 := tk_bal h e
    rw [rawB_step]
    exact tk_app _ _ _ _ _ h1.1 (tk_raw r _ h1.2)

/-! ## a second time -/

theorem idx_len : ∀ {op : List (List UInt8)}, aN ∉ op → op.idxOf aN = op.length := fun h => List.idxOf_eq_length h
theorem bal_again {d : Nat} : ∀ (L : List Ev) (op : List (List UInt8)), chainB 1 op = true → TkR d op L [] → rawB d op (L.map toP) = L
  | [], op, _, h => by
    have h : op = [] := h
    subst h
    rfl
  | .text t :: r, op, hc, h => by
    obtain ⟨h1, h2, h3⟩ := h
    rw [List.map_cons, rawB_step, toP_text]
    have e : balS d op ⟨3, [], [], t⟩ = (op, [.text t]) := by
      show textP d op t = _
      unfold textP
      rw [modO_E, if_pos h2, if_neg h1]
    rw [e, bal_again r op hc h3]
    rfl
  | .start x al :: r, op, hc, h => by
    obtain ⟨h1, h2, h3, h4, h5⟩ := h
    rw [List.map_cons, rawB_step, toP_start]
    have hr : reachP op x = op.length := by
      unfold reachP
      split
      · rename_i e; exact idx_len (h4 e)
      · rfl
    have hf : findP (clsX x) op op.length = (op.length, 2) := findP_self (by rw [List.take_length, modO_E]; exact h2) (by decide)
    have e : balS d op ⟨1, x, al, []⟩ = (if modX x = 9 then op else op ++ [x], [.start x al]) := by
      show startP d op x al = _
      unfold startP
      rw [if_neg h1, hr, hf]
      have h6 : ¬ ((2 : Nat) = 0 ∨ d < op.length + (impP 2).length + 1) := by
        have : (impP 2).length = 0 := rfl
        omega
      rw [if_neg h6]
      have h7 : closeE op.length op = [] := by unfold closeE; rw [List.drop_length]; rfl
      simp only [List.take_length, h7]
      have h8 : impP 2 = [] := rfl
      rw [h8]
      split <;> simp [openE]
    have hc2 : chainB 1 (if modX x = 9 then op else op ++ [x]) = true := by
      split
      · exact hc
      · rename_i h9; exact (chain_app _ _ _).2 ⟨hc, (chain_cons _ _ _).2 ⟨h1, h9, h2, rfl⟩⟩
    rw [e, bal_again r _ hc2 h5]
    rfl
  | .stop x :: r, op, hc, h => by
    obtain ⟨h1, h2⟩ := h
    rw [List.map_cons, rawB_step, toP_stop]
    have hne : op ≠ [] := by rintro rfl; cases h1
    have hl := List.length_pos_iff.2 hne
    obtain ⟨n, hn⟩ : ∃ n, op.length = n + 1 := ⟨op.length - 1, by omega⟩
    have hg : op.getD n [] = x := by
      rw [List.getLast?_eq_getElem?, hn] at h1
      rw [List.getD_eq_getElem?_getD]
      simp only [Nat.add_sub_cancel] at h1
      rw [h1]
      rfl
    have hk := (chain_mem hc x (List.mem_of_getLast? h1)).1
    obtain ⟨e1, e2⟩ := closeE_snoc0 h1 (k := n) (by omega)
    have hd : op.dropLast.length = n := by rw [List.length_dropLast]; omega
    have e : balS d op ⟨2, x, [], []⟩ = (op.dropLast, [.stop x]) := by
      show endP op x = _
      unfold endP
      rw [if_neg hk, hn]
      unfold closesP
      rw [if_pos hg]
      simp only
      rw [e1, e2, ← hd, List.take_length]
      unfold closeE
      rw [List.drop_length]
      rfl
    have hc2 : chainB 1 op.dropLast = true := by rw [List.dropLast_eq_take]; exact chain_take hc _
    rw [e, bal_again r _ hc2 h2]
    rfl

/-! ## texts that meet -/

def txE (p : List UInt8) : List Ev := if p = [] then [] else [.text p]
def mrg : List UInt8 → List Ev → List Ev
  | p, [] => txE p
  | p, .text b :: r => mrg (p ++ b) r
  | p, e :: r => txE p ++ e :: mrg [] r
theorem flush_mrg : ∀ (L : List Ev) (evs : List Ev) (p : List UInt8), flushE (putEs (evs, p) L) = evs ++ mrg p L
  | [], evs, p => by
    show flushE (evs, p) = evs ++ txE p
    unfold flushE txE
    split <;> simp_all
  | .text b :: r, evs, p => flush_mrg r evs (p ++ b)
  | .start x al :: r, evs, p => by
    show flushE (putEs (flushE (evs, p) ++ [.start x al], []) r) = evs ++ (txE p ++ .start x al :: mrg [] r)
    rw [flush_mrg r _ []]
    have h0 : flushE (evs, p) = evs ++ txE p := flush_mrg [] evs p
    rw [h0]
    simp
  | .stop x :: r, evs, p => by
    show flushE (putEs (flushE (evs, p) ++ [.stop x], []) r) = evs ++ (txE p ++ .stop x :: mrg [] r)
    rw [flush_mrg r _ []]
    have h0 : flushE (evs, p) = evs ++ txE p := flush_mrg [] evs p
    rw [h0]
    simp
theorem balP_mrg (d : Nat) (es : List EvP) : balP d es = mrg [] (rawB d [] es) := by
  have := flush_mrg (rawB d [] es) [] []
  rw [List.nil_append] at this
  exact this
theorem tk_tx {d : Nat} {op o : List (List UInt8)} {p : List UInt8} {L : List Ev} (hp : p ≠ [] → nestP (modE 1 op) 3 = 2) (h : TkR d op L o) : TkR d op (txE p ++ L) o := by
  unfold txE
  split
  · exact h
  · rename_i h0; exact ⟨h0, hp h0, h⟩
theorem tk_mrg {d : Nat} : ∀ (L : List Ev) (op o : List (List UInt8)) (p : List UInt8), (p ≠ [] → nestP (modE 1 op) 3 = 2) → TkR d op L o → TkR d op (mrg p L) o
  | [], op, o, p, hp, h => by
    have := tk_tx hp h
    rw [List.append_nil] at this
    exact this
  | .text b :: r, op, o, p, hp, h => tk_mrg r op o (p ++ b) (fun _ => h.2.1) h.2.2
  | .start x al :: r, op, o, p, hp, h => tk_tx hp ⟨h.1, h.2.1, h.2.2.1, h.2.2.2.1, tk_mrg r _ o [] (fun e => absurd rfl e) h.2.2.2.2⟩
  | .stop x :: r, op, o, p, hp, h => tk_tx hp ⟨h.1, tk_mrg r _ o [] (fun e => absurd rfl e) h.2⟩
theorem mrg_tx (p q : List UInt8) (L : List Ev) : mrg p (txE q ++ L) = mrg (p ++ q) L := by
  unfold txE
  split
  · rename_i h; rw [h, List.append_nil, List.nil_append]
  · rfl
theorem mrg_idem : ∀ (L : List Ev) (p : List UInt8), mrg [] (mrg p L) = mrg p L
  | [], p => by
    have := mrg_tx [] p []
    rw [List.append_nil, List.nil_append] at this
    exact this
  | .text b :: r, p => mrg_idem r (p ++ b)
  | .start x al :: r, p => by
    show mrg [] (txE p ++ .start x al :: mrg [] r) = _
    rw [mrg_tx, List.nil_append]
    show txE p ++ .start x al :: mrg [] (mrg [] r) = _
    rw [mrg_idem r []]
    rfl
  | .stop x :: r, p => by
    show mrg [] (txE p ++ .stop x :: mrg [] r) = _
    rw [mrg_tx, List.nil_append]
    show txE p ++ .stop x :: mrg [] (mrg [] r) = _
    rw [mrg_idem r []]
    rfl
/-- what the balancer gives is taken, and left as it is -/
theorem bal_taken (d : Nat) (es : List EvP) : TkR d [] (balP d es) [] ∧ balP d ((balP d es).map toP) = balP d es := by
  have h := tk_mrg (d := d) (rawB d [] es) [] [] [] (fun e => absurd rfl e) (tk_raw es [] ⟨rfl, Nat.zero_le _⟩)
  rw [balP_mrg]
  refine ⟨h, ?_⟩
  rw [balP_mrg, bal_again _ [] rfl h, mrg_idem]

/-! ## read with no repair -/

theorem innT_text {op : List (List UInt8)} (hc : chainB 1 op = true) (h : nestP (modE 1 op) 3 = 2) : ¬ (innT op = 5 ∨ innT op = 6 ∨ innT op = 7) := by
  have hi := chain_inn hc
  have h3 := (nest_two h).2.2.1 rfl
  unfold Inn at hi
  omega
def nodupA : List Ev → Prop
  | [] => True
  | .start _ al :: r => (al.map Prod.fst).Nodup ∧ nodupA r
  | _ :: r => nodupA r
theorem run_take {d : Nat} (hd : d ≤ 256) : ∀ (L : List Ev) (op : List (List UInt8)) (ns : List EvP) (eat : Bool), chainB 1 op = true → TkR d op L [] → nodupA L → runE ⟨op, ns, eat⟩ L = (0, ns ++ piecesL op.length (L.map toP))
  | [], op, ns, eat, _, h, _ => by
    have h : op = [] := h
    subst h
    show (0, ns) = (0, ns ++ [])
    rw [List.append_nil]
  | .text t :: r, op, ns, eat, hc, h, hn => by
    obtain ⟨h1, h2, h3⟩ := h
    have e : stepV ⟨op, ns, eat⟩ (.text t) = (0, ⟨op, ns ++ [⟨op.length, [], [], t⟩], false⟩) := by
      unfold stepV
      simp only
      rw [if_neg (fun q => innT_text hc h2 q.1)]
    rw [runE_cons, e, if_pos rfl, run_take hd r op _ _ hc h3 hn, List.append_assoc, List.map_cons, toP_text, pieces_text _ _ _ rfl h1]
    rfl
  | .start x al :: r, op, ns, eat, hc, h, hn => by
    obtain ⟨h1, h2, h3, h4, h5⟩ := h
    have hj := judge_take hc h1 h2 (by omega) h4
    have e : stepV ⟨op, ns, eat⟩ (.start x al) = (0, ⟨if modX x = 9 then op else op ++ [x], ns ++ [⟨op.length, x, al, []⟩], eatsL x⟩) := by
      unfold stepV stepP
      simp only
      rw [if_neg (fun q => q hn.1), hj, if_neg (fun q => q rfl)]
    have hc2 : chainB 1 (if modX x = 9 then op else op ++ [x]) = true := by
      split
      · exact hc
      · rename_i h9; exact (chain_app _ _ _).2 ⟨hc, (chain_cons _ _ _).2 ⟨h1, h9, h2, rfl⟩⟩
    have hv := void_mod x
    have hne : x ≠ [] := elem_nil h1
    rw [runE_cons, e, if_pos rfl, run_take hd r _ _ _ hc2 h5 hn.2, List.append_assoc, List.map_cons, toP_start, pieces_step, if_pos rfl, if_neg hne]
    have hl : (if modX x = 9 then op else op ++ [x]).length = if voidL x = true then op.length else op.length + 1 := by
      rw [hv]
      by_cases h9 : modX x = 9
      · rw [if_pos h9, if_pos (by rw [h9]; rfl)]
      · rw [if_neg h9, if_neg (by rw [beq_iff_eq]; exact h9)]; simp
    rw [hl]
    rfl
  | .stop x :: r, op, ns, eat, hc, h, hn => by
    obtain ⟨h1, h2⟩ := h
    have e : stepV ⟨op, ns, eat⟩ (.stop x) = (0, ⟨op.dropLast, ns, false⟩) := by
      unfold stepV stepP
      simp only
      rw [if_pos h1]
    have hc2 : chainB 1 op.dropLast = true := by rw [List.dropLast_eq_take]; exact chain_take hc _
    rw [runE_cons, e, if_pos rfl, run_take hd r _ _ _ hc2 h2 hn, List.map_cons, toP_stop, pieces_step, if_neg (show ¬ ((2 : Int) = 1) by decide), if_pos rfl, List.length_dropLast]
/-- the first node of a run, if it is a text, is not deeper than the stack; behind a text it is less deep -/
theorem pieces_head {d : Nat} : ∀ (L : List Ev) (op : List (List UInt8)) (m : EvP), TkR d op L [] → (piecesL op.length (L.map toP)).head? = some m → m.n = [] → m.k ≤ op.length ∧ (noText L → m.k < op.length)
  | [], op, m, _, h, _ => by cases h
  | .text t :: r, op, m, h, hm, _ => by
    rw [List.map_cons, toP_text, pieces_text _ _ _ rfl h.1] at hm
    cases hm
    exact ⟨by simp, fun q => q.elim⟩
  | .start x al :: r, op, m, h, hm, hn => by
    rw [List.map_cons, toP_start, pieces_step, if_pos rfl, if_neg (elem_nil h.1)] at hm
    cases hm
    exact absurd hn (elem_nil h.1)
  | .stop x :: r, op, m, h, hm, hn => by
    rw [List.map_cons, toP_stop, pieces_step, if_neg (show ¬ ((2 : Int) = 1) by decide), if_pos rfl] at hm
    have hne : op ≠ [] := by rintro rfl; cases h.1
    have hl := List.length_pos_iff.2 hne
    rw [show op.length - 1 = op.dropLast.length by rw [List.length_dropLast]] at hm
    have := (pieces_head r op.dropLast m h.2 hm hn).1
    rw [List.length_dropLast] at this
    exact ⟨by omega, fun _ => by omega⟩
def apartT : List Ev → Prop
  | [] => True
  | .text _ :: r => noText r ∧ apartT r
  | _ :: r => apartT r
theorem join_plain {d : Nat} : ∀ (L : List Ev) (op : List (List UInt8)), TkR d op L [] → apartT L → joinN (piecesL op.length (L.map toP)) = piecesL op.length (L.map toP)
  | [], _, _, _ => rfl
  | .text t :: r, op, h, ha => by
    have ih := join_plain r op h.2.2 ha.2
    have hh := fun m => pieces_head r op m h.2.2
    rw [List.map_cons, toP_text, pieces_text _ _ _ rfl h.1, joinN_cons, ih]
    cases hp : piecesL op.length (r.map toP) with
    | nil => rfl
    | cons m q =>
      rw [jn_cons, if_neg]
      intro hmt
      have := (hh m (by rw [hp]; rfl) hmt.2.1).2 ha.1
      have h2 := hmt.2.2
      simp only at h2
      omega
  | .start x al :: r, op, h, ha => by
    obtain ⟨h1, h2, h3, h4, h5⟩ := h
    have ih := join_plain r _ h5 ha
    have hv := void_mod x
    have hl : (if modX x = 9 then op else op ++ [x]).length = if voidL x = true then op.length else op.length + 1 := by
      rw [hv]
      by_cases h9 : modX x = 9
      · rw [if_pos h9, if_pos (by rw [h9]; rfl)]
      · rw [if_neg h9, if_neg (by rw [beq_iff_eq]; exact h9)]; simp
    rw [hl] at ih
    rw [List.map_cons, toP_start, pieces_step, if_pos rfl, if_neg (elem_nil h1), joinN_cons, ih]
    exact jn_elem (n := ⟨op.length, x, al, []⟩) (elem_nil h1) _
  | .stop x :: r, op, h, ha => by
    have ih := join_plain r _ h.2 ha
    rw [List.length_dropLast] at ih
    rw [List.map_cons, toP_stop, pieces_step, if_neg (show ¬ ((2 : Int) = 1) by decide), if_pos rfl, ih]
theorem mrg_tx_head (p : List UInt8) (e : Ev) (r : List Ev) (h : ∀ b, e ≠ .text b) (hr : apartT (e :: r)) : apartT (txE p ++ e :: r) := by
  unfold txE
  split
  · exact hr
  · refine ⟨?_, hr⟩
    cases e with
    | text b => exact absurd rfl (h b)
    | start x al => exact trivial
    | stop x => exact trivial
theorem mrg_apart : ∀ (L : List Ev) (p : List UInt8), apartT (mrg p L)
  | [], p => by
    show apartT (txE p)
    unfold txE
    split
    · exact trivial
    · exact ⟨trivial, trivial⟩
  | .text b :: r, p => mrg_apart r (p ++ b)
  | .start x al :: r, p => mrg_tx_head p _ _ (fun b => by simp) (mrg_apart r [])
  | .stop x :: r, p => mrg_tx_head p _ _ (fun b => by simp) (mrg_apart r [])
end Go.Proofs.YtcncbhbdpcpkeaaGreatDoor
