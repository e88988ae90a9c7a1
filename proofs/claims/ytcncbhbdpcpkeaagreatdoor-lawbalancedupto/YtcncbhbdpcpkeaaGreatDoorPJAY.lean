/-
  Parts of the walk, joined: BalA.
-/
import Derived.Test.YtcncbhbdpcpkeaaGreatDoorPJAU
import Derived.Test.YtcncbhbdpcpkeaaGreatDoorPJAV
import Derived.Test.YtcncbhbdpcpkeaaGreatDoorPJAE
import Derived.Test.YtcncbhbdpcpkeaaGreatDoorPJAP
/-
  The balancer's small functions: the nesting table, models, implied elements, walls, whitespace taken off: their walks.
-/
namespace Go.Proofs.YtcncbhbdpcpkeaaGreatDoor
open Go.RowKit Go.Lib Own

/-- the nesting table lies where its variable does -/
def NestTab (w : World) : Prop := w.rangeAt 1 0 ((nestT.flatMap id).map fun n : Nat => Value.int .i64 (n : Int))
theorem NestTab.below {w w' : World} (h : NestTab w) (hb : Below w.heap.size w w') : NestTab w' := rangeAt_below h hb
theorem nest_flat : ∀ i < 8, ∀ j < 7, (nestT.flatMap id)[i * 7 + j]? = some ((nestT.getD i []).getD j 0) := by decide +kernel
theorem nest_cell {w : World} (h : NestTab w) {i j : Nat} (hi : i < 8) (hj : j < 7) : w.cell? ⟨1, i * 7 + j, none⟩ = some (.int .i64 (nestP (i + 1) (j + 1) : Nat)) := by
  have h1 := h (i * 7 + j) (.int .i64 (nestP (i + 1) (j + 1) : Nat)) (by
    rw [List.getElem?_map, nest_flat i hi j hj]
    unfold nestP
    rw [if_neg (by omega)]
    rfl)
  rw [Nat.zero_add] at h1
  exact h1
set_option maxHeartbeats 4000000 in
theorem nest_any (m c : Nat) (w : World) (hT : NestTab w) (hm : m ≤ 100) (hc : c ≤ 100) :
    Calls Tryz.prog 128 #[.int .i64 m, .int .i64 c] w fun e w' => e = .returned (.int .i64 (nestP m c : Nat)) ∧ w' = w := by
  by_cases h1 : m < 1
  · have e : nestP m c = 0 := by unfold nestP; rw [if_pos (by omega)]
    rw [e]
    go_enter Tryz.func128, Tryz.ntmps128
    go_wp2
    go_ret
    exact ⟨rfl, rfl⟩
  by_cases h2 : 8 < m
  · have e : nestP m c = 0 := by unfold nestP; rw [if_pos (by omega)]
    rw [e]
    go_enter Tryz.func128, Tryz.ntmps128
    go_wp2
    go_ret
    exact ⟨rfl, rfl⟩
  by_cases h3 : c < 1
  · have e : nestP m c = 0 := by unfold nestP; rw [if_pos (by omega)]
    rw [e]
    go_enter Tryz.func128, Tryz.ntmps128
    go_wp2
    go_ret
    exact ⟨rfl, rfl⟩
  by_cases h4 : 7 < c
  · have e : nestP m c = 0 := by unfold nestP; rw [if_pos (by omega)]
    rw [e]
    go_enter Tryz.func128, Tryz.ntmps128
    go_wp2
    go_ret
    exact ⟨rfl, rfl⟩
  obtain ⟨i, rfl⟩ : ∃ i, m = i + 1 := ⟨m - 1, by omega⟩
  obtain ⟨j, rfl⟩ : ∃ j, c = j + 1 := ⟨c - 1, by omega⟩
  have hcell := nest_cell hT (i := i) (j := j) (by omega) (by omega)
  have w1 : IntKind.i64.wrap (((i + 1 : Nat) : Int) - 1) = (i : Int) := by rw [IntKind.wrap_i64]; omega
  have w2 : IntKind.i64.wrap (((j + 1 : Nat) : Int) - 1) = (j : Int) := by rw [IntKind.wrap_i64]; omega
  have i1 : i < 8 := by omega
  have j1 : j < 7 := by omega
  go_enter Tryz.func128, Tryz.ntmps128
  go_wp2
  go_ret
  exact ⟨rfl, rfl⟩
/-- the cells of open elements -/
def elems (op : List (List UInt8)) : List Value := op.flatMap fun x => [.string (bs x), .int .i64 (clsX x : Nat), .int .i64 (modX x : Nat)]
theorem elems_app (a b : List (List UInt8)) : elems (a ++ b) = elems a ++ elems b := List.flatMap_append
theorem elems_at : ∀ (a : List (List UInt8)) (k : Nat) (x : List UInt8), a[k]? = some x → (elems a)[k * 3]? = some (.string (bs x)) ∧ (elems a)[k * 3 + 1]? = some (.int .i64 (clsX x : Nat)) ∧ (elems a)[k * 3 + 2]? = some (.int .i64 (modX x : Nat))
  | [], k, x, h => by simp at h
  | y :: r, 0, x, h => by
    simp only [List.getElem?_cons_zero, Option.some.injEq] at h
    subst h
    exact ⟨rfl, rfl, rfl⟩
  | y :: r, k + 1, x, h => by
    rw [List.getElem?_cons_succ] at h
    obtain ⟨h1, h2, h3⟩ := elems_at r k x h
    exact ⟨by rw [show (k + 1) * 3 = k * 3 + 1 + 1 + 1 by omega]; exact h1, by rw [show (k + 1) * 3 + 1 = k * 3 + 1 + 1 + 1 + 1 by omega]; exact h2, by rw [show (k + 1) * 3 + 2 = k * 3 + 2 + 1 + 1 + 1 by omega]; exact h3⟩
theorem elems_take : ∀ (a : List (List UInt8)) (k : Nat), (elems a).take (k * 3) = elems (a.take k)
  | [], k => by simp [elems]
  | x :: r, 0 => by simp [elems]
  | x :: r, k + 1 => by
    have := elems_take r k
    show ((_ :: _ :: _ :: elems r : List Value)).take _ = (_ :: _ :: _ :: elems (r.take k) : List Value)
    rw [show (k + 1) * 3 = k * 3 + 1 + 1 + 1 by omega, List.take_succ_cons, List.take_succ_cons, List.take_succ_cons, this]
/-- open elements in a row -/
def OpenR (W : World) (base : Nat) (v : Value) (op : List (List UInt8)) : Prop := W.ownsRow base 172 3 v op.length (elems op)
theorem row_shorter {W : World} {base : Nat} {e : TypeId} {size n k c : Nat} {p : Option Addr} {xs : List Value} (h : W.ownsRow base e size (.slice p n c) n xs) (hk : k ≤ n) : W.ownsRow base e size (.slice p k c) k (xs.take (k * size)) := by
  refine ⟨by rw [List.length_take, h.1]; exact Nat.min_eq_left (Nat.mul_le_mul_right _ hk), ?_⟩
  rcases h.2 with ⟨e1, e2⟩ | ⟨g, cap, cur, e1, e2, e3, e4, e5, e6, e7⟩
  · cases e1
    obtain rfl : k = 0 := by omega
    exact .inl ⟨rfl, rfl⟩
  · cases e1
    refine .inr ⟨g, c, cur, rfl, e2, e3, by omega, e5, e6, ?_⟩
    rw [← e7, List.take_take, Nat.min_eq_left (Nat.mul_le_mul_right _ hk)]
theorem OpenR.front {W : World} {base n k c : Nat} {p : Option Addr} {op : List (List UInt8)} (h : OpenR W base (.slice p n c) op) (hk : k ≤ op.length) (hn : n = op.length) : OpenR W base (.slice p k c) (op.take k) := by
  subst hn
  have h1 := row_shorter h hk
  rw [elems_take] at h1
  unfold OpenR
  rw [List.length_take, Nat.min_eq_left hk]
  exact h1
theorem OpenR.shape {W : World} {base : Nat} {v : Value} {op : List (List UInt8)} (h : OpenR W base v op) : ∃ p c, v = .slice p op.length c := row_shape h
set_option maxHeartbeats 1000000 in
theorem modIn_any (base : Nat) (v : Value) (op : List (List UInt8)) (w : World) (h : OpenR w base v op) (hl : op.length ≤ 1000000) :
    Calls Tryz.prog 129 #[v] w fun e w' => e = .returned (.int .i64 (modO op : Nat)) ∧ w' = w := by
  obtain ⟨p, c, rfl⟩ := h.shape
  by_cases h0 : op.length = 0
  · obtain rfl := List.length_eq_zero_iff.1 h0
    go_enter Tryz.func129, Tryz.ntmps129
    go_wp2
    go_ret
    exact ⟨rfl, rfl⟩
  · obtain ⟨x, hx⟩ : ∃ x, op[op.length - 1]? = some x := ⟨_, List.getElem?_eq_getElem (by omega)⟩
    obtain ⟨g, cap, e3, _, _, hcell⟩ := row_at h (by omega)
    cases e3
    obtain ⟨_, _, a3⟩ := elems_at op _ x hx
    have c3 := (hcell _ (by omega)).trans a3
    have hm : modO op = modX x := by unfold modO; rw [List.getLast?_eq_getElem?, hx]
    obtain ⟨n, hn⟩ : ∃ n, op.length = n + 1 := ⟨op.length - 1, by omega⟩
    rw [hm]
    rw [hn, Nat.add_sub_cancel] at c3
    rw [hn] at hl ⊢
    have w1 : IntKind.i64.wrap (((n + 1 : Nat) : Int) - 1) = (n : Int) := by rw [IntKind.wrap_i64]; omega
    have hz : (((n + 1 : Nat) : Int) == 0) = false := by rw [Bool.eq_false_iff]; intro h; rw [beq_iff_eq] at h; omega
    have hle := (row_cap h).2
    rw [hn] at hle
    clear hm hx a3 hcell h h0 hn
    go_enter Tryz.func129, Tryz.ntmps129
    go_wp2
    go_ret
    exact ⟨rfl, rfl⟩
set_option maxHeartbeats 1000000 in
theorem implied_any (p : Nat) (hp : p < 10) (w : World) :
    Calls Tryz.prog 124 #[.int .i64 p] w fun e w' => ∃ v, e = .returned v ∧ w'.ownsRow w.heap.size 9 1 v (impP p).length (wordsV (impP p)) ∧ Below w.heap.size w w' := by
  have one : ∀ (xs : List (List UInt8)), xs.length ≤ 1000 → (w.alloc (.cells (wordsV xs).toArray 9)).ownsRow w.heap.size 9 1 (.slice (some ⟨w.heap.size, 0, none⟩) xs.length xs.length) xs.length (wordsV xs) := fun xs hl =>
    ⟨wordsV_len xs, .inr ⟨w.heap.size, xs.length, _, rfl, Nat.le_refl _, heap_alloc_new w _, Nat.le_refl _, by unfold maxLen; omega, by rw [List.size_toArray, wordsV_len], by rw [List.take_of_length_le (by rw [wordsV_len]; exact Nat.le_refl _)]⟩⟩
  have bel : ∀ X, Below w.heap.size w (w.alloc X) := fun X => (Below.refl _ _).alloc (Nat.le_refl _) X
  rcases (show p = 0 ∨ p = 1 ∨ p = 2 ∨ p = 3 ∨ p = 4 ∨ p = 5 ∨ p = 6 ∨ p = 7 ∨ p = 8 ∨ p = 9 by omega) with rfl | rfl | rfl | rfl | rfl | rfl | rfl | rfl | rfl | rfl
  all_goals
    go_enter Tryz.func124, Tryz.ntmps124
    go_wp2
    go_ret
    first
      | exact ⟨_, rfl, World.ownsRow_nil _ _ _ _, Below.refl _ _⟩
      | exact ⟨_, rfl, one (impP 3) (by decide), bel _⟩
      | exact ⟨_, rfl, one (impP 4) (by decide), bel _⟩
      | exact ⟨_, rfl, one (impP 5) (by decide), bel _⟩
      | exact ⟨_, rfl, one (impP 6) (by decide), bel _⟩
      | exact ⟨_, rfl, one (impP 7) (by decide), bel _⟩
      | exact ⟨_, rfl, one (impP 8) (by decide), bel _⟩
      | exact ⟨_, rfl, one (impP 9) (by decide), bel _⟩
set_option maxHeartbeats 1000000 in
theorem isTab_any (a cv : Value) (m : Nat) (hm : m < 10) (w : World) :
    Calls Tryz.prog 183 #[.agg #[a, cv, .int .i64 m]] w fun e w' => e = .returned (.bool (decide (5 ≤ m ∧ m ≤ 8))) ∧ Below w.heap.size w w' := by
  have hb := (Below.refl w.heap.size w).alloc (Nat.le_refl _) (.cells #[a, cv, .int .i64 m] 172)
  rcases (show m = 0 ∨ m = 1 ∨ m = 2 ∨ m = 3 ∨ m = 4 ∨ m = 5 ∨ m = 6 ∨ m = 7 ∨ m = 8 ∨ m = 9 by omega) with rfl | rfl | rfl | rfl | rfl | rfl | rfl | rfl | rfl | rfl
  all_goals
    have HB := hid hb
    clear hb
    go_enter Tryz.func183, Tryz.ntmps183
    go_wp2
    go_ret
    exact ⟨rfl, HB.out⟩
set_option maxHeartbeats 4000000 in
theorem wall_any (o x : List UInt8) (w : World) (ho : modX o < 10) (hx : modX x < 10) :
    Calls Tryz.prog 127 #[.agg #[.string (bs o), .int .i64 (clsX o : Nat), .int .i64 (modX o : Nat)], .agg #[.string (bs x), .int .i64 (clsX x : Nat), .int .i64 (modX x : Nat)]] w fun e w' => e = .returned (.bool (wallX o x)) ∧ Below w.heap.size w w' := by
  have hR : wallX o x = if decide (5 ≤ modX x ∧ modX x ≤ 8) = true then modX o == 5 else if clsX x = 4 ∧ modX o = 4 then true else decide (5 ≤ modX o ∧ modX o ≤ 8) := rfl
  have h1 := fun a cv W => isTab_any a cv (modX x) hx W
  have h2 := fun a cv W => isTab_any a cv (modX o) ho W
  obtain ⟨R, hQ⟩ : ∃ R, wallX o x = R := ⟨_, rfl⟩
  rw [hQ] at hR ⊢
  clear hQ
  generalize modX o = mo at ho h2 hR ⊢
  generalize modX x = mx at hx h1 hR ⊢
  generalize clsX x = cx at hR ⊢
  generalize clsX o = co
  obtain ⟨BO, hBO⟩ : ∃ b, decide (5 ≤ mo ∧ mo ≤ 8) = b := ⟨_, rfl⟩
  obtain ⟨BX, hBX⟩ : ∃ b, decide (5 ≤ mx ∧ mx ≤ 8) = b := ⟨_, rfl⟩
  rw [hBO] at h2 hR
  rw [hBX] at h1 hR
  clear hBO hBX
  have HR := hid hR
  clear hR
  obtain ⟨W0, hW0⟩ : ∃ W0, ((w.alloc (.cells #[.string (bs o), .int .i64 (co : Nat), .int .i64 (mo : Nat)] 172)).alloc (.cells #[.string (bs x), .int .i64 (cx : Nat), .int .i64 (mx : Nat)] 172)) = W0 := ⟨_, rfl⟩
  have hB : Below w.heap.size w W0 := by rw [← hW0]; exact ((Below.refl _ _).alloc (Nat.le_refl _) _).alloc (by simp) _
  have b0 : W0.heap[w.heap.size]? = some (.cells #[.string (bs o), .int .i64 (co : Nat), .int .i64 (mo : Nat)] 172 (0, 0)) := by rw [← hW0]; exact (Go.Lib.alloc_old _ _ _ (by simp)).trans (heap_alloc_new w _)
  have b1 : W0.heap[w.heap.size + 1]? = some (.cells #[.string (bs x), .int .i64 (cx : Nat), .int .i64 (mx : Nat)] 172 (0, 0)) := by
    rw [← hW0]
    have := heap_alloc_new (w.alloc (.cells #[.string (bs o), .int .i64 (co : Nat), .int .i64 (mo : Nat)] 172)) (.cells #[.string (bs x), .int .i64 (cx : Nat), .int .i64 (mx : Nat)] 172)
    simpa using this
  have x0 := cell_at b1 (j := 0) rfl
  have x1 := cell_at b1 (j := 1) rfl
  have x2 := cell_at b1 (j := 2) rfl
  have y0 := cell_at b0 (j := 0) rfl
  have y1 := cell_at b0 (j := 1) rfl
  have y2 := cell_at b0 (j := 2) rfl
  have H1 := hid h1
  have H2 := hid h2
  have HB := hid hB
  clear h1 h2 hB b0 b1
  go_enter Tryz.func127, Tryz.ntmps127
  go_upto_region 1 with fail
  clear hW0
  go_wp2_with fail
  refine (H1.out _ _ _).mono ?_
  rintro e W1 ⟨rfl, hb1⟩
  replace x0 := cell_kept x0 hb1
  replace x1 := cell_kept x1 hb1
  replace x2 := cell_kept x2 hb1
  replace y0 := cell_kept y0 hb1
  replace y1 := cell_kept y1 hb1
  replace y2 := cell_kept y2 hb1
  have HB1 := hid (HB.out.trans (hb1.mono HB.out.size))
  clear hb1 HB
  cases BX with
  | true =>
    have e1 := HR.out
    rw [if_pos rfl] at e1
    by_cases t2 : mo = 5
    · subst t2
      subst e1
      go_wp2_with fail
      go_ret
      exact ⟨rfl, HB1.out⟩
    · have q : ((mo : Int) == 5) = false := by rw [Bool.eq_false_iff]; intro h; rw [beq_iff_eq] at h; omega
      have q2 : (mo == 5) = false := by rw [Bool.eq_false_iff]; intro h; rw [beq_iff_eq] at h; omega
      rw [q2] at e1
      subst e1
      go_wp2_with fail
      go_ret
      exact ⟨rfl, HB1.out⟩
  | false =>
    have e1 := HR.out
    rw [if_neg Bool.false_ne_true] at e1
    by_cases t2 : cx = 4
    · subst t2
      by_cases t3 : mo = 4
      · subst t3
        rw [if_pos ⟨rfl, rfl⟩] at e1
        subst e1
        go_wp2_with fail
        go_ret
        exact ⟨rfl, HB1.out⟩
      · rw [if_neg (fun h => t3 h.2)] at e1
        subst e1
        have q : ((mo : Int) == 4) = false := by rw [Bool.eq_false_iff]; intro h; rw [beq_iff_eq] at h; omega
        go_wp2_with fail
        refine (H2.out _ _ _).mono ?_
        rintro e W2 ⟨rfl, hb2⟩
        have HB2 := hid (HB1.out.trans (hb2.mono HB1.out.size))
        clear hb2
        go_wp2_with fail
        go_ret
        exact ⟨rfl, HB2.out⟩
    · rw [if_neg (fun h => t2 h.1)] at e1
      subst e1
      have q : ((cx : Int) == 4) = false := by rw [Bool.eq_false_iff]; intro h; rw [beq_iff_eq] at h; omega
      go_wp2_with fail
      refine (H2.out _ _ _).mono ?_
      rintro e W2 ⟨rfl, hb2⟩
      have HB2 := hid (HB1.out.trans (hb2.mono HB1.out.size))
      clear hb2
      go_wp2_with fail
      go_ret
      exact ⟨rfl, HB2.out⟩
theorem tail_bs (s : ByteArray) (pos : Nat) : s.extract pos s.size = ⟨(s.data.toList.drop pos).toArray⟩ := by
  have h := Lib.extract_to_end s pos
  apply ByteArray.ext
  apply Array.ext'
  rw [h]
def strN : Value → Nat
  | .string b => b.size
  | _ => 0
set_option maxHeartbeats 1000000 in
theorem trimF_any (t : List UInt8) (w : World) : Calls Tryz.prog 130 #[.string (bs t)] w fun e w' => e = .returned (.string (bs (trimP t))) ∧ w' = w := by
  obtain ⟨R, hR⟩ : ∃ R, trimP t = R := ⟨_, rfl⟩
  have HR := hid (fun (_ : True) => hR)
  rw [hR]
  clear hR
  go_enter Tryz.func130, Tryz.ntmps130
  go_wp2
  go_loopw [0] (fun tv wr => ∃ t : List UInt8, tv = .string (bs t) ∧ wr = w ∧ Hid (True → trimP t = R)) (fun tv _ => strN tv)
  case atStart => exact ⟨t, rfl, rfl, HR⟩
  case round =>
    clear HR
    obtain ⟨t, rfl, rfl, HK⟩ := hrel
    match t, HK with
    | [], HK =>
      have z1 : (bs ([] : List UInt8)).toList = [] := bs_toList []
      have hk : R = [] := (HK.out trivial).symm
      subst hk
      have z2 : ((bs ([] : List UInt8)).toList != []) = false := by rw [z1]; rfl
      have z3 : ((bs ([] : List UInt8)).toList == []) = true := by rw [z1]; rfl
      clear z1
      go_wp2
      go_ret
      exact ⟨rfl, rfl⟩
    | c :: r, HK =>
      have z1 := bs_toList (c :: r)
      have z2 : ((bs (c :: r)).toList != []) = true := by rw [z1]; rfl
      have z3 : ((bs (c :: r)).toList == []) = false := by rw [z1]; rfl
      have hd := HK.out trivial
      have hsz := bs_size (c :: r)
      have hdat := bs_data (c :: r)
      have htl : (bs (c :: r)).extract 1 (bs (c :: r)).size = bs r := by rw [tail_bs]; rfl
      obtain ⟨S, hS⟩ : ∃ S, bs (c :: r) = S := ⟨_, rfl⟩
      rw [hS] at z2 z3 hsz hdat htl
      rw [List.length_cons] at hsz
      rw [hsz] at htl
      have hz : 0 < S.size := by omega
      obtain ⟨y, hy⟩ : ∃ y, S[0]'hz = y := ⟨_, rfl⟩
      have hl := getElem_list hz hy
      rw [hdat, List.getElem?_cons_zero, Option.some.injEq] at hl
      subst hl
      have hsp := fun W => space_any (c.toNat : Int) (by omega) (by have := c.toNat_lt; omega) W
      rw [spaceZ_C] at hsp
      obtain ⟨B, hB⟩ : ∃ b, spaceC c = b := ⟨_, rfl⟩
      rw [hB] at hsp
      have HS := hid hsp
      rw [hS]
      unfold trimP at hd
      rw [List.dropWhile_cons, hB] at hd
      have hsz1 : 1 ≤ S.size := by omega
      have hmeas : (bs r).size < S.size := by rw [bs_size]; omega
      have HSS := hid hS
      clear hsp hS z1 hdat hB HK
      cases B with
      | false =>
        rw [if_neg Bool.false_ne_true] at hd
        go_wp2_with (go_at_call 184; refine (HS.out _).mono ?_; rintro e w' ⟨rfl, rfl⟩)
        go_ret
        subst hd
        exact ⟨by rw [← HSS.out]; rfl, rfl⟩
      | true =>
        rw [if_pos rfl] at hd
        have HD := hid (fun (_ : True) => hd)
        clear hd
        go_wp2_with (go_at_call 184; refine (HS.out _).mono ?_; rintro e w' ⟨rfl, rfl⟩)
        go_roundw
        case rel => exact ⟨r, rfl, by first | rfl | trivial, HD⟩
        case measure => exact hmeas
end Go.Proofs.YtcncbhbdpcpkeaaGreatDoor
