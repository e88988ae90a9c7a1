/-
  Parts of the walk, joined: PolCode, PolCodeB, PolCodeC, PolCodeD, RefWrA, PolRefF.
-/
import Derived.Test.YtkcgmimldjeaiaaGreatDoorJoinC
import Derived.Test.YtkcgmimldjeaiaaGreatDoorJoinE
import Derived.Test.YtkcgmimldjeaiaaGreatDoorByte
import Derived.Test.YtkcgmimldjeaiaaGreatDoorJoinF
import Derived.Test.YtkcgmimldjeaiaaGreatDoorJoinA
/-
  policy.Check: the walks of what it calls.
-/
namespace Go.Proofs.YtkcgmimldjeaiaaGreatDoor
open Go.RowKit Go.Lib Own

/-! ## the code's tables and the reference's -/

theorem vattr_ref (x : List UInt8) : vattrT.contains x = attrT.contains x := by
  have hp : vattrT.Perm attrT := by decide +kernel
  rw [Bool.eq_iff_iff, List.contains_iff_mem, List.contains_iff_mem]
  exact hp.mem_iff
def elemT : List (List UInt8 × Nat × Nat) := kindT.flatMap fun k => k.1.map fun n => (n, k.2)
theorem elem_none : ∀ (K : List (List (List UInt8) × Nat × Nat)) (x : List UInt8), (∀ k ∈ K, x ∉ k.1) → elemF K x = none
  | [], _, _ => rfl
  | k :: r, x, h => by
    have h1 : k.1.contains x = false := by
      have := h k (List.mem_cons_self ..)
      simpa using this
    simp only [elemF, h1, Bool.false_eq_true, if_false]
    exact elem_none r x (fun k hk => h k (List.mem_cons_of_mem _ hk))
/-- what holds of the 37 names and of every unknown one holds of all -/
theorem elem_all (p : List UInt8 → Prop) (h1 : ∀ x ∈ classT.map Prod.fst, p x) (h2 : ∀ x, elemL x = none → classL x = 0 → p x) : ∀ x, p x := by
  intro x
  by_cases hk : x ∈ classT.map Prod.fst
  · exact h1 x hk
  · refine h2 x (elem_none kindT x (fun k hk2 hx => hk ?_)) (find_none _ _ hk)
    have : ∀ k ∈ kindT, ∀ y ∈ k.1, y ∈ classT.map Prod.fst := by decide +kernel
    exact this k hk2 x hx
theorem elem_known (x : List UInt8) : (elemL x).isNone = (classL x == 0) := by
  refine elem_all (fun x => (elemL x).isNone = (classL x == 0)) (by decide +kernel) (fun x h1 h2 => ?_) x
  rw [h1, h2]
  rfl

/-! ## small walks -/

theorem isUnkEl_any (x : ByteArray) (w : World) (hT : KindsTab w) :
    Calls Tryz.prog 34 #[.string x] w fun e w' => e = .returned (.bool (classL x.toList == 0)) ∧ Below w.heap.size w w' := by
  have hf := find_any x w hT
  rw [← elem_known]
  obtain ⟨R, hR⟩ : ∃ R, elemL x.toList = R := ⟨_, rfl⟩
  rw [hR] at hf ⊢
  clear hR hT
  cases R with
  | none =>
    unfold foundV zeroE at hf
    have HF := hid hf
    clear hf
    go_enter Tryz.func34, Tryz.ntmps34
    go_wp2_with (go_at_call 59; refine HF.out.mono ?_; rintro e w1 ⟨rfl, b1⟩)
    go_ret
    exact ⟨rfl, b1.alloc b1.size _⟩
  | some q =>
    obtain ⟨c, m⟩ := q
    unfold foundV elemC at hf
    obtain ⟨S, hS⟩ : ∃ S, bs x.toList = S := ⟨_, rfl⟩
    rw [hS] at hf
    have HF := hid hf
    clear hf hS
    go_enter Tryz.func34, Tryz.ntmps34
    go_wp2_with (go_at_call 59; refine HF.out.mono ?_; rintro e w1 ⟨rfl, b1⟩)
    go_ret
    exact ⟨rfl, b1.alloc b1.size _⟩
theorem isUnkAt_any (x : ByteArray) (w : World) (hT : VAttrTab w) :
    Calls Tryz.prog 62 #[.string x] w fun e w' => e = .returned (.bool (!attrT.contains x.toList)) ∧ w' = w := by
  have hf := isAttr_any x w hT
  rw [vattr_ref] at hf
  generalize attrT.contains x.toList = R at hf ⊢
  have HF := hid hf
  clear hf hT
  go_enter Tryz.func62, Tryz.ntmps62
  go_wp2_with (go_at_call 77; refine HF.out.mono ?_; rintro e w1 ⟨rfl, rfl⟩)
  go_ret
  exact ⟨rfl, rfl⟩

set_option maxHeartbeats 2000000 in
theorem hasTwice_any (v : Value) (ss : List (List UInt8)) (w : World) (h : Words w v ss) :
    Calls Tryz.prog 35 #[v] w fun e w' => e = .returned (.bool (twiceL ss)) ∧ w' = w := by
  have H := hid h
  obtain ⟨p, c, rfl, hc, hm, hcell, _⟩ := h
  have HC := hid hcell
  clear hcell
  have hml : ss.length ≤ 9223372036854775807 := by omega
  go_enter Tryz.func35, Tryz.ntmps35
  go_wp2_with fail
  go_loopw [3, 4, 7] (fun _ _ iv wr => ∃ k : Nat, iv = .int .i64 k ∧ k ≤ ss.length ∧ wr = w ∧ Hid (∀ j s, j < k → ss[j]? = some s → (ss.take j).contains s = false)) (fun _ _ iv _ => ss.length - (RowKit.intOf iv).toNat)
  case atStart => exact ⟨0, rfl, Nat.zero_le _, rfl, hid (fun j s h => absurd h (Nat.not_lt_zero _))⟩
  case round =>
    obtain ⟨k, rfl, hk, rfl, HK⟩ := hrel
    by_cases hkl : k < ss.length
    · obtain ⟨s, hs⟩ : ∃ s, ss[k]? = some s := ⟨_, List.getElem?_eq_getElem hkl⟩
      obtain ⟨b, o, rfl, hc1⟩ := HC.out k s hs
      have hho := slContains_any _ _ (bs s) wr (H.out.front k (by omega))
      rw [bs_toList] at hho
      obtain ⟨R, hR⟩ : ∃ R, (ss.take k).contains s = R := ⟨_, rfl⟩
      rw [hR] at hho
      have HS := hid (And.intro hs hR)
      have HH := hid hho
      obtain ⟨S, hS⟩ : ∃ S, bs s = S := ⟨_, rfl⟩
      rw [hS] at hc1 HH
      have hkc : k ≤ c := by omega
      clear hs hR hho hS HC H
      cases R
      · go_wp2_with (go_at_call 60; refine HH.out.mono ?_; rintro e w1 ⟨rfl, rfl⟩)
        go_roundw
        case rel =>
          refine ⟨k + 1, rfl, by omega, by first | rfl | trivial, hid (fun j t hj ht => ?_)⟩
          by_cases hjk : j = k
          · subst hjk
            rw [HS.out.1] at ht
            obtain rfl := Option.some.inj ht
            exact HS.out.2
          · exact HK.out j t (by omega) ht
        case measure => simp [RowKit.intOf]; omega
      · go_wp2_with (go_at_call 60; refine HH.out.mono ?_; rintro e w1 ⟨rfl, rfl⟩)
        go_ret
        exact ⟨by rw [twice_yes HS.out.1 HS.out.2]; rfl, rfl⟩
    · go_wp2_with fail
      go_ret
      exact ⟨by rw [twice_no (fun j s hj => HK.out j s (by have := (List.getElem?_eq_some_iff.1 hj).1; omega) hj)]; rfl, rfl⟩
end Go.Proofs.YtkcgmimldjeaiaaGreatDoor

/-
  policy.Check: words, schemes, drops: their walks.
-/
namespace Go.Proofs.YtkcgmimldjeaiaaGreatDoor
open Go.RowKit Go.Lib Own

theorem u8_bool (p : UInt8 → Bool) (h : ∀ n, n < 256 → p (UInt8.ofNat n) = true) (c : UInt8) : p c = true := by
  have := h c.toNat (UInt8.toNat_lt c)
  rwa [UInt8.ofNat_toNat] at this
theorem small_iff (c : UInt8) : smallL.contains c = decide (97 ≤ c.toNat ∧ c.toNat ≤ 122) := by
  have := u8_bool (fun c => smallL.contains c == decide (97 ≤ c.toNat ∧ c.toNat ≤ 122)) (by decide +kernel) c
  exact beq_iff_eq.1 this
theorem digit_iff (c : UInt8) : digitL.contains c = decide (48 ≤ c.toNat ∧ c.toNat ≤ 57) := by
  have := u8_bool (fun c => digitL.contains c == decide (48 ≤ c.toNat ∧ c.toNat ≤ 57)) (by decide +kernel) c
  exact beq_iff_eq.1 this
def okc (sg : List UInt8) (c : UInt8) : Bool := smallL.contains c || (digitL.contains c || sg.contains c)
def wordLenL (sg : List UInt8) : List UInt8 → Nat
  | [] => 0
  | c :: r => if smallL.contains c = true then 1 + (r.takeWhile (okc sg)).length else 0
theorem wordLen_cons (sg : List UInt8) (c : UInt8) (r : List UInt8) : wordLenL sg (c :: r) = if smallL.contains c = true then 1 + (r.takeWhile (okc sg)).length else 0 := rfl
theorem wordLen_le (sg : List UInt8) : ∀ L, wordLenL sg L ≤ L.length
  | [] => Nat.le_refl _
  | c :: r => by
    rw [wordLen_cons]
    have := (List.takeWhile_prefix (p := okc sg) (l := r)).length_le
    split
    · rw [List.length_cons]; omega
    · omega
/-- what holds while a word is read: all of the first k bytes belong to it -/
def WordAt (sg L : List UInt8) (k : Nat) : Prop := (k = 0 ∨ smallL.contains (L.headD 0) = true) ∧ ∀ j c, 0 < j → j < k → L[j]? = some c → okc sg c = true
theorem tw_len (p : UInt8 → Bool) : ∀ (r : List UInt8) (k : Nat), (∀ j c, j < k → r[j]? = some c → p c = true) → (∀ c, r[k]? = some c → p c = false) → k ≤ r.length → (r.takeWhile p).length = k
  | [], k, _, _, h => by simp at h; subst h; rfl
  | c :: r, 0, _, h, _ => by
    have := h c rfl
    rw [List.takeWhile_cons, this]
    rfl
  | c :: r, k + 1, h1, h2, h3 => by
    have hc := h1 0 c (by omega) rfl
    rw [List.takeWhile_cons, hc]
    simp only [if_true, List.length_cons]
    rw [tw_len p r k (fun j d hj hd => h1 (j + 1) d (by omega) (by rw [List.getElem?_cons_succ]; exact hd)) (fun d hd => h2 d (by rw [List.getElem?_cons_succ]; exact hd)) (by simpa using h3)]
theorem word_stop {sg L : List UInt8} {k : Nat} {c : UInt8} (h : WordAt sg L k) (hc : L[k]? = some c) (h0 : smallL.contains c = false) (h1 : k = 0 ∨ (digitL.contains c = false ∧ sg.contains c = false)) : wordLenL sg L = k := by
  cases L with
  | nil => simp at hc
  | cons d r =>
    cases k with
    | zero =>
      simp only [List.getElem?_cons_zero, Option.some.injEq] at hc
      subst hc
      rw [wordLen_cons, h0]
      rfl
    | succ k =>
      have hd : smallL.contains d = true := by
        rcases h.1 with h | h
        · omega
        · exact h
      rw [List.getElem?_cons_succ] at hc
      rw [wordLen_cons, if_pos hd, tw_len (okc sg) r k (fun j e hj he => h.2 (j + 1) e (by omega) (by omega) (by rw [List.getElem?_cons_succ]; exact he)) (fun e he => ?_) (Nat.le_of_lt (List.getElem?_eq_some_iff.1 hc).1)]
      · omega
      · obtain rfl := Option.some.inj (hc.symm.trans he)
        unfold okc
        rcases h1 with h1 | h1
        · omega
        · rw [h0, h1.1, h1.2]; rfl
theorem word_end {sg L : List UInt8} (h : WordAt sg L L.length) : wordLenL sg L = L.length := by
  cases L with
  | nil => rfl
  | cons d r =>
    have hd : smallL.contains d = true := by
      rcases h.1 with h | h
      · simp at h
      · exact h
    rw [wordLen_cons, if_pos hd, tw_len (okc sg) r r.length (fun j e hj he => h.2 (j + 1) e (by omega) (by simp; omega) (by rw [List.getElem?_cons_succ]; exact he)) (fun e he => by simp at he) (Nat.le_refl _)]
    rw [List.length_cons]; omega
theorem word_go {sg L : List UInt8} {k : Nat} {c : UInt8} (h : WordAt sg L k) (hc : L[k]? = some c) (h1 : smallL.contains c = true ∨ (k ≠ 0 ∧ okc sg c = true)) : WordAt sg L (k + 1) := by
  refine ⟨.inr ?_, fun j d h2 h3 hd => ?_⟩
  · rcases h.1 with h0 | h0
    · subst h0
      cases L with
      | nil => simp at hc
      | cons e r =>
        simp only [List.getElem?_cons_zero, Option.some.injEq] at hc
        subst hc
        rcases h1 with h1 | h1
        · exact h1
        · exact absurd rfl h1.1
    · exact h0
  · by_cases e : j = k
    · subst e
      obtain rfl := Option.some.inj (hc.symm.trans hd)
      rcases h1 with h1 | h1
      · unfold okc; rw [h1, Bool.true_or]
      · exact h1.2
    · exact h.2 j d h2 (by omega) hd
theorem word_is (sg L : List UInt8) : isWordL (smallL ++ digitL ++ sg) L = (!(L == []) && (decide (L.length ≤ 32) && (wordLenL sg L == L.length))) := by
  have hok : (smallL ++ digitL ++ sg).contains = okc sg := by
    funext c
    unfold okc
    rw [List.append_assoc, List.contains_append, List.contains_append]
  unfold isWordL
  rw [hok]
  cases L with
  | nil => simp
  | cons d r =>
    have hd : (List.headD (d :: r) 0) = d := rfl
    rw [hd]
    have e1 : ((d :: r) == ([] : List UInt8)) = false := rfl
    rw [e1, decide_eq_true (show 1 ≤ (d :: r).length by simp)]
    simp only [Bool.not_false, Bool.true_and]
    congr 1
    rw [wordLen_cons]
    cases h : smallL.contains d with
    | false => simp
    | true =>
      simp only [if_true, Bool.true_and, List.all_cons]
      have h2 : okc sg d = true := by unfold okc; rw [h, Bool.true_or]
      rw [h2, Bool.true_and, Bool.eq_iff_iff, ← all_while, beq_iff_eq, List.length_cons]
      omega

set_option maxHeartbeats 4000000 in
set_option maxRecDepth 100000 in
theorem wordLen_any (x sg : ByteArray) (w : World) (hx : x.size ≤ 1000000000) :
    Calls Tryz.prog 78 #[.string x, .string sg] w fun e w' => e = .returned (.int .i64 (wordLenL sg.data.toList x.data.toList)) ∧ w' = w := by
  have hxz := size_eq x
  obtain ⟨R, hR⟩ : ∃ R, wordLenL sg.data.toList x.data.toList = R := ⟨_, rfl⟩
  rw [hR]
  have HR := hid (fun (_ : True) => hR)
  have HZ := hid hxz
  clear hR hxz
  go_enter Tryz.func78, Tryz.ntmps78
  go_wp2_with fail
  go_loopw [5, 6, 9] (fun _ _ iv wr => ∃ k : Nat, iv = .int .i64 k ∧ k ≤ x.size ∧ wr = w ∧ Hid (WordAt sg.data.toList x.data.toList k)) (fun _ _ iv _ => x.size - (RowKit.intOf iv).toNat)
  case atStart => exact ⟨0, rfl, Nat.zero_le _, rfl, ⟨.inl rfl, fun j c h1 h2 => by omega⟩⟩
  case round =>
    obtain ⟨k, rfl, hk, rfl, HK⟩ := hrel
    by_cases hkl : k < x.size
    · obtain ⟨c, hc⟩ : ∃ c, x[k]'hkl = c := ⟨_, rfl⟩
      have hcl := getElem_list hkl hc
      have hs := small_iff c
      have hdg := digit_iff c
      by_cases h1 : 97 ≤ c.toNat ∧ c.toNat ≤ 122
      · rw [decide_eq_true h1] at hs
        have HN := hid (word_go HK.out hcl (.inl hs))
        obtain ⟨q1, q2⟩ := h1
        have z1 : (97 : Int) ≤ (c.toNat : Int) := by omega
        have z2 : (c.toNat : Int) ≤ 122 := by omega
        clear hcl hs hdg HK HR
        go_wp2_with fail
        go_roundw
        case rel => exact ⟨k + 1, rfl, by omega, by first | rfl | trivial, HN⟩
        case measure => simp [RowKit.intOf]; omega
      · rw [decide_eq_false h1] at hs
        have z1 : (decide ((97 : Int) ≤ (c.toNat : Int)) && decide ((c.toNat : Int) ≤ 122)) = false := by
          rw [Bool.and_eq_false_iff, decide_eq_false_iff_not, decide_eq_false_iff_not]
          omega
        by_cases hk0 : k = 0
        · subst hk0
          have hst := word_stop HK.out hcl hs (.inl rfl)
          rw [HR.out trivial] at hst
          subst hst
          have hu := UInt8.toNat_lt c
          clear hcl hs hdg HK HR
          by_cases g1 : (97 : Int) ≤ (c.toNat : Int)
          · have g2 : ¬ ((c.toNat : Int) ≤ 122) := by omega
            clear h1 z1
            go_wp2_with fail
            go_ret
            exact ⟨rfl, rfl⟩
          · clear h1 z1
            go_wp2_with fail
            go_ret
            exact ⟨rfl, rfl⟩
        · have qk : ((k : Int) == 0) = false := beq_eq_false_iff_ne.2 (by omega)
          have hu := UInt8.toNat_lt c
          have hdig := fun W => dig_any (c.toNat : Int) (by omega) (by omega) W
          have hdz : isDigZ (c.toNat : Int) = digitL.contains c := by
            rw [hdg]
            unfold isDigZ
            rw [Bool.eq_iff_iff, decide_eq_true_iff, decide_eq_true_iff]
            omega
          rw [hdz] at hdig
          have hib := fun W => Tryz.strings_IndexByte sg (c.toNat : Int) W
          have hback : ((c.toNat : Int)).toNat.toUInt8 = c := by simp
          rw [hback] at hib
          have hcon := Lib.contains_iff_indexByte sg.data.toList c
          generalize Lib.indexByte sg.data.toList c = z at hib hcon
          have HIB := hid hib
          have hcs : ∀ b1 b2, digitL.contains c = b1 → sg.data.toList.contains c = b2 → (b1 = true ∨ b2 = true → WordAt sg.data.toList x.data.toList (k + 1)) ∧ (b1 = false → b2 = false → R = k) := by
            intro b1 b2 e1 e2
            refine ⟨fun h => word_go HK.out hcl (.inr ⟨hk0, ?_⟩), fun h2 h3 => ?_⟩
            · unfold okc
              rw [hs, e1, e2]
              rcases h with h | h <;> simp [h]
            · rw [← HR.out trivial]
              exact word_stop HK.out hcl hs (.inr ⟨e1.trans h2, e2.trans h3⟩)
          have HCS := hid (hcs _ _ rfl rfl)
          generalize sg.data.toList.contains c = b2 at hcon HCS
          generalize digitL.contains c = b1 at hdig HCS
          have HD := hid hdig
          clear hcs hcl hs hdg HK HR hib hdig hdz hback
          have key : ∀ (P : Prop), ((97 : Int) ≤ (c.toNat : Int) → ¬ ((c.toNat : Int) ≤ 122) → P) → (¬ (97 : Int) ≤ (c.toNat : Int) → P) → P := fun P f1 f2 => by
            by_cases g1 : (97 : Int) ≤ (c.toNat : Int)
            · exact f1 g1 (by omega)
            · exact f2 g1
          clear h1 z1
          cases b1
          · cases b2
            · have hz : z < 0 := by have := of_decide_eq_false hcon.symm; omega
              obtain rfl := HCS.out.2 rfl rfl
              clear hcon HCS
              refine key _ (fun g1 g2 => ?_) (fun g1 => ?_)
              all_goals
                clear key
                go_wp2_with (first | (go_at_call 88; refine (HD.out _).mono ?_; rintro e w' ⟨rfl, rfl⟩) | (go_at_call 89; refine (HIB.out _).mono ?_; rintro e w' ⟨rfl, rfl⟩))
                go_ret
                exact ⟨rfl, rfl⟩
            · have hz : ¬ z < 0 := by have := of_decide_eq_true hcon.symm; omega
              have HN := hid (HCS.out.1 (.inr rfl))
              clear hcon HCS
              refine key _ (fun g1 g2 => ?_) (fun g1 => ?_)
              all_goals
                clear key
                go_wp2_with (first | (go_at_call 88; refine (HD.out _).mono ?_; rintro e w' ⟨rfl, rfl⟩) | (go_at_call 89; refine (HIB.out _).mono ?_; rintro e w' ⟨rfl, rfl⟩))
                go_roundw
              case rel => exact ⟨k + 1, rfl, by omega, by first | rfl | trivial, HN⟩
              case measure => simp [RowKit.intOf]; omega
              case rel => exact ⟨k + 1, rfl, by omega, by first | rfl | trivial, HN⟩
              case measure => simp [RowKit.intOf]; omega
          · have HN := hid (HCS.out.1 (.inl rfl))
            clear hcon HCS
            refine key _ (fun g1 g2 => ?_) (fun g1 => ?_)
            all_goals
              clear key
              go_wp2_with (first | (go_at_call 88; refine (HD.out _).mono ?_; rintro e w' ⟨rfl, rfl⟩) | (go_at_call 89; refine (HIB.out _).mono ?_; rintro e w' ⟨rfl, rfl⟩))
              go_roundw
            case rel => exact ⟨k + 1, rfl, by omega, by first | rfl | trivial, HN⟩
            case measure => simp [RowKit.intOf]; omega
            case rel => exact ⟨k + 1, rfl, by omega, by first | rfl | trivial, HN⟩
            case measure => simp [RowKit.intOf]; omega
    · obtain rfl : k = x.size := by omega
      have hst := word_end (sg := sg.data.toList) (L := x.data.toList) (by rw [← HZ.out]; exact HK.out)
      rw [HR.out trivial, ← HZ.out] at hst
      subst hst
      clear HK HR HZ
      go_wp2_with fail
      go_ret
      exact ⟨rfl, rfl⟩
end Go.Proofs.YtkcgmimldjeaiaaGreatDoor

/-
  policy.Check: predicates on words and rules, and Check itself: their walks.
-/
namespace Go.Proofs.YtkcgmimldjeaiaaGreatDoor
open Go.RowKit Go.Lib Own

set_option maxHeartbeats 2000000 in
set_option maxRecDepth 100000 in
theorem isWord_any (x sg : ByteArray) (w : World) (hx : x.size ≤ 1000000000) :
    Calls Tryz.prog 63 #[.string x, .string sg] w fun e w' => e = .returned (.bool (isWordL (smallL ++ digitL ++ sg.data.toList) x.toList)) ∧ w' = w := by
  have hw := fun W => wordLen_any x sg W hx
  have hxz := size_eq x
  have hle := wordLen_le sg.data.toList x.data.toList
  rw [← hxz] at hle
  rw [word_is]
  have htl : x.toList = x.data.toList := Lib.toList_data x
  have q0 : (x.toList == []) = (x.data.toList == []) := by rw [htl]
  rw [htl, ← hxz]
  generalize wordLenL sg.data.toList x.data.toList = n at hw hle ⊢
  by_cases h0 : x.data.toList = []
  · rw [h0] at q0 ⊢
    have q1 : (x.toList == []) = true := q0
    clear hw htl hxz q0 h0
    go_enter Tryz.func63, Tryz.ntmps63
    go_wp2
    go_ret
    exact ⟨rfl, rfl⟩
  · have e0 : (x.data.toList == []) = false := beq_eq_false_iff_ne.2 h0
    have q1 : (x.toList == []) = false := q0.trans e0
    rw [e0]
    by_cases h32 : x.size ≤ 32
    · rw [decide_eq_true h32]
      have z1 : (x.size : Int) ≤ 32 := by omega
      by_cases hn : n = x.size
      · subst hn
        have HW := hid hw
        clear hw htl hxz q0 h0 e0
        go_enter Tryz.func63, Tryz.ntmps63
        go_wp2_with (go_at_call 78; refine (HW.out _).mono ?_; rintro e w' ⟨rfl, rfl⟩)
        go_ret
        exact ⟨ret_bool (by simp), rfl⟩
      · have e1 : (n == x.size) = false := beq_eq_false_iff_ne.2 hn
        have z2 : ((n : Int) == (x.size : Int)) = false := beq_eq_false_iff_ne.2 (by omega)
        rw [e1]
        have HW := hid hw
        clear hw htl hxz q0 h0 e0 e1 hn
        go_enter Tryz.func63, Tryz.ntmps63
        go_wp2_with (go_at_call 78; refine (HW.out _).mono ?_; rintro e w' ⟨rfl, rfl⟩)
        go_ret
        exact ⟨ret_bool (by simp), rfl⟩
    · rw [decide_eq_false h32]
      have z1 : ¬ (x.size : Int) ≤ 32 := by omega
      clear hw htl hxz q0 h0 e0 hle
      go_enter Tryz.func63, Tryz.ntmps63
      go_wp2
      go_ret
      exact ⟨rfl, rfl⟩

set_option maxHeartbeats 2000000 in
set_option maxRecDepth 100000 in
theorem isBadScheme_any (x : ByteArray) (w : World) (hx : x.size ≤ 1000000000) :
    Calls Tryz.prog 39 #[.string x] w fun e w' => e = .returned (.bool (wrongSchemeP x.toList)) ∧ w' = w := by
  have hw := fun W => isWord_any x (bs [43, 45, 46]) W hx
  rw [show smallL ++ digitL ++ (bs [43, 45, 46]).data.toList = schemeL from rfl] at hw
  unfold wrongSchemeP
  obtain ⟨B, hB⟩ : ∃ B, isWordL schemeL x.toList = B := ⟨_, rfl⟩
  rw [hB] at hw ⊢
  have HW := hid hw
  unfold bs at HW
  clear hw hB
  obtain ⟨b1, h1⟩ : ∃ b1, (x.toList == [106, 97, 118, 97, 115, 99, 114, 105, 112, 116]) = b1 := ⟨_, rfl⟩
  obtain ⟨b2, h2⟩ : ∃ b2, (x.toList == [118, 98, 115, 99, 114, 105, 112, 116]) = b2 := ⟨_, rfl⟩
  obtain ⟨b3, h3⟩ : ∃ b3, (x.toList == [100, 97, 116, 97]) = b3 := ⟨_, rfl⟩
  rw [h1, h2, h3]
  cases b1
  · cases b2
    · cases b3
      · go_enter Tryz.func39, Tryz.ntmps39
        go_wp2_with (go_at_call 63; refine (HW.out _).mono ?_; rintro e w' ⟨rfl, rfl⟩)
        go_ret
        exact ⟨ret_bool (by cases B <;> rfl), rfl⟩
      · go_enter Tryz.func39, Tryz.ntmps39
        go_wp2
        go_ret
        exact ⟨ret_bool (by cases B <;> rfl), rfl⟩
    · go_enter Tryz.func39, Tryz.ntmps39
      go_wp2
      go_ret
      exact ⟨ret_bool (by cases B <;> rfl), rfl⟩
  · go_enter Tryz.func39, Tryz.ntmps39
    go_wp2
    go_ret
    exact ⟨ret_bool (by cases B <;> rfl), rfl⟩

set_option maxHeartbeats 4000000 in
set_option maxRecDepth 100000 in
theorem neverEnds_yes (X : List UInt8) (w : World) (hk : X ∈ voidT) :
    Calls Tryz.prog 65 #[.string (bs X)] w fun e w' => e = .returned (.bool true) ∧ w' = w := by
  simp only [voidT, List.mem_cons, List.not_mem_nil, or_false] at hk
  rcases hk with rfl | rfl | rfl | rfl | rfl | rfl | rfl | rfl | rfl | rfl | rfl | rfl | rfl
  all_goals unfold bs
  all_goals go_enter Tryz.func65, Tryz.ntmps65
  all_goals go_wp2
  all_goals go_ret
  all_goals exact ⟨rfl, rfl⟩
set_option maxHeartbeats 4000000 in
set_option maxRecDepth 100000 in
theorem neverEnds_no (x : ByteArray) (w : World) (hk : x.toList ∉ voidT) :
    Calls Tryz.prog 65 #[.string x] w fun e w' => e = .returned (.bool false) ∧ w' = w := by
  simp only [voidT, List.mem_cons, List.not_mem_nil, or_false, not_or] at hk
  obtain ⟨h0, h1, h2, h3, h4, h5, h6, h7, h8, h9, h10, h11, h12⟩ := hk
  replace h0 := ne_beq h0
  replace h1 := ne_beq h1
  replace h2 := ne_beq h2
  replace h3 := ne_beq h3
  replace h4 := ne_beq h4
  replace h5 := ne_beq h5
  replace h6 := ne_beq h6
  replace h7 := ne_beq h7
  replace h8 := ne_beq h8
  replace h9 := ne_beq h9
  replace h10 := ne_beq h10
  replace h11 := ne_beq h11
  replace h12 := ne_beq h12
  go_enter Tryz.func65, Tryz.ntmps65
  go_wp2
  go_ret
  exact ⟨rfl, rfl⟩
theorem neverEnds_any (x : ByteArray) (w : World) :
    Calls Tryz.prog 65 #[.string x] w fun e w' => e = .returned (.bool (voidT.contains x.toList)) ∧ w' = w := by
  by_cases hk : x.toList ∈ voidT
  · have h2 := neverEnds_yes x.toList w hk
    rw [bs_toList2] at h2
    rw [show voidT.contains x.toList = true by simpa using hk]
    exact h2
  · rw [show voidT.contains x.toList = false by simpa using hk]
    exact neverEnds_no x w hk

/-! ## the closures -/

set_option maxHeartbeats 2000000 in
set_option maxRecDepth 100000 in
theorem badDrop_any (x : ByteArray) (B : Nat) (v : Value) (names : List (List UInt8)) (w : World) (hx : x.size ≤ 1000000000) (hB : w.cell? ⟨B, 0, none⟩ = some v) (h : Words w v names) :
    Calls Tryz.prog 64 #[.string x, .pointer (some ⟨B, 0, none⟩)] w fun e w' => e = .returned (.bool (wrongDropP names x.toList)) ∧ w' = w := by
  have hw := fun W => isWord_any x (bs [45]) W hx
  rw [show smallL ++ digitL ++ (bs [45]).data.toList = dropL from rfl] at hw
  have hne := fun W => neverEnds_any x W
  have hct := slContains_any v names x w h
  obtain ⟨p, c, rfl, _⟩ := h.len
  unfold wrongDropP
  generalize isWordL dropL x.toList = b1 at hw ⊢
  generalize voidT.contains x.toList = b2 at hne ⊢
  generalize names.contains x.toList = b3 at hct ⊢
  have HW := hid hw
  have HN := hid hne
  have HC := hid hct
  unfold bs at HW
  clear hw hne hct h
  cases b1
  · go_enter Tryz.func64, Tryz.ntmps64
    go_wp2_with (go_at_call 63; refine (HW.out _).mono ?_; rintro e w' ⟨rfl, rfl⟩)
    go_ret
    exact ⟨ret_bool (by cases b2 <;> rfl), rfl⟩
  · cases b2
    · go_enter Tryz.func64, Tryz.ntmps64
      go_wp2_with (first | (go_at_call 63; refine (HW.out _).mono ?_; rintro e w' ⟨rfl, rfl⟩) | (go_at_call 65; refine (HN.out _).mono ?_; rintro e w' ⟨rfl, rfl⟩) | (go_at_call 60; refine HC.out.mono ?_; rintro e w' ⟨rfl, rfl⟩))
      go_ret
      exact ⟨ret_bool (by cases b3 <;> rfl), rfl⟩
    · go_enter Tryz.func64, Tryz.ntmps64
      go_wp2_with (first | (go_at_call 63; refine (HW.out _).mono ?_; rintro e w' ⟨rfl, rfl⟩) | (go_at_call 65; refine (HN.out _).mono ?_; rintro e w' ⟨rfl, rfl⟩))
      go_ret
      exact ⟨ret_bool (by cases b3 <;> rfl), rfl⟩
theorem partsOne_any (x : ByteArray) (B : Nat) (v : Value) (names : List (List UInt8)) (w : World) (hB : w.cell? ⟨B, 0, none⟩ = some v) (h : Words w v names) :
    Calls Tryz.prog 66 #[.string x, .pointer (some ⟨B, 0, none⟩)] w fun e w' => e = .returned (.bool (names.contains x.toList)) ∧ w' = w := by
  have hct := slContains_any v names x w h
  obtain ⟨p, c, rfl, _⟩ := h.len
  generalize names.contains x.toList = b3 at hct ⊢
  have HC := hid hct
  clear hct h
  go_enter Tryz.func66, Tryz.ntmps66
  go_wp2_with (go_at_call 60; refine HC.out.mono ?_; rintro e w' ⟨rfl, rfl⟩)
  go_ret
  exact ⟨rfl, rfl⟩

/-! ## the predicates, as IndexFunc asks them -/

theorem predEl (w : World) (ss : List (List UInt8)) (hT : KindsTab w) : PredW w 34 #[] ss (fun s => classL s == 0) := fun W s _ hb => by
  have := isUnkEl_any (bs s) W (hT.below hb)
  rw [bs_toList] at this
  exact this.mono (fun _ _ ⟨h1, h2⟩ => ⟨h1, hb.trans (h2.mono hb.size)⟩)
theorem predAt (w : World) (ss : List (List UInt8)) (hT : VAttrTab w) : PredW w 62 #[] ss (fun s => !attrT.contains s) := fun W s _ hb => by
  have := isUnkAt_any (bs s) W (hT.below hb)
  rw [bs_toList] at this
  exact this.mono (fun _ _ ⟨h1, h2⟩ => ⟨h1, by rw [h2]; exact hb⟩)
theorem predSch (w : World) (ss : List (List UInt8)) (hs : ∀ s ∈ ss, s.length ≤ 1000000000) : PredW w 39 #[] ss wrongSchemeP := fun W s hm hb => by
  have := isBadScheme_any (bs s) W (by rw [bs_size]; exact hs s hm)
  rw [bs_toList] at this
  exact this.mono (fun _ _ ⟨h1, h2⟩ => ⟨h1, by rw [h2]; exact hb⟩)
theorem predDrop (w : World) (ss : List (List UInt8)) (B : Nat) (v : Value) (names : List (List UInt8)) (hs : ∀ s ∈ ss, s.length ≤ 1000000000) (hB : w.cell? ⟨B, 0, none⟩ = some v) (h : Words w v names) :
    PredW w 64 #[.pointer (some ⟨B, 0, none⟩)] ss (wrongDropP names) := fun W s hm hb => by
  have := badDrop_any (bs s) B v names W (by rw [bs_size]; exact hs s hm) (cell_kept hB hb) (h.below hb)
  rw [bs_toList] at this
  exact this.mono (fun _ _ ⟨h1, h2⟩ => ⟨h1, by rw [h2]; exact hb⟩)

set_option maxHeartbeats 1000000 in
theorem listsUnk_any (r : RuleP) (u : Value) (w : World) (h : Words w u r.2) (hT : VAttrTab w) :
    Calls Tryz.prog 37 #[.agg #[.string (bs r.1), u]] w fun e w' => e = .returned (.bool (r.2.any fun a => !attrT.contains a)) ∧ Below w.heap.size w w' := by
  have hb := (Below.refl w.heap.size w).alloc (Nat.le_refl _) (.cells #[.string (bs r.1), u] 53)
  have hn := heap_alloc_new w (.cells #[.string (bs r.1), u] 53)
  have hc := slContainsFunc_any 62 #[] (enters_of Tryz.func62 (by kernel_rfl) rfl) _ u r.2 _ (h.below hb) (predAt _ r.2 (hT.below hb))
  have c1 := cell_at hn (j := 1) rfl
  obtain ⟨p, c, rfl, _⟩ := h.len
  obtain ⟨R, hR⟩ : ∃ R, r.2.any (fun a => !attrT.contains a) = R := ⟨_, rfl⟩
  obtain ⟨S, hS⟩ : ∃ S, bs r.1 = S := ⟨_, rfl⟩
  rw [hR, hS] at hc
  rw [hS] at c1 hb ⊢
  rw [hR]
  have HC := hid hc
  have HB := hid hb
  clear hc hR hS h hn hb
  go_enter Tryz.func37, Tryz.ntmps37
  go_wp2_with (go_at_call 33; refine HC.out.mono ?_; rintro e w' ⟨rfl, b1⟩)
  go_ret
  exact ⟨rfl, HB.out.trans (b1.mono HB.out.size)⟩
set_option maxHeartbeats 1000000 in
theorem listsTw_any (r : RuleP) (u : Value) (w : World) (h : Words w u r.2) :
    Calls Tryz.prog 38 #[.agg #[.string (bs r.1), u]] w fun e w' => e = .returned (.bool (twiceL r.2)) ∧ Below w.heap.size w w' := by
  have hb := (Below.refl w.heap.size w).alloc (Nat.le_refl _) (.cells #[.string (bs r.1), u] 53)
  have hn := heap_alloc_new w (.cells #[.string (bs r.1), u] 53)
  have hc := hasTwice_any u r.2 _ (h.below hb)
  have c1 := cell_at hn (j := 1) rfl
  obtain ⟨p, c, rfl, _⟩ := h.len
  obtain ⟨R, hR⟩ : ∃ R, twiceL r.2 = R := ⟨_, rfl⟩
  obtain ⟨S, hS⟩ : ∃ S, bs r.1 = S := ⟨_, rfl⟩
  rw [hR, hS] at hc
  rw [hS] at c1 hb ⊢
  rw [hR]
  have HC := hid hc
  have HB := hid hb
  clear hc hR hS h hn hb
  go_enter Tryz.func38, Tryz.ntmps38
  go_wp2_with (go_at_call 35; refine HC.out.mono ?_; rintro e w' ⟨rfl, rfl⟩)
  go_ret
  exact ⟨rfl, HB.out⟩
theorem predUnk (w : World) (rs : List RuleP) (hT : VAttrTab w) : PredR w 37 #[] rs (fun r => r.2.any fun a => !attrT.contains a) := fun W r u _ hu hb =>
  (listsUnk_any r u W (hu.below hb) (hT.below hb)).mono (fun _ _ ⟨h1, h2⟩ => ⟨h1, hb.trans (h2.mono hb.size)⟩)
theorem predTw (w : World) (rs : List RuleP) : PredR w 38 #[] rs (fun r => twiceL r.2) := fun W r u _ hu hb =>
  (listsTw_any r u W (hu.below hb)).mono (fun _ _ ⟨h1, h2⟩ => ⟨h1, hb.trans (h2.mono hb.size)⟩)
end Go.Proofs.YtkcgmimldjeaiaaGreatDoor

/-
  policy.Check: names and drops: their walks.
-/
namespace Go.Proofs.YtkcgmimldjeaiaaGreatDoor
open Go.RowKit Go.Lib Own

set_option maxHeartbeats 2000000 in
set_option maxRecDepth 100000 in
theorem ruleNames_any (vr : Value) (rs : List RuleP) (w : World) (h : RulesR w vr rs) (hn : rs.length ≤ 2000000) :
    Calls Tryz.prog 32 #[vr] w fun e w' => ∃ v, e = .returned v ∧ Words w' v (rs.map Prod.fst) ∧ Below w.heap.size w w' := by
  obtain ⟨i0, hi, hz0, hz1, hz2⟩ := info_parts info_str
  obtain ⟨rp, rc, rfl, hr1, hr2, hr3⟩ := h
  have HR := hid hr3
  have H0 : Hid (Below w.heap.size w w ∧ w.ownsRow w.heap.size 9 1 (.slice none 0 0) 0 (((rs.take 0).map Prod.fst).map fun s => .string (bs s))) := ⟨Below.refl _ _, World.ownsRow_nil _ _ _ _⟩
  clear hr3
  go_enter Tryz.func32, Tryz.ntmps32
  go_wp2_with fail
  go_loopw [3, 5, 8] (fun nv _ iv wr => ∃ k : Nat, iv = .int .i64 k ∧ k ≤ rs.length ∧ Hid (Below w.heap.size w wr ∧ wr.ownsRow w.heap.size 9 1 nv k (((rs.take k).map Prod.fst).map fun s => .string (bs s)))) (fun _ _ iv _ => rs.length - (RowKit.intOf iv).toNat)
  case atStart => exact ⟨0, rfl, Nat.zero_le _, H0⟩
  case round =>
    obtain ⟨k, rfl, hk, HX⟩ := hrel
    obtain ⟨np, nc, rfl⟩ := row_shape HX.out.2
    by_cases hkl : k < rs.length
    · obtain ⟨r, hr⟩ : ∃ r, rs[k]? = some r := ⟨_, List.getElem?_eq_getElem hkl⟩
      obtain ⟨b, o, u, rfl, hc1, hc3, hwu⟩ := HR.out k r hr
      have hc2 := cell_low hc1 HX.out.1 (cell_block hc1)
      replace hc3 := cell_low hc3 HX.out.1 (cell_block hc3)
      obtain ⟨up, uc, rfl, _⟩ := hwu.len
      obtain ⟨S, hS⟩ : ∃ S, bs r.1 = S := ⟨_, rfl⟩
      rw [hS] at hc2
      have hown := HX.out.2
      have hbs := HX.out.1.size
      have hst : ((rs.take (k + 1)).map Prod.fst).map (fun s => Value.string (bs s)) = ((rs.take k).map Prod.fst).map (fun s => Value.string (bs s)) ++ [.string S] := by
        rw [List.take_add_one, hr, ← hS]
        simp
      obtain ⟨LK, hLK⟩ : ∃ LK, ((rs.take k).map Prod.fst).map (fun s => Value.string (bs s)) = LK := ⟨_, rfl⟩
      rw [hLK] at hst hown
      have HST := hid (fun (_ : True) => hst)
      clear hr hc1 hS hst H0 hLK hwu
      have hcn : ∀ j u, [Value.string S][j]? = some u → ((wr.alloc (.cells #[.string S, .slice up r.2.length uc] 53)).alloc (.cells #[.string S] 9)).cell? ((⟨wr.heap.size + 1, 0, none⟩ : Addr).add j) = some u := by
        have := cells_newV [.string S] 9 (wr.alloc (.cells #[.string S, .slice up r.2.length uc] 53))
        simpa using this
      have HCN := hid hcn
      clear hcn
      go_wp2_with (at_builtin; refine wpList_append_own _ rfl (.tmp 12) (.tmp 15) 23 rfl w.heap.size 9 i0 (.string ⟨#[]⟩) 1 16 Tryz.underlying23 hi hz0 hz1 hz2 rfl (by decide) _ _ _ rfl ((hown.alloc _).alloc _) ⟨_, 0, none⟩ 1 1 [.string S] rfl rfl HCN.out (by simp [Value.oneCell']) (by unfold maxLen; omega) (by omega) (by simp; omega) ?_)
      intro v' w2 hown2 hgrow2 _
      have hbel2 : Below w.heap.size w w2 := ((HX.out.1.alloc hbs _).alloc (by simp; omega) _).grown hgrow2 (by simp; omega) (fun k hk => (hown.lt k hk).1)
      rw [← HST.out trivial] at hown2
      have HZ := hid (And.intro hbel2 hown2)
      clear hbel2 hown2 hgrow2 hown HX hc2 hc3 HCN
      go_wp2_with fail
      go_roundw
      case rel => first | exact ⟨k + 1, rfl, by omega, HZ⟩ | ((repeat apply Exists.intro); exact ⟨⟨k + 1, rfl, by omega, HZ⟩, rfl⟩)
      case measure => simp [RowKit.intOf]; omega
    · obtain rfl : k = rs.length := by omega
      have hw : Words wr (.slice np rs.length nc) (rs.map Prod.fst) := by
        have := HX.out.2
        rw [List.take_length] at this
        exact Words.row (by rw [List.length_map]; exact this)
      have HW := hid (And.intro hw HX.out.1)
      clear hw HX H0
      go_wp2_with fail
      go_ret
      exact ⟨_, rfl, HW.out.1, HW.out.2⟩

set_option maxHeartbeats 2000000 in
set_option maxRecDepth 100000 in
theorem hasBadDrop_any (vd vn : Value) (ds names : List (List UInt8)) (w : World) (h : Words w vd ds) (hn : Words w vn names) (hs : ∀ s ∈ ds, s.length ≤ 1000000000) (hl : ds.length ≤ 2000000) :
    Calls Tryz.prog 40 #[vd, vn] w fun e w' => e = .returned (.bool ((decide (64 < ds.length) || twiceL ds) || ds.any (wrongDropP names))) ∧ Below w.heap.size w w' := by
  have hb := (Below.refl w.heap.size w).alloc (Nat.le_refl _) (.cells #[vn] 23)
  have hw := heap_alloc_new w (.cells #[vn] 23)
  have htw := hasTwice_any vd ds _ (h.below hb)
  have hcf := slContainsFunc_any 64 #[.pointer (some ⟨w.heap.size, 0, none⟩)] (enters_of Tryz.func64 (by kernel_rfl) rfl) _ vd ds _ (h.below hb) (predDrop _ ds w.heap.size vn names hs (cell_at hw rfl) (hn.below hb))
  obtain ⟨dp, dc, rfl, _⟩ := h.len
  obtain ⟨np, nc, rfl, _⟩ := hn.len
  generalize twiceL ds = b1 at htw ⊢
  generalize ds.any (wrongDropP names) = b2 at hcf ⊢
  have HT := hid htw
  have HC := hid hcf
  have HB := hid hb
  have hmf : ∀ (fn : Fn) (first cap : Array Value) (w : World), (Instr.makeFunc fn first cap).run Tryz.prog w = .ok (.func fn first cap) w := fun _ _ _ _ => rfl
  clear htw hcf h hn hw hb
  by_cases h64 : 64 < ds.length
  · rw [decide_eq_true h64]
    have z : (ds.length : Int) > 64 := by omega
    go_enter Tryz.func40, Tryz.ntmps40
    go_wp2_with fail
    go_ret
    exact ⟨rfl, HB.out⟩
  · rw [decide_eq_false h64]
    have z : ¬ ((ds.length : Int) > 64) := by omega
    cases b1
    · go_enter Tryz.func40, Tryz.ntmps40
      go_wp2_with (first | (go_at_call 35; refine HT.out.mono ?_; rintro e w1 ⟨rfl, rfl⟩) | (go_at_call 33; refine HC.out.mono ?_; rintro e w1 ⟨rfl, b1⟩))
      go_ret
      exact ⟨rfl, HB.out.trans (b1.mono HB.out.size)⟩
    · go_enter Tryz.func40, Tryz.ntmps40
      go_wp2_with (go_at_call 35; refine HT.out.mono ?_; rintro e w1 ⟨rfl, rfl⟩)
      go_ret
      exact ⟨rfl, HB.out⟩
end Go.Proofs.YtkcgmimldjeaiaaGreatDoor

/-
  The reference's written, escaped: their walks.
-/
namespace Go.Proofs.YtkcgmimldjeaiaaGreatDoor
open Go.RowKit Go.Lib Own

/-- one sign as it is written, and how many bytes it has -/
def wr1 (q : Bool) : List UInt8 → List UInt8 × Nat
  | [] => ([], 1)
  | c :: r => if c = 38 then (ampE, 1) else if c = 60 then (ltE, 1) else if c = 62 then (gtE, 1) else if c = 34 ∧ q = true then (quotE, 1) else if c = 194 ∧ r.head? = some 160 then (nbspE, 2) else ([c], 1)
theorem wr1_cons (q : Bool) (c : UInt8) (r : List UInt8) : wr1 q (c :: r) = if c = 38 then (ampE, 1) else if c = 60 then (ltE, 1) else if c = 62 then (gtE, 1) else if c = 34 ∧ q = true then (quotE, 1) else if c = 194 ∧ r.head? = some 160 then (nbspE, 2) else ([c], 1) := rfl
theorem esc_wr (q : Bool) (c : UInt8) (r : List UInt8) : escL q (c :: r) = (wr1 q (c :: r)).1 ++ escL q ((c :: r).drop (wr1 q (c :: r)).2) ∧ 1 ≤ (wr1 q (c :: r)).2 ∧ (wr1 q (c :: r)).2 ≤ (c :: r).length ∧ (wr1 q (c :: r)).1.length ≤ 6 := by
  rw [escL, wr1_cons]
  unfold esc1
  by_cases h1 : c = 38
  · subst h1
    rw [if_neg (fun h => absurd h.1 (by decide)), if_pos rfl, if_pos rfl]
    exact ⟨rfl, Nat.le_refl _, by simp, by decide⟩
  by_cases h2 : c = 60
  · subst h2
    rw [if_neg (fun h => absurd h.1 (by decide)), if_neg (by decide), if_pos rfl, if_neg (by decide), if_pos rfl]
    exact ⟨rfl, Nat.le_refl _, by simp, by decide⟩
  by_cases h3 : c = 62
  · subst h3
    rw [if_neg (fun h => absurd h.1 (by decide)), if_neg (by decide), if_neg (by decide), if_pos rfl, if_neg (by decide), if_neg (by decide), if_pos rfl]
    exact ⟨rfl, Nat.le_refl _, by simp, by decide⟩
  rw [if_neg h1, if_neg h1, if_neg h2, if_neg h2, if_neg h3, if_neg h3]
  by_cases h4 : c = 34 ∧ q = true
  · obtain ⟨rfl, rfl⟩ := h4
    rw [if_neg (fun h => absurd h.1 (by decide)), if_pos ⟨rfl, rfl⟩, if_pos ⟨rfl, rfl⟩]
    exact ⟨rfl, Nat.le_refl _, by simp, by decide⟩
  rw [if_neg h4, if_neg (show ¬ (q = true ∧ c = 34) from fun h => h4 ⟨h.2, h.1⟩)]
  by_cases h5 : c = 194 ∧ r.head? = some 160
  · rw [if_pos h5, if_pos h5]
    refine ⟨rfl, by simp, ?_, by decide⟩
    cases r with
    | nil => cases h5.2
    | cons d t => simp
  · rw [if_neg h5, if_neg h5]
    exact ⟨rfl, Nat.le_refl _, by simp, by simp⟩
theorem ret_pair {a b : ByteArray} {n m : Int} (h : a = b) (k : n = m) : Ending.returned (.tuple #[.string a, .int .i64 n]) = .returned (.tuple #[.string b, .int .i64 m]) := by rw [h, k]
theorem byte_ne {c : UInt8} (d : UInt8) (h : c ≠ d) : ((c.toNat : Int) == (d.toNat : Int)) = false := by
  refine beq_eq_false_iff_ne.2 (fun e => h (UInt8.toNat_inj.1 ?_))
  omega
theorem extract_one (s : ByteArray) (i : Nat) (c : UInt8) (h : s.data.toList[i]? = some c) : s.extract i (i + 1) = bs [c] := by
  apply ByteArray.ext
  apply Array.ext'
  rw [ByteArray.data_extract, Array.toList_extract]
  obtain ⟨h1, h2⟩ := List.getElem?_eq_some_iff.1 h
  show (s.data.toList.drop i).take (i + 1 - i) = [c]
  rw [show i + 1 - i = 1 by omega, List.drop_eq_getElem_cons h1, h2]
  rfl

set_option maxHeartbeats 4000000 in
set_option maxRecDepth 100000 in
theorem refWritten_any (s : ByteArray) (i : Nat) (q : Bool) (w : World) (hi : i < s.size) (hs : s.size ≤ 4000000) :
    Calls Tryz.prog 75 #[.string s, .int .i64 i, .bool q] w fun e w' => e = .returned (.tuple #[.string (bs (wr1 q (s.data.toList.drop i)).1), .int .i64 ((wr1 q (s.data.toList.drop i)).2 : Nat)]) ∧ w' = w := by
  obtain ⟨c, hc⟩ : ∃ c, s[i] = c := ⟨_, rfl⟩
  have hl := getElem_list hi hc
  have hd := drop_at hl
  rw [hd, wr1_cons]
  by_cases h1 : c = 38
  · subst h1
    rw [if_pos rfl]
    clear hl hd
    go_enter Tryz.func75, Tryz.ntmps75
    go_wp2
    go_ret2
    exact ⟨rfl, rfl⟩
  by_cases h2 : c = 60
  · subst h2
    rw [if_neg (by decide), if_pos rfl]
    clear hl hd h1
    go_enter Tryz.func75, Tryz.ntmps75
    go_wp2
    go_ret2
    exact ⟨rfl, rfl⟩
  by_cases h3 : c = 62
  · subst h3
    rw [if_neg (by decide), if_neg (by decide), if_pos rfl]
    clear hl hd h1 h2
    go_enter Tryz.func75, Tryz.ntmps75
    go_wp2
    go_ret2
    exact ⟨rfl, rfl⟩
  have q1 : ((c.toNat : Int) == 38) = false := byte_ne 38 h1
  have q2 : ((c.toNat : Int) == 60) = false := byte_ne 60 h2
  have q3 : ((c.toNat : Int) == 62) = false := byte_ne 62 h3
  rw [if_neg h1, if_neg h2, if_neg h3]
  by_cases h4 : c = 34
  · subst h4
    cases q
    · rw [if_neg (fun h => by cases h.2), if_neg (fun h => absurd h.1 (by decide))]
      have hx := extract_one s i 34 hl
      have HX := hid hx
      clear hl hd h1 h2 h3 hx
      go_enter Tryz.func75, Tryz.ntmps75
      go_wp2
      go_ret2
      exact ⟨ret_pair HX.out rfl, rfl⟩
    · rw [if_pos ⟨rfl, rfl⟩]
      clear hl hd h1 h2 h3
      go_enter Tryz.func75, Tryz.ntmps75
      go_wp2
      go_ret2
      exact ⟨rfl, rfl⟩
  have q4 : ((c.toNat : Int) == 34) = false := byte_ne 34 h4
  rw [if_neg (fun h => h4 h.1)]
  have hx := extract_one s i c hl
  have HX := hid hx
  clear hx
  by_cases h5 : c = 194
  · by_cases h6 : i + 1 < s.size
    · obtain ⟨d, hd2⟩ : ∃ d, s[i + 1] = d := ⟨_, rfl⟩
      have hl2 := getElem_list h6 hd2
      have hh : (s.data.toList.drop (i + 1)).head? = some d := by rw [List.head?_drop]; exact hl2
      rw [hh]
      by_cases h7 : d = 160
      · rw [if_pos ⟨h5, by rw [h7]⟩]
        subst h5
        subst h7
        clear hl hd hl2 hh h1 h2 h3 h4
        go_enter Tryz.func75, Tryz.ntmps75
        go_wp2
        go_ret2
        exact ⟨rfl, rfl⟩
      · rw [if_neg (fun h => h7 (Option.some.inj h.2))]
        have q7 : ((d.toNat : Int) == 160) = false := byte_ne 160 h7
        subst h5
        clear hl hd hl2 hh h1 h2 h3 h4 h7
        go_enter Tryz.func75, Tryz.ntmps75
        go_wp2
        go_ret2
        exact ⟨ret_pair HX.out rfl, rfl⟩
    · have hh : (s.data.toList.drop (i + 1)).head? = none := by rw [List.head?_drop]; exact List.getElem?_eq_none (by rw [← size_eq]; omega)
      rw [hh, if_neg (fun h => by cases h.2)]
      subst h5
      clear hl hd hh h1 h2 h3 h4
      go_enter Tryz.func75, Tryz.ntmps75
      go_wp2
      go_ret2
      exact ⟨ret_pair HX.out rfl, rfl⟩
  · have q5 : ((c.toNat : Int) == 194) = false := byte_ne 194 h5
    rw [if_neg (fun h => h5 h.1)]
    clear hl hd h1 h2 h3 h4 h5
    go_enter Tryz.func75, Tryz.ntmps75
    go_wp2
    go_ret2
    exact ⟨ret_pair HX.out rfl, rfl⟩

/-- the text of bytes that the call owns, marked or not -/
theorem own_textF (W : World) (base : Nat) (v : Value) (l : List UInt8) (h : W.ownsRowF base 5 1 v l.length (byteCells l)) :
    (convert 85 9 v).run Tryz.prog W = .ok (.string (bs l)) W := by
  obtain ⟨hl, h2⟩ := h
  rcases h2 with ⟨rfl, h0⟩ | ⟨g, cap, cur, fz, rfl, _, hg, _, hc, hm, hz, ht⟩
  · have : l = [] := List.eq_nil_of_length_eq_zero h0
    subst this
    exact nil_text W
  · refine run_convert_bytes_back W 85 9 5 ⟨g, 0, none⟩ cap l Tryz.underlying85 Tryz.underlying5 Tryz.underlying9 (fun j hj => ?_)
    have hadd : (⟨g, 0, none⟩ : Addr).add j = ⟨g, j, none⟩ := by unfold Addr.add; split <;> simp_all
    rw [hadd]
    have h3 : cur[j]? = (byteCells l)[j]? := by
      rw [← ht, List.getElem?_take, if_pos (by omega), Array.getElem?_toList]
    simp [World.cell?, hg, h3, byteCells, hj]

theorem row_shapeF {W : World} {base : Nat} {e : TypeId} {size n : Nat} {v : Value} {xs : List Value} (h : W.ownsRowF base e size v n xs) : ∃ p c, v = .slice p n c := by
  rcases h.2 with ⟨rfl, rfl⟩ | ⟨g, cap, cur, fz, rfl, _⟩
  · exact ⟨_, _, rfl⟩
  · exact ⟨_, _, rfl⟩
set_option maxHeartbeats 4000000 in
set_option maxRecDepth 100000 in
theorem refEscaped_any (s : ByteArray) (q : Bool) (w : World) (hs : s.size ≤ 4000000) :
    Calls Tryz.prog 57 #[.string s, .bool q] w fun e w' => e = .returned (.string (bs (escL q s.data.toList))) ∧ Below w.heap.size w w' := by
  obtain ⟨R, hR⟩ : ∃ R, escL q s.data.toList = R := ⟨_, rfl⟩
  rw [hR]
  have hRl : R.length ≤ 24000000 := by rw [← hR]; have := esc_len q _ s.data.toList (Nat.le_refl _); rw [← size_eq] at this; omega
  have HR : Hid (True → [] ++ escL q (s.data.toList.drop 0) = R) := fun _ => hR
  have hw := fun i hi W => refWritten_any s i q W hi hs
  have HW := hid hw
  obtain ⟨i0, hi, hz0, hz1, hz2⟩ := info_parts info_u8
  clear hw hR
  go_enter Tryz.func57, Tryz.ntmps57
  go_wp2
  go_loopw [5, 6] (fun bv iv wr => ∃ (k : Nat) (acc : List UInt8), iv = .int .i64 k ∧ k ≤ s.size ∧ Hid (wr.ownsRowF w.heap.size 5 1 bv acc.length (byteCells acc) ∧ Below w.heap.size w wr) ∧ Hid (True → acc ++ escL q (s.data.toList.drop k) = R)) (fun _ iv _ => s.size - (RowKit.intOf iv).toNat)
  case atStart => exact ⟨0, [], rfl, Nat.zero_le _, hid ⟨World.ownsRowF_of (World.ownsRow_nil _ _ _ _), Below.refl _ _⟩, HR⟩
  case round =>
    obtain ⟨k, acc, rfl, hk, HX, HK⟩ := hrel
    obtain ⟨bp, bc, rfl⟩ := row_shapeF HX.out.1
    by_cases hkl : k < s.size
    · obtain ⟨c, hc⟩ : ∃ c, s.data.toList[k]? = some c := ⟨_, List.getElem?_eq_getElem (by rw [← size_eq]; exact hkl)⟩
      have hd := drop_at hc
      have hst := HK.out trivial
      have hcall := HW.out k hkl
      have hsz := size_eq s
      have hdl : (s.data.toList.drop k).length = s.size - k := by rw [List.length_drop, ← hsz]
      rw [hd] at hst hcall hdl
      obtain ⟨e1, e2, e3, e4⟩ := esc_wr q c (s.data.toList.drop (k + 1))
      rw [e1, ← hd] at hst
      rw [← hd] at e2 e3 e4 hcall hdl
      generalize wr1 q (s.data.toList.drop k) = p at hst hcall e2 e3 e4
      obtain ⟨p1, p2⟩ := p
      simp only at hst hcall e2 e3 e4
      rw [List.drop_drop] at hst
      have hal : acc.length ≤ 24000000 := by have := congrArg List.length hst; simp only [List.length_append] at this; omega
      have HS := hid (fun (_ : True) => (by rw [List.append_assoc]; exact hst : (acc ++ p1) ++ escL q (s.data.toList.drop (k + p2)) = R))
      have HC := hid hcall
      have hkp : k + p2 ≤ s.size := by rw [hdl] at e3; omega
      obtain ⟨S, hS⟩ : ∃ S, bs p1 = S := ⟨_, rfl⟩
      have hSz : S.size = p1.length := by rw [← hS, bs_size]
      rw [hS] at HC
      have HSS := hid hS
      clear hst hcall hd hc e1 e3 hdl hS HR HW HK hsz
      go_wp2_with fail
      refine (HC.out _).mono ?_
      rintro e w' ⟨rfl, rfl⟩
      have hown := HX.out.1
      have hbw := HX.out.2
      have hbs := hbw.size
      go_wp2_with (at_builtin; refine Lib.wpList_append_own_stringF _ rfl _ _ 85 9 rfl w.heap.size 5 i0 Tryz.underlying85 Tryz.underlying9 hi hz0 hz1 hz2 _ _ _ rfl hown S rfl (by unfold maxLen; omega) (by omega) hbs ?_)
      intro v' w2 hown2 hgrow _
      have hZ : w2.ownsRowF w.heap.size 5 1 v' (acc ++ p1).length (byteCells (acc ++ p1)) := by
        rw [List.length_append, Lib.byteCells_append]
        have : strCells S = byteCells p1 := by rw [← HSS.out]; exact strCells_byte _
        rw [← this]
        exact hown2
      have hbw2 := hbw.grown hgrow hbs (fun k hk => (hown.lt k hk).1)
      have HZ := hid (And.intro hZ hbw2)
      clear hZ hbw2 hown2 hgrow hown hbw HX
      go_wp2
      go_roundw
      case rel => exact ⟨k + p2, acc ++ p1, by go_num, hkp, HZ, HS⟩
      case measure => simp [RowKit.intOf]; omega
    · obtain rfl : acc = R := by
        have := HK.out trivial
        rw [List.drop_of_length_le (by rw [← size_eq]; omega)] at this
        rwa [show escL q [] = [] by rw [escL], List.append_nil] at this
      have ht := own_textF wr _ _ acc HX.out.1
      clear HK HR HW
      go_wp2
      go_ret
      exact ⟨rfl, HX.out.2⟩
end Go.Proofs.YtkcgmimldjeaiaaGreatDoor

/-
  The reference's Check: its walk.
-/
namespace Go.Proofs.YtkcgmimldjeaiaaGreatDoor
open Go.RowKit Go.Lib Own

set_option maxHeartbeats 4000000 in
set_option maxRecDepth 100000 in
theorem refCheck_any (vr vs vd : Value) (P : PolP) (w : World) (h : PolR w vr vs vd P) (hF : P.Few) (hT : AttrTab w) :
    Calls Tryz.prog 12 #[.agg (polC vr vs vd P)] w fun e w' => e = .returned (.int .i64 (checkP P : Nat)) ∧ Below w.heap.size w w' := by
  have hwr := fun n h1 h10 W hW hTW => wrong_all n h1 h10 vr vs vd P W hW hF hTW
  have hb0 := heap_alloc_new w (.cells (polC vr vs vd P) 25)
  have hbel0 : Below w.heap.size w (w.alloc (.cells (polC vr vs vd P) 25)) := (Below.refl w.heap.size w).alloc (Nat.le_refl _) _
  have HWR := hid hwr
  have HP := hid h
  have HT := hid hT
  have H0 := hid (And.intro hbel0 hb0)
  obtain ⟨R, hR⟩ : ∃ R, checkP P = R := ⟨_, rfl⟩
  rw [hR]
  have HR := hid (fun (_ : True) => (hR : checkFrom P 1 10 = R))
  clear hwr h hF hT hb0 hbel0 hR
  unfold polC at H0 HWR ⊢
  go_enter Tryz.func12, Tryz.ntmps12
  go_wp2
  go_loopw [3] (fun iv wr => ∃ k : Nat, iv = .int .i64 k ∧ 1 ≤ k ∧ k ≤ 11 ∧ Hid (Below w.heap.size w wr ∧ wr.heap[w.heap.size]? = some (.cells #[vr, vs, vd, .int .i64 P.depth, .int .i64 P.window] 25 (0, 0))) ∧ Hid (True → checkFrom P k (11 - k) = R)) (fun iv _ => 11 - (RowKit.intOf iv).toNat)
  case atStart => exact ⟨1, rfl, by omega, by omega, H0, HR.out⟩
  case round =>
    obtain ⟨k, rfl, hk1, hk, HX, HK⟩ := hrel
    obtain ⟨c0, c1, c2, c3, c4⟩ := polC_at (P := P) HX.out.2
    by_cases hkl : k ≤ 10
    · have hcall := HWR.out k hk1 hkl wr (HP.out.below HX.out.1) (HT.out.below HX.out.1)
      have hd := HK.out trivial
      rw [show 11 - k = (11 - (k + 1)) + 1 by omega] at hd
      unfold checkFrom at hd
      obtain ⟨K, hK⟩ : ∃ K, wrongP k P = K := ⟨_, rfl⟩
      rw [hK] at hcall hd
      have HC := hid hcall
      have HD := hid (fun (_ : True) => hd)
      clear hcall hd hK HK HWR H0
      cases K
      · go_wp2_with (go_at_call 28; refine HC.out.mono ?_; rintro e w2 ⟨rfl, b2⟩)
        have HZ := hid (And.intro (HX.out.1.trans (b2.mono HX.out.1.size)) ((b2.block _ (block_lt HX.out.2)).trans HX.out.2))
        have HE := hid (fun (_ : True) => (by simpa using HD.out trivial : checkFrom P (k + 1) (11 - (k + 1)) = R))
        clear b2 HX HC HD c0 c1 c2 c3 c4
        go_wp2
        go_roundw
        case rel => first | exact ⟨k + 1, rfl, by omega, by omega, HZ, HE⟩ | ((repeat apply Exists.intro); exact ⟨⟨k + 1, rfl, by omega, by omega, HZ, HE⟩, rfl⟩)
        case measure => simp [RowKit.intOf]; omega
      · go_wp2_with (go_at_call 28; refine HC.out.mono ?_; rintro e w2 ⟨rfl, b2⟩)
        have HZ := hid (HX.out.1.trans (b2.mono HX.out.1.size))
        have HE := hid (fun (_ : True) => (by simpa using HD.out trivial : k = R))
        clear b2 HX HC HD c0 c1 c2 c3 c4
        go_wp2
        go_ret
        exact ⟨ret_i64 (by rw [HE.out trivial]), HZ.out⟩
    · have hd := HK.out trivial
      rw [show 11 - k = 0 by omega] at hd
      have HE := hid (fun (_ : True) => (hd : 0 = R))
      clear hd HK HWR H0
      go_wp2
      go_ret
      exact ⟨ret_i64 (by rw [← HE.out trivial]; rfl), HX.out.1⟩
end Go.Proofs.YtkcgmimldjeaiaaGreatDoor
