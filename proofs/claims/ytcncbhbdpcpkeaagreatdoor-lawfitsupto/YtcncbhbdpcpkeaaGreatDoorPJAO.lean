/-
  Parts of the walk, joined: PolCode, PolCodeB.
-/
import Derived.Test.YtcncbhbdpcpkeaaGreatDoorPJAE
import Derived.Test.YtcncbhbdpcpkeaaGreatDoorPJAN
import Derived.Test.YtcncbhbdpcpkeaaGreatDoorPJAB
/-
  policy.Check: the walks of what it calls.
-/
namespace Go.Proofs.YtcncbhbdpcpkeaaGreatDoor
open Go.RowKit Go.Lib Own

/-! ## the code's tables and the reference's -/

theorem vattr_ref (x : List UInt8) : vattrT.contains x = attrT.contains x := by
  have hp : vattrT.Perm attrT := by decide +kernel
  rw [Bool.eq_iff_iff, List.contains_iff_mem, List.contains_iff_mem]
  exact hp.mem_iff
theorem elem_none : ∀ (K : List (List (List UInt8) × Nat × Nat)) (x : List UInt8), (∀ k ∈ K, x ∉ k.1) → elemF K x = none
  | [], _, _ => rfl
  | k :: r, x, h => by
    have h1 : k.1.contains x = false := by
      have := h k (List.mem_cons_self ..)
      simpa using this
    simp only [elemF, h1, Bool.false_eq_true, if_false]
    exact elem_none r x (fun k hk => h k (List.mem_cons_of_mem _ hk))
/-- what holds of the 37 names and of every unknown one holds of all -/
theorem elem_all (p : List UInt8 → Prop) (h1 : ∀ x ∈ classT.map Prod.fst, p x) (h2 : ∀ x, elemL x = none → classL x = 0 → p x) : ∀ x, p x := by
  intro x
  by_cases hk : x ∈ classT.map Prod.fst
  · exact h1 x hk
  · refine h2 x (elem_none kindT x (fun k hk2 hx => hk ?_)) (find_none _ _ hk)
    have : ∀ k ∈ kindT, ∀ y ∈ k.1, y ∈ classT.map Prod.fst := by decide +kernel
    exact this k hk2 x hx
theorem elem_known (x : List UInt8) : (elemL x).isNone = (classL x == 0) := by
  refine elem_all (fun x => (elemL x).isNone = (classL x == 0)) (by decide +kernel) (fun x h1 h2 => ?_) x
  rw [h1, h2]
  rfl

/-! ## small walks -/

theorem isUnkEl_any (x : ByteArray) (w : World) (hT : KindsTab w) :
    Calls Tryz.prog 99 #[.string x] w fun e w' => e = .returned (.bool (classL x.toList == 0)) ∧ Below w.heap.size w w' := by
  have hf := find_any x w hT
  rw [← elem_known]
  obtain ⟨R, hR⟩ : ∃ R, elemL x.toList = R := ⟨_, rfl⟩
  rw [hR] at hf ⊢
  clear hR hT
  cases R with
  | none =>
    unfold foundV zeroE at hf
    have HF := hid hf
    clear hf
    go_enter Tryz.func99, Tryz.ntmps99
    go_wp2_with (go_at_call 121; refine HF.out.mono ?_; rintro e w1 ⟨rfl, b1⟩)
    go_ret
    exact ⟨rfl, b1.alloc b1.size _⟩
  | some q =>
    obtain ⟨c, m⟩ := q
    unfold foundV elemC at hf
    obtain ⟨S, hS⟩ : ∃ S, bs x.toList = S := ⟨_, rfl⟩
    rw [hS] at hf
    have HF := hid hf
    clear hf hS
    go_enter Tryz.func99, Tryz.ntmps99
    go_wp2_with (go_at_call 121; refine HF.out.mono ?_; rintro e w1 ⟨rfl, b1⟩)
    go_ret
    exact ⟨rfl, b1.alloc b1.size _⟩
theorem isUnkAt_any (x : ByteArray) (w : World) (hT : VAttrTab w) :
    Calls Tryz.prog 164 #[.string x] w fun e w' => e = .returned (.bool (!attrT.contains x.toList)) ∧ w' = w := by
  have hf := isAttr_any x w hT
  rw [vattr_ref] at hf
  generalize attrT.contains x.toList = R at hf ⊢
  have HF := hid hf
  clear hf hT
  go_enter Tryz.func164, Tryz.ntmps164
  go_wp2_with (go_at_call 215; refine HF.out.mono ?_; rintro e w1 ⟨rfl, rfl⟩)
  go_ret
  exact ⟨rfl, rfl⟩

set_option maxHeartbeats 2000000 in
theorem hasTwice_any (v : Value) (ss : List (List UInt8)) (w : World) (h : Words w v ss) :
    Calls Tryz.prog 100 #[v] w fun e w' => e = .returned (.bool (twiceL ss)) ∧ w' = w := by
  have H := hid h
  obtain ⟨p, c, rfl, hc, hm, hcell, _⟩ := h
  have HC := hid hcell
  clear hcell
  have hml : ss.length ≤ 9223372036854775807 := by omega
  go_enter Tryz.func100, Tryz.ntmps100
  go_wp2_with fail
  go_loopw [3, 4, 7] (fun _ _ iv wr => ∃ k : Nat, iv = .int .i64 k ∧ k ≤ ss.length ∧ wr = w ∧ Hid (∀ j s, j < k → ss[j]? = some s → (ss.take j).contains s = false)) (fun _ _ iv _ => ss.length - (RowKit.intOf iv).toNat)
  case atStart => exact ⟨0, rfl, Nat.zero_le _, rfl, hid (fun j s h => absurd h (Nat.not_lt_zero _))⟩
  case round =>
    obtain ⟨k, rfl, hk, rfl, HK⟩ := hrel
    by_cases hkl : k < ss.length
    · obtain ⟨s, hs⟩ : ∃ s, ss[k]? = some s := ⟨_, List.getElem?_eq_getElem hkl⟩
      obtain ⟨b, o, rfl, hc1⟩ := HC.out k s hs
      have hho := slContains_any _ _ (bs s) wr (H.out.front k (by omega))
      rw [bs_toList] at hho
      obtain ⟨R, hR⟩ : ∃ R, (ss.take k).contains s = R := ⟨_, rfl⟩
      rw [hR] at hho
      have HS := hid (And.intro hs hR)
      have HH := hid hho
      obtain ⟨S, hS⟩ : ∃ S, bs s = S := ⟨_, rfl⟩
      rw [hS] at hc1 HH
      have hkc : k ≤ c := by omega
      clear hs hR hho hS HC H
      cases R
      · go_wp2_with (go_at_call 162; refine HH.out.mono ?_; rintro e w1 ⟨rfl, rfl⟩)
        go_roundw
        case rel =>
          refine ⟨k + 1, rfl, by omega, by first | rfl | trivial, hid (fun j t hj ht => ?_)⟩
          by_cases hjk : j = k
          · subst hjk
            rw [HS.out.1] at ht
            obtain rfl := Option.some.inj ht
            exact HS.out.2
          · exact HK.out j t (by omega) ht
        case measure => simp [RowKit.intOf]; omega
      · go_wp2_with (go_at_call 162; refine HH.out.mono ?_; rintro e w1 ⟨rfl, rfl⟩)
        go_ret
        exact ⟨by rw [twice_yes HS.out.1 HS.out.2]; rfl, rfl⟩
    · go_wp2_with fail
      go_ret
      exact ⟨by rw [twice_no (fun j s hj => HK.out j s (by have := (List.getElem?_eq_some_iff.1 hj).1; omega) hj)]; rfl, rfl⟩
end Go.Proofs.YtcncbhbdpcpkeaaGreatDoor

/-
  policy.Check: words, schemes, drops: their walks.
-/
namespace Go.Proofs.YtcncbhbdpcpkeaaGreatDoor
open Go.RowKit Go.Lib Own

theorem u8_bool (p : UInt8 → Bool) (h : ∀ n, n < 256 → p (UInt8.ofNat n) = true) (c : UInt8) : p c = true := by
  have := h c.toNat (UInt8.toNat_lt c)
  rwa [UInt8.ofNat_toNat] at this
theorem small_iff (c : UInt8) : smallL.contains c = decide (97 ≤ c.toNat ∧ c.toNat ≤ 122) := by
  have := u8_bool (fun c => smallL.contains c == decide (97 ≤ c.toNat ∧ c.toNat ≤ 122)) (by decide +kernel) c
  exact beq_iff_eq.1 this
theorem digit_iff (c : UInt8) : digitL.contains c = decide (48 ≤ c.toNat ∧ c.toNat ≤ 57) := by
  have := u8_bool (fun c => digitL.contains c == decide (48 ≤ c.toNat ∧ c.toNat ≤ 57)) (by decide +kernel) c
  exact beq_iff_eq.1 this
def okc (sg : List UInt8) (c : UInt8) : Bool := smallL.contains c || (digitL.contains c || sg.contains c)
def wordLenL (sg : List UInt8) : List UInt8 → Nat
  | [] => 0
  | c :: r => if smallL.contains c = true then 1 + (r.takeWhile (okc sg)).length else 0
theorem wordLen_cons (sg : List UInt8) (c : UInt8) (r : List UInt8) : wordLenL sg (c :: r) = if smallL.contains c = true then 1 + (r.takeWhile (okc sg)).length else 0 := rfl
theorem wordLen_le (sg : List UInt8) : ∀ L, wordLenL sg L ≤ L.length
  | [] => Nat.le_refl _
  | c :: r => by
    rw [wordLen_cons]
    have := (List.takeWhile_prefix (p := okc sg) (l := r)).length_le
    split
    · rw [List.length_cons]; omega
    · omega
/-- what holds while a word is read: all of the first k bytes belong to it -/
def WordAt (sg L : List UInt8) (k : Nat) : Prop := (k = 0 ∨ smallL.contains (L.headD 0) = true) ∧ ∀ j c, 0 < j → j < k → L[j]? = some c → okc sg c = true
theorem tw_len (p : UInt8 → Bool) : ∀ (r : List UInt8) (k : Nat), (∀ j c, j < k → r[j]? = some c → p c = true) → (∀ c, r[k]? = some c → p c = false) → k ≤ r.length → (r.takeWhile p).length = k
  | [], k, _, _, h => by simp at h; subst h; rfl
  | c :: r, 0, _, h, _ => by
    have := h c rfl
    rw [List.takeWhile_cons, this]
    rfl
  | c :: r, k + 1, h1, h2, h3 => by
    have hc := h1 0 c (by omega) rfl
    rw [List.takeWhile_cons, hc]
    simp only [if_true, List.length_cons]
    rw [tw_len p r k (fun j d hj hd => h1 (j + 1) d (by omega) (by rw [List.getElem?_cons_succ]; exact hd)) (fun d hd => h2 d (by rw [List.getElem?_cons_succ]; exact hd)) (by simpa using h3)]
theorem word_stop {sg L : List UInt8} {k : Nat} {c : UInt8} (h : WordAt sg L k) (hc : L[k]? = some c) (h0 : smallL.contains c = false) (h1 : k = 0 ∨ (digitL.contains c = false ∧ sg.contains c = false)) : wordLenL sg L = k := by
  cases L with
  | nil => simp at hc
  | cons d r =>
    cases k with
    | zero =>
      simp only [List.getElem?_cons_zero, Option.some.injEq] at hc
      subst hc
      rw [wordLen_cons, h0]
      rfl
    | succ k =>
      have hd : smallL.contains d = true := by
        rcases h.1 with h | h
        · omega
        · exact h
      rw [List.getElem?_cons_succ] at hc
      rw [wordLen_cons, if_pos hd, tw_len (okc sg) r k (fun j e hj he => h.2 (j + 1) e (by omega) (by omega) (by rw [List.getElem?_cons_succ]; exact he)) (fun e he => ?_) (Nat.le_of_lt (List.getElem?_eq_some_iff.1 hc).1)]
      · omega
      · obtain rfl := Option.some.inj (hc.symm.trans he)
        unfold okc
        rcases h1 with h1 | h1
        · omega
        · rw [h0, h1.1, h1.2]; rfl
theorem word_end {sg L : List UInt8} (h : WordAt sg L L.length) : wordLenL sg L = L.length := by
  cases L with
  | nil => rfl
  | cons d r =>
    have hd : smallL.contains d = true := by
      rcases h.1 with h | h
      · simp at h
      · exact h
    rw [wordLen_cons, if_pos hd, tw_len (okc sg) r r.length (fun j e hj he => h.2 (j + 1) e (by omega) (by simp; omega) (by rw [List.getElem?_cons_succ]; exact he)) (fun e he => by simp at he) (Nat.le_refl _)]
    rw [List.length_cons]; omega
theorem word_go {sg L : List UInt8} {k : Nat} {c : UInt8} (h : WordAt sg L k) (hc : L[k]? = some c) (h1 : smallL.contains c = true ∨ (k ≠ 0 ∧ okc sg c = true)) : WordAt sg L (k + 1) := by
  refine ⟨.inr ?_, fun j d h2 h3 hd => ?_⟩
  · rcases h.1 with h0 | h0
    · subst h0
      cases L with
      | nil => simp at hc
      | cons e r =>
        simp only [List.getElem?_cons_zero, Option.some.injEq] at hc
        subst hc
        rcases h1 with h1 | h1
        · exact h1
        · exact absurd rfl h1.1
    · exact h0
  · by_cases e : j = k
    · subst e
      obtain rfl := Option.some.inj (hc.symm.trans hd)
      rcases h1 with h1 | h1
      · unfold okc; rw [h1, Bool.true_or]
      · exact h1.2
    · exact h.2 j d h2 (by omega) hd
theorem word_is (sg L : List UInt8) : isWordL (smallL ++ digitL ++ sg) L = (!(L == []) && (decide (L.length ≤ 32) && (wordLenL sg L == L.length))) := by
  have hok : (smallL ++ digitL ++ sg).contains = okc sg := by
    funext c
    unfold okc
    rw [List.append_assoc, List.contains_append, List.contains_append]
  unfold isWordL
  rw [hok]
  cases L with
  | nil => simp
  | cons d r =>
    have hd : (List.headD (d :: r) 0) = d := rfl
    rw [hd]
    have e1 : ((d :: r) == ([] : List UInt8)) = false := rfl
    rw [e1, decide_eq_true (show 1 ≤ (d :: r).length by simp)]
    simp only [Bool.not_false, Bool.true_and]
    congr 1
    rw [wordLen_cons]
    cases h : smallL.contains d with
    | false => simp
    | true =>
      simp only [if_true, Bool.true_and, List.all_cons]
      have h2 : okc sg d = true := by unfold okc; rw [h, Bool.true_or]
      rw [h2, Bool.true_and, Bool.eq_iff_iff, ← all_while, beq_iff_eq, List.length_cons]
      omega

set_option maxHeartbeats 4000000 in
set_option maxRecDepth 100000 in
theorem wordLen_any (x sg : ByteArray) (w : World) (hx : x.size ≤ 1000000000) :
    Calls Tryz.prog 137 #[.string x, .string sg] w fun e w' => e = .returned (.int .i64 (wordLenL sg.data.toList x.data.toList)) ∧ w' = w := by
  have hxz := size_eq x
  obtain ⟨R, hR⟩ : ∃ R, wordLenL sg.data.toList x.data.toList = R := ⟨_, rfl⟩
  rw [hR]
  have HR := hid (fun (_ : True) => hR)
  have HZ := hid hxz
  clear hR hxz
  go_enter Tryz.func137, Tryz.ntmps137
  go_wp2_with fail
  go_loopw [5, 6, 9] (fun _ _ iv wr => ∃ k : Nat, iv = .int .i64 k ∧ k ≤ x.size ∧ wr = w ∧ Hid (WordAt sg.data.toList x.data.toList k)) (fun _ _ iv _ => x.size - (RowKit.intOf iv).toNat)
  case atStart => exact ⟨0, rfl, Nat.zero_le _, rfl, ⟨.inl rfl, fun j c h1 h2 => by omega⟩⟩
  case round =>
    obtain ⟨k, rfl, hk, rfl, HK⟩ := hrel
    by_cases hkl : k < x.size
    · obtain ⟨c, hc⟩ : ∃ c, x[k]'hkl = c := ⟨_, rfl⟩
      have hcl := getElem_list hkl hc
      have hs := small_iff c
      have hdg := digit_iff c
      by_cases h1 : 97 ≤ c.toNat ∧ c.toNat ≤ 122
      · rw [decide_eq_true h1] at hs
        have HN := hid (word_go HK.out hcl (.inl hs))
        obtain ⟨q1, q2⟩ := h1
        have z1 : (97 : Int) ≤ (c.toNat : Int) := by omega
        have z2 : (c.toNat : Int) ≤ 122 := by omega
        clear hcl hs hdg HK HR
        go_wp2_with fail
        go_roundw
        case rel => exact ⟨k + 1, rfl, by omega, by first | rfl | trivial, HN⟩
        case measure => simp [RowKit.intOf]; omega
      · rw [decide_eq_false h1] at hs
        have z1 : (decide ((97 : Int) ≤ (c.toNat : Int)) && decide ((c.toNat : Int) ≤ 122)) = false := by
          rw [Bool.and_eq_false_iff, decide_eq_false_iff_not, decide_eq_false_iff_not]
          omega
        by_cases hk0 : k = 0
        · subst hk0
          have hst := word_stop HK.out hcl hs (.inl rfl)
          rw [HR.out trivial] at hst
          subst hst
          have hu := UInt8.toNat_lt c
          clear hcl hs hdg HK HR
          by_cases g1 : (97 : Int) ≤ (c.toNat : Int)
          · have g2 : ¬ ((c.toNat : Int) ≤ 122) := by omega
            clear h1 z1
            go_wp2_with fail
            go_ret
            exact ⟨rfl, rfl⟩
          · clear h1 z1
            go_wp2_with fail
            go_ret
            exact ⟨rfl, rfl⟩
        · have qk : ((k : Int) == 0) = false := beq_eq_false_iff_ne.2 (by omega)
          have hu := UInt8.toNat_lt c
          have hdig := fun W => dig_any (c.toNat : Int) (by omega) (by omega) W
          have hdz : isDigZ (c.toNat : Int) = digitL.contains c := by
            rw [hdg]
            unfold isDigZ
            rw [Bool.eq_iff_iff, decide_eq_true_iff, decide_eq_true_iff]
            omega
          rw [hdz] at hdig
          have hib := fun W => Tryz.strings_IndexByte sg (c.toNat : Int) W
          have hback : ((c.toNat : Int)).toNat.toUInt8 = c := by simp
          rw [hback] at hib
          have hcon := Lib.contains_iff_indexByte sg.data.toList c
          generalize Lib.indexByte sg.data.toList c = z at hib hcon
          have HIB := hid hib
          have hcs : ∀ b1 b2, digitL.contains c = b1 → sg.data.toList.contains c = b2 → (b1 = true ∨ b2 = true → WordAt sg.data.toList x.data.toList (k + 1)) ∧ (b1 = false → b2 = false → R = k) := by
            intro b1 b2 e1 e2
            refine ⟨fun h => word_go HK.out hcl (.inr ⟨hk0, ?_⟩), fun h2 h3 => ?_⟩
            · unfold okc
              rw [hs, e1, e2]
              rcases h with h | h <;> simp [h]
            · rw [← HR.out trivial]
              exact word_stop HK.out hcl hs (.inr ⟨e1.trans h2, e2.trans h3⟩)
          have HCS := hid (hcs _ _ rfl rfl)
          generalize sg.data.toList.contains c = b2 at hcon HCS
          generalize digitL.contains c = b1 at hdig HCS
          have HD := hid hdig
          clear hcs hcl hs hdg HK HR hib hdig hdz hback
          have key : ∀ (P : Prop), ((97 : Int) ≤ (c.toNat : Int) → ¬ ((c.toNat : Int) ≤ 122) → P) → (¬ (97 : Int) ≤ (c.toNat : Int) → P) → P := fun P f1 f2 => by
            by_cases g1 : (97 : Int) ≤ (c.toNat : Int)
            · exact f1 g1 (by omega)
            · exact f2 g1
          clear h1 z1
          cases b1
          · cases b2
            · have hz : z < 0 := by have := of_decide_eq_false hcon.symm; omega
              obtain rfl := HCS.out.2 rfl rfl
              clear hcon HCS
              refine key _ (fun g1 g2 => ?_) (fun g1 => ?_)
              all_goals
                clear key
                go_wp2_with (first | (go_at_call 189; refine (HD.out _).mono ?_; rintro e w' ⟨rfl, rfl⟩) | (go_at_call 190; refine (HIB.out _).mono ?_; rintro e w' ⟨rfl, rfl⟩))
                go_ret
                exact ⟨rfl, rfl⟩
            · have hz : ¬ z < 0 := by have := of_decide_eq_true hcon.symm; omega
              have HN := hid (HCS.out.1 (.inr rfl))
              clear hcon HCS
              refine key _ (fun g1 g2 => ?_) (fun g1 => ?_)
              all_goals
                clear key
                go_wp2_with (first | (go_at_call 189; refine (HD.out _).mono ?_; rintro e w' ⟨rfl, rfl⟩) | (go_at_call 190; refine (HIB.out _).mono ?_; rintro e w' ⟨rfl, rfl⟩))
                go_roundw
              case rel => exact ⟨k + 1, rfl, by omega, by first | rfl | trivial, HN⟩
              case measure => simp [RowKit.intOf]; omega
              case rel => exact ⟨k + 1, rfl, by omega, by first | rfl | trivial, HN⟩
              case measure => simp [RowKit.intOf]; omega
          · have HN := hid (HCS.out.1 (.inl rfl))
            clear hcon HCS
            refine key _ (fun g1 g2 => ?_) (fun g1 => ?_)
            all_goals
              clear key
              go_wp2_with (first | (go_at_call 189; refine (HD.out _).mono ?_; rintro e w' ⟨rfl, rfl⟩) | (go_at_call 190; refine (HIB.out _).mono ?_; rintro e w' ⟨rfl, rfl⟩))
              go_roundw
            case rel => exact ⟨k + 1, rfl, by omega, by first | rfl | trivial, HN⟩
            case measure => simp [RowKit.intOf]; omega
            case rel => exact ⟨k + 1, rfl, by omega, by first | rfl | trivial, HN⟩
            case measure => simp [RowKit.intOf]; omega
    · obtain rfl : k = x.size := by omega
      have hst := word_end (sg := sg.data.toList) (L := x.data.toList) (by rw [← HZ.out]; exact HK.out)
      rw [HR.out trivial, ← HZ.out] at hst
      subst hst
      clear HK HR HZ
      go_wp2_with fail
      go_ret
      exact ⟨rfl, rfl⟩
end Go.Proofs.YtcncbhbdpcpkeaaGreatDoor
