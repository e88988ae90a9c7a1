/-
  Parts of the walk, joined: PolCodeB, ParY.
-/
import Derived.Test.YtcncbhbdpcpkeaaGreatDoorPJAN
import Derived.Test.YtcncbhbdpcpkeaaGreatDoorPJAO
/-
  policy.Check: words, schemes, drops: their walks.
-/
namespace Go.Proofs.YtcncbhbdpcpkeaaGreatDoor
open Go.RowKit Go.Lib Own

theorem u8_bool (p : UInt8 → Bool) (h : ∀ n, n < 256 → p (UInt8.ofNat n) = true) (c : UInt8) : p c = true := by
  have := h c.toNat (UInt8.toNat_lt c)
  rwa [UInt8.ofNat_toNat] at this
theorem small_iff (c : UInt8) : smallL.contains c = decide (97 ≤ c.toNat ∧ c.toNat ≤ 122) := by
  have := u8_bool (fun c => smallL.contains c == decide (97 ≤ c.toNat ∧ c.toNat ≤ 122)) (by decide +kernel) c
  exact beq_iff_eq.1 this
theorem digit_iff (c : UInt8) : digitL.contains c = decide (48 ≤ c.toNat ∧ c.toNat ≤ 57) := by
  have := u8_bool (fun c => digitL.contains c == decide (48 ≤ c.toNat ∧ c.toNat ≤ 57)) (by decide +kernel) c
  exact beq_iff_eq.1 this
def okc (sg : List UInt8) (c : UInt8) : Bool := smallL.contains c || (digitL.contains c || sg.contains c)
def wordLenL (sg : List UInt8) : List UInt8 → Nat
  | [] => 0
  | c :: r => if smallL.contains c = true then 1 + (r.takeWhile (okc sg)).length else 0
theorem wordLen_cons (sg : List UInt8) (c : UInt8) (r : List UInt8) : wordLenL sg (c :: r) = if smallL.contains c = true then 1 + (r.takeWhile (okc sg)).length else 0 := rfl
/-- what holds while a word is read: all of the first k bytes belong to it -/
def WordAt (sg L : List UInt8) (k : Nat) : Prop := (k = 0 ∨ smallL.contains (L.headD 0) = true) ∧ ∀ j c, 0 < j → j < k → L[j]? = some c → okc sg c = true
theorem tw_len (p : UInt8 → Bool) : ∀ (r : List UInt8) (k : Nat), (∀ j c, j < k → r[j]? = some c → p c = true) → (∀ c, r[k]? = some c → p c = false) → k ≤ r.length → (r.takeWhile p).length = k
  | [], k, _, _, h => by simp at h; subst h; rfl
  | c :: r, 0, _, h, _ => by
    have := h c rfl
    rw [List.takeWhile_cons, this]
    rfl
  | c :: r, k + 1, h1, h2, h3 => by
    have hc := h1 0 c (by omega) rfl
    rw [List.takeWhile_cons, hc]
    simp only [if_true, List.length_cons]
    rw [tw_len p r k (fun j d hj hd => h1 (j + 1) d (by omega) (by rw [List.getElem?_cons_succ]; exact hd)) (fun d hd => h2 d (by rw [List.getElem?_cons_succ]; exact hd)) (by simpa using h3)]
theorem word_stop {sg L : List UInt8} {k : Nat} {c : UInt8} (h : WordAt sg L k) (hc : L[k]? = some c) (h0 : smallL.contains c = false) (h1 : k = 0 ∨ (digitL.contains c = false ∧ sg.contains c = false)) : wordLenL sg L = k := by
  cases L with
  | nil => simp at hc
  | cons d r =>
    cases k with
    | zero =>
      simp only [List.getElem?_cons_zero, Option.some.injEq] at hc
      subst hc
      rw [wordLen_cons, h0]
      rfl
    | succ k =>
      have hd : smallL.contains d = true := by
        rcases h.1 with h | h
        · omega
        · exact h
      rw [List.getElem?_cons_succ] at hc
      rw [wordLen_cons, if_pos hd, tw_len (okc sg) r k (fun j e hj he => h.2 (j + 1) e (by omega) (by omega) (by rw [List.getElem?_cons_succ]; exact he)) (fun e he => ?_) (Nat.le_of_lt (List.getElem?_eq_some_iff.1 hc).1)]
      · omega
      · obtain rfl := Option.some.inj (hc.symm.trans he)
        unfold okc
        rcases h1 with h1 | h1
        · omega
        · rw [h0, h1.1, h1.2]; rfl
theorem word_end {sg L : List UInt8} (h : WordAt sg L L.length) : wordLenL sg L = L.length := by
  cases L with
  | nil => rfl
  | cons d r =>
    have hd : smallL.contains d = true := by
      rcases h.1 with h | h
      · simp at h
      · exact h
    rw [wordLen_cons, if_pos hd, tw_len (okc sg) r r.length (fun j e hj he => h.2 (j + 1) e (by omega) (by simp; omega) (by rw [List.getElem?_cons_succ]; exact he)) (fun e he => by simp at he) (Nat.le_refl _)]
    rw [List.length_cons]; omega
theorem word_go {sg L : List UInt8} {k : Nat} {c : UInt8} (h : WordAt sg L k) (hc : L[k]? = some c) (h1 : smallL.contains c = true ∨ (k ≠ 0 ∧ okc sg c = true)) : WordAt sg L (k + 1) := by
  refine ⟨.inr ?_, fun j d h2 h3 hd => ?_⟩
  · rcases h.1 with h0 | h0
    · subst h0
      cases L with
      | nil => simp at hc
      | cons e r =>
        simp only [List.getElem?_cons_zero, Option.some.injEq] at hc
        subst hc
        rcases h1 with h1 | h1
        · exact h1
        · exact absurd rfl h1.1
    · exact h0
  · by_cases e : j = k
    · subst e
      obtain rfl := Option.some.inj (hc.symm.trans hd)
      rcases h1 with h1 | h1
      · unfold okc; rw [h1, Bool.true_or]
      · exact h1.2
    · exact h.2 j d h2 (by omega) hd
set_option maxHeartbeats 4000000 in
set_option maxRecDepth 100000 in
theorem wordLen_any (x sg : ByteArray) (w : World) (hx : x.size ≤ 1000000000) :
    Calls Tryz.prog 137 #[.string x, .string sg] w fun e w' => e = .returned (.int .i64 (wordLenL sg.data.toList x.data.toList)) ∧ w' = w := by
  have hxz := size_eq x
  obtain ⟨R, hR⟩ : ∃ R, wordLenL sg.data.toList x.data.toList = R := ⟨_, rfl⟩
  rw [hR]
  have HR := hid (fun (_ : True) => hR)
  have HZ := hid hxz
  clear hR hxz
  go_enter Tryz.func137, Tryz.ntmps137
  go_wp2_with fail
  go_loopw [5, 6, 9] (fun _ _ iv wr => ∃ k : Nat, iv = .int .i64 k ∧ k ≤ x.size ∧ wr = w ∧ Hid (WordAt sg.data.toList x.data.toList k)) (fun _ _ iv _ => x.size - (RowKit.intOf iv).toNat)
  case atStart => exact ⟨0, rfl, Nat.zero_le _, rfl, ⟨.inl rfl, fun j c h1 h2 => by omega⟩⟩
  case round =>
    obtain ⟨k, rfl, hk, rfl, HK⟩ := hrel
    by_cases hkl : k < x.size
    · obtain ⟨c, hc⟩ : ∃ c, x[k]'hkl = c := ⟨_, rfl⟩
      have hcl := getElem_list hkl hc
      have hs := small_iff c
      have hdg := digit_iff c
      by_cases h1 : 97 ≤ c.toNat ∧ c.toNat ≤ 122
      · rw [decide_eq_true h1] at hs
        have HN := hid (word_go HK.out hcl (.inl hs))
        obtain ⟨q1, q2⟩ := h1
        have z1 : (97 : Int) ≤ (c.toNat : Int) := by omega
        have z2 : (c.toNat : Int) ≤ 122 := by omega
        clear hcl hs hdg HK HR
        go_wp2_with fail
        go_roundw
        case rel => exact ⟨k + 1, rfl, by omega, by first | rfl | trivial, HN⟩
        case measure => simp [RowKit.intOf]; omega
      · rw [decide_eq_false h1] at hs
        have z1 : (decide ((97 : Int) ≤ (c.toNat : Int)) && decide ((c.toNat : Int) ≤ 122)) = false := by
          rw [Bool.and_eq_false_iff, decide_eq_false_iff_not, decide_eq_false_iff_not]
          omega
        by_cases hk0 : k = 0
        · subst hk0
          have hst := word_stop HK.out hcl hs (.inl rfl)
          rw [HR.out trivial] at hst
          subst hst
          have hu := UInt8.toNat_lt c
          clear hcl hs hdg HK HR
          by_cases g1 : (97 : Int) ≤ (c.toNat : Int)
          · have g2 : ¬ ((c.toNat : Int) ≤ 122) := by omega
            clear h1 z1
            go_wp2_with fail
            go_ret
            exact ⟨rfl, rfl⟩
          · clear h1 z1
            go_wp2_with fail
            go_ret
            exact ⟨rfl, rfl⟩
        · have qk : ((k : Int) == 0) = false := beq_eq_false_iff_ne.2 (by omega)
          have hu := UInt8.toNat_lt c
          have hdig := fun W => dig_any (c.toNat : Int) (by omega) (by omega) W
          have hdz : isDigZ (c.toNat : Int) = digitL.contains c := by
            rw [hdg]
            unfold isDigZ
            rw [Bool.eq_iff_iff, decide_eq_true_iff, decide_eq_true_iff]
            omega
          rw [hdz] at hdig
          have hib := fun W => Tryz.strings_IndexByte sg (c.toNat : Int) W
          have hback : ((c.toNat : Int)).toNat.toUInt8 = c := by simp
          rw [hback] at hib
          have hcon := Lib.contains_iff_indexByte sg.data.toList c
          generalize Lib.indexByte sg.data.toList c = z at hib hcon
          have HIB := hid hib
          have hcs : ∀ b1 b2, digitL.contains c = b1 → sg.data.toList.contains c = b2 → (b1 = true ∨ b2 = true → WordAt sg.data.toList x.data.toList (k + 1)) ∧ (b1 = false → b2 = false → R = k) := by
            intro b1 b2 e1 e2
            refine ⟨fun h => word_go HK.out hcl (.inr ⟨hk0, ?_⟩), fun h2 h3 => ?_⟩
            · unfold okc
              rw [hs, e1, e2]
              rcases h with h | h <;> simp [h]
            · rw [← HR.out trivial]
              exact word_stop HK.out hcl hs (.inr ⟨e1.trans h2, e2.trans h3⟩)
          have HCS := hid (hcs _ _ rfl rfl)
          generalize sg.data.toList.contains c = b2 at hcon HCS
          generalize digitL.contains c = b1 at hdig HCS
          have HD := hid hdig
          clear hcs hcl hs hdg HK HR hib hdig hdz hback
          have key : ∀ (P : Prop), ((97 : Int) ≤ (c.toNat : Int) → ¬ ((c.toNat : Int) ≤ 122) → P) → (¬ (97 : Int) ≤ (c.toNat : Int) → P) → P := fun P f1 f2 => by
            by_cases g1 : (97 : Int) ≤ (c.toNat : Int)
            · exact f1 g1 (by omega)
            · exact f2 g1
          clear h1 z1
          cases b1
          · cases b2
            · have hz : z < 0 := by have := of_decide_eq_false hcon.symm; omega
              obtain rfl := HCS.out.2 rfl rfl
              clear hcon HCS
              refine key _ (fun g1 g2 => ?_) (fun g1 => ?_)
              all_goals
                clear key
                go_wp2_with (first | (go_at_call 189; refine (HD.out _).mono ?_; rintro e w' ⟨rfl, rfl⟩) | (go_at_call 190; refine (HIB.out _).mono ?_; rintro e w' ⟨rfl, rfl⟩))
                go_ret
                exact ⟨rfl, rfl⟩
            · have hz : ¬ z < 0 := by have := of_decide_eq_true hcon.symm; omega
              have HN := hid (HCS.out.1 (.inr rfl))
              clear hcon HCS
              refine key _ (fun g1 g2 => ?_) (fun g1 => ?_)
              all_goals
                clear key
                go_wp2_with (first | (go_at_call 189; refine (HD.out _).mono ?_; rintro e w' ⟨rfl, rfl⟩) | (go_at_call 190; refine (HIB.out _).mono ?_; rintro e w' ⟨rfl, rfl⟩))
                go_roundw
              case rel => exact ⟨k + 1, rfl, by omega, by first | rfl | trivial, HN⟩
              case measure => simp [RowKit.intOf]; omega
              case rel => exact ⟨k + 1, rfl, by omega, by first | rfl | trivial, HN⟩
              case measure => simp [RowKit.intOf]; omega
          · have HN := hid (HCS.out.1 (.inl rfl))
            clear hcon HCS
            refine key _ (fun g1 g2 => ?_) (fun g1 => ?_)
            all_goals
              clear key
              go_wp2_with (first | (go_at_call 189; refine (HD.out _).mono ?_; rintro e w' ⟨rfl, rfl⟩) | (go_at_call 190; refine (HIB.out _).mono ?_; rintro e w' ⟨rfl, rfl⟩))
              go_roundw
            case rel => exact ⟨k + 1, rfl, by omega, by first | rfl | trivial, HN⟩
            case measure => simp [RowKit.intOf]; omega
            case rel => exact ⟨k + 1, rfl, by omega, by first | rfl | trivial, HN⟩
            case measure => simp [RowKit.intOf]; omega
    · obtain rfl : k = x.size := by omega
      have hst := word_end (sg := sg.data.toList) (L := x.data.toList) (by rw [← HZ.out]; exact HK.out)
      rw [HR.out trivial, ← HZ.out] at hst
      subst hst
      clear HK HR HZ
      go_wp2_with fail
      go_ret
      exact ⟨rfl, rfl⟩
end Go.Proofs.YtcncbhbdpcpkeaaGreatDoor

/-
  The token reader's word: its walk; what Cut gives at a sign.
-/
namespace Go.Proofs.YtcncbhbdpcpkeaaGreatDoor
open Go.RowKit Go.Lib Own

theorem wordLen_N (sg : List UInt8) : ∀ l : List UInt8, wordLenL sg l = wordN sg l := by
  have h1 : ∀ c : UInt8, smallL.contains c = smallB c := fun c => by
    have := u8_all (p := fun c => smallL.contains c == smallB c) (by decide +kernel) c
    exact beq_iff_eq.1 this
  have h2 : ∀ c : UInt8, digitL.contains c = decide (48 ≤ c.toNat ∧ c.toNat ≤ 57) := fun c => by
    have := u8_all (p := fun c => digitL.contains c == decide (48 ≤ c.toNat ∧ c.toNat ≤ 57)) (by decide +kernel) c
    exact beq_iff_eq.1 this
  have h3 : okc sg = wordB sg := funext fun c => by unfold okc wordB; rw [h1, h2]
  intro l
  cases l with
  | nil => rfl
  | cons c r =>
    rw [wordLen_cons, h1, h3, show wordN sg (c :: r) = if smallB c = true then (r.takeWhile (wordB sg)).length + 1 else 0 from rfl, Nat.add_comm]
theorem index_sign (x : UInt8) : ∀ (L : List UInt8), (Lib.index L [x] = -1 ∧ ∀ c ∈ L, c ≠ x) ∨ ∃ a b, L = a ++ x :: b ∧ (∀ c ∈ a, c ≠ x) ∧ Lib.index L [x] = (a.length : Int)
  | [] => .inl ⟨rfl, fun _ h => by cases h⟩
  | c :: l => by
    by_cases hc : c = x
    · subst hc
      refine .inr ⟨[], l, rfl, (fun _ h => by cases h), ?_⟩
      unfold Lib.index
      rw [if_pos (by simp [List.isPrefixOf])]
      rfl
    · have hp : List.isPrefixOf [x] (c :: l) = false := by simp [List.isPrefixOf]; exact fun h => hc h.symm
      rcases index_sign x l with ⟨h1, h2⟩ | ⟨a, b, rfl, h2, h3⟩
      · refine .inl ⟨by unfold Lib.index; rw [hp, h1]; rfl, fun d hd => ?_⟩
        rcases List.mem_cons.1 hd with rfl | hd
        · exact hc
        · exact h2 d hd
      · refine .inr ⟨c :: a, b, rfl, fun d hd => ?_, ?_⟩
        · rcases List.mem_cons.1 hd with rfl | hd
          · exact hc
          · exact h2 d hd
        · unfold Lib.index
          rw [hp, h3]
          have : ((a.length : Int) == -1) = false := by rw [beq_eq_false_iff_ne]; omega
          simp [this]
theorem takeWhile_ne {x : UInt8} {a : List UInt8} (h : ∀ c ∈ a, c ≠ x) (r : List UInt8) : (a ++ x :: r).takeWhile (fun c => c != x) = a :=
  takeWhile_stop (fun c hc => by rw [bne_iff_ne]; exact h c hc) fun c hc => by cases hc; simp
theorem cut_sign (x : UInt8) (L : List UInt8) : (Lib.cut L [x]).1 = L.takeWhile (fun c => c != x) ∧ (Lib.cut L [x]).2.1 = L.drop ((L.takeWhile (fun c => c != x)).length + 1) := by
  rcases index_sign x L with ⟨h1, h2⟩ | ⟨a, b, rfl, h2, h3⟩
  · have h4 : L.takeWhile (fun c => c != x) = L := by
      have := takeWhile_stop (p := fun c => c != x) (a := L) (r := []) (fun c hc => by rw [bne_iff_ne]; exact h2 c hc) (fun c hc => by cases hc)
      rw [List.append_nil] at this
      exact this
    have h5 : Lib.cut L [x] = (L, [], false) := by unfold Lib.cut; rw [h1]; rfl
    rw [h4, h5]
    exact ⟨rfl, by rw [List.drop_of_length_le (Nat.le_succ _)]⟩
  · have h5 : Lib.cut (a ++ x :: b) [x] = (a, b, true) := by
      unfold Lib.cut
      rw [h3, if_pos (by omega)]
      have e : (a.length : Int).toNat = a.length := rfl
      rw [e, List.take_left, List.drop_append, List.drop_of_length_le (by omega)]
      simp
    rw [takeWhile_ne h2, h5, ← List.drop_drop, List.drop_left]
    exact ⟨rfl, rfl⟩
theorem take_bs (l : List UInt8) (n : Nat) : (bs l).extract 0 n = bs (l.take n) := by
  rw [← bs_of ((bs l).extract 0 n), extract_list, bs_data]
  simp
theorem strClone_any (s : ByteArray) (w : World) (hlim : s.size ≤ 281474976710656) : Calls Tryz.prog 138 #[.string s] w fun e w' => e = .returned (.string s) ∧ Below w.heap.size w w' := by
  go_enter Tryz.func138, Tryz.ntmps138
  go_wp2_with (go_at_call 191; refine (Tryz.stringslite_Clone s _ hlim).mono ?_; rintro e w' ⟨rfl, hb⟩)
  go_ret
  exact ⟨rfl, hb⟩
set_option maxHeartbeats 2000000 in
set_option maxRecDepth 100000 in
theorem word_any (b : Nat) (l sg : List UInt8) (g : Bool) (w : World) (h : TrAt w b l g) (hs : l.length ≤ 100000000) :
    Calls Tryz.prog 72 #[.pointer (some ⟨b, 0, none⟩), .string (bs sg)] w fun e w' => e = .returned (.string (bs (l.take (wordN sg l)))) ∧ TrOut w w' b (l.drop (wordN sg l)) (g || wordN sg l == 0) := by
  have hle := wordN_le sg l
  have hw := fun W => wordLen_any (bs l) (bs sg) W (by rw [bs_size]; omega)
  rw [bs_data, bs_data, wordLen_N] at hw
  generalize hn : wordN sg l = n at hw hle ⊢
  have hsz : (bs l).size = l.length := bs_size l
  have hx1 := take_bs l n
  have hx2 : (bs l).extract n l.length = bs (l.drop n) := by rw [← hsz]; exact drop_bs (bs l) n
  have hcl := fun W => strClone_any (bs (l.take n)) W (by rw [bs_size, List.length_take]; omega)
  have HH := hid h
  generalize bs sg = SG at hw ⊢
  have hfin : ∀ (g2 : Bool) (W : World), TrAt W b l g2 → ∀ W2, Below W.heap.size W W2 → TrOut W (W2.setCell ⟨b, 0, none⟩ (.string (bs (l.drop n)))) b (l.drop n) g2 := fun g2 W hW W2 hb2 =>
    (TrOut.below hW hb2).trans (TrOut.put (l2 := l.drop n) (g2 := g2) (TrOut.below hW hb2).at_ (just_put (j := 0) (TrOut.below hW hb2).at_ (.string (bs (l.drop n))) rfl))
  have hcells : ∀ (g2 : Bool) (W : World), TrAt W b l g2 → ∀ W2, Below W.heap.size W W2 → W2.cell? ⟨b, 0, none⟩ = some (.string (bs l)) ∧ W2.frozen? ⟨b, 0, none⟩ = false := fun g2 W hW W2 hb2 =>
    ⟨(tr_cells (TrOut.below hW hb2).at_).1, (tr_cells (TrOut.below hW hb2).at_).2.2.1⟩
  have HF := hid hfin
  have HCE := hid hcells
  generalize bs (l.take n) = X1 at hx1 hcl ⊢
  generalize bs (l.drop n) = X2 at hx2 HF
  obtain ⟨c0, c1, f0, f1⟩ := tr_cells h
  have HH1 := hid (TrOut.put (l2 := l) (g2 := true) h (just_put (j := 1) h (.bool true) rfl))
  generalize bs l = S at hw hsz hx1 hx2 c0 HCE
  have HCL := hid hcl
  have HW := hid hw
  clear hcl hw h hfin hcells
  by_cases h0 : n = 0
  · subst h0
    have q : (((0 : Nat) : Int) == 0) = true := rfl
    obtain rfl : ByteArray.empty = X1 := by rw [← hx1]; simp
    have q3 : (g || (0 : Nat) == 0) = true := by rw [show ((0 : Nat) == 0) = true from rfl, Bool.or_true]
    rw [q3]
    clear hn q3
    go_enter Tryz.func72, Tryz.ntmps72
    go_wp2_with (go_at_call 137; refine (HW.out _).mono ?_; rintro e w' ⟨rfl, rfl⟩)
    refine (HCL.out _).mono ?_
    rintro e W2 ⟨rfl, hb2⟩
    obtain ⟨k0, k1⟩ := HCE.out true _ HH1.out.at_ W2 hb2
    have HZ := hid (HH1.out.trans (HF.out true _ HH1.out.at_ W2 hb2))
    clear hb2 c0 f0 HH1
    go_wp2_with fail
    go_ret
    exact ⟨rfl, HZ.out⟩
  · have q : ((n : Int) == 0) = false := beq_eq_false_iff_ne.2 (by omega)
    have q2 : (g || n == 0) = g := by rw [show (n == 0) = false from beq_eq_false_iff_ne.2 h0, Bool.or_false]
    rw [q2]
    clear hn HH1 q2
    go_enter Tryz.func72, Tryz.ntmps72
    go_wp2_with (go_at_call 137; refine (HW.out _).mono ?_; rintro e w' ⟨rfl, rfl⟩)
    refine (HCL.out _).mono ?_
    rintro e W2 ⟨rfl, hb2⟩
    obtain ⟨k0, k1⟩ := HCE.out g _ HH.out W2 hb2
    have HZ := hid (HF.out g _ HH.out W2 hb2)
    clear hb2 c0 f0
    go_wp2_with fail
    go_ret
    exact ⟨rfl, HZ.out⟩
end Go.Proofs.YtcncbhbdpcpkeaaGreatDoor
