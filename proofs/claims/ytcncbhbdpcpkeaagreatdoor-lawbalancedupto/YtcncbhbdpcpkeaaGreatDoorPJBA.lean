/-
  Parts of the walk, joined: PolCodeB, ParW.
-/
import Derived.Test.YtcncbhbdpcpkeaaGreatDoorPJAU
import Derived.Test.YtcncbhbdpcpkeaaGreatDoorPJAJ
import Derived.Test.YtcncbhbdpcpkeaaGreatDoorPJAP
/-
  policy.Check: words, schemes, drops: their walks.
-/
namespace Go.Proofs.YtcncbhbdpcpkeaaGreatDoor
open Go.RowKit Go.Lib Own

theorem u8_bool (p : UInt8 → Bool) (h : ∀ n, n < 256 → p (UInt8.ofNat n) = true) (c : UInt8) : p c = true := by
  have := h c.toNat (UInt8.toNat_lt c)
  rwa [UInt8.ofNat_toNat] at this
theorem small_iff (c : UInt8) : smallL.contains c = decide (97 ≤ c.toNat ∧ c.toNat ≤ 122) := by
  have := u8_bool (fun c => smallL.contains c == decide (97 ≤ c.toNat ∧ c.toNat ≤ 122)) (by decide +kernel) c
  exact beq_iff_eq.1 this
theorem digit_iff (c : UInt8) : digitL.contains c = decide (48 ≤ c.toNat ∧ c.toNat ≤ 57) := by
  have := u8_bool (fun c => digitL.contains c == decide (48 ≤ c.toNat ∧ c.toNat ≤ 57)) (by decide +kernel) c
  exact beq_iff_eq.1 this
def okc (sg : List UInt8) (c : UInt8) : Bool := smallL.contains c || (digitL.contains c || sg.contains c)
def wordLenL (sg : List UInt8) : List UInt8 → Nat
  | [] => 0
  | c :: r => if smallL.contains c = true then 1 + (r.takeWhile (okc sg)).length else 0
theorem wordLen_cons (sg : List UInt8) (c : UInt8) (r : List UInt8) : wordLenL sg (c :: r) = if smallL.contains c = true then 1 + (r.takeWhile (okc sg)).length else 0 := rfl
/-- what holds while a word is read: all of the first k bytes belong to it -/
def WordAt (sg L : List UInt8) (k : Nat) : Prop := (k = 0 ∨ smallL.contains (L.headD 0) = true) ∧ ∀ j c, 0 < j → j < k → L[j]? = some c → okc sg c = true
theorem tw_len (p : UInt8 → Bool) : ∀ (r : List UInt8) (k : Nat), (∀ j c, j < k → r[j]? = some c → p c = true) → (∀ c, r[k]? = some c → p c = false) → k ≤ r.length → (r.takeWhile p).length = k
  | [], k, _, _, h => by simp at h; subst h; rfl
  | c :: r, 0, _, h, _ => by
    have := h c rfl
    rw [List.takeWhile_cons, this]
    rfl
  | c :: r, k + 1, h1, h2, h3 => by
    have hc := h1 0 c (by omega) rfl
    rw [List.takeWhile_cons, hc]
    simp only [if_true, List.length_cons]
    rw [tw_len p r k (fun j d hj hd => h1 (j + 1) d (by omega) (by rw [List.getElem?_cons_succ]; exact hd)) (fun d hd => h2 d (by rw [List.getElem?_cons_succ]; exact hd)) (by simpa using h3)]
theorem word_stop {sg L : List UInt8} {k : Nat} {c : UInt8} (h : WordAt sg L k) (hc : L[k]? = some c) (h0 : smallL.contains c = false) (h1 : k = 0 ∨ (digitL.contains c = false ∧ sg.contains c = false)) : wordLenL sg L = k := by
  cases L with
  | nil => simp at hc
  | cons d r =>
    cases k with
    | zero =>
      simp only [List.getElem?_cons_zero, Option.some.injEq] at hc
      subst hc
      rw [wordLen_cons, h0]
      rfl
    | succ k =>
      have hd : smallL.contains d = true := by
        rcases h.1 with h | h
        · omega
        · exact h
      rw [List.getElem?_cons_succ] at hc
      rw [wordLen_cons, if_pos hd, tw_len (okc sg) r k (fun j e hj he => h.2 (j + 1) e (by omega) (by omega) (by rw [List.getElem?_cons_succ]; exact he)) (fun e he => ?_) (Nat.le_of_lt (List.getElem?_eq_some_iff.1 hc).1)]
      · omega
      · obtain rfl := Option.some.inj (hc.symm.trans he)
        unfold okc
        rcases h1 with h1 | h1
        · omega
        · rw [h0, h1.1, h1.2]; rfl
theorem word_end {sg L : List UInt8} (h : WordAt sg L L.length) : wordLenL sg L = L.length := by
  cases L with
  | nil => rfl
  | cons d r =>
    have hd : smallL.contains d = true := by
      rcases h.1 with h | h
      · simp at h
      · exact h
    rw [wordLen_cons, if_pos hd, tw_len (okc sg) r r.length (fun j e hj he => h.2 (j + 1) e (by omega) (by simp; omega) (by rw [List.getElem?_cons_succ]; exact he)) (fun e he => by simp at he) (Nat.le_refl _)]
    rw [List.length_cons]; omega
theorem word_go {sg L : List UInt8} {k : Nat} {c : UInt8} (h : WordAt sg L k) (hc : L[k]? = some c) (h1 : smallL.contains c = true ∨ (k ≠ 0 ∧ okc sg c = true)) : WordAt sg L (k + 1) := by
  refine ⟨.inr ?_, fun j d h2 h3 hd => ?_⟩
  · rcases h.1 with h0 | h0
    · subst h0
      cases L with
      | nil => simp at hc
      | cons e r =>
        simp only [List.getElem?_cons_zero, Option.some.injEq] at hc
        subst hc
        rcases h1 with h1 | h1
        · exact h1
        · exact absurd rfl h1.1
    · exact h0
  · by_cases e : j = k
    · subst e
      obtain rfl := Option.some.inj (hc.symm.trans hd)
      rcases h1 with h1 | h1
      · unfold okc; rw [h1, Bool.true_or]
      · exact h1.2
    · exact h.2 j d h2 (by omega) hd
set_option maxHeartbeats 4000000 in
set_option maxRecDepth 100000 in
theorem wordLen_any (x sg : ByteArray) (w : World) (hx : x.size ≤ 1000000000) :
    Calls Tryz.prog 137 #[.string x, .string sg] w fun e w' => e = .returned (.int .i64 (wordLenL sg.data.toList x.data.toList)) ∧ w' = w := by
  have hxz := size_eq x
  obtain ⟨R, hR⟩ : ∃ R, wordLenL sg.data.toList x.data.toList = R := ⟨_, rfl⟩
  rw [hR]
  have HR := hid (fun (_ : True) => hR)
  have HZ := hid hxz
  clear hR hxz
  go_enter Tryz.func137, Tryz.ntmps137
  go_wp2_with fail
  go_loopw [5, 6, 9] (fun _ _ iv wr => ∃ k : Nat, iv = .int .i64 k ∧ k ≤ x.size ∧ wr = w ∧ Hid (WordAt sg.data.toList x.data.toList k)) (fun _ _ iv _ => x.size - (RowKit.intOf iv).toNat)
  case atStart => exact ⟨0, rfl, Nat.zero_le _, rfl, ⟨.inl rfl, fun j c h1 h2 => by omega⟩⟩
  case round =>
    obtain ⟨k, rfl, hk, rfl, HK⟩ := hrel
    by_cases hkl : k < x.size
    · obtain ⟨c, hc⟩ : ∃ c, x[k]'hkl = c := ⟨_, rfl⟩
      have hcl := getElem_list hkl hc
      have hs := small_iff c
      have hdg := digit_iff c
      by_cases h1 : 97 ≤ c.toNat ∧ c.toNat ≤ 122
      · rw [decide_eq_true h1] at hs
        have HN := hid (word_go HK.out hcl (.inl hs))
        obtain ⟨q1, q2⟩ := h1
        have z1 : (97 : Int) ≤ (c.toNat : Int) := by omega
        have z2 : (c.toNat : Int) ≤ 122 := by omega
        clear hcl hs hdg HK HR
        go_wp2_with fail
        go_roundw
        case rel => exact ⟨k + 1, rfl, by omega, by first | rfl | trivial, HN⟩
        case measure => simp [RowKit.intOf]; omega
      · rw [decide_eq_false h1] at hs
        have z1 : (decide ((97 : Int) ≤ (c.toNat : Int)) && decide ((c.toNat : Int) ≤ 122)) = false := by
          rw [Bool.and_eq_false_iff, decide_eq_false_iff_not, decide_eq_false_iff_not]
          omega
        by_cases hk0 : k = 0
        · subst hk0
          have hst := word_stop HK.out hcl hs (.inl rfl)
          rw [HR.out trivial] at hst
          subst hst
          have hu := UInt8.toNat_lt c
          clear hcl hs hdg HK HR
          by_cases g1 : (97 : Int) ≤ (c.toNat : Int)
          · have g2 : ¬ ((c.toNat : Int) ≤ 122) := by omega
            clear h1 z1
            go_wp2_with fail
            go_ret
            exact ⟨rfl, rfl⟩
          · clear h1 z1
            go_wp2_with fail
            go_ret
            exact ⟨rfl, rfl⟩
        · have qk : ((k : Int) == 0) = false := beq_eq_false_iff_ne.2 (by omega)
          have hu := UInt8.toNat_lt c
          have hdig := fun W => dig_any (c.toNat : Int) (by omega) (by omega) W
          have hdz : isDigZ (c.toNat : Int) = digitL.contains c := by
            rw [hdg]
            unfold isDigZ
            rw [Bool.eq_iff_iff, decide_eq_true_iff, decide_eq_true_iff]
            omega
          rw [hdz] at hdig
          have hib := fun W => Tryz.strings_IndexByte sg (c.toNat : Int) W
          have hback : ((c.toNat : Int)).toNat.toUInt8 = c := by simp
          rw [hback] at hib
          have hcon := Lib.contains_iff_indexByte sg.data.toList c
          generalize Lib.indexByte sg.data.toList c = z at hib hcon
          have HIB := hid hib
          have hcs : ∀ b1 b2, digitL.contains c = b1 → sg.data.toList.contains c = b2 → (b1 = true ∨ b2 = true → WordAt sg.data.toList x.data.toList (k + 1)) ∧ (b1 = false → b2 = false → R = k) := by
            intro b1 b2 e1 e2
            refine ⟨fun h => word_go HK.out hcl (.inr ⟨hk0, ?_⟩), fun h2 h3 => ?_⟩
            · unfold okc
              rw [hs, e1, e2]
              rcases h with h | h <;> simp [h]
            · rw [← HR.out trivial]
              exact word_stop HK.out hcl hs (.inr ⟨e1.trans h2, e2.trans h3⟩)
          have HCS := hid (hcs _ _ rfl rfl)
          generalize sg.data.toList.contains c = b2 at hcon HCS
          generalize digitL.contains c = b1 at hdig HCS
          have HD := hid hdig
          clear hcs hcl hs hdg HK HR hib hdig hdz hback
          have key : ∀ (P : Prop), ((97 : Int) ≤ (c.toNat : Int) → ¬ ((c.toNat : Int) ≤ 122) → P) → (¬ (97 : Int) ≤ (c.toNat : Int) → P) → P := fun P f1 f2 => by
            by_cases g1 : (97 : Int) ≤ (c.toNat : Int)
            · exact f1 g1 (by omega)
            · exact f2 g1
          clear h1 z1
          cases b1
          · cases b2
            · have hz : z < 0 := by have := of_decide_eq_false hcon.symm; omega
              obtain rfl := HCS.out.2 rfl rfl
              clear hcon HCS
              refine key _ (fun g1 g2 => ?_) (fun g1 => ?_)
              all_goals
                clear key
                go_wp2_with (first | (go_at_call 189; refine (HD.out _).mono ?_; rintro e w' ⟨rfl, rfl⟩) | (go_at_call 190; refine (HIB.out _).mono ?_; rintro e w' ⟨rfl, rfl⟩))
                go_ret
                exact ⟨rfl, rfl⟩
            · have hz : ¬ z < 0 := by have := of_decide_eq_true hcon.symm; omega
              have HN := hid (HCS.out.1 (.inr rfl))
              clear hcon HCS
              refine key _ (fun g1 g2 => ?_) (fun g1 => ?_)
              all_goals
                clear key
                go_wp2_with (first | (go_at_call 189; refine (HD.out _).mono ?_; rintro e w' ⟨rfl, rfl⟩) | (go_at_call 190; refine (HIB.out _).mono ?_; rintro e w' ⟨rfl, rfl⟩))
                go_roundw
              case rel => exact ⟨k + 1, rfl, by omega, by first | rfl | trivial, HN⟩
              case measure => simp [RowKit.intOf]; omega
              case rel => exact ⟨k + 1, rfl, by omega, by first | rfl | trivial, HN⟩
              case measure => simp [RowKit.intOf]; omega
          · have HN := hid (HCS.out.1 (.inl rfl))
            clear hcon HCS
            refine key _ (fun g1 g2 => ?_) (fun g1 => ?_)
            all_goals
              clear key
              go_wp2_with (first | (go_at_call 189; refine (HD.out _).mono ?_; rintro e w' ⟨rfl, rfl⟩) | (go_at_call 190; refine (HIB.out _).mono ?_; rintro e w' ⟨rfl, rfl⟩))
              go_roundw
            case rel => exact ⟨k + 1, rfl, by omega, by first | rfl | trivial, HN⟩
            case measure => simp [RowKit.intOf]; omega
            case rel => exact ⟨k + 1, rfl, by omega, by first | rfl | trivial, HN⟩
            case measure => simp [RowKit.intOf]; omega
    · obtain rfl : k = x.size := by omega
      have hst := word_end (sg := sg.data.toList) (L := x.data.toList) (by rw [← HZ.out]; exact HK.out)
      rw [HR.out trivial, ← HZ.out] at hst
      subst hst
      clear HK HR HZ
      go_wp2_with fail
      go_ret
      exact ⟨rfl, rfl⟩
end Go.Proofs.YtcncbhbdpcpkeaaGreatDoor

/-
  The token reader's small methods: their walks.
-/
namespace Go.Proofs.YtcncbhbdpcpkeaaGreatDoor
open Go.RowKit Go.Lib Own

theorem pre_size {s p : ByteArray} (h : Lib.hasPrefix s.data.toList p.data.toList = true) : p.size ≤ s.size := by
  unfold Lib.hasPrefix at h
  have := (List.isPrefixOf_iff_prefix.1 h).length_le
  rw [size_eq, size_eq]
  simpa using this
theorem drop_bs (s : ByteArray) (n : Nat) : s.extract n s.size = bs (s.data.toList.drop n) := by
  have := Lib.extract_to_end s n
  rw [← this]
  rfl
theorem cutPreL_any (s p : ByteArray) (w : World) (_hs : s.size ≤ 100000000) : Calls Tryz.prog 188 #[.string s, .string p] w fun e w' => e = .returned (.tuple #[.string (bs (Lib.trimPrefix s.data.toList p.data.toList)), .bool (Lib.hasPrefix s.data.toList p.data.toList)]) ∧ w' = w := by
  have hc := fun W => Tryz.stringslite_HasPrefix s p W
  have hsz := @pre_size s p
  have hd := drop_bs s p.size
  have hpl : p.data.toList.length = p.size := by rw [size_eq]
  cases hh : Lib.hasPrefix s.data.toList p.data.toList with
  | true =>
    rw [hh] at hc hsz
    have hsz := hsz rfl
    have ht : Lib.trimPrefix s.data.toList p.data.toList = s.data.toList.drop p.size := by unfold Lib.trimPrefix; rw [if_pos hh, hpl]
    rw [ht, ← hd]
    have HC := hid hc
    clear hc hd hh ht hpl
    go_enter Tryz.func188, Tryz.ntmps188
    go_wp2_with (go_at_call 222; refine (HC.out _).mono ?_; rintro e w' ⟨rfl, rfl⟩)
    refine bodyPost_ret (v := .tuple #[.string (s.extract p.size s.size), .bool true]) ?_ rfl ⟨rfl, rfl⟩
    simp [results, Tryz.results188, go_sem]
  | false =>
    rw [hh] at hc
    have ht : Lib.trimPrefix s.data.toList p.data.toList = s.data.toList := by unfold Lib.trimPrefix; rw [if_neg (by rw [hh]; simp)]
    rw [ht, bs_of]
    have HC := hid hc
    clear hc hd hh ht hpl hsz
    go_enter Tryz.func188, Tryz.ntmps188
    go_wp2_with (go_at_call 222; refine (HC.out _).mono ?_; rintro e w' ⟨rfl, rfl⟩)
    refine bodyPost_ret (v := .tuple #[.string s, .bool false]) ?_ rfl ⟨rfl, rfl⟩
    simp [results, Tryz.results188, go_sem]
theorem cutPre_any (s p : ByteArray) (w : World) (hs : s.size ≤ 100000000) : Calls Tryz.prog 136 #[.string s, .string p] w fun e w' => e = .returned (.tuple #[.string (bs (Lib.trimPrefix s.data.toList p.data.toList)), .bool (Lib.hasPrefix s.data.toList p.data.toList)]) ∧ w' = w := by
  have hc := fun W => cutPreL_any s p W hs
  generalize Lib.hasPrefix s.data.toList p.data.toList = B at hc ⊢
  generalize bs (Lib.trimPrefix s.data.toList p.data.toList) = T at hc ⊢
  have HC := hid hc
  clear hc
  go_enter Tryz.func136, Tryz.ntmps136
  go_wp2_with (go_at_call 188; refine (HC.out _).mono ?_; rintro e w' ⟨rfl, rfl⟩)
  refine bodyPost_ret (v := .tuple #[.string T, .bool B]) ?_ rfl ⟨rfl, rfl⟩
  simp [results, Tryz.results136, go_sem]
/-- a token reader in memory -/
def TrAt (w : World) (b : Nat) (l : List UInt8) (wrong : Bool) : Prop := w.heap[b]? = some (.cells #[.string (bs l), .bool wrong] 131 (0, 0))
/-- a reader has gone on; all else stays -/
structure TrOut (w w' : World) (b : Nat) (l : List UInt8) (wrong : Bool) : Prop where
  at_ : TrAt w' b l wrong
  gr : w.grownBy w' (some b)
theorem grown_trans {w w1 w2 : World} {b : Nat} (h1 : w.grownBy w1 (some b)) (h2 : w1.grownBy w2 (some b)) : w.grownBy w2 (some b) :=
  ⟨h2.os.trans h1.os, h2.tape.trans h1.tape, h2.output.trans h1.output, Nat.le_trans h1.size h2.size, fun k hk hb => (h2.block k (Nat.lt_of_lt_of_le hk h1.size) hb).trans (h1.block k hk hb)⟩
theorem TrOut.trans {w w1 w2 : World} {b : Nat} {l l2 : List UInt8} {g g2 : Bool} (h1 : TrOut w w1 b l g) (h2 : TrOut w1 w2 b l2 g2) : TrOut w w2 b l2 g2 := ⟨h2.at_, grown_trans h1.gr h2.gr⟩
theorem TrOut.refl {w : World} {b : Nat} {l : List UInt8} {g : Bool} (h : TrAt w b l g) : TrOut w w b l g := ⟨h, ⟨rfl, rfl, rfl, Nat.le_refl _, fun _ _ _ => rfl⟩⟩
theorem TrOut.below {w w' : World} {b : Nat} {l : List UInt8} {g : Bool} (h : TrAt w b l g) (hb : Below w.heap.size w w') : TrOut w w' b l g := ⟨(hb.block b (block_lt h)).trans h, grown_below hb _⟩
theorem TrOut.put {w : World} {b : Nat} {l l2 : List UInt8} {g g2 : Bool} (_h : TrAt w b l g) {w' : World} (hj : Just w w' b #[.string (bs l2), .bool g2] 131) : TrOut w w' b l2 g2 := ⟨hj.at_, just_grown hj⟩
theorem tr_cells {w : World} {b : Nat} {l : List UInt8} {g : Bool} (h : TrAt w b l g) : w.cell? ⟨b, 0, none⟩ = some (.string (bs l)) ∧ w.cell? ⟨b, 1, none⟩ = some (.bool g) ∧ w.frozen? ⟨b, 0, none⟩ = false ∧ w.frozen? ⟨b, 1, none⟩ = false :=
  ⟨cell_at h (j := 0) rfl, cell_at h (j := 1) rfl, free_at h 0, free_at h 1⟩

set_option maxHeartbeats 1000000 in
theorem skip_any (b : Nat) (l p : List UInt8) (g : Bool) (w : World) (h : TrAt w b l g) (hs : l.length ≤ 100000000) :
    Calls Tryz.prog 71 #[.pointer (some ⟨b, 0, none⟩), .string (bs p)] w fun e w' => e = .returned (.bool (p.isPrefixOf l)) ∧ TrOut w w' b (if p.isPrefixOf l = true then l.drop p.length else l) g := by
  have hc := fun W => cutPre_any (bs l) (bs p) W (by rw [bs_size]; exact hs)
  rw [bs_data, bs_data] at hc
  have ht : Lib.trimPrefix l p = if p.isPrefixOf l = true then l.drop p.length else l := rfl
  rw [ht, show Lib.hasPrefix l p = p.isPrefixOf l from rfl] at hc
  clear ht
  generalize p.isPrefixOf l = B at hc ⊢
  generalize (if B = true then l.drop p.length else l) = X at hc ⊢
  obtain ⟨c0, c1, f0, f1⟩ := tr_cells h
  have hj := just_put (j := 0) h (.string (bs X)) rfl
  have HZ := hid (TrOut.put (g2 := g) h hj)
  generalize bs p = P at hc ⊢
  generalize bs X = T at hc HZ
  generalize bs l = S at hc c0
  have HC := hid hc
  clear hc hj h
  go_enter Tryz.func71, Tryz.ntmps71
  go_wp2_with (go_at_call 136; refine (HC.out _).mono ?_; rintro e w' ⟨rfl, rfl⟩)
  go_ret
  exact ⟨rfl, HZ.out⟩
set_option maxHeartbeats 1000000 in
theorem need_any (b : Nat) (l p : List UInt8) (g : Bool) (w : World) (h : TrAt w b l g) (hs : l.length ≤ 100000000) :
    Calls Tryz.prog 73 #[.pointer (some ⟨b, 0, none⟩), .string (bs p)] w fun e w' => e = .returned (.tuple #[]) ∧ TrOut w w' b (if p.isPrefixOf l = true then l.drop p.length else l) (g || !p.isPrefixOf l) := by
  have hc := skip_any b l p g w h hs
  generalize hB : p.isPrefixOf l = B at hc ⊢
  generalize bs p = P at hc ⊢
  have HC := hid hc
  clear hc h hs
  cases B with
  | true =>
    rw [if_pos rfl] at HC ⊢
    simp only [Bool.not_true, Bool.or_false]
    clear hB
    go_enter Tryz.func73, Tryz.ntmps73
    go_wp2_with fail
    refine HC.out.mono ?_
    rintro e W1 ⟨rfl, ho⟩
    have HO := hid ho
    clear ho HC
    go_wp2_with fail
    go_end0
    exact ⟨rfl, HO.out⟩
  | false =>
    rw [if_neg (by simp)] at HC ⊢
    simp only [Bool.not_false, Bool.or_true]
    clear hB
    go_enter Tryz.func73, Tryz.ntmps73
    go_wp2_with fail
    refine HC.out.mono ?_
    rintro e W1 ⟨rfl, ho⟩
    obtain ⟨c0, c1, f0, f1⟩ := tr_cells ho.at_
    have hj := just_put (j := 1) ho.at_ (.bool true) rfl
    have HO := hid (ho.trans (TrOut.put (l2 := l) (g2 := true) ho.at_ hj))
    clear ho HC hj
    go_wp2_with fail
    go_end0
    exact ⟨rfl, HO.out⟩
end Go.Proofs.YtcncbhbdpcpkeaaGreatDoor
