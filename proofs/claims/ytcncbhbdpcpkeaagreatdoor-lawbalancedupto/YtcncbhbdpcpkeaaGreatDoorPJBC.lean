/-
  Parts of the walk, joined: ParY.
-/
import Derived.Test.YtcncbhbdpcpkeaaGreatDoorPJBA
/-
  The token reader's word: its walk; what Cut gives at a sign.
-/
namespace Go.Proofs.YtcncbhbdpcpkeaaGreatDoor
open Go.RowKit Go.Lib Own

theorem wordLen_N (sg : List UInt8) : ∀ l : List UInt8, wordLenL sg l = wordN sg l := by
  have h1 : ∀ c : UInt8, smallL.contains c = smallB c := fun c => by
    have := u8_all (p := fun c => smallL.contains c == smallB c) (by decide +kernel) c
    exact beq_iff_eq.1 this
  have h2 : ∀ c : UInt8, digitL.contains c = decide (48 ≤ c.toNat ∧ c.toNat ≤ 57) := fun c => by
    have := u8_all (p := fun c => digitL.contains c == decide (48 ≤ c.toNat ∧ c.toNat ≤ 57)) (by decide +kernel) c
    exact beq_iff_eq.1 this
  have h3 : okc sg = wordB sg := funext fun c => by unfold okc wordB; rw [h1, h2]
  intro l
  cases l with
  | nil => rfl
  | cons c r =>
    rw [wordLen_cons, h1, h3, show wordN sg (c :: r) = if smallB c = true then (r.takeWhile (wordB sg)).length + 1 else 0 from rfl, Nat.add_comm]
theorem index_sign (x : UInt8) : ∀ (L : List UInt8), (Lib.index L [x] = -1 ∧ ∀ c ∈ L, c ≠ x) ∨ ∃ a b, L = a ++ x :: b ∧ (∀ c ∈ a, c ≠ x) ∧ Lib.index L [x] = (a.length : Int)
  | [] => .inl ⟨rfl, fun _ h => by cases h⟩
  | c :: l => by
    by_cases hc : c = x
    · subst hc
      refine .inr ⟨[], l, rfl, (fun _ h => by cases h), ?_⟩
      unfold Lib.index
      rw [if_pos (by simp [List.isPrefixOf])]
      rfl
    · have hp : List.isPrefixOf [x] (c :: l) = false := by simp [List.isPrefixOf]; exact fun h => hc h.symm
      rcases index_sign x l with ⟨h1, h2⟩ | ⟨a, b, rfl, h2, h3⟩
      · refine .inl ⟨by unfold Lib.index; rw [hp, h1]; rfl, fun d hd => ?_⟩
        rcases List.mem_cons.1 hd with rfl | hd
        · exact hc
        · exact h2 d hd
      · refine .inr ⟨c :: a, b, rfl, fun d hd => ?_, ?_⟩
        · rcases List.mem_cons.1 hd with rfl | hd
          · exact hc
          · exact h2 d hd
        · unfold Lib.index
          rw [hp, h3]
          have : ((a.length : Int) == -1) = false := by rw [beq_eq_false_iff_ne]; omega
          simp [this]
theorem takeWhile_ne {x : UInt8} {a : List UInt8} (h : ∀ c ∈ a, c ≠ x) (r : List UInt8) : (a ++ x :: r).takeWhile (fun c => c != x) = a :=
  takeWhile_stop (fun c hc => by rw [bne_iff_ne]; exact h c hc) fun c hc => by cases hc; simp
theorem cut_sign (x : UInt8) (L : List UInt8) : (Lib.cut L [x]).1 = L.takeWhile (fun c => c != x) ∧ (Lib.cut L [x]).2.1 = L.drop ((L.takeWhile (fun c => c != x)).length + 1) := by
  rcases index_sign x L with ⟨h1, h2⟩ | ⟨a, b, rfl, h2, h3⟩
  · have h4 : L.takeWhile (fun c => c != x) = L := by
      have := takeWhile_stop (p := fun c => c != x) (a := L) (r := []) (fun c hc => by rw [bne_iff_ne]; exact h2 c hc) (fun c hc => by cases hc)
      rw [List.append_nil] at this
      exact this
    have h5 : Lib.cut L [x] = (L, [], false) := by unfold Lib.cut; rw [h1]; rfl
    rw [h4, h5]
    exact ⟨rfl, by rw [List.drop_of_length_le (Nat.le_succ _)]⟩
  · have h5 : Lib.cut (a ++ x :: b) [x] = (a, b, true) := by
      unfold Lib.cut
      rw [h3, if_pos (by omega)]
      have e : (a.length : Int).toNat = a.length := rfl
      rw [e, List.take_left, List.drop_append, List.drop_of_length_le (by omega)]
      simp
    rw [takeWhile_ne h2, h5, ← List.drop_drop, List.drop_left]
    exact ⟨rfl, rfl⟩
theorem take_bs (l : List UInt8) (n : Nat) : (bs l).extract 0 n = bs (l.take n) := by
  rw [← bs_of ((bs l).extract 0 n), extract_list, bs_data]
  simp
theorem strClone_any (s : ByteArray) (w : World) (hlim : s.size ≤ 281474976710656) : Calls Tryz.prog 138 #[.string s] w fun e w' => e = .returned (.string s) ∧ Below w.heap.size w w' := by
  go_enter Tryz.func138, Tryz.ntmps138
  go_wp2_with (go_at_call 191; refine (Tryz.stringslite_Clone s _ hlim).mono ?_; rintro e w' ⟨rfl, hb⟩)
  go_ret
  exact ⟨rfl, hb⟩
set_option maxHeartbeats 2000000 in
set_option maxRecDepth 100000 in
theorem word_any (b : Nat) (l sg : List UInt8) (g : Bool) (w : World) (h : TrAt w b l g) (hs : l.length ≤ 100000000) :
    Calls Tryz.prog 72 #[.pointer (some ⟨b, 0, none⟩), .string (bs sg)] w fun e w' => e = .returned (.string (bs (l.take (wordN sg l)))) ∧ TrOut w w' b (l.drop (wordN sg l)) (g || wordN sg l == 0) := by
  have hle := wordN_le sg l
  have hw := fun W => wordLen_any (bs l) (bs sg) W (by rw [bs_size]; omega)
  rw [bs_data, bs_data, wordLen_N] at hw
  generalize hn : wordN sg l = n at hw hle ⊢
  have hsz : (bs l).size = l.length := bs_size l
  have hx1 := take_bs l n
  have hx2 : (bs l).extract n l.length = bs (l.drop n) := by rw [← hsz]; exact drop_bs (bs l) n
  have hcl := fun W => strClone_any (bs (l.take n)) W (by rw [bs_size, List.length_take]; omega)
  have HH := hid h
  generalize bs sg = SG at hw ⊢
  have hfin : ∀ (g2 : Bool) (W : World), TrAt W b l g2 → ∀ W2, Below W.heap.size W W2 → TrOut W (W2.setCell ⟨b, 0, none⟩ (.string (bs (l.drop n)))) b (l.drop n) g2 := fun g2 W hW W2 hb2 =>
    (TrOut.below hW hb2).trans (TrOut.put (l2 := l.drop n) (g2 := g2) (TrOut.below hW hb2).at_ (just_put (j := 0) (TrOut.below hW hb2).at_ (.string (bs (l.drop n))) rfl))
  have hcells : ∀ (g2 : Bool) (W : World), TrAt W b l g2 → ∀ W2, Below W.heap.size W W2 → W2.cell? ⟨b, 0, none⟩ = some (.string (bs l)) ∧ W2.frozen? ⟨b, 0, none⟩ = false := fun g2 W hW W2 hb2 =>
    ⟨(tr_cells (TrOut.below hW hb2).at_).1, (tr_cells (TrOut.below hW hb2).at_).2.2.1⟩
  have HF := hid hfin
  have HCE := hid hcells
  generalize bs (l.take n) = X1 at hx1 hcl ⊢
  generalize bs (l.drop n) = X2 at hx2 HF
  obtain ⟨c0, c1, f0, f1⟩ := tr_cells h
  have HH1 := hid (TrOut.put (l2 := l) (g2 := true) h (just_put (j := 1) h (.bool true) rfl))
  generalize bs l = S at hw hsz hx1 hx2 c0 HCE
  have HCL := hid hcl
  have HW := hid hw
  clear hcl hw h hfin hcells
  by_cases h0 : n = 0
  · subst h0
    have q : (((0 : Nat) : Int) == 0) = true := rfl
    obtain rfl : ByteArray.empty = X1 := by rw [← hx1]; simp
    have q3 : (g || (0 : Nat) == 0) = true := by rw [show ((0 : Nat) == 0) = true from rfl, Bool.or_true]
    rw [q3]
    clear hn q3
    go_enter Tryz.func72, Tryz.ntmps72
    go_wp2_with (go_at_call 137; refine (HW.out _).mono ?_; rintro e w' ⟨rfl, rfl⟩)
    refine (HCL.out _).mono ?_
    rintro e W2 ⟨rfl, hb2⟩
    obtain ⟨k0, k1⟩ := HCE.out true _ HH1.out.at_ W2 hb2
    have HZ := hid (HH1.out.trans (HF.out true _ HH1.out.at_ W2 hb2))
    clear hb2 c0 f0 HH1
    go_wp2_with fail
    go_ret
    exact ⟨rfl, HZ.out⟩
  · have q : ((n : Int) == 0) = false := beq_eq_false_iff_ne.2 (by omega)
    have q2 : (g || n == 0) = g := by rw [show (n == 0) = false from beq_eq_false_iff_ne.2 h0, Bool.or_false]
    rw [q2]
    clear hn HH1 q2
    go_enter Tryz.func72, Tryz.ntmps72
    go_wp2_with (go_at_call 137; refine (HW.out _).mono ?_; rintro e w' ⟨rfl, rfl⟩)
    refine (HCL.out _).mono ?_
    rintro e W2 ⟨rfl, hb2⟩
    obtain ⟨k0, k1⟩ := HCE.out g _ HH.out W2 hb2
    have HZ := hid (HF.out g _ HH.out W2 hb2)
    clear hb2 c0 f0
    go_wp2_with fail
    go_ret
    exact ⟨rfl, HZ.out⟩
end Go.Proofs.YtcncbhbdpcpkeaaGreatDoor
