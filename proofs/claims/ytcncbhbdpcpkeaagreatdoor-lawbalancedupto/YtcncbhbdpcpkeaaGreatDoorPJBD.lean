/-
  Parts of the walk, joined: ParD, ParE, ParF.
-/
import Derived.Test.YtcncbhbdpcpkeaaGreatDoorPJBB
import Derived.Test.YtcncbhbdpcpkeaaGreatDoorPJBC
import Derived.Test.YtcncbhbdpcpkeaaGreatDoorPJAG
/-
  The token reader's decode: its walk.
-/
namespace Go.Proofs.YtcncbhbdpcpkeaaGreatDoor
open Go.RowKit Go.Lib Own

theorem bstart (W : World) (s : ByteArray) (T e : TypeId) : Lib.IsBuilderF T e W.heap.size W.heap.size (Lib.byteCells []) ((W.alloc (.cells #[.pointer none, .slice none 0 0] T)).alloc (.stringIter s 0)) := by
  refine Lib.IsBuilderF.of (Or.inl ⟨Nat.le_refl _, .slice none 0 0, ?_, World.ownsRow_nil _ _ _ _, by simp [Value.ownBlock]⟩)
  rw [Lib.alloc_old _ _ _ (by simp)]
  exact heap_alloc_new W _
/-- what decode answers -/
def decR (g : Bool) (raw : List UInt8) : List UInt8 := if g = true then [] else (decP raw).getD []
theorem decR_bad {raw : List UInt8} (h : decP raw = none) : decR false raw = [] := by unfold decR; rw [h]; rfl
theorem decR_some {raw b : List UInt8} (h : decP raw = some b) : decR false raw = b := by unfold decR; rw [h]; rfl
theorem normal_same {raw : List UInt8} : ((rd false false raw).1 = raw) ↔ gt raw = true := by
  constructor
  · intro h
    have := gt_rd false _ false raw (Nat.le_refl _)
    rw [h] at this
    exact this
  · intro h
    rw [rd_good _ raw (Nat.le_refl _) h]

theorem tr_later {w W1 W : World} {b : Nat} {l : List UInt8} {g : Bool} (h : TrAt w b l g) (h1 : Below w.heap.size w W1) (h2 : Below W1.heap.size W1 W) : TrOut w W b l g := TrOut.below h (h1.trans (h2.mono h1.size))
theorem tr_wrong {w W1 W : World} {b : Nat} {l : List UInt8} {g : Bool} (h : TrAt w b l g) (h1 : Below w.heap.size w W1) (h2 : Below W1.heap.size W1 W) : TrOut w (W.setCell ⟨b, 1, none⟩ (.bool true)) b l true :=
  (tr_later h h1 h2).trans (TrOut.put (l2 := l) (g2 := true) (tr_later h h1 h2).at_ (just_put (j := 1) (tr_later h h1 h2).at_ (.bool true) rfl))
set_option maxHeartbeats 8000000 in
set_option maxRecDepth 100000 in
theorem trDecode_any (b : Nat) (l raw : List UInt8) (g : Bool) (w : World) (h : TrAt w b l g) (hs : raw.length ≤ 100000000) (hM : MRefTab w) :
    Calls Tryz.prog 141 #[.pointer (some ⟨b, 0, none⟩), .string (bs raw)] w fun e w' => e = .returned (.string (bs (decR g raw))) ∧ TrOut w w' b l (g || (decP raw).isNone) := by
  obtain ⟨c0, c1, f0, f1⟩ := tr_cells h
  cases g with
  | true =>
    have hj := just_put (j := 1) h (.bool true) rfl
    have HZ := hid (TrOut.put (l2 := l) (g2 := true) h hj)
    rw [Bool.true_or, show decR true raw = [] from rfl]
    generalize bs raw = S
    clear h hs hM hj
    go_enter Tryz.func141, Tryz.ntmps141
    go_wp2_with fail
    go_ret
    exact ⟨rfl, HZ.out⟩
  | false =>
    rw [Bool.false_or]
    have hn := normal_any (bs raw) w (by rw [bs_size]; omega)
    rw [bs_data] at hn
    have hsz : (bs raw).size = raw.length := bs_size raw
    obtain ⟨N, hN⟩ : ∃ N : ByteArray, (⟨(rd false false raw).1.toArray⟩ : ByteArray) = N := ⟨_, rfl⟩
    rw [hN] at hn
    have hNl : N.data.toList = (rd false false raw).1 := by rw [← hN]
    by_cases hg : gt raw = true
    · -- every character is good
      have hsame : N = bs raw := by
        rw [← bs_of N, hNl, normal_same.2 hg]
      have q1 : (N.toList == (bs raw).toList) = true := by rw [hsame]; simp
      have q2 : (N.toList != (bs raw).toList) = false := by rw [hsame]; simp
      have hst := DecInv.start hg
      obtain ⟨R, hR⟩ : ∃ R, decP raw = R := ⟨_, rfl⟩
      rw [hR]
      have HR := hid (fun (_ : True) => hR)
      have HN := hid hn
      have HST := hid hst
      have HH := hid (And.intro h hM)
      have HB := hid (fun (_ : True) => (show (bs raw).data.toList = raw from rfl))
      obtain ⟨D, hD⟩ : ∃ D, bs (decR false raw) = D := ⟨_, rfl⟩
      rw [hD]
      have HD := hid (fun (_ : True) => hD)
      generalize bs raw = S at hsz q1 q2 HN HB ⊢
      have HSZ := hid (fun (_ : True) => hsz)
      have HS0 := hid (fun (_ : True) => hs)
      clear hsz
      clear h hs hM hst hN hNl hsame hn hR hg hD
      go_enter Tryz.func141, Tryz.ntmps141
      go_wp2_with (go_at_call 193; refine HN.out.mono ?_; rintro e W1 ⟨rfl, hb1⟩)
      clear q1 q2
      have hbs : Lib.IsBuilderF 67 5 W1.heap.size W1.heap.size (Lib.byteCells []) ((W1.alloc (.cells #[.pointer none, .slice none 0 0] 67)).alloc (.stringIter S 0)) := bstart W1 S _ _
      have hbB := hid hbs
      have HB1 := hid hb1
      clear hbs hb1
      go_loopw [6] (fun bv wr => ∃ (pos beh : Nat) (acc : List UInt8), bv = .int .i64 beh ∧ Lib.IsBuilderF 67 5 W1.heap.size W1.heap.size (Lib.byteCells acc) wr ∧ wr.heap[W1.heap.size + 1]? = some (.stringIter S pos) ∧ Below W1.heap.size W1 wr ∧ Hid (DecInv raw pos beh acc) ∧ pos ≤ S.size) (fun _ wr => S.size - wr.iterPos (W1.heap.size + 1))
      case atStart =>
        refine ⟨0, 0, [], rfl, hbB.out, ?_, ?_, HST, Nat.zero_le _⟩
        · have := World.iter_heap (W1.alloc (.cells #[.pointer none, .slice none 0 0] 67)) S 0
          simpa using this
        · exact ((Below.refl _ W1).alloc (Nat.le_refl _) _).alloc (by simp) _
      case round =>
        clear hbB HST
        obtain ⟨pos, beh, acc, rfl, hI, hit, hbw, HA, hps⟩ := hrel
        have hsz1 : W1.heap.size + 1 < wr.heap.size := (Array.getElem?_eq_some_iff.1 hit).1
        by_cases hp : pos < S.size
        · obtain ⟨c, n, hd⟩ : ∃ c n, Utf8.decode S pos = (c, n) := ⟨_, _, rfl⟩
          obtain ⟨hw1, hw2, hw3⟩ := step_width hd hp
          have hdl : decodeL (raw.drop pos) = (c, n) := by
            have := decodeL_drop S pos
            rw [HB.out trivial] at this
            exact this.trans hd
          have hnx : ∀ ty, (Instr.next (.pointer (some ⟨W1.heap.size + 1, 0, none⟩)) true ty).run Tryz.prog wr = .ok (.tuple #[.bool true, .int .i64 pos, .int .i32 c]) (wr.iterAt (W1.heap.size + 1) S (pos + n)) := fun ty => by
            have := Lib.run_next_any_at (P := Tryz.prog) wr (W1.heap.size + 1) S pos ty hit hp
            rwa [hd] at this
          have hI2 := hI.iterAt hit (pos + n)
          have hit2 := Lib.iterAt_heap wr (W1.heap.size + 1) S pos (pos + n) hit
          have hbw2 := Lib.below_iterAt hbw (k := W1.heap.size + 1) (by omega) S (pos + n)
          have hsz2 : W1.heap.size ≤ (wr.iterAt (W1.heap.size + 1) S (pos + n)).heap.size := by rw [Lib.iterAt_size]; omega
          have hle := HA.out.le
          have hal := HA.out.len
          clear hd
          by_cases hpb : pos < beh
          · have d1 : decide ((pos : Int) < (beh : Int)) = true := decide_eq_true (by omega)
            have d2 : (pos : Int) < (beh : Int) := by omega
            obtain ⟨⟨c', hc1, hc2⟩, hinv⟩ := HA.out.skip hpb
            rw [hdl] at hc2
            simp only [Prod.mk.injEq] at hc2
            obtain ⟨_, rfl⟩ := hc2
            have HI := hid hinv
            clear hinv hdl HA
            go_wp2_with fail
            go_roundw
            case rel => exact ⟨pos + 1, beh, acc, rfl, hI2, hit2, hbw2, HI, hw2⟩
            case measure =>
              simp only [World.iterPos, hit2, hit]
              omega
          · have d1 : decide ((pos : Int) < (beh : Int)) = false := decide_eq_false (by omega)
            have d2 : ¬ (pos : Int) < (beh : Int) := by omega
            by_cases h38 : c = 38
            · subst h38
              have hfr := fun W (hW : Below W1.heap.size W1 W) => findRefM_any (S.extract pos S.size) W (((HH.out.2).below HB1.out).below hW)
              have hex : (S.extract pos S.size).data.toList = raw.drop pos := by
                have := Lib.extract_to_end S pos
                rw [this, HB.out trivial]
              rw [hex] at hfr
              by_cases hm : (mrefF mrefT (raw.drop pos)).1 = []
              · have hbad := HA.out.bad (by omega) (by have := HSZ.out trivial; omega) hdl hm
                rw [HR.out trivial] at hbad
                subst hbad
                have hD := HD.out trivial
                rw [decR_bad (HR.out trivial)] at hD
                obtain rfl : (⟨#[]⟩ : ByteArray) = D := hD
                rw [hm] at hfr
                have hbe : bs ([] : List UInt8) = ⟨#[]⟩ := rfl
                rw [hbe] at hfr
                have HFR := hid hfr
                clear hfr hdl hex hm hbe HD HR HA
                go_wp2_with fail
                refine (HFR.out _ hbw2).mono ?_
                rintro e W2 ⟨rfl, hb2⟩
                have hb3 : Below W1.heap.size W1 (W2.alloc (.cells #[.string ⟨#[]⟩, .int .i32 (mrefF mrefT (raw.drop pos)).2] 224)) := (hbw2.trans (hb2.mono hsz2)).alloc (by have := hb2.size; omega) _
                have HZ := hid (tr_wrong HH.out.1 HB1.out hb3)
                obtain ⟨_, c1, _, f1⟩ := tr_cells (tr_later HH.out.1 HB1.out hb3).at_
                clear hb2 hb3 hI2 hit2 hI hit hbw hbw2 c0 f0
                go_wp2_with fail
                go_ret
                exact ⟨rfl, HZ.out⟩
              · obtain ⟨hn1, hinv⟩ := HA.out.ref (by omega) (by have := HSZ.out trivial; omega) hdl hm
                subst hn1
                obtain ⟨_, _, _, _, k4, k5, k6⟩ := mref_some hm
                have hmne := hm
                have hne2 : ((bs (mrefF mrefT (raw.drop pos)).1).toList == []) = false := by rw [bs_toList]; exact beq_eq_false_iff_ne.2 hm
                have hms := bs_size (mrefF mrefT (raw.drop pos)).1
                generalize mrefF mrefT (raw.drop pos) = M at *
                obtain ⟨M1, M2⟩ := M
                simp only at *
                generalize hbm : bs M1 = BM at hfr hne2 hms
                rw [← hms] at hinv
                have hq : IntKind.i64.wrap ((pos : Int) + (BM.size : Int)) = (pos : Int) + (BM.size : Int) := by have := HSZ.out trivial; have := HS0.out trivial; rw [IntKind.wrap_i64]; omega
                have HAL := hid (fun (_ : True) => And.intro hal (And.intro (HSZ.out trivial) (And.intro (HS0.out trivial) hle)))
                have HFR := hid hfr
                have HI := hid hinv
                clear hfr hinv hdl hex hm HA hmne hms hbm hal hle
                go_wp2_with fail
                refine (HFR.out _ hbw2).mono ?_
                rintro e W2 ⟨rfl, hb2⟩
                have hI3 := builder_below hI2 hb2
                have hszi : (wr.iterAt (W1.heap.size + 1) S (pos + 1)).heap.size = wr.heap.size := Lib.iterAt_size _ _ _ _
                have hsz2' := hb2.size
                have hit3 := (hb2.block (W1.heap.size + 1) (by omega)).trans hit2
                have hbw3 := hbw2.trans (hb2.mono hsz2)
                obtain ⟨W4, hW4⟩ : ∃ W4, W2.alloc (.cells #[.string BM, .int .i32 M2] 224) = W4 := ⟨_, rfl⟩
                have hb4 : Below W2.heap.size W2 W4 := by rw [← hW4]; exact (Below.refl _ _).alloc (Nat.le_refl _) _
                have hn4 : W4.heap[W2.heap.size]? = some (.cells #[.string BM, .int .i32 M2] 224 (0, 0)) := by rw [← hW4]; exact heap_alloc_new _ _
                have hI4 := builder_below hI3 hb4
                have hit4 := (hb4.block (W1.heap.size + 1) (by omega)).trans hit3
                have hbw4 := hbw3.trans (hb4.mono (by omega))
                have hsz4 : W1.heap.size ≤ W4.heap.size := by have := hb4.size; omega
                have n0 := cell_at hn4 (j := 0) rfl
                have n1 := cell_at hn4 (j := 1) rfl
                clear hb2 hI2 hit2 hbw2 hI3 hit3 hbw3 hb4 hn4
                go_upto_region 12 with fail
                (try simp only [hW4])
                clear hW4
                go_wp2_with fail
                go_quiet (fail)
                all_goals
                  generalize hW5 : W4.drewN nq = W5
                  have hI5 : Lib.IsBuilderF 67 5 W1.heap.size W1.heap.size (Lib.byteCells acc) W5 := by rw [← hW5]; exact hI4
                  have hit5 : W5.heap[W1.heap.size + 1]? = some (.stringIter S (pos + 1)) := by rw [← hW5]; exact hit4
                  have hbw5 : Below W1.heap.size W1 W5 := by rw [← hW5]; exact below_drewN hbw4 nq
                  have hsz5 : W1.heap.size ≤ W5.heap.size := by rw [← hW5]; exact hsz4
                  clear hW5 hI4 hit4 hbw4 n0 n1
                  go_wp2_with fail
                  refine (Tryz.Builder_WriteRune_k W1.heap.size W1.heap.size _ M2 (by omega) (by omega) _ hI5 (by rw [Lib.byteCells_length]; have := HAL.out trivial; omega) hsz5).mono ?_
                  rintro e W6 ⟨rfl, h1, b1, k1⟩
                  go_wp2_with fail
                  go_roundw
                case rel =>
                  refine ⟨pos + 1, pos + BM.size, acc ++ encodeRune M2, by push_cast; rfl, ?_, k1.iter hit5 (by omega), hbw5.trans b1, HI, hw2⟩
                  rw [Lib.byteCells_append, Lib.byteCells_encodeRune]
                  exact Or.inr h1
                case measure =>
                  simp only [World.iterPos, k1.iter hit5 (by omega), hit]
                  omega
            · have q38 : ((c : Int) == 38) = false := beq_eq_false_iff_ne.2 (by omega)
              obtain ⟨hinv, _⟩ := HA.out.char (by omega) (by have := HSZ.out trivial; omega) hdl h38
              have HI := hid hinv
              have HL := hid (fun (_ : True) => And.intro hal (And.intro (HSZ.out trivial) (And.intro (HS0.out trivial) hle)))
              clear hinv hdl HA hal hle
              go_wp2_with fail
              refine (Tryz.Builder_WriteRune_k W1.heap.size W1.heap.size _ (c : Int) (by omega) (by omega) _ hI2 (by rw [Lib.byteCells_length]; have := HL.out trivial; omega) hsz2).mono ?_
              rintro e W3 ⟨rfl, h1, b1, k1⟩
              go_wp2_with fail
              go_roundw
              case rel =>
                refine ⟨pos + n, beh, acc ++ encodeRune c, rfl, ?_, k1.iter hit2 (by omega), hbw2.trans b1, HI, hw2⟩
                rw [Lib.byteCells_append, Lib.byteCells_encodeRune]
                exact Or.inr h1
              case measure =>
                simp only [World.iterPos, k1.iter hit2 (by omega), hit]
                omega
        · have hpe : pos = raw.length := by have := HSZ.out trivial; omega
          have hdone := HA.out.done hpe
          have hnx : ∀ ty, (Instr.next (.pointer (some ⟨W1.heap.size + 1, 0, none⟩)) true ty).run Tryz.prog wr = _ := fun ty => Lib.run_next_end_at wr (W1.heap.size + 1) S pos ty hit hp
          have hD := HD.out trivial
          rw [decR_some hdone] at hD
          rw [HR.out trivial] at hdone
          subst hdone
          have HDD := hid (fun (_ : True) => hD)
          clear hD HA HD hpe
          go_wp2_with fail
          refine (Tryz.Builder_String_any_k W1.heap.size W1.heap.size acc _ hI (by omega)).mono ?_
          rintro e W3 ⟨rfl, _, b1, k1⟩
          have HZ := hid (tr_later HH.out.1 HB1.out (hbw.trans b1))
          clear hI hit hbw b1 k1
          go_wp2_with fail
          go_ret
          exact ⟨by rw [← HDD.out trivial]; rfl, HZ.out⟩
    · -- some character is not good
      have hnone : decP raw = none := by
        cases hd : decP raw with
        | none => rfl
        | some v => exact absurd (decP_good _ raw v (Nat.le_refl _) hd) hg
      have hne : N ≠ bs raw := fun e => hg (normal_same.1 (by rw [← hNl, e]; rfl))
      have q1 : (N.toList == (bs raw).toList) = false := by
        rw [beq_eq_false_iff_ne]
        intro e
        rw [bs_toList, Lib.toList_data] at e
        exact hne (by rw [← bs_of N, e])
      have q2 : (N.toList != (bs raw).toList) = true := by rw [bne, q1]; rfl
      rw [decR_bad hnone, hnone]
      have HN := hid hn
      have HH := hid h
      generalize bs raw = S at q1 q2 HN ⊢
      clear hsz hN hNl hg hnone hne hn hM h
      go_enter Tryz.func141, Tryz.ntmps141
      go_wp2_with fail
      refine HN.out.mono ?_
      rintro e W1 ⟨rfl, hb1⟩
      have HZ := hid (tr_wrong HH.out hb1 (Below.refl _ _))
      obtain ⟨_, c1, _, f1⟩ := tr_cells (TrOut.below HH.out hb1).at_
      clear hb1 c0 f0 HN
      go_wp2_with fail
      go_ret
      exact ⟨rfl, HZ.out⟩
end Go.Proofs.YtcncbhbdpcpkeaaGreatDoor

/-
  The token reader's value and text: their walks.
-/
namespace Go.Proofs.YtcncbhbdpcpkeaaGreatDoor
open Go.RowKit Go.Lib Own

/-- what a call that reads alone, but for the reader, leaves -/
theorem tr_drewN {w : World} {b : Nat} {l : List UInt8} {g : Bool} (h : TrAt w b l g) (n : Nat) : TrOut w (w.drewN n) b l g := TrOut.below h (below_drewN (Below.refl _ _) n)
set_option maxHeartbeats 2000000 in
set_option maxRecDepth 100000 in
theorem trValue_any (b : Nat) (l : List UInt8) (g : Bool) (m : Int) (w : World) (h : TrAt w b l g) (hs : l.length ≤ 100000000) (hM : MRefTab w) (hb : b ≠ 2) (hm : w.cell? ⟨4, 0, none⟩ = some (.int .i64 m)) :
    Calls Tryz.prog 139 #[.pointer (some ⟨b, 0, none⟩)] w fun e w' => e = .returned (.string (bs (decR g (l.takeWhile noQ)))) ∧ TrOut w w' b (l.drop ((l.takeWhile noQ).length + 1)) (g || (decP (l.takeWhile noQ)).isNone) := by
  have hcut := Tryz.strings_Cut (bs l) ⟨#[34]⟩ m w (by rw [bs_size]; omega) hm
  obtain ⟨k1, k2⟩ := cut_sign 34 l
  rw [bs_data, show (⟨#[34]⟩ : ByteArray).data.toList = [34] from rfl] at hcut
  rw [k1, k2] at hcut
  have hq : (fun c : UInt8 => c != 34) = noQ := rfl
  rw [hq] at hcut
  have htl := takeWhile_len noQ l
  generalize hT : l.takeWhile noQ = T at hcut htl ⊢
  generalize hB : (Lib.cut l [34]).2.2 = B at hcut
  obtain ⟨c0, c1, f0, f1⟩ := tr_cells h
  have hcut' : Calls Tryz.prog 140 #[.string (bs l), .string ⟨#[34]⟩] w fun e w' => e = .returned (.tuple #[.string (bs T), .string (bs (l.drop (T.length + 1))), .bool B]) ∧ ∃ n, w' = w.drewN n := hcut
  have hfin : ∀ (n : Nat), TrOut w ((w.drewN n).setCell ⟨b, 0, none⟩ (.string (bs (l.drop (T.length + 1))))) b (l.drop (T.length + 1)) g := fun n =>
    (tr_drewN h n).trans (TrOut.put (l2 := l.drop (T.length + 1)) (g2 := g) (tr_drewN h n).at_ (just_put (j := 0) (tr_drewN h n).at_ (.string (bs (l.drop (T.length + 1)))) rfl))
  have hMM : ∀ (n : Nat), MRefTab ((w.drewN n).setCell ⟨b, 0, none⟩ (.string (bs (l.drop (T.length + 1))))) := fun n j v hv => by
    have h1 := (hM.below (below_drewN (Below.refl w.heap.size w) n)) j v hv
    exact cell_grown h1 (just_grown (just_put (j := 0) (tr_drewN h n).at_ (.string (bs (l.drop (T.length + 1)))) rfl)) hb.symm
  have hdec := fun n => trDecode_any b (l.drop (T.length + 1)) T g _ (hfin n).at_ (by omega) (hMM n)
  have HD := hid hdec
  have HF := hid hfin
  generalize bs (l.drop (T.length + 1)) = X at hcut' HD HF
  generalize bs (decR g T) = D at HD ⊢
  generalize bs T = TT at hcut' HD
  generalize bs l = S at c0 hcut'
  have HC := hid hcut'
  clear hcut hcut' hdec hfin hMM hm hM hB hT k1 k2 hq h
  go_enter Tryz.func139, Tryz.ntmps139
  go_wp2_with fail
  refine HC.out.mono ?_
  rintro e W1 ⟨rfl, n, hn⟩
  subst hn
  go_upto_region 3 with fail
  have HDN := hid (HD.out n)
  have HFN := hid (HF.out n)
  clear HD HF HC
  generalize (w.drewN n).setCell ⟨b, 0, none⟩ (.string X) = W2 at HDN HFN ⊢
  clear c0 c1 f0 f1
  go_wp2_with fail
  refine HDN.out.mono ?_
  rintro e W3 ⟨rfl, ho⟩
  have HZ := hid (HFN.out.trans ho)
  clear ho HDN HFN
  go_wp2_with fail
  go_ret
  exact ⟨rfl, HZ.out⟩
set_option maxHeartbeats 2000000 in
set_option maxRecDepth 100000 in
theorem trText_any (b : Nat) (l : List UInt8) (g : Bool) (m : Int) (w : World) (h : TrAt w b l g) (hs : l.length ≤ 100000000) (hM : MRefTab w) (hb : b ≠ 2) (hm : w.cell? ⟨4, 0, none⟩ = some (.int .i64 m)) :
    Calls Tryz.prog 75 #[.pointer (some ⟨b, 0, none⟩)] w fun e w' => e = .returned (.string (bs (decR g (l.takeWhile noLt)))) ∧ TrOut w w' b (l.drop (l.takeWhile noLt).length) (g || (decP (l.takeWhile noLt)).isNone) := by
  have hcut := Tryz.strings_Cut (bs l) ⟨#[60]⟩ m w (by rw [bs_size]; omega) hm
  obtain ⟨k1, k2⟩ := cut_sign 60 l
  rw [bs_data, show (⟨#[60]⟩ : ByteArray).data.toList = [60] from rfl] at hcut
  rw [k1, k2] at hcut
  have hq : (fun c : UInt8 => c != 60) = noLt := rfl
  rw [hq] at hcut
  have htl := takeWhile_len noLt l
  generalize hT : l.takeWhile noLt = T at hcut htl ⊢
  generalize hB : (Lib.cut l [60]).2.2 = B at hcut
  obtain ⟨c0, c1, f0, f1⟩ := tr_cells h
  have hcut' : Calls Tryz.prog 140 #[.string (bs l), .string ⟨#[60]⟩] w fun e w' => e = .returned (.tuple #[.string (bs T), .string (bs (l.drop (T.length + 1))), .bool B]) ∧ ∃ n, w' = w.drewN n := hcut
  have hfin : ∀ (n : Nat), TrOut w ((w.drewN n).setCell ⟨b, 0, none⟩ (.string (bs (l.drop T.length)))) b (l.drop T.length) g := fun n =>
    (tr_drewN h n).trans (TrOut.put (l2 := l.drop T.length) (g2 := g) (tr_drewN h n).at_ (just_put (j := 0) (tr_drewN h n).at_ (.string (bs (l.drop T.length))) rfl))
  have hMM : ∀ (n : Nat), MRefTab ((w.drewN n).setCell ⟨b, 0, none⟩ (.string (bs (l.drop T.length)))) := fun n j v hv => by
    have h1 := (hM.below (below_drewN (Below.refl w.heap.size w) n)) j v hv
    exact cell_grown h1 (just_grown (just_put (j := 0) (tr_drewN h n).at_ (.string (bs (l.drop T.length))) rfl)) hb.symm
  have hdec := fun n => trDecode_any b (l.drop T.length) T g _ (hfin n).at_ (by omega) (hMM n)
  have HD := hid hdec
  have HF := hid hfin
  have hx : (bs l).extract (bs T).size (bs l).size = bs (l.drop T.length) := by rw [bs_size T]; exact drop_bs (bs l) T.length
  have hle : (bs T).size ≤ (bs l).size := by rw [bs_size, bs_size]; exact htl
  have hsz : (bs l).size ≤ 100000000 := by rw [bs_size]; exact hs
  generalize bs (l.drop T.length) = X at HD HF hx
  generalize bs (decR g T) = D at HD ⊢
  generalize bs (l.drop (T.length + 1)) = X2 at hcut'
  generalize bs T = TT at hcut' HD hx hle
  generalize bs l = S at c0 hcut' hx hle hsz
  have HC := hid hcut'
  clear hcut hcut' hdec hfin hMM hm hM hB hT k1 k2 hq h htl hs
  go_enter Tryz.func75, Tryz.ntmps75
  go_wp2_with fail
  refine HC.out.mono ?_
  rintro e W1 ⟨rfl, n, hn⟩
  subst hn
  go_upto_region 3 with fail
  have HDN := hid (HD.out n)
  have HFN := hid (HF.out n)
  clear HD HF HC
  generalize (w.drewN n).setCell ⟨b, 0, none⟩ (.string X) = W2 at HDN HFN ⊢
  clear c0 c1 f0 f1
  go_wp2_with fail
  refine HDN.out.mono ?_
  rintro e W3 ⟨rfl, ho⟩
  have HZ := hid (HFN.out.trans ho)
  clear ho HDN HFN
  go_wp2_with fail
  go_ret
  exact ⟨rfl, HZ.out⟩
end Go.Proofs.YtcncbhbdpcpkeaaGreatDoor

/-
  The token reader's start tag: plain facts on its rounds.
-/
namespace Go.Proofs.YtcncbhbdpcpkeaaGreatDoor
open Go.RowKit Go.Lib Own

/-- the attributes of a tag, from their first blank on -/
def attrsQ (l : List UInt8) : Option (List AttrP × List UInt8) := attrsP (l.length + 1) l
theorem attrsQ_end {l : List UInt8} (h : l.head? = some 62) : attrsQ l = some ([], l.tail) := by
  unfold attrsQ attrsP
  rw [if_pos h]
theorem attrsQ_none {l : List UInt8} (h : l.head? ≠ some 62) (h2 : l.head? ≠ some 32) : attrsQ l = none := by
  unfold attrsQ attrsP
  rw [if_neg h, if_neg h2]
theorem attrsQ_step {l : List UInt8} (h : l.head? = some 32) : attrsQ l = match attrP l.tail with
    | none => none
    | some (a, q) => (attrsQ q).map fun x => (a :: x.1, x.2) := by
  unfold attrsQ
  conv => lhs; unfold attrsP
  rw [if_neg (by rw [h]; decide), if_pos h]
  cases ha : attrP l.tail with
  | none => rfl
  | some x =>
    obtain ⟨a, q⟩ := x
    have h2 := attr_len ha
    rw [List.length_tail] at h2
    simp only
    rw [attrsP_fuel l.length (q.length + 1) q (by omega) (by omega)]
/-- one round of the reader: its state and what it found -/
def rdN (t : List UInt8) : Nat := wordN [45] t
def rdR (t : List UInt8) : List UInt8 := t.drop (rdN t)
def rdP (t : List UInt8) : Bool := ([61, 34] : List UInt8).isPrefixOf (rdR t)
def rdV (t : List UInt8) : List UInt8 := if rdP t = true then (rdR t).drop 2 else rdR t
def rdG (t : List UInt8) : Bool := (false || rdN t == 0) || !rdP t
def rdT (t : List UInt8) : List UInt8 := (rdV t).takeWhile noQ
def rdL (t : List UInt8) : List UInt8 := (rdV t).drop ((rdT t).length + 1)
def rdW (t : List UInt8) : Bool := rdG t || (decP (rdT t)).isNone
def rdA (t : List UInt8) : AttrP := (t.take (rdN t), decR (rdG t) (rdT t))
theorem pre_two {r : List UInt8} : (([61, 34] : List UInt8).isPrefixOf r = true) ↔ r.take 2 = [61, 34] := by
  match r with
  | [] => simp [List.isPrefixOf]
  | [a] => simp [List.isPrefixOf]
  | a :: b :: q =>
    simp only [List.isPrefixOf, Bool.and_true, Bool.and_eq_true, beq_iff_eq, List.take_succ_cons, List.take_zero, List.cons.injEq, and_true]
    exact ⟨fun h => ⟨h.1.symm, h.2.symm⟩, fun h => ⟨h.1.symm, h.2.symm⟩⟩
theorem attrP_bad {t : List UInt8} (h : rdW t = true) : attrP t = none := by
  unfold attrP
  by_cases h1 : wordN [45] t = 0 ∨ (t.drop (wordN [45] t)).take 2 ≠ [61, 34]
  · rw [if_pos h1]
  · rw [if_neg h1]
    have h2 : wordN [45] t ≠ 0 := fun e => h1 (.inl e)
    have h3 : (t.drop (wordN [45] t)).take 2 = [61, 34] := Classical.byContradiction fun e => h1 (.inr e)
    have h4 : rdP t = true := pre_two.2 h3
    have h5 : rdG t = false := by
      unfold rdG
      rw [h4]
      simp only [Bool.not_true, Bool.or_false, Bool.false_or, beq_eq_false_iff_ne]
      exact h2
    have h6 : rdV t = t.drop (wordN [45] t + 2) := by unfold rdV; rw [if_pos h4, ← List.drop_drop]; rfl
    unfold rdW at h
    rw [h5, Bool.false_or, Option.isNone_iff_eq_none] at h
    unfold rdT at h
    rw [h6] at h
    rw [h]
    split <;> rfl
theorem attrP_good {t : List UInt8} (h : rdW t = false) : attrP t = (if (rdT t).length = (rdV t).length then none else some (rdA t, rdL t)) := by
  unfold rdW at h
  rw [Bool.or_eq_false_iff] at h
  obtain ⟨h5, h7⟩ := h
  have h5' := h5
  unfold rdG at h5'
  simp only [Bool.false_or, Bool.or_eq_false_iff, beq_eq_false_iff_ne, Bool.not_eq_false'] at h5'
  obtain ⟨h2, h4⟩ := h5'
  have h3 := pre_two.1 h4
  have h6 : rdV t = t.drop (wordN [45] t + 2) := by unfold rdV; rw [if_pos h4, ← List.drop_drop]; rfl
  unfold attrP
  rw [if_neg (fun e => e.elim h2 (fun k => k h3))]
  rw [← h6]
  show (if (rdT t).length = (rdV t).length then none else (decP (rdT t)).map _) = _
  split
  · rfl
  · cases hd : decP (rdT t) with
    | none => rw [hd] at h7; cases h7
    | some v =>
      show some _ = some _
      unfold rdA rdL
      rw [h5, decR_some hd]
      rfl
theorem rdL_len (t : List UInt8) : (rdL t).length ≤ t.length := by
  unfold rdL rdV rdR
  split <;> simp only [List.length_drop] <;> omega
theorem rdV_len (t : List UInt8) : (rdV t).length ≤ t.length := by
  unfold rdV rdR
  split <;> simp only [List.length_drop] <;> omega
/-- where the reader of a start tag stands -/
structure TagInv (Q : Option (List AttrP × List UInt8)) (l : List UInt8) (g : Bool) (al : List AttrP) : Prop where
  no : g = false → Q = (attrsQ l).map fun x => (al ++ x.1, x.2)
  yes : g = true → Q = none
theorem TagInv.round {Q : Option (List AttrP × List UInt8)} {l : List UInt8} {al : List AttrP} (h : TagInv Q l false al) (h32 : l.head? = some 32) : TagInv Q (rdL l.tail) (rdW l.tail) (al ++ [rdA l.tail]) := by
  have hq := h.no rfl
  rw [attrsQ_step h32] at hq
  refine ⟨fun hw => ?_, fun hw => ?_⟩
  · rw [attrP_good hw] at hq
    by_cases hl : (rdT l.tail).length = (rdV l.tail).length
    · rw [if_pos hl] at hq
      rw [hq]
      have : rdL l.tail = [] := by unfold rdL; rw [List.drop_of_length_le (by omega)]
      rw [this]
      rfl
    · rw [if_neg hl] at hq
      rw [hq]
      simp only
      cases attrsQ (rdL l.tail) with
      | none => rfl
      | some x => simp
  · rw [attrP_bad hw] at hq
    exact hq
/-- behind the last attribute -/
theorem TagInv.fin {Q : Option (List AttrP × List UInt8)} {l : List UInt8} {g : Bool} {al : List AttrP} (h : TagInv Q l g al) (h32 : g = true ∨ l.head? ≠ some 32) :
    ((g || !([62] : List UInt8).isPrefixOf l) = true → Q = none) ∧ ((g || !([62] : List UInt8).isPrefixOf l) = false → Q = some (al, l.tail) ∧ l.head? = some 62) := by
  have hp : ([62] : List UInt8).isPrefixOf l = true ↔ l.head? = some 62 := by
    cases l with
    | nil => simp [List.isPrefixOf]
    | cons c r => simp only [List.isPrefixOf, Bool.and_true, beq_iff_eq, List.head?_cons, Option.some.injEq]; exact ⟨fun h => h.symm, fun h => h.symm⟩
  cases g with
  | true => exact ⟨fun _ => h.yes rfl, fun h2 => by cases h2⟩
  | false =>
    have hq := h.no rfl
    have h2 : l.head? ≠ some 32 := h32.resolve_left (by simp)
    rw [Bool.false_or]
    by_cases h3 : l.head? = some 62
    · rw [hp.2 h3]
      refine ⟨fun h4 => (by cases h4), fun _ => ⟨?_, h3⟩⟩
      rw [hq, attrsQ_end h3]
      simp
    · have h4 : ([62] : List UInt8).isPrefixOf l = false := by rw [Bool.eq_false_iff]; exact fun e => h3 (hp.1 e)
      rw [h4]
      refine ⟨fun _ => ?_, fun h5 => (by cases h5)⟩
      rw [hq, attrsQ_none h3 h2]
      rfl
theorem attrs_oneP {W : World} {g : Nat} {a : AttrP} {T : TypeId} (h : W.heap[g]? = some (.cells #[.string (bs a.1), .string (bs a.2)] T (0, 0))) : AttrsR W (.slice (some ⟨g, 0, none⟩) 1 1) [a] := by
  refine ⟨some ⟨g, 0, none⟩, 1, rfl, Nat.le_refl _, by omega, fun j x hj => ?_, fun e => by cases e⟩
  cases j with
  | zero =>
    simp only [List.getElem?_cons_zero, Option.some.injEq] at hj
    subst hj
    exact ⟨g, 0, rfl, cell_at h (j := 0) rfl, cell_at h (j := 1) rfl⟩
  | succ j => simp at hj
end Go.Proofs.YtcncbhbdpcpkeaaGreatDoor
