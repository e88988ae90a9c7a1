/-
  markup.Write: its walk.
-/
import Derived.Test.YthhdhlehcblghaaDoorWrTake
import Derived.Test.YthhdhlehcblghaaDoorInStr
namespace Go.Proofs.YthhdhlehcblghaaDoor
open Go.RowKit Go.Lib Own

/-- the cells of a markup.writer -/
def mwC (eat : Bool) (p v : Value) : Array Value := #[.bool eat, p, v]
theorem mw_lies : liesAt Tryd.prog Tryd.prog.depth 38 ((mwC false (.pointer none) (.slice none 0 0)).size / Tryd.prog.cellsOf 38) 1 36 1 = true := by kernel_rfl
/-- a markup.writer at block b -/
structure MwAt (w : World) (base b : Nat) (eat : Bool) (acc : List UInt8) : Prop where
  it : ∃ p v, InB w base b 1 (mwC eat p v) 38 p v acc
theorem takeW_len (eat : Bool) (e : EvP) : (takeW eat e).2.length ≤ 6 * (e.n.length + e.t.length + bulkA e.a) + 3 := by
  have h1 := attrs_len e.a
  have h2 := esc_len false _ e.t (Nat.le_refl _)
  have h3 : (openL e.n e.a).length = 2 + e.n.length + (e.a.flatMap attrL).length := by unfold openL; simp only [List.length_append, List.length_cons, List.length_nil]; omega
  have h4 : (endL e.n).length = 3 + e.n.length := by unfold endL; simp only [List.length_append, List.length_cons, List.length_nil]; omega
  unfold takeW textW
  split
  · simp only; omega
  · split
    · simp only; omega
    · split
      · split
        · simp
        · simp only [List.length_append]
          split
          · simp only [List.length_cons, List.length_nil]; omega
          · simp only [List.length_nil]; omega
      · simp

set_option maxHeartbeats 4000000 in
set_option maxRecDepth 100000 in
theorem mwTake_any (base b : Nat) (eat : Bool) (acc : List UInt8) (e : EvP) (u : Value) (m : Int) (w0 w : World) (h : MwAt w base b eat acc) (hu0 : AttrsR w0 u e.a) (hb0 : Below w0.heap.size w0 w) (hlo : w0.heap.size ≤ base) (hs : e.n.length + e.t.length + bulkA e.a ≤ 100000000)
    (hm0 : w0.cell? ⟨1, 0, none⟩ = some (.int .i64 m)) (hal : acc.length ≤ 100000000000) :
    Calls Tryd.prog 6 #[.pointer (some ⟨b, 0, none⟩), .agg (evC e u)] w fun r w' => r = .returned (.tuple #[]) ∧ MwAt w' base b (takeW eat e).1 (acc ++ (takeW eat e).2) ∧ Below w0.heap.size w0 w' := by
  obtain ⟨p, v, hI⟩ := h.it
  have hlo2 : w0.heap.size ≤ b := Nat.le_trans hlo hI.lo
  have hbs := block_lt hI.at_
  have hB := (Below.refl w.heap.size w).alloc (Nat.le_refl _) (.cells (evC e u) 25)
  have hn := heap_alloc_new w (.cells (evC e u) 25)
  obtain ⟨W1, hW1⟩ : ∃ W1, w.alloc (.cells (evC e u) 25) = W1 := ⟨_, rfl⟩
  rw [hW1] at hB hn
  have hI1 : EatAt W1 b 0 (mwC eat p v) 38 eat := ⟨(hB.block b hbs).trans hI.at_, rfl⟩
  have hI2 : EatAt W1.drew b 0 (mwC eat p v) 38 eat := ⟨hI1.at_, hI1.c⟩
  have hbw := hb0.trans (hB.mono hb0.size)
  have htk := wTake_any b 0 (mwC eat p v) 38 eat e u m w0 W1.drew hI2 hu0 hbw.drew hlo2 hs hm0
  have hlen := takeW_len eat e
  generalize takeW eat e = tw at htk hlen ⊢
  obtain ⟨t1, t2⟩ := tw
  simp only at htk hlen ⊢
  have hown1 : W1.ownsRowF base 5 1 v acc.length (byteCells acc) := hI.own.kept (row := none) ⟨hB.os, hB.tape, hB.output, hB.size, fun k hk _ => hB.block k hk⟩ (by cases v.ownBlock <;> simp)
  have hwr : ∀ W, W.heap[b]? = some (.cells ((mwC eat p v).setIfInBounds 0 (.bool t1)) 38 (0, 0)) → W1.drew.grownBy W (some b) → InB W base b 1 (mwC t1 p v) 38 p v acc := fun W ha hg =>
    ⟨ha, hI.lo, rfl, rfl, hI.hp, (show W1.drew.ownsRowF base 5 1 v acc.length (byteCells acc) from hown1).kept hg (.inr hI.ne), hI.ne⟩
  have hws := fun W h1 => write_in base b 1 (mwC t1 p v) 38 p v acc (bs t2) W h1 mw_lies (by decide) (by rw [bs_size]; omega)
  rw [bs_data] at hws
  obtain ⟨c0, c1, c2, c3⟩ := evC_at (show W1.drew.heap[w.heap.size]? = _ from hn)
  have HTK := hid htk
  have HWR := hid hwr
  have HWS := hid hws
  have HBW := hid hbw
  have hlb := hI.lo
  have fin : ∀ W W', W1.drew.grownBy W (some b) → Below base W W' → Below w0.heap.size w0 W' := fun W W' hg hb => by
    have h1 : Below w0.heap.size w0 W := Below.grown hbw.drew hg hbw.size (fun k hk => by cases hk; exact hlo2)
    exact h1.trans (hb.mono hlo)
  have FIN := hid fin
  obtain ⟨up, uc, rfl⟩ := hu0.len
  unfold evC at hW1 ⊢
  unfold evC at HTK
  clear htk hwr hws hbw fin hn hI hI1 hI2 hB hown1 hu0 h hlen
  go_enter Tryd.func6, Tryd.ntmps6
  go_wp2_with fail
  go_region_with (first | (go_at_call 13; refine HTK.out.mono ?_; rintro r W2 ⟨rfl, a2, g2⟩; have H2 := hid (HWR.out W2 a2 g2); have HG2 := hid g2; clear a2 g2) | (go_at_call 9; refine (HWS.out _ H2.out).mono ?_; rintro r W3 ⟨rfl, v', i3, b3, k3⟩))
  all_goals (go_end0; exact ⟨rfl, ⟨_, v', i3⟩, FIN.out _ _ HG2.out b3⟩)

theorem write_step (eat : Bool) (e : EvP) (r : List EvP) : writeW eat (e :: r) = (takeW eat e).2 ++ writeW (takeW eat e).1 r := rfl
theorem writeW_len : ∀ (es : List EvP) (eat : Bool), (writeW eat es).length ≤ 6 * bulkE es
  | [], _ => by simp [writeW]
  | e :: r, eat => by
    have h1 := takeW_len eat e
    have h2 := writeW_len r (takeW eat e).1
    rw [write_step, List.length_append, bulkE_cons]
    omega

set_option maxHeartbeats 4000000 in
set_option maxRecDepth 100000 in
theorem write_any (ev : Value) (es : List EvP) (m : Int) (w : World) (h : EvsR w ev es) (hs : bulkE es ≤ 100000000) (hm : w.cell? ⟨1, 0, none⟩ = some (.int .i64 m)) :
    Calls Tryd.prog 4 #[ev] w fun e w' => e = .returned (.string (bs (writeW false es))) ∧ Below w.heap.size w w' := by
  obtain ⟨p, c, rfl, hl, hcm, hcell⟩ := h
  have hlen := bulkE_len es
  have hwl := writeW_len es false
  obtain ⟨R, hR⟩ : ∃ R, writeW false es = R := ⟨_, rfl⟩
  rw [hR] at hwl ⊢
  have hb1 := (Below.refl w.heap.size w).alloc (Nat.le_refl _) (.cells (mwC false (.pointer none) (.slice none 0 0)) 38)
  have hn1 := heap_alloc_new w (.cells (mwC false (.pointer none) (.slice none 0 0)) 38)
  have H0 : Hid (MwAt (w.alloc (.cells (mwC false (.pointer none) (.slice none 0 0)) 38)) w.heap.size w.heap.size false [] ∧ Below w.heap.size w (w.alloc (.cells (mwC false (.pointer none) (.slice none 0 0)) 38))) :=
    ⟨⟨_, _, ⟨hn1, Nat.le_refl _, rfl, rfl, .inl rfl, ⟨rfl, .inl ⟨rfl, rfl⟩⟩, by simp [Value.ownBlock]⟩⟩, hb1⟩
  have HC := hid hcell
  have HM := hid hm
  have HS := hid hs
  have HWL := hid hwl
  have HR := hid (fun (_ : True) => hR)
  have hln : es.length ≤ 100000000 := by omega
  unfold mwC at H0
  clear hcell hm hs hwl hR hb1 hn1 hlen
  go_enter Tryd.func4, Tryd.ntmps4
  go_wp2_with fail
  go_loopw [8] (fun iv wr => ∃ (k : Nat) (eat : Bool) (acc : List UInt8), iv = .int .i64 k ∧ k ≤ es.length ∧ Hid (MwAt wr w.heap.size w.heap.size eat acc ∧ Below w.heap.size w wr) ∧ Hid (True → acc ++ writeW eat (es.drop k) = R)) (fun iv _ => es.length - (RowKit.intOf iv).toNat)
  case atStart => exact ⟨0, false, [], rfl, Nat.zero_le _, H0, HR⟩
  case round =>
    obtain ⟨k, eat, acc, rfl, hk, HX, HK⟩ := hrel
    by_cases hkl : k < es.length
    · obtain ⟨e, he⟩ : ∃ e, es[k]? = some e := ⟨_, List.getElem?_eq_getElem hkl⟩
      obtain ⟨b, o, u, rfl, q0, q1, q2, q3, q4⟩ := HC.out k e he
      have hab := bulkE_get he
      have hd := HK.out trivial
      rw [drop_at he, write_step] at hd
      have hdl := congrArg List.length hd
      have hHS := HS.out
      have hWL := HWL.out
      simp only [List.length_append] at hdl
      have hbx := HX.out.2
      have hlo := cell_block q0
      replace q0 := cell_low q0 hbx hlo
      replace q1 := cell_low q1 hbx hlo
      replace q2 := cell_low q2 hbx hlo
      replace q3 := cell_low q3 hbx hlo
      obtain ⟨up, uc, rfl⟩ := q4.len
      have hB1 := (Below.refl wr.heap.size wr).alloc (Nat.le_refl _) (.cells (evC e (.slice up e.a.length uc)) 25)
      have htk := mwTake_any w.heap.size w.heap.size eat acc e (.slice up e.a.length uc) m w (wr.alloc (.cells (evC e (.slice up e.a.length uc)) 25)) (by
        obtain ⟨p', v', hI⟩ := HX.out.1.it
        exact ⟨p', v', ⟨(hB1.block _ (block_lt hI.at_)).trans hI.at_, hI.lo, hI.cp, hI.cv, hI.hp, hI.own.kept (row := none) ⟨hB1.os, hB1.tape, hB1.output, hB1.size, fun k hk _ => hB1.block k hk⟩ (by cases v'.ownBlock <;> simp), hI.ne⟩⟩) q4 (hbx.trans (hB1.mono hbx.size)) (Nat.le_refl _) (by omega) HM.out (by omega)
      generalize takeW eat e = tw at htk hd
      obtain ⟨t1, t2⟩ := tw
      simp only at htk hd
      unfold evC at htk
      have HTK := hid htk
      have HD := hid (fun (_ : True) => hd)
      clear htk hd hdl hHS hWL hbx hlo hab he q4 HK HC hB1 H0
      go_wp2_with (go_at_call 6; refine HTK.out.mono ?_; rintro r W2 ⟨rfl, a2, b2⟩)
      have HZ := hid (And.intro a2 b2)
      have HE := hid (fun (_ : True) => (by have := HD.out trivial; rwa [← List.append_assoc] at this : (acc ++ t2) ++ writeW t1 (es.drop (k + 1)) = R))
      clear a2 b2 HX HTK HD q0 q1 q2 q3
      go_roundw
      case rel => first | exact ⟨k + 1, _, _, rfl, by omega, HZ, HE⟩ | ((repeat apply Exists.intro); exact ⟨⟨k + 1, _, _, rfl, by omega, HZ, HE⟩, rfl⟩)
      case measure => simp [RowKit.intOf]; omega
    · obtain rfl : acc = R := by
        have := HK.out trivial
        rw [List.drop_of_length_le (by omega)] at this
        rwa [show writeW eat [] = [] from rfl, List.append_nil] at this
      obtain ⟨p', v', hI⟩ := HX.out.1.it
      have HST := hid (string_any_in w.heap.size w.heap.size 1 _ _ p' v' acc wr hI)
      clear HK HC H0 hI
      go_wp2_with (go_at_call 7; refine HST.out.mono ?_; rintro r W2 ⟨rfl, _, b2, _⟩)
      have HY := hid (HX.out.2.trans b2)
      clear b2 HX
      go_ret
      exact ⟨rfl, HY.out⟩
end Go.Proofs.YthhdhlehcblghaaDoor
