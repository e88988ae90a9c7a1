/-
  scrublaw.LawPourCut: its walk.
-/
import Derived.Test.YtlihbfkbjcggbaaDoorSame
import Derived.Test.YtlihbfkbjcggbaaDoorRow
import Derived.BigRegion
import Derived.Deep.RegionWith
namespace Go.Proofs.YtlihbfkbjcggbaaDoor
open Go.RowKit Go.Lib

theorem rd_x : rd true false [120] = ([120], [], false) := by
  have hd : decodeL [120] = (120, 1) := by
    rw [decodeL_N]
    simp only [List.getD_cons_zero]
    unfold decodeN
    rw [if_pos (by decide)]; rfl
  rw [rd_step true false [120] (by simp) (by unfold stopL; rw [hd]; rfl), hd]
  simp only [List.drop_succ_cons, List.drop_zero, rd_nil]
  rfl
theorem info_byte : (Tryd.prog.info? 5).map (fun i => (i.zero, i.size, i.bytes)) = some (some (.int .u8 0), 1, 1) := by kernel_rfl

/-- the world behind '[]byte("x")' and '[]byte(out)' -/
theorem two_rows (W : World) (X : Obj) : ∃ V C, (convert 9 27 (.string ⟨#[120]⟩)).run Tryd.prog ((W.alloc X).alloc (.cells #[.int .u8 120] 5 (1, 2))) = .ok (.slice (some ⟨W.heap.size + 2, 0, none⟩) 1 C) V ∧
    ownsN V 5 (W.heap.size + 2) 1 C [.int .u8 120] ∧ ownsN V 5 (W.heap.size + 1) 1 1 [.int .u8 120] ∧ V.heap[W.heap.size]? = some X ∧ Below W.heap.size W V ∧ V.heap.size = W.heap.size + 3 := by
  have e : ((W.alloc X).alloc (.cells #[.int .u8 120] 5 (1, 2))).heap.size = W.heap.size + 2 := by simp
  have hb : Below (W.heap.size + 2) ((W.alloc X).alloc (.cells #[.int .u8 120] 5 (1, 2))) (bytesWorld ((W.alloc X).alloc (.cells #[.int .u8 120] 5 (1, 2))) 5 ⟨#[120]⟩) :=
    ⟨rfl, rfl, rfl, by rw [bytesWorld_size]; omega, fun k hk => bytesWorld_at_old _ _ _ _ (by simp; omega)⟩
  refine ⟨bytesWorld ((W.alloc X).alloc (.cells #[.int .u8 120] 5 (1, 2))) 5 ⟨#[120]⟩, grownCap ((W.alloc X).alloc (.cells #[.int .u8 120] 5 (1, 2))) 1 0 5, ?_, ?_, ?_, ?_, ?_, ?_⟩
  · have := Lib.run_convert_string_bytes (P := Tryd.prog) ((W.alloc X).alloc (.cells #[.int .u8 120] 5 (1, 2))) 9 27 5 ⟨#[120]⟩ Tryd.underlying9 Tryd.underlying27 Tryd.underlying5
    rw [this, e]; rfl
  · have := ownsN_bytes ((W.alloc X).alloc (.cells #[.int .u8 120] 5 (1, 2))) 5 ⟨#[120]⟩ (by decide)
    rw [e] at this; exact this
  · refine ⟨#[.int .u8 120], (1, 2), ?_, Or.inl (Nat.le_refl _), Nat.le_refl _, by decide, rfl, rfl, rfl⟩
    rw [hb.block _ (by omega)]
    exact second_block W _ _
  · rw [hb.block _ (by omega)]
    rw [alloc_old (W.alloc X) _ _ (by simp)]
    exact heap_alloc_new W X
  · exact (((Below.refl _ W).alloc (Nat.le_refl _) _).alloc (by simp) _).trans (hb.mono (by omega))
  · rw [bytesWorld_size]; simp

theorem st_stored {W : World} {g : Nat} {x y x' y' : Value} {T : TypeId} (h : W.heap[g]? = some (.cells #[x, y] T (0, 0))) :
    ((W.setCell ⟨g, 0, none⟩ x').setCell ⟨g, 1, none⟩ y').heap[g]? = some (.cells #[x', y'] T (0, 0)) ∧
    ∀ k, k ≠ g → ((W.setCell ⟨g, 0, none⟩ x').setCell ⟨g, 1, none⟩ y').heap[k]? = W.heap[k]? := by
  refine ⟨?_, fun k hk => ?_⟩
  · simp [World.setCell, Array.getElem?_modify, h]
  · simp [World.setCell, Array.getElem?_modify, Ne.symm hk]
theorem getD_drop {ss : List ByteArray} {k : Nat} (h : k < ss.length) : ss = ss.take k ++ ss.getD k ByteArray.empty :: ss.drop (k + 1) := by
  have e : ss.getD k ByteArray.empty = ss[k] := by simp [List.getD, h]
  rw [e, List.getElem_cons_drop, List.take_append_drop]
theorem piece_len {ss : List ByteArray} {len k : Nat} {p : ByteArray} {whole : List UInt8} (hlen : ss.length = len) (hlt : k < len) (hp : ss.getD k ByteArray.empty = p)
    (hsum : (ss.flatMap (·.data.toList)).length ≤ 1048576) (hw : whole = 120 :: (ss.take k).flatMap (·.data.toList)) : whole.length + p.size ≤ 1048577 := by
  have e := getD_drop (ss := ss) (k := k) (by omega)
  rw [hp] at e
  have h2 : (ss.flatMap (·.data.toList)).length = ((ss.take k).flatMap (·.data.toList)).length + (p.data.toList.length + ((ss.drop (k + 1)).flatMap (·.data.toList)).length) := by
    conv => lhs; rw [e]
    rw [List.flatMap_append, List.flatMap_cons]
    simp only [List.length_append]
  rw [hw, size_eq]
  simp only [List.length_cons]
  omega

theorem whole_next {ss : List ByteArray} {len k : Nat} {p : ByteArray} {whole : List UInt8} (hlen : ss.length = len) (hlt : k < len) (hp : ss.getD k ByteArray.empty = p)
    (hw : whole = 120 :: (ss.take k).flatMap (·.data.toList)) : whole ++ p.data.toList = 120 :: (ss.take (k + 1)).flatMap (·.data.toList) := by
  have e : ss.take (k + 1) = ss.take k ++ [p] := by
    rw [List.take_succ_eq_append_getElem (by omega), ← hp]
    simp [List.getD, show k < ss.length by omega]
  rw [e, List.flatMap_append, hw]
  simp
theorem whole_len {ss : List ByteArray} {len : Nat} {whole : List UInt8} (hlen : ss.length = len) (hsum : (ss.flatMap (·.data.toList)).length ≤ 1048576)
    (hw : whole = 120 :: (ss.take len).flatMap (·.data.toList)) : whole.length ≤ 1048577 := by
  rw [hw, List.take_of_length_le (by omega)]
  simp only [List.length_cons]
  omega
theorem back_string (W : World) (g c : Nat) (l : List UInt8) (h : ownsN W 5 g l.length c (byteCells l)) :
    (convert 27 9 (.slice (some ⟨g, 0, none⟩) l.length c)).run Tryd.prog W = .ok (.string ⟨l.toArray⟩) W :=
  run_convert_bytes_back W 27 9 5 ⟨g, 0, none⟩ c l Tryd.underlying27 Tryd.underlying5 Tryd.underlying9 (fun j hj => by
    have hadd : (⟨g, 0, none⟩ : Addr).add j = ⟨g, j, none⟩ := by unfold Addr.add; split <;> simp_all
    rw [hadd, h.cell j hj]
    simp [byteCells, hj])

set_option maxHeartbeats 4000000 in
set_option maxRecDepth 100000 in
theorem cut_walk (ad : Option Addr) (len cap : Nat) (ss : List ByteArray) (w : World) (hsum : (ss.flatMap (·.data.toList)).length ≤ 1048576) (hmax : len ≤ 1048576) (hlen : ss.length = len) (hcell : ∀ j, j < len → ∃ b off, ad = some ⟨b, off, none⟩ ∧ w.cell? ⟨b, off + j, none⟩ = some (.string (ss.getD j ByteArray.empty))) (hT : Utf8Tabs 0 1 w) :
    Calls Tryd.prog 3 #[.slice ad len cap] w fun e w' => e = .returned (.bool true) ∧ Below w.heap.size w w' := by
  obtain ⟨i0, hi, hz0, hz1, hz2⟩ := info_parts info_byte
  have hp := pour_any ByteArray.empty ⟨#[120]⟩ false w (by decide) hT
  have e1 : (ByteArray.empty.data.toList ++ (⟨#[120]⟩ : ByteArray).data.toList) = [120] := rfl
  rw [e1, rd_x] at hp
  have HP := hid hp
  clear hp e1
  go_enter Tryd.func3, Tryd.ntmps3
  go_wp2_with fail
  refine HP.out.mono ?_
  rintro e W1 ⟨rfl, b1⟩
  have hcv : (convert 27 27 (.slice (some ⟨W1.heap.size + 1, 0, none⟩) 1 1)).run Tryd.prog ((W1.alloc (.cells #[.string ⟨#[]⟩, .bool false] 24)).alloc (.cells #[.int .u8 120] 5)) = .ok (.slice (some ⟨W1.heap.size + 1, 0, none⟩) 1 1) ((W1.alloc (.cells #[.string ⟨#[]⟩, .bool false] 24)).alloc (.cells #[.int .u8 120] 5 (1, 2))) := by
    have := run_convert_bytes_const (P := Tryd.prog) (W1.alloc (.cells #[.string ⟨#[]⟩, .bool false] 24)) 27 5 #[.int .u8 120] 1 1 Tryd.underlying27 Tryd.underlying5
    simpa using this
  obtain ⟨V, C, hcb, ho2, ho1, hst, hbV, hVs⟩ := two_rows W1 (.cells #[.string ⟨#[]⟩, .bool false] 24)
  have hbw : Below w.heap.size w V := b1.trans (hbV.mono b1.size)
  have hWs := b1.size
  clear b1 hbV
  go_wp2
  go_loopw [5, 6, 21] (fun bv av iv wr => ∃ (k gb nb cb ga na ca : Nat) (whole all tail : List UInt8) (cr : Bool), k ≤ len ∧ iv = .int .i64 k ∧ bv = .slice (some ⟨gb, 0, none⟩) nb cb ∧ av = .slice (some ⟨ga, 0, none⟩) na ca ∧
      Hid (whole = 120 :: (ss.take k).flatMap (·.data.toList)) ∧ Hid (rd true false whole = (all, tail, cr)) ∧ ownsN wr 5 gb nb cb (byteCells whole) ∧ ownsN wr 5 ga na ca (byteCells all) ∧ gb ≠ ga ∧ w.heap.size ≤ gb ∧ w.heap.size ≤ ga ∧ W1.heap.size ≠ gb ∧ W1.heap.size ≠ ga ∧
      wr.heap[W1.heap.size]? = some (.cells #[.string ⟨tail.toArray⟩, .bool cr] 24 (0, 0)) ∧ Below w.heap.size w wr) (fun _ _ iv _ => len - (RowKit.intOf iv).toNat)
  case atStart =>
    exact ⟨0, W1.heap.size + 1, 1, 1, W1.heap.size + 2, 1, C, [120], [120], [], false, Nat.zero_le _, rfl, rfl, rfl, rfl, rd_x, ho1, ho2, by omega, by omega, by omega, by omega, by omega, hst, hbw⟩
  case round =>
    obtain ⟨k, gb, nb, cb, ga, na, ca, whole, all, tail, cr, hk, rfl, rfl, rfl, HW, HR, hob, hoa, hne, hgb, hga, hsb, hsa, hstr, hbr⟩ := hrel
    by_cases hlt : k < len
    · obtain ⟨b, off, rfl, hc0⟩ := hcell k hlt
      have HLT := hid hlt
      obtain ⟨p, hp⟩ : ∃ p, ss.getD k ByteArray.empty = p := ⟨_, rfl⟩
      rw [hp] at hc0
      have hc := cell_later hbr hc0
      obtain ⟨c0, c1, f0, f1, hsh⟩ := two_cells hstr
      have hTr := tabs_below hT hbr
      have hLen := piece_len hlen hlt hp hsum HW.out
      have hL2 := rd_len true whole.length false whole (Nat.le_refl _)
      rw [HR.out] at hL2
      have hna : all.length = na := by obtain ⟨_, _, _, _, _, _, _, h, _⟩ := hoa; rw [byteCells_length] at h; exact h
      have hnb : whole.length = nb := by obtain ⟨_, _, _, _, _, _, _, h, _⟩ := hob; rw [byteCells_length] at h; exact h
      have hL3 := rd_len true (tail ++ p.data.toList).length cr (tail ++ p.data.toList) (Nat.le_refl _)
      have hcut := rd_cut true p.data.toList whole.length false whole (Nat.le_refl _)
      rw [HR.out] at hcut
      have hlt2 : (⟨tail.toArray⟩ : ByteArray).size = tail.length := by simp [ByteArray.size]
      simp only at hL2
      have hpour := fun W (hTW : Utf8Tabs 0 1 W) => pour_any ⟨tail.toArray⟩ p cr W (by omega) hTW
      have et : (⟨tail.toArray⟩ : ByteArray).data.toList = tail := rfl
      rw [et] at hpour
      obtain ⟨out2, tail2, cr2, hR2⟩ : ∃ out2 tail2 cr2, rd true cr (tail ++ p.data.toList) = (out2, tail2, cr2) := ⟨_, _, _, rfl⟩
      rw [hR2] at hpour hcut hL3
      have HPour := hid hpour
      have HCut := hid hcut
      have hlp : p.size = p.data.toList.length := size_eq p
      simp only [List.length_append] at hL3
      have hno : (⟨out2.toArray⟩ : ByteArray).size = out2.length := by simp [ByteArray.size]
      have HB1 : Hid (na + (⟨out2.toArray⟩ : ByteArray).size ≤ 140737488355328) := by show _ ≤ _; omega
      have HB2 : Hid (nb + p.size ≤ 140737488355328) := by show _ ≤ _; omega
      clear hpour hcut hR2 et hcell hsum hLen hL2 hL3 hlp hlt2
      go_wp2
      go_region_with (go_at_call 4; refine (HPour.out _ (by exact hTr)).mono ?_; rintro e W2 ⟨rfl, b2⟩; have b3 : Below wr.heap.size wr W2 := ⟨b2.os, b2.tape, b2.output, b2.size, b2.block⟩; have hst3 := (b3.block W1.heap.size (Array.getElem?_eq_some_iff.1 hstr).1).trans hstr; obtain ⟨d0, d1, g0, g1, hsh2⟩ := two_cells hst3)
      all_goals
        have hst4 := st_stored (x' := .string ⟨tail2.toArray⟩) (y' := .bool cr2) hst3
        have hoa4 := hoa.kept ((hst4.2 ga (by omega)).trans (b3.block ga hoa.lt))
        have hob4 := hob.kept ((hst4.2 gb (by omega)).trans (b3.block gb hob.lt))
        have hb4 : Below w.heap.size w ((W2.setCell ⟨W1.heap.size, 0, none⟩ (.string ⟨tail2.toArray⟩)).setCell ⟨W1.heap.size, 1, none⟩ (.bool cr2)) := ((hbr.trans (b3.mono hbr.size)).setCell (by exact hWs) _).setCell (by exact hWs) _
        clear b3 b2 d0 d1 g0 g1 hsh2 hst3 c0 c1 f0 f1 hsh hTr
        go_wp2_with (at_builtin; refine wpList_append_marked _ rfl (.tmp 33) (.tmp 34) 27 9 rfl 5 i0 Tryd.underlying27 Tryd.underlying9 hi hz0 hz1 hz2 ga na ca (byteCells all) rfl (by exact hoa4) ⟨out2.toArray⟩ rfl ?_ ?_)
        · have := HB1.out; first | exact this | (rw [hno] at this; exact this)
        · intro ga2 ca2 W4 ho4 hgr4 hor4
          have hgs4 : W2.heap.size ≤ W4.heap.size := by have := hgr4.size; simpa [World.setCell] using this
          have hlt4 := ho4.lt
          have hb5 : Below w.heap.size w W4 := hb4.trans ⟨hgr4.os, hgr4.tape, hgr4.output, hgr4.size, fun j hj => hgr4.block j (Nat.lt_of_lt_of_le hj hb4.size) (by simp; omega)⟩
          have hob5 := hob4.kept (hgr4.block gb hob4.lt (by simp; omega))
          have hst5 := (hgr4.block W1.heap.size (Array.getElem?_eq_some_iff.1 hst4.1).1 (by simp; omega)).trans hst4.1
          have hga2 : gb ≠ ga2 ∧ w.heap.size ≤ ga2 ∧ W1.heap.size ≠ ga2 := by
            have h1 : gb < W2.heap.size := by have := hob4.lt; simpa [World.setCell] using this
            have h2 : W1.heap.size < W2.heap.size := by have := (Array.getElem?_eq_some_iff.1 hst4.1).1; simpa [World.setCell] using this
            have h3 : w.heap.size ≤ W2.heap.size := by have := hb4.size; simpa [World.setCell] using this
            rcases hor4 with h | h
            · omega
            · simp only [h]; refine ⟨Nat.ne_of_lt h1, h3, Nat.ne_of_lt h2⟩
          have hc5 := cell_later hb5 hc0
          clear hoa4 hob4 hst4 hb4 hgr4 hor4 hc hoa hob hstr hbr
          go_wp2_with (at_builtin; refine wpList_append_marked _ rfl (.tmp 36) (.tmp 40) 27 9 rfl 5 i0 Tryd.underlying27 Tryd.underlying9 hi hz0 hz1 hz2 gb nb cb (byteCells whole) rfl (by exact hob5) p rfl ?_ ?_)
          · exact HB2.out
          · intro gb2 cb2 W6 ho6 hgr6 hor6
            have hb7 : Below w.heap.size w W6 := hb5.trans ⟨hgr6.os, hgr6.tape, hgr6.output, hgr6.size, fun j hj => hgr6.block j (Nat.lt_of_lt_of_le hj hb5.size) (by simp; omega)⟩
            have ho7 := ho4.kept (hgr6.block ga2 ho4.lt (by simp; omega))
            have hst7 := (hgr6.block W1.heap.size (Array.getElem?_eq_some_iff.1 hst5).1 (by simp; omega)).trans hst5
            have hgb2 : gb2 ≠ ga2 ∧ w.heap.size ≤ gb2 ∧ W1.heap.size ≠ gb2 := by
              have h1 := ho4.lt
              have h2 := (Array.getElem?_eq_some_iff.1 hst5).1
              have h3 := hb5.size
              rcases hor6 with h | h
              · omega
              · simp only [h]; refine ⟨Nat.ne_of_gt h1, h3, Nat.ne_of_lt h2⟩
            have hWn : Hid (whole ++ p.data.toList = 120 :: (ss.take (k + 1)).flatMap (·.data.toList)) := whole_next hlen hlt hp HW.out
            clear ho4 hob5 hst5 hb5 hgr6 hor6 hc5
            go_wp2
            go_roundw
            case rel =>
              have hq := HLT.out
              refine ⟨k + 1, gb2, _, cb2, ga2, _, ca2, whole ++ p.data.toList, all ++ out2, tail2, cr2, by omega, by go_num, rfl, rfl, hWn, HCut.out, ?_, ?_, hgb2.1, hgb2.2.1, hga2.2.1, hgb2.2.2, hga2.2.2, hst7, hb7⟩
              · rw [byteCells_append]; exact ho6
              · rw [byteCells_append]; rw [← hno] at ho7; exact ho7
            case measure => have hq := HLT.out; simp [RowKit.intOf]; omega
    · have hkl : k = len := by omega
      have hL2 := rd_len true whole.length false whole (Nat.le_refl _)
      rw [HR.out] at hL2
      simp only at hL2
      have hna : all.length = na := by obtain ⟨_, _, _, _, _, _, _, h, _⟩ := hoa; rw [byteCells_length] at h; exact h
      have hnb : whole.length = nb := by obtain ⟨_, _, _, _, _, _, _, h, _⟩ := hob; rw [byteCells_length] at h; exact h
      subst hna hnb hkl
      have hwl := whole_len hlen hsum HW.out
      have hhead : whole.head? = some 120 := by rw [HW.out]; rfl
      obtain ⟨P1, P2, P3, P4, P5⟩ := law_plain whole all tail cr HR.out hhead
      obtain ⟨o3, ho3⟩ : ∃ o3, (rd false cr tail).1 = o3 := ⟨_, rfl⟩
      have hL3 := (rd_len false tail.length cr tail (Nat.le_refl _)).1
      have hlt2 : (⟨tail.toArray⟩ : ByteArray).size = tail.length := by simp [ByteArray.size]
      have hdrain := fun W => drain_any ⟨tail.toArray⟩ cr W (by omega)
      have et : (⟨tail.toArray⟩ : ByteArray).data.toList = tail := rfl
      have hwz : (⟨whole.toArray⟩ : ByteArray).size = whole.length := by simp [ByteArray.size]
      have hnorm := fun W => normal_any ⟨whole.toArray⟩ W (by omega)
      have ew : (⟨whole.toArray⟩ : ByteArray).data.toList = whole := rfl
      rw [et, ho3] at hdrain
      rw [ho3] at hL3 P2
      rw [ew] at hnorm
      rw [← P2] at P1 P3 P4 P5 hnorm
      clear P2 et ew ho3
      have hoz : (⟨o3.toArray⟩ : ByteArray).size = o3.length := by simp [ByteArray.size]
      have HDrain := hid hdrain
      have HNorm := hid hnorm
      have HP1 := hid P1
      have HP3 := hid P3
      have HP4 := hid P4
      have HP5 := hid P5
      clear hdrain hnorm P1 P3 P4 P5 hhead
      obtain ⟨c0, c1, f0, f1, hsh⟩ := two_cells hstr
      go_wp2_with fail
      refine (HDrain.out _).mono ?_
      rintro e W2 ⟨rfl, b2⟩
      have hoa2 := hoa.kept (b2.block ga hoa.lt)
      have hob2 := hob.kept (b2.block gb hob.lt)
      have hb2 := hbr.trans (b2.mono hbr.size)
      clear b2 hoa hob hbr hstr c0 c1 f0 f1 hsh
      go_wp2_with (at_builtin; refine wpList_append_marked _ rfl (.tmp 43) (.tmp 45) 27 9 rfl 5 i0 Tryd.underlying27 Tryd.underlying9 hi hz0 hz1 hz2 ga all.length ca (byteCells all) rfl (by exact hoa2) ⟨o3.toArray⟩ rfl ?_ ?_)
      · omega
      · intro ga2 ca2 W4 ho4 hgr4 _
        have hb4 : Below w.heap.size w W4 := hb2.trans ⟨hgr4.os, hgr4.tape, hgr4.output, hgr4.size, fun j hj => hgr4.block j (Nat.lt_of_lt_of_le hj hb2.size) (by simp; omega)⟩
        have hob4 := hob2.kept (hgr4.block gb hob2.lt (by simp; omega))
        have eo : byteCells all ++ strCells ⟨o3.toArray⟩ = byteCells (all ++ o3) := by rw [byteCells_append]; rfl
        rw [eo] at ho4
        have hal : all.length + o3.length = (all ++ o3).length := by simp
        rw [hal] at ho4
        have hTl : (all ++ o3).length ≤ 10000000 := by simp only [List.length_append]; omega
        have HTl := hid hTl
        generalize htt : all ++ o3 = T at *
        have HT := hid htt
        clear htt hTl hoa2 hob2 hb2 hgr4 eo hal hL2 hL3 hlt2 hsum
        have hTz : (⟨T.toArray⟩ : ByteArray).size = T.length := by simp [ByteArray.size]
        have hTl := HTl.out
        have eT : (⟨T.toArray⟩ : ByteArray).data.toList = T := rfl
        have ew : (⟨whole.toArray⟩ : ByteArray).data.toList = whole := rfl
        have hbg := fun W => begun_any ⟨T.toArray⟩ W (by omega)
        have hgt := fun W => goodText_any ⟨T.toArray⟩ W (by omega)
        have hgw := fun W => goodText_any ⟨whole.toArray⟩ W (by omega)
        have hnt := fun W => normal_any ⟨T.toArray⟩ W (by omega)
        rw [eT] at hbg hgt hnt
        rw [ew] at hgw
        rw [HP1.out] at hbg
        rw [HP3.out] at hgt
        rw [HP4.out] at hnt
        have ebt : (some (120 : UInt8) == some 120) = true := rfl
        rw [ebt] at hbg
        have HBg := hid hbg
        have HGt := hid hgt
        have HGw := hid hgw
        have HNt := hid hnt
        have hcvB := back_string W4 gb cb whole hob4
        clear hbg hgt hgw hnt eT ew ebt hTz hTl hwz hoz hwl hlen hcell
        go_wp2_with fail
        refine (HNorm.out _).mono ?_
        rintro e W5 ⟨rfl, b5⟩
        have ho5 := ho4.kept (b5.block ga2 ho4.lt)
        have hb5 := hb4.trans (b5.mono hb4.size)
        clear b5 ho4 hb4 hcvB hob4
        have hcvA := back_string W5 ga2 ca2 T ho5
        have hTn : T.length = all.length + o3.length := by rw [← HT.out]; simp
        rw [hTn] at hcvA
        clear hTn
        go_wp2_with fail
        refine (HBg.out _).mono ?_
        rintro e W' ⟨rfl, rfl⟩
        go_wp2_with fail
        refine (HGt.out _).mono ?_
        rintro e W6 ⟨rfl, b6⟩
        have hb6 := hb5.trans (b6.mono hb5.size)
        clear b6 hcvA ho5
        go_wp2_with fail
        refine (HNt.out _).mono ?_
        rintro e W7 ⟨rfl, b7⟩
        have hb7 := hb6.trans (b7.mono hb6.size)
        clear b7 hb5 hb6
        by_cases hgood : gt whole = true
        · have heq := HP5.out hgood
          subst heq
          have hgw2 : ∀ W, Calls Tryd.prog 8 #[.string ⟨T.toArray⟩] W fun e w' => e = .returned (.bool true) ∧ Below W.heap.size W w' := fun W => by have := HGw.out W; rw [hgood] at this; exact this
          have HGw2 := hid hgw2
          clear hgw2 hgood
          go_wp2_with fail
          refine (HGw2.out _).mono ?_
          rintro e W8 ⟨rfl, b8⟩
          have hb8 := hb7.trans (b8.mono hb7.size)
          clear b8 hb7
          go_wp2
          go_ret
          exact ⟨rfl, hb8⟩
        · have hgf : gt whole = false := by simpa using hgood
          have hgw2 : ∀ W, Calls Tryd.prog 8 #[.string ⟨whole.toArray⟩] W fun e w' => e = .returned (.bool false) ∧ Below W.heap.size W w' := fun W => by have := HGw.out W; rw [hgf] at this; exact this
          have HGw2 := hid hgw2
          clear hgw2 hgood hgf
          go_wp2_with fail
          refine (HGw2.out _).mono ?_
          rintro e W8 ⟨rfl, b8⟩
          have hb8 := hb7.trans (b8.mono hb7.size)
          clear b8 hb7
          go_wp2
          go_ret
          exact ⟨rfl, hb8⟩
end Go.Proofs.YtlihbfkbjcggbaaDoor
