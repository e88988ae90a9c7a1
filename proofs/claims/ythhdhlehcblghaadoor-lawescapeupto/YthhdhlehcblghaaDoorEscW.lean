/-
  The statement LawEscape: its walk.
-/
import Derived.Test.YthhdhlehcblghaaDoorWrAll
namespace Go.Proofs.YthhdhlehcblghaaDoor
open Go.RowKit Go.Lib Own

theorem write_text1 (s : List UInt8) : writeW false [⟨3, [], [], s⟩] = escL false s := by
  show (takeW false ⟨3, [], [], s⟩).2 ++ [] = _
  rw [List.append_nil]
  unfold takeW
  rw [if_neg (fun h : (3 : Int) = 1 => absurd h (by decide)), if_neg (fun h : (3 : Int) = 2 => absurd h (by decide)), if_pos rfl]
  unfold textW
  by_cases h : s = []
  · rw [if_pos h, h, escL]
  · rw [if_neg h, if_neg (fun h => by cases h.1)]
    rfl
def titleL : List UInt8 := [116, 105, 116, 108, 101]
def frontL : List UInt8 := [60, 98, 32, 116, 105, 116, 108, 101, 61, 34]
theorem write_tag1 (s : List UInt8) : writeW false [⟨1, [98], [(titleL, s)], []⟩] = frontL ++ escL true s ++ [34, 62] := by
  show (takeW false ⟨1, [98], [(titleL, s)], []⟩).2 ++ [] = _
  rw [List.append_nil]
  unfold takeW
  rw [if_pos rfl]
  show openL [98] [(titleL, s)] = _
  unfold openL attrL
  rw [List.flatMap_cons, List.flatMap_nil, List.append_nil]
  simp [titleL, frontL]
theorem evs_one {W : World} {g : Nat} {e : EvP} {u : Value} {T : TypeId} (h : W.heap[g]? = some (.cells (evC e u) T (0, 0))) (hu : AttrsR W u e.a) : EvsR W (.slice (some ⟨g, 0, none⟩) 1 1) [e] := by
  refine ⟨_, 1, rfl, Nat.le_refl _, by omega, fun j x hj => ?_⟩
  obtain ⟨c0, c1, c2, c3⟩ := evC_at h
  cases j with
  | zero =>
    simp only [List.getElem?_cons_zero, Option.some.injEq] at hj
    subst hj
    exact ⟨g, 0, u, rfl, c0, c1, c2, c3, hu⟩
  | succ j => simp at hj
theorem attrs_one {W : World} {g : Nat} {a : AttrP} {T : TypeId} (h : W.heap[g]? = some (.cells #[.string (bs a.1), .string (bs a.2)] T (0, 0))) : AttrsR W (.slice (some ⟨g, 0, none⟩) 1 1) [a] := by
  refine ⟨_, 1, rfl, Nat.le_refl _, by omega, fun j x hj => ?_⟩
  cases j with
  | zero =>
    simp only [List.getElem?_cons_zero, Option.some.injEq] at hj
    subst hj
    exact ⟨g, 0, rfl, cell_at h rfl, cell_at h rfl⟩
  | succ j => simp at hj

set_option maxHeartbeats 4000000 in
set_option maxRecDepth 100000 in
theorem lawEscape_walk (s : ByteArray) (m : Int) (w : World) (hs : s.size ≤ 1500000) (hT : ChTabs w) (hm : w.cell? ⟨1, 0, none⟩ = some (.int .i64 m)) :
    Calls Tryd.prog 3 #[.string s] w fun e w' => e = .returned (.bool true) ∧ Below w.heap.size w w' := by
  have hz := size_eq s
  -- the text
  have hb1 := (Below.refl w.heap.size w).alloc (Nat.le_refl _) (.cells #[.int .i64 3, .string ⟨#[]⟩, .slice none 0 0, .string s] 25)
  have hn1 := heap_alloc_new w (.cells #[.int .i64 3, .string ⟨#[]⟩, .slice none 0 0, .string s] 25)
  have hw1 := write_any (.slice (some ⟨w.heap.size, 0, none⟩) 1 1) [⟨3, [], [], s.data.toList⟩] m _ (evs_one (e := ⟨3, [], [], s.data.toList⟩) hn1 (AttrsR.nil _)) (by simp [bulkE, bulkA]; omega) (cell_low hm hb1 (cell_block hm))
  rw [write_text1] at hw1
  obtain ⟨TX, hTX⟩ : ∃ TX, bs (escL false s.data.toList) = TX := ⟨_, rfl⟩
  rw [hTX] at hw1
  have H1 := hid hw1
  have HB1 := hid hb1
  have HM := hid hm
  have HT := hid hT
  clear hw1 hb1 hn1 hm hT hz
  go_enter Tryd.func3, Tryd.ntmps3
  go_wp2_with fail
  refine H1.out.mono ?_
  rintro r W2 ⟨rfl, b2⟩
  have HB2 := hid (HB1.out.trans (b2.mono HB1.out.size))
  clear b2 H1 HB1
  go_wp2_with fail
  have hb3 := ((Below.refl W2.heap.size W2).alloc (Nat.le_refl _) (.cells #[.string (bs titleL), .string (bs s.data.toList)] 28)).alloc (by simp) (.cells #[.int .i64 1, .string ⟨#[98]⟩, .slice (some ⟨W2.heap.size, 0, none⟩) 1 1, .string ⟨#[]⟩] 25)
  have ha3 := heap_alloc_new W2 (.cells #[.string (bs titleL), .string (bs s.data.toList)] 28)
  have hn3 := heap_alloc_new (W2.alloc (.cells #[.string (bs titleL), .string (bs s.data.toList)] 28)) (.cells #[.int .i64 1, .string ⟨#[98]⟩, .slice (some ⟨W2.heap.size, 0, none⟩) 1 1, .string ⟨#[]⟩] 25)
  have hw3 := write_any (.slice (some ⟨W2.heap.size + 1, 0, none⟩) 1 1) [⟨1, [98], [(titleL, s.data.toList)], []⟩] m _ (by
    have := evs_one (e := ⟨1, [98], [(titleL, s.data.toList)], []⟩) hn3 (attrs_one ((Go.Lib.alloc_old _ _ _ (by simp)).trans ha3))
    simpa using this) (by simp [bulkE, bulkA, titleL]; have := size_eq s; omega) (cell_low (cell_low HM.out HB2.out (cell_block HM.out)) hb3 (cell_block (cell_low HM.out HB2.out (cell_block HM.out))))
  rw [write_tag1] at hw3
  obtain ⟨V, hV⟩ : ∃ V, escL true s.data.toList = V := ⟨_, rfl⟩
  have hVl : V.length ≤ 9000000 := by rw [← hV]; have := esc_len true _ s.data.toList (Nat.le_refl _); have := size_eq s; omega
  rw [hV] at hw3
  obtain ⟨TG, hTG⟩ : ∃ TG, bs (frontL ++ V ++ [34, 62]) = TG := ⟨_, rfl⟩
  rw [hTG] at hw3
  have HB3 := hid (HB2.out.trans (hb3.mono HB2.out.size))
  unfold bs titleL at hw3
  have H3 := hid hw3
  have htz : TG.size = V.length + 12 := by rw [← hTG, bs_size]; simp [frontL]
  have htx : TX.size ≤ 9000000 := by rw [← hTX, bs_size]; have := esc_len false _ s.data.toList (Nat.le_refl _); have := size_eq s; omega
  have x1 : ((TG.extract 0 10).toList == [60, 98, 32, 116, 105, 116, 108, 101, 61, 34]) = true := by
    rw [beq_iff_eq, Lib.toList_data, ByteArray.data_extract, Array.toList_extract, ← hTG, bs_data]
    rfl
  have x2 : ((TG.extract (V.length + 10) (V.length + 12)).toList == [34, 62]) = true := by
    rw [beq_iff_eq, Lib.toList_data, ByteArray.data_extract, Array.toList_extract, ← hTG, bs_data, List.extract_eq_take_drop, show V.length + 10 = (frontL ++ V).length by rw [List.length_append]; simp [frontL]; omega, List.drop_left, show V.length + 12 - (frontL ++ V).length = 2 by rw [List.length_append]; simp [frontL]; omega]
    rfl
  have x3 : TG.extract 10 (V.length + 12 - 2) = bs V := by
    apply ByteArray.ext
    apply Array.ext'
    rw [ByteArray.data_extract, Array.toList_extract, ← hTG, bs_data, bs_data, List.extract_eq_take_drop, List.append_assoc, show (10 : Nat) = frontL.length from rfl, List.drop_left, show V.length + 12 - 2 - frontL.length = V.length by simp [frontL], List.take_left]
  obtain ⟨VB, hVB⟩ : ∃ VB, bs V = VB := ⟨_, rfl⟩
  rw [hVB] at x3
  have hvz : VB.size ≤ 9000000 := by rw [← hVB, bs_size]; omega
  have HVB := hid (fun (_ : True) => hVB)
  have HV := hid (fun (_ : True) => hV)
  have HTX := hid (fun (_ : True) => hTX)
  have HTG := hid (fun (_ : True) => hTG)
  clear hw3 hb3 ha3 hn3 hTX hTG HB2 hVB hV
  refine H3.out.mono ?_
  rintro r W4 ⟨rfl, b4⟩
  have HB4 := hid (HB3.out.trans (b4.mono HB3.out.size))
  clear b4 H3 HB3
  go_wp2_with fail
  rw [x3]
  clear x1 x2 x3 htz hVl
  go_loopw [7] (fun iv wr => ∃ k : Nat, iv = .int .i64 k ∧ k ≤ VB.size ∧ wr = W4) (fun iv _ => VB.size - (RowKit.intOf iv).toNat)
  case atStart => exact ⟨0, rfl, Nat.zero_le _, rfl⟩
  case round =>
    obtain ⟨k, rfl, hk, rfl⟩ := hrel
    by_cases hkl : k < VB.size
    · obtain ⟨c, hc⟩ : ∃ c, VB[k]'hkl = c := ⟨_, rfl⟩
      have hm := List.mem_of_getElem? (getElem_list hkl hc)
      rw [← HVB.out trivial, bs_data, ← HV.out trivial] at hm
      obtain ⟨n1, n2, n3⟩ := esc_signs true _ s.data.toList (Nat.le_refl _) c hm
      have z1 : c.toNat ≠ 60 := fun e => n1 (UInt8.toNat_inj.1 (e.trans rfl))
      have z2 : c.toNat ≠ 62 := fun e => n2 (UInt8.toNat_inj.1 (e.trans rfl))
      have z3 : c.toNat ≠ 34 := fun e => n3 rfl (UInt8.toNat_inj.1 (e.trans rfl))
      have y1 : ((c.toNat : Int) == 60) = false := beq_eq_false_iff_ne.2 (by omega)
      have y2 : ((c.toNat : Int) == 62) = false := beq_eq_false_iff_ne.2 (by omega)
      have y3 : ((c.toNat : Int) == 34) = false := beq_eq_false_iff_ne.2 (by omega)
      clear hm n1 n2 n3 z1 z2 z3
      go_wp2
      go_roundw
      case rel => exact ⟨k + 1, rfl, by omega, by first | rfl | trivial⟩
      case measure => simp [RowKit.intOf]; omega
    · go_wp2_with fail
      go_loopw [8] (fun iv wr2 => ∃ k : Nat, iv = .int .i64 k ∧ k ≤ TX.size ∧ wr2 = wr) (fun iv _ => TX.size - (RowKit.intOf iv).toNat)
      case atStart => exact ⟨0, rfl, Nat.zero_le _, rfl⟩
      case round =>
        obtain ⟨j, rfl, hj, rfl⟩ := hrel
        by_cases hjl : j < TX.size
        · obtain ⟨c, hc⟩ : ∃ c, TX[j]'hjl = c := ⟨_, rfl⟩
          have hm := List.mem_of_getElem? (getElem_list hjl hc)
          rw [← HTX.out trivial, bs_data] at hm
          obtain ⟨n1, n2, _⟩ := esc_signs false _ s.data.toList (Nat.le_refl _) c hm
          have z1 : c.toNat ≠ 60 := fun e => n1 (UInt8.toNat_inj.1 (e.trans rfl))
          have z2 : c.toNat ≠ 62 := fun e => n2 (UInt8.toNat_inj.1 (e.trans rfl))
          have y1 : ((c.toNat : Int) == 60) = false := beq_eq_false_iff_ne.2 (by omega)
          have y2 : ((c.toNat : Int) == 62) = false := beq_eq_false_iff_ne.2 (by omega)
          clear hm n1 n2 z1 z2
          go_wp2
          go_roundw
          case rel => exact ⟨j + 1, rfl, by omega, by first | rfl | trivial⟩
          case measure => simp [RowKit.intOf]; omega
        · have hu1 := fun W hTW hMW => unref_any TX false m W (by omega) hTW hMW
          have hu2 := fun W hTW hMW => unref_any VB true m W (by omega) hTW hMW
          rw [← HTX.out trivial, bs_data, esc_back false false _ s.data.toList (Nat.le_refl _), HTX.out trivial] at hu1
          rw [← HVB.out trivial, bs_data, ← HV.out trivial, esc_back true true _ s.data.toList (Nat.le_refl _), HV.out trivial, HVB.out trivial] at hu2
          have HU1 := hid hu1
          have HU2 := hid hu2
          clear hu1 hu2
          go_wp2_with fail
          refine (HU1.out _ (HT.out.below HB4.out) (cell_low HM.out HB4.out (cell_block HM.out))).mono ?_
          rintro r W5 ⟨rfl, b5⟩
          have HB5 := hid (HB4.out.trans (b5.mono HB4.out.size))
          clear b5 HU1
          go_wp2_with fail
          refine (HU2.out _ (HT.out.below HB5.out) (cell_low HM.out HB5.out (cell_block HM.out))).mono ?_
          rintro r W6 ⟨rfl, b6⟩
          have HB6 := hid (HB5.out.trans (b6.mono HB5.out.size))
          clear b6 HU2
          go_wp2_with fail
          go_ret
          exact ⟨rfl, HB6.out⟩
end Go.Proofs.YthhdhlehcblghaaDoor
