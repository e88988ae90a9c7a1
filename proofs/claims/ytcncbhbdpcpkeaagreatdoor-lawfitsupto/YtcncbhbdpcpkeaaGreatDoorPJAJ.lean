/-
  Parts of the walk, joined: PolRefB, PolRefC.
-/
import Derived.Test.YtcncbhbdpcpkeaaGreatDoorPJAH
/-
  The reference's Check: words, rules, schemes, drops: their walks.
-/
namespace Go.Proofs.YtcncbhbdpcpkeaaGreatDoor
open Go.RowKit Go.Lib Own

/-- the reference's attributes -/
def attrT : List (List UInt8) := [[119, 105, 100, 116, 104], [116, 105, 116, 108, 101], [115, 116, 97, 114, 116], [115, 114, 99], [114, 111, 119, 115, 112, 97, 110], [114, 101, 108], [108, 97, 110, 103], [105, 100], [104, 114, 101, 102], [104, 101, 105, 103, 104, 116], [100, 105, 114], [99, 111, 108, 115, 112, 97, 110], [99, 108, 97, 115, 115], [99, 105, 116, 101], [97, 108, 116]]
def attrTabV : List Value := attrT.map fun s => .string (bs s)
def AttrTab (w : World) : Prop := w.rangeAt 5 0 attrTabV
theorem AttrTab.below {w w' : World} (h : AttrTab w) (hb : Below w.heap.size w w') : AttrTab w' := rangeAt_below h hb
theorem AttrTab.at {w : World} (h : AttrTab w) (k : Nat) (s : List UInt8) (hs : attrT[k]? = some s) : w.cell? ⟨5, k, none⟩ = some (.string (bs s)) := by
  have := h k (.string (bs s)) (by unfold attrTabV; rw [List.getElem?_map, hs]; rfl)
  rwa [Nat.zero_add] at this

set_option maxHeartbeats 1000000 in
theorem knownAttr_any (x : ByteArray) (w : World) (h : AttrTab w) :
    Calls Tryz.prog 243 #[.string x] w fun e w' => e = .returned (.bool (attrT.contains x.toList)) ∧ w' = w := by
  obtain ⟨R, hR⟩ : ∃ R, attrT.contains x.toList = R := ⟨_, rfl⟩
  have HR := hid (fun (_ : True) => hR)
  have H := hid h
  rw [hR]
  clear h hR
  go_enter Tryz.func243, Tryz.ntmps243
  go_wp2
  go_loopw [3] (fun iv wr => ∃ k : Nat, iv = .int .i64 k ∧ k ≤ 15 ∧ wr = w ∧ Hid (True → (attrT.drop k).contains x.toList = R)) (fun iv _ => 15 - (RowKit.intOf iv).toNat)
  case atStart => exact ⟨0, rfl, Nat.zero_le _, rfl, HR.out⟩
  case round =>
    obtain ⟨k, rfl, hk, rfl, HK⟩ := hrel
    by_cases hkl : k < 15
    · obtain ⟨s, hs⟩ : ∃ s, attrT[k]? = some s := ⟨_, List.getElem?_eq_getElem (show k < attrT.length from hkl)⟩
      have hc1 := H.out.at k s hs
      have hd := HK.out trivial
      rw [drop_at hs, List.contains_cons] at hd
      have hbt := bs_toList s
      obtain ⟨S, hS⟩ : ∃ S, bs s = S := ⟨_, rfl⟩
      rw [hS] at hbt hc1
      by_cases q : (x.toList == s) = true
      · have q2 : (S.toList == x.toList) = true := by rw [hbt]; rw [beq_iff_eq] at q ⊢; exact q.symm
        rw [q, Bool.true_or] at hd
        subst hd
        clear hs hbt q H HK HR
        go_wp2
        go_ret
        exact ⟨rfl, rfl⟩
      · have q2 : (S.toList == x.toList) = false := by rw [hbt]; rw [Bool.not_eq_true] at q; rw [← q, Bool.eq_iff_iff, beq_iff_eq, beq_iff_eq]; exact eq_comm
        rw [Bool.not_eq_true] at q
        rw [q, Bool.false_or] at hd
        have HD := hid (fun (_ : True) => hd)
        clear hs hbt q H HK HR hd
        go_wp2
        go_roundw
        case rel => exact ⟨k + 1, rfl, by omega, by first | rfl | trivial, HD⟩
        case measure => simp [RowKit.intOf]; omega
    · obtain rfl : k = 15 := by omega
      have hd := HK.out trivial
      have : R = false := by rw [← hd]; rfl
      subst this
      clear hd HK HR H
      go_wp2
      go_ret
      exact ⟨rfl, rfl⟩

def smallL : List UInt8 := [97, 98, 99, 100, 101, 102, 103, 104, 105, 106, 107, 108, 109, 110, 111, 112, 113, 114, 115, 116, 117, 118, 119, 120, 121, 122]
def digitL : List UInt8 := [48, 49, 50, 51, 52, 53, 54, 55, 56, 57]
/-- a word: a small letter first, then bytes of the set -/
def isWordL (set : List UInt8) (L : List UInt8) : Bool := decide (1 ≤ L.length) && (decide (L.length ≤ 32) && (smallL.contains (L.headD 0) && L.all set.contains))
theorem all_while {p : UInt8 → Bool} : ∀ L : List UInt8, (L.takeWhile p).length = L.length ↔ L.all p = true
  | [] => by simp
  | c :: L => by
    cases hc : p c with
    | true =>
      have := all_while (p := p) L
      simp only [List.takeWhile_cons, hc, if_true, List.length_cons, List.all_cons, Bool.true_and, Nat.add_right_cancel_iff]
      exact this
    | false => simp [hc]

set_option maxHeartbeats 1000000 in
set_option maxRecDepth 100000 in
theorem refWord_any (x set : ByteArray) (w : World) (hx : x.size ≤ 100000000) (ht : set.size ≤ 1000000) :
    Calls Tryz.prog 244 #[.string x, .string set] w fun e w' => e = .returned (.bool (isWordL set.toList x.toList)) ∧ w' = w := by
  have hxl : x.toList = x.data.toList := Lib.toList_data x
  have htl : set.toList = set.data.toList := Lib.toList_data set
  have hsz := size_eq x
  rw [hxl, htl]
  by_cases h1 : x.size < 1
  · have hr : isWordL set.data.toList x.data.toList = false := by
      unfold isWordL
      rw [decide_eq_false (by omega), Bool.false_and]
    rw [hr]
    clear hr hxl htl hsz
    go_enter Tryz.func244, Tryz.ntmps244
    go_wp2
    go_ret
    exact ⟨rfl, rfl⟩
  · by_cases h2 : x.size > 32
    · have hr : isWordL set.data.toList x.data.toList = false := by
        unfold isWordL
        rw [decide_eq_false (p := x.data.toList.length ≤ 32) (by omega), Bool.false_and, Bool.and_false]
      rw [hr]
      clear hr hxl htl hsz
      go_enter Tryz.func244, Tryz.ntmps244
      go_wp2
      go_ret
      exact ⟨rfl, rfl⟩
    · have hp : 0 < x.size := by omega
      obtain ⟨c, hc⟩ : ∃ c, x[0]'hp = c := ⟨_, rfl⟩
      have hl := getElem_list hp hc
      have hhd : x.data.toList.headD 0 = c := by
        cases hq : x.data.toList with
        | nil => rw [hq] at hl; simp at hl
        | cons a r => rw [hq] at hl; simpa using hl
      have ham := fun W => among_any c (bs smallL) W (by rw [bs_size]; decide)
      rw [bs_data] at ham
      have hpa := fun W => past_any x 0 set W (Nat.zero_le _) (by omega) ht
      rw [List.drop_zero, Nat.zero_add] at hpa
      have hw : isWordL set.data.toList x.data.toList = (smallL.contains c && x.data.toList.all set.data.toList.contains) := by
        unfold isWordL
        rw [decide_eq_true (p := 1 ≤ x.data.toList.length) (by omega), decide_eq_true (p := x.data.toList.length ≤ 32) (by omega), hhd, Bool.true_and, Bool.true_and]
      rw [hw]
      have hall := all_while (p := set.data.toList.contains) x.data.toList
      obtain ⟨A, hA⟩ : ∃ A, x.data.toList.all set.data.toList.contains = A := ⟨_, rfl⟩
      obtain ⟨n, hn⟩ : ∃ n, (x.data.toList.takeWhile set.data.toList.contains).length = n := ⟨_, rfl⟩
      obtain ⟨B, hB⟩ : ∃ B, smallL.contains c = B := ⟨_, rfl⟩
      rw [hB] at ham ⊢
      rw [hn] at hpa hall
      rw [hA] at hall ⊢
      rw [← hsz] at hall
      have HA := hid ham
      have HP := hid hpa
      clear ham hpa hl hhd hw hA hn hB hxl htl hsz
      unfold bs at HA
      cases B
      · clear hall
        go_enter Tryz.func244, Tryz.ntmps244
        go_wp2_with (go_at_call 173; refine (HA.out _).mono ?_; rintro e w' ⟨rfl, rfl⟩)
        go_ret
        exact ⟨rfl, rfl⟩
      · by_cases hnx : n = x.size
        · obtain rfl : A = true := hall.1 hnx
          subst hnx
          clear hall
          go_enter Tryz.func244, Tryz.ntmps244
          go_wp2_with (first | (go_at_call 173; refine (HA.out _).mono ?_; rintro e w' ⟨rfl, rfl⟩) | (go_at_call 175; refine (HP.out _).mono ?_; rintro e w' ⟨rfl, rfl⟩))
          go_ret
          exact ⟨ret_bool (by simp), rfl⟩
        · obtain rfl : A = false := by
            cases A
            · rfl
            · exact absurd (hall.2 rfl) hnx
          have q : ((n : Int) == (x.size : Int)) = false := by rw [beq_eq_false_iff_ne]; omega
          clear hall
          go_enter Tryz.func244, Tryz.ntmps244
          go_wp2_with (first | (go_at_call 173; refine (HA.out _).mono ?_; rintro e w' ⟨rfl, rfl⟩) | (go_at_call 175; refine (HP.out _).mono ?_; rintro e w' ⟨rfl, rfl⟩))
          go_ret
          exact ⟨ret_bool (by simp), rfl⟩
end Go.Proofs.YtcncbhbdpcpkeaaGreatDoor

/-
  The reference's Check: rules' names, one rule, one scheme, one drop: their walks.
-/
namespace Go.Proofs.YtcncbhbdpcpkeaaGreatDoor
open Go.RowKit Go.Lib Own

theorem info_str : (Tryz.prog.info? 9).map (fun i => (i.zero, i.size, i.bytes)) = some (some (.string ⟨#[]⟩), 1, 16) := by kernel_rfl
/-- a policy's five cells -/
def polC (vr vs vd : Value) (P : PolP) : Array Value := #[vr, vs, vd, .int .i64 P.depth, .int .i64 P.window]
theorem polC_at {W : World} {b : Nat} {vr vs vd : Value} {P : PolP} (h : W.heap[b]? = some (.cells (polC vr vs vd P) 43 (0, 0))) :
    W.cell? ⟨b, 0, none⟩ = some vr ∧ W.cell? ⟨b, 1, none⟩ = some vs ∧ W.cell? ⟨b, 2, none⟩ = some vd ∧ W.cell? ⟨b, 3, none⟩ = some (.int .i64 P.depth) ∧ W.cell? ⟨b, 4, none⟩ = some (.int .i64 P.window) :=
  ⟨cell_at h rfl, cell_at h rfl, cell_at h rfl, cell_at h rfl, cell_at h rfl⟩

set_option maxHeartbeats 2000000 in
set_option maxRecDepth 100000 in
theorem refNames_any (vr vs vd : Value) (P : PolP) (w : World) (h : RulesR w vr P.rules) (hn : P.rules.length ≤ 2000000) :
    Calls Tryz.prog 152 #[.agg (polC vr vs vd P)] w fun e w' => ∃ v, e = .returned v ∧ Words w' v (P.rules.map Prod.fst) ∧ Below w.heap.size w w' := by
  obtain ⟨i0, hi, hz0, hz1, hz2⟩ := info_parts info_str
  obtain ⟨rp, rc, rfl, hr1, hr2, hr3⟩ := h
  have HR := hid hr3
  have hb0 := heap_alloc_new w (.cells (polC (.slice rp P.rules.length rc) vs vd P) 43)
  have hbel0 : Below w.heap.size w (w.alloc (.cells (polC (.slice rp P.rules.length rc) vs vd P) 43)) := (Below.refl w.heap.size w).alloc (Nat.le_refl _) _
  have H0 : Hid (Below w.heap.size w (w.alloc (.cells (polC (.slice rp P.rules.length rc) vs vd P) 43)) ∧ (w.alloc (.cells (polC (.slice rp P.rules.length rc) vs vd P) 43)).heap[w.heap.size]? = some (.cells (polC (.slice rp P.rules.length rc) vs vd P) 43 (0, 0)) ∧ (w.alloc (.cells (polC (.slice rp P.rules.length rc) vs vd P) 43)).ownsRow w.heap.size 9 1 (.slice none 0 0) 0 (((P.rules.take 0).map Prod.fst).map fun s => .string (bs s))) := ⟨hbel0, hb0, World.ownsRow_nil _ _ _ _⟩
  clear hr3 hb0 hbel0
  unfold polC at H0 ⊢
  go_enter Tryz.func152, Tryz.ntmps152
  go_wp2
  go_loopw [3, 4] (fun nv iv wr => ∃ k : Nat, iv = .int .i64 k ∧ k ≤ P.rules.length ∧ Hid (Below w.heap.size w wr ∧ wr.heap[w.heap.size]? = some (.cells #[.slice rp P.rules.length rc, vs, vd, .int .i64 P.depth, .int .i64 P.window] 43 (0, 0)) ∧ wr.ownsRow w.heap.size 9 1 nv k (((P.rules.take k).map Prod.fst).map fun s => .string (bs s)))) (fun _ iv _ => P.rules.length - (RowKit.intOf iv).toNat)
  case atStart => exact ⟨0, rfl, Nat.zero_le _, H0⟩
  case round =>
    obtain ⟨k, rfl, hk, HX⟩ := hrel
    obtain ⟨np, nc, rfl⟩ := row_shape HX.out.2.2
    have c0 := (polC_at (P := P) HX.out.2.1).1
    by_cases hkl : k < P.rules.length
    · obtain ⟨r, hr⟩ : ∃ r, P.rules[k]? = some r := ⟨_, List.getElem?_eq_getElem hkl⟩
      obtain ⟨b, o, u, rfl, hc1, _, _⟩ := HR.out k r hr
      have hc2 := cell_low hc1 HX.out.1 (cell_block hc1)
      obtain ⟨S, hS⟩ : ∃ S, bs r.1 = S := ⟨_, rfl⟩
      rw [hS] at hc2
      have hown := HX.out.2.2
      have hbs := HX.out.1.size
      have hst : ((P.rules.take (k + 1)).map Prod.fst).map (fun s => Value.string (bs s)) = ((P.rules.take k).map Prod.fst).map (fun s => Value.string (bs s)) ++ [.string S] := by
        rw [List.take_add_one, hr, ← hS]
        simp
      obtain ⟨LK, hLK⟩ : ∃ LK, ((P.rules.take k).map Prod.fst).map (fun s => Value.string (bs s)) = LK := ⟨_, rfl⟩
      rw [hLK] at hst hown
      have HST := hid (fun (_ : True) => hst)
      clear hr hc1 hS hst H0 hLK
      go_wp2_with (at_builtin; refine wpList_append_own _ rfl (.tmp 12) (.tmp 19) 41 rfl w.heap.size 9 i0 (.string ⟨#[]⟩) 1 16 Tryz.underlying41 hi hz0 hz1 hz2 rfl (by decide) _ _ _ rfl (hown.alloc _) ⟨_, 0, none⟩ 1 1 [.string S] rfl rfl (cells_newV _ _ _) (by simp [Value.oneCell']) (by unfold maxLen; omega) (by omega) (by simp; omega) ?_)
      intro v' w2 hown2 hgrow2 _
      have hbx := HX.out.2.1
      have hne := row_ne hown hbx (by decide)
      have hb2 : w2.heap[w.heap.size]? = _ := ((hgrow2.block _ (by simp; have := block_lt hbx; omega) (fun e => hne e.symm)).trans (Go.Lib.alloc_old _ _ _ (block_lt hbx))).trans hbx
      have hbel2 : Below w.heap.size w w2 := (HX.out.1.alloc hbs _).grown hgrow2 (by simp; omega) (fun k hk => (hown.lt k hk).1)
      rw [← HST.out trivial] at hown2
      have HZ := hid (And.intro hbel2 (And.intro hb2 hown2))
      clear hbel2 hb2 hown2 hgrow2 hbx hne hown HX c0
      go_wp2
      go_roundw
      case rel => first | exact ⟨k + 1, rfl, by omega, HZ⟩ | ((repeat apply Exists.intro); exact ⟨⟨k + 1, rfl, by omega, HZ⟩, rfl⟩)
      case measure => simp [RowKit.intOf]; omega
    · obtain rfl : k = P.rules.length := by omega
      have hw : Words wr (.slice np P.rules.length nc) (P.rules.map Prod.fst) := by
        have := HX.out.2.2
        rw [List.take_length] at this
        exact Words.row (by rw [List.length_map]; exact this)
      have HW := hid (And.intro hw HX.out.1)
      clear hw HX H0
      go_wp2
      go_ret
      exact ⟨_, rfl, HW.out.1, HW.out.2⟩

def wrongRuleP (n : Nat) (r : RuleP) : Bool := if n = 3 then classL r.1 == 0 else if n = 6 then twiceL r.2 else decide (n = 5) && r.2.any fun a => !attrT.contains a
theorem find_le : ∀ (T : List (List UInt8 × Nat)) (x : List UInt8), (∀ e ∈ T, e.2 ≤ 6) → findT T x ≤ 6
  | [], _, _ => Nat.zero_le _
  | e :: r, x, h => by
    unfold findT
    split
    · exact h e (List.mem_cons_self ..)
    · exact find_le r x (fun e he => h e (List.mem_cons_of_mem _ he))
theorem class_le (x : List UInt8) : classL x ≤ 6 := find_le _ _ (by decide)
theorem classW_nil (x : List UInt8) : ((classW (classL x)) == []) = (classL x == 0) := by
  have h := class_le x
  generalize classL x = k at h
  match k, h with
  | 0, _ => rfl
  | 1, _ => rfl
  | 2, _ => rfl
  | 3, _ => rfl
  | 4, _ => rfl
  | 5, _ => rfl
  | 6, _ => rfl
  | k + 7, h => omega

set_option maxHeartbeats 2000000 in
set_option maxRecDepth 100000 in
theorem wrongRule_any (n : Nat) (hn0 : n ≤ 10) (r : RuleP) (u : Value) (w : World) (h : Words w u r.2) (hl : r.2.length ≤ 2000000) (hT : AttrTab w) :
    Calls Tryz.prog 210 #[.int .i64 n, .agg #[.string (bs r.1), u]] w fun e w' => e = .returned (.bool (wrongRuleP n r)) ∧ Below w.heap.size w w' := by
  have hb0 := heap_alloc_new w (.cells #[.string (bs r.1), u] 97)
  have hbel0 : Below w.heap.size w (w.alloc (.cells #[.string (bs r.1), u] 97)) := (Below.refl w.heap.size w).alloc (Nat.le_refl _) _
  have hW1 := h.below hbel0
  have hT1 := hT.below hbel0
  have hcl := fun W => classOf_any (bs r.1) W
  rw [bs_toList] at hcl
  have hq := classW_nil r.1
  have hst := bs_toList (classW (classL r.1))
  by_cases h3 : n = 3
  · subst h3
    obtain ⟨R, hR⟩ : ∃ R, wrongRuleP 3 r = R := ⟨_, rfl⟩
    have hR2 : (classL r.1 == 0) = R := hR
    rw [hR2] at hq
    rw [← hst] at hq
    have c0 := cell_at hb0 (j := 0) rfl
    obtain ⟨S, hS⟩ : ∃ S, bs (classW (classL r.1)) = S := ⟨_, rfl⟩
    rw [hS] at hcl hq
    rw [hR]
    have q2 : S.toList.isEmpty = R := by rw [← hq]; cases S.toList <;> rfl
    have HC := hid hcl
    have HB := hid hbel0
    clear hcl hR hR2 hS hst hW1 hT1 hb0 hbel0 h hT
    obtain ⟨x, hx⟩ : ∃ x, bs r.1 = x := ⟨_, rfl⟩
    rw [hx] at c0 HC HB ⊢
    go_enter Tryz.func210, Tryz.ntmps210
    go_wp2_with (go_at_call 43; refine (HC.out _).mono ?_; rintro e w' ⟨rfl, rfl⟩)
    go_ret
    exact ⟨ret_bool (by first | exact hq | exact q2 | simp), HB.out⟩
  · clear hcl hq hst
    have q3 : ((n : Int) == 3) = false := by rw [beq_eq_false_iff_ne]; omega
    by_cases h6 : n = 6
    · subst h6
      have htw := refTwice_any u r.2 _ hW1 (by omega)
      have hR : wrongRuleP 6 r = twiceL r.2 := rfl
      rw [hR]
      obtain ⟨up, uc, hu, _⟩ := h.len
      have c1 := cell_at hb0 (j := 1) rfl
      have HTW := hid htw
      have HB := hid hbel0
      subst hu
      generalize twiceL r.2 = R at HTW ⊢
      obtain ⟨x, hx⟩ : ∃ x, bs r.1 = x := ⟨_, rfl⟩
      rw [hx] at c1 HTW HB ⊢
      clear htw hb0 hbel0 hT1 hT h hW1 hR hx
      go_enter Tryz.func210, Tryz.ntmps210
      go_wp2_with (go_at_call 153; refine HTW.out.mono ?_; rintro e w' ⟨rfl, nd, rfl⟩)
      go_ret
      exact ⟨rfl, below_drewN HB.out nd⟩
    · have q6 : ((n : Int) == 6) = false := by rw [beq_eq_false_iff_ne]; omega
      have hR : wrongRuleP n r = (decide (n = 5) && r.2.any fun a => !attrT.contains a) := by unfold wrongRuleP; rw [if_neg h3, if_neg h6]
      rw [hR]
      obtain ⟨up, uc, rfl, _, _, hcell, _⟩ := hW1
      have c1 := cell_at hb0 (j := 1) rfl
      have HT := hid hT1
      have HB := hid hbel0
      have HC := hid hcell
      obtain ⟨x, hx⟩ : ∃ x, bs r.1 = x := ⟨_, rfl⟩
      rw [hx] at c1 HT HB HC ⊢
      clear hb0 hbel0 hT1 hT h hR hx hcell
      by_cases h5 : n = 5
      · subst h5
        obtain ⟨R, hR⟩ : ∃ R, (r.2.any fun a => !attrT.contains a) = R := ⟨_, rfl⟩
        have HR := hid (fun (_ : True) => hR)
        have e5 : (decide ((5 : Nat) = 5) && r.2.any fun a => !attrT.contains a) = R := by rw [hR]; rfl
        rw [e5]
        clear hR e5
        go_enter Tryz.func210, Tryz.ntmps210
        go_wp2
        go_loopw [5] (fun iv wr => ∃ k : Nat, iv = .int .i64 k ∧ k ≤ r.2.length ∧ wr = w.alloc (.cells #[.string x, .slice up r.2.length uc] 97) ∧ Hid (True → ((r.2.drop k).any fun a => !attrT.contains a) = R)) (fun iv _ => r.2.length - (RowKit.intOf iv).toNat)
        case atStart => exact ⟨0, rfl, Nat.zero_le _, rfl, HR.out⟩
        case round =>
          obtain ⟨k, rfl, hk, rfl, HK⟩ := hrel
          by_cases hkl : k < r.2.length
          · obtain ⟨s, hs⟩ : ∃ s, r.2[k]? = some s := ⟨_, List.getElem?_eq_getElem hkl⟩
            obtain ⟨b, o, rfl, hc2⟩ := HC.out k s hs
            have hd := HK.out trivial
            rw [drop_at hs, List.any_cons] at hd
            have hka := fun W hTW => knownAttr_any (bs s) W hTW
            rw [bs_toList] at hka
            obtain ⟨K, hK⟩ : ∃ K, attrT.contains s = K := ⟨_, rfl⟩
            rw [hK] at hd hka
            obtain ⟨S, hS⟩ : ∃ S, bs s = S := ⟨_, rfl⟩
            rw [hS] at hka hc2
            have HKA := hid hka
            have HD := hid (fun (_ : True) => hd)
            clear hka hs hK hS hd HK HC
            cases K
            · go_wp2_with (go_at_call 243; refine (HKA.out _ HT.out).mono ?_; rintro e w' ⟨rfl, rfl⟩)
              go_ret
              exact ⟨ret_bool (by rw [← HD.out trivial]; rfl), HB.out⟩
            · go_wp2_with (go_at_call 243; refine (HKA.out _ HT.out).mono ?_; rintro e w' ⟨rfl, rfl⟩)
              go_roundw
              case rel =>
                have HE := hid (fun (_ : True) => (by have := HD.out trivial; simpa using this : ((r.2.drop (k + 1)).any fun a => !attrT.contains a) = R))
                first | exact ⟨k + 1, rfl, by omega, by first | rfl | trivial, HE⟩ | ((repeat apply Exists.intro); exact ⟨⟨k + 1, rfl, by omega, by first | rfl | trivial, HE⟩, rfl⟩)
              case measure => simp [RowKit.intOf]; omega
          · have hd := HK.out trivial
            rw [List.drop_of_length_le (by omega)] at hd
            obtain rfl : R = false := by rw [← hd]; rfl
            clear hd HK HC HR
            go_wp2
            go_ret
            exact ⟨rfl, HB.out⟩
      · have q5 : ((n : Int) == 5) = false := by rw [beq_eq_false_iff_ne]; omega
        rw [show (decide (n = 5) && r.2.any fun a => !attrT.contains a) = false by rw [decide_eq_false h5]; rfl]
        clear HC HT
        go_enter Tryz.func210, Tryz.ntmps210
        go_wp2
        go_loopw [5] (fun iv wr => ∃ k : Nat, iv = .int .i64 k ∧ k ≤ r.2.length ∧ wr = w.alloc (.cells #[.string x, .slice up r.2.length uc] 97)) (fun iv _ => r.2.length - (RowKit.intOf iv).toNat)
        case atStart => exact ⟨0, rfl, Nat.zero_le _, rfl⟩
        case round =>
          obtain ⟨k, rfl, hk, rfl⟩ := hrel
          by_cases hkl : k < r.2.length
          · go_wp2
            go_roundw
            case rel => exact ⟨k + 1, rfl, by omega, by first | rfl | trivial⟩
            case measure => simp [RowKit.intOf]; omega
          · go_wp2
            go_ret
            exact ⟨rfl, HB.out⟩
end Go.Proofs.YtcncbhbdpcpkeaaGreatDoor
