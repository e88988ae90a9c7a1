/-
  Parts of the walk, joined: PolCodeC, LacksP.
-/
import Derived.Test.YtcncbhbdpcpkeaaGreatDoorPJAO
/-
  policy.Check: predicates on words and rules, and Check itself: their walks.
-/
namespace Go.Proofs.YtcncbhbdpcpkeaaGreatDoor
open Go.RowKit Go.Lib Own

set_option maxHeartbeats 2000000 in
set_option maxRecDepth 100000 in
theorem isWord_any (x sg : ByteArray) (w : World) (hx : x.size ≤ 1000000000) :
    Calls Tryz.prog 165 #[.string x, .string sg] w fun e w' => e = .returned (.bool (isWordL (smallL ++ digitL ++ sg.data.toList) x.toList)) ∧ w' = w := by
  have hw := fun W => wordLen_any x sg W hx
  have hxz := size_eq x
  have hle := wordLen_le sg.data.toList x.data.toList
  rw [← hxz] at hle
  rw [word_is]
  have htl : x.toList = x.data.toList := Lib.toList_data x
  have q0 : (x.toList == []) = (x.data.toList == []) := by rw [htl]
  rw [htl, ← hxz]
  generalize wordLenL sg.data.toList x.data.toList = n at hw hle ⊢
  by_cases h0 : x.data.toList = []
  · rw [h0] at q0 ⊢
    have q1 : (x.toList == []) = true := q0
    clear hw htl hxz q0 h0
    go_enter Tryz.func165, Tryz.ntmps165
    go_wp2
    go_ret
    exact ⟨rfl, rfl⟩
  · have e0 : (x.data.toList == []) = false := beq_eq_false_iff_ne.2 h0
    have q1 : (x.toList == []) = false := q0.trans e0
    rw [e0]
    by_cases h32 : x.size ≤ 32
    · rw [decide_eq_true h32]
      have z1 : (x.size : Int) ≤ 32 := by omega
      by_cases hn : n = x.size
      · subst hn
        have HW := hid hw
        clear hw htl hxz q0 h0 e0
        go_enter Tryz.func165, Tryz.ntmps165
        go_wp2_with (go_at_call 137; refine (HW.out _).mono ?_; rintro e w' ⟨rfl, rfl⟩)
        go_ret
        exact ⟨ret_bool (by simp), rfl⟩
      · have e1 : (n == x.size) = false := beq_eq_false_iff_ne.2 hn
        have z2 : ((n : Int) == (x.size : Int)) = false := beq_eq_false_iff_ne.2 (by omega)
        rw [e1]
        have HW := hid hw
        clear hw htl hxz q0 h0 e0 e1 hn
        go_enter Tryz.func165, Tryz.ntmps165
        go_wp2_with (go_at_call 137; refine (HW.out _).mono ?_; rintro e w' ⟨rfl, rfl⟩)
        go_ret
        exact ⟨ret_bool (by simp), rfl⟩
    · rw [decide_eq_false h32]
      have z1 : ¬ (x.size : Int) ≤ 32 := by omega
      clear hw htl hxz q0 h0 e0 hle
      go_enter Tryz.func165, Tryz.ntmps165
      go_wp2
      go_ret
      exact ⟨rfl, rfl⟩

set_option maxHeartbeats 2000000 in
set_option maxRecDepth 100000 in
theorem isBadScheme_any (x : ByteArray) (w : World) (hx : x.size ≤ 1000000000) :
    Calls Tryz.prog 104 #[.string x] w fun e w' => e = .returned (.bool (wrongSchemeP x.toList)) ∧ w' = w := by
  have hw := fun W => isWord_any x (bs [43, 45, 46]) W hx
  rw [show smallL ++ digitL ++ (bs [43, 45, 46]).data.toList = schemeL from rfl] at hw
  unfold wrongSchemeP
  obtain ⟨B, hB⟩ : ∃ B, isWordL schemeL x.toList = B := ⟨_, rfl⟩
  rw [hB] at hw ⊢
  have HW := hid hw
  unfold bs at HW
  clear hw hB
  obtain ⟨b1, h1⟩ : ∃ b1, (x.toList == [106, 97, 118, 97, 115, 99, 114, 105, 112, 116]) = b1 := ⟨_, rfl⟩
  obtain ⟨b2, h2⟩ : ∃ b2, (x.toList == [118, 98, 115, 99, 114, 105, 112, 116]) = b2 := ⟨_, rfl⟩
  obtain ⟨b3, h3⟩ : ∃ b3, (x.toList == [100, 97, 116, 97]) = b3 := ⟨_, rfl⟩
  rw [h1, h2, h3]
  cases b1
  · cases b2
    · cases b3
      · go_enter Tryz.func104, Tryz.ntmps104
        go_wp2_with (go_at_call 165; refine (HW.out _).mono ?_; rintro e w' ⟨rfl, rfl⟩)
        go_ret
        exact ⟨ret_bool (by cases B <;> rfl), rfl⟩
      · go_enter Tryz.func104, Tryz.ntmps104
        go_wp2
        go_ret
        exact ⟨ret_bool (by cases B <;> rfl), rfl⟩
    · go_enter Tryz.func104, Tryz.ntmps104
      go_wp2
      go_ret
      exact ⟨ret_bool (by cases B <;> rfl), rfl⟩
  · go_enter Tryz.func104, Tryz.ntmps104
    go_wp2
    go_ret
    exact ⟨ret_bool (by cases B <;> rfl), rfl⟩

set_option maxHeartbeats 4000000 in
set_option maxRecDepth 100000 in
theorem neverEnds_yes (X : List UInt8) (w : World) (hk : X ∈ voidT) :
    Calls Tryz.prog 167 #[.string (bs X)] w fun e w' => e = .returned (.bool true) ∧ w' = w := by
  simp only [voidT, List.mem_cons, List.not_mem_nil, or_false] at hk
  rcases hk with rfl | rfl | rfl | rfl | rfl | rfl | rfl | rfl | rfl | rfl | rfl | rfl | rfl
  all_goals unfold bs
  all_goals go_enter Tryz.func167, Tryz.ntmps167
  all_goals go_wp2
  all_goals go_ret
  all_goals exact ⟨rfl, rfl⟩
set_option maxHeartbeats 4000000 in
set_option maxRecDepth 100000 in
theorem neverEnds_no (x : ByteArray) (w : World) (hk : x.toList ∉ voidT) :
    Calls Tryz.prog 167 #[.string x] w fun e w' => e = .returned (.bool false) ∧ w' = w := by
  simp only [voidT, List.mem_cons, List.not_mem_nil, or_false, not_or] at hk
  obtain ⟨h0, h1, h2, h3, h4, h5, h6, h7, h8, h9, h10, h11, h12⟩ := hk
  replace h0 := ne_beq h0
  replace h1 := ne_beq h1
  replace h2 := ne_beq h2
  replace h3 := ne_beq h3
  replace h4 := ne_beq h4
  replace h5 := ne_beq h5
  replace h6 := ne_beq h6
  replace h7 := ne_beq h7
  replace h8 := ne_beq h8
  replace h9 := ne_beq h9
  replace h10 := ne_beq h10
  replace h11 := ne_beq h11
  replace h12 := ne_beq h12
  go_enter Tryz.func167, Tryz.ntmps167
  go_wp2
  go_ret
  exact ⟨rfl, rfl⟩
theorem neverEnds_any (x : ByteArray) (w : World) :
    Calls Tryz.prog 167 #[.string x] w fun e w' => e = .returned (.bool (voidT.contains x.toList)) ∧ w' = w := by
  by_cases hk : x.toList ∈ voidT
  · have h2 := neverEnds_yes x.toList w hk
    rw [bs_toList2] at h2
    rw [show voidT.contains x.toList = true by simpa using hk]
    exact h2
  · rw [show voidT.contains x.toList = false by simpa using hk]
    exact neverEnds_no x w hk

/-! ## the closures -/

set_option maxHeartbeats 2000000 in
set_option maxRecDepth 100000 in
theorem badDrop_any (x : ByteArray) (B : Nat) (v : Value) (names : List (List UInt8)) (w : World) (hx : x.size ≤ 1000000000) (hB : w.cell? ⟨B, 0, none⟩ = some v) (h : Words w v names) :
    Calls Tryz.prog 166 #[.string x, .pointer (some ⟨B, 0, none⟩)] w fun e w' => e = .returned (.bool (wrongDropP names x.toList)) ∧ w' = w := by
  have hw := fun W => isWord_any x (bs [45]) W hx
  rw [show smallL ++ digitL ++ (bs [45]).data.toList = dropL from rfl] at hw
  have hne := fun W => neverEnds_any x W
  have hct := slContains_any v names x w h
  obtain ⟨p, c, rfl, _⟩ := h.len
  unfold wrongDropP
  generalize isWordL dropL x.toList = b1 at hw ⊢
  generalize voidT.contains x.toList = b2 at hne ⊢
  generalize names.contains x.toList = b3 at hct ⊢
  have HW := hid hw
  have HN := hid hne
  have HC := hid hct
  unfold bs at HW
  clear hw hne hct h
  cases b1
  · go_enter Tryz.func166, Tryz.ntmps166
    go_wp2_with (go_at_call 165; refine (HW.out _).mono ?_; rintro e w' ⟨rfl, rfl⟩)
    go_ret
    exact ⟨ret_bool (by cases b2 <;> rfl), rfl⟩
  · cases b2
    · go_enter Tryz.func166, Tryz.ntmps166
      go_wp2_with (first | (go_at_call 165; refine (HW.out _).mono ?_; rintro e w' ⟨rfl, rfl⟩) | (go_at_call 167; refine (HN.out _).mono ?_; rintro e w' ⟨rfl, rfl⟩) | (go_at_call 162; refine HC.out.mono ?_; rintro e w' ⟨rfl, rfl⟩))
      go_ret
      exact ⟨ret_bool (by cases b3 <;> rfl), rfl⟩
    · go_enter Tryz.func166, Tryz.ntmps166
      go_wp2_with (first | (go_at_call 165; refine (HW.out _).mono ?_; rintro e w' ⟨rfl, rfl⟩) | (go_at_call 167; refine (HN.out _).mono ?_; rintro e w' ⟨rfl, rfl⟩))
      go_ret
      exact ⟨ret_bool (by cases b3 <;> rfl), rfl⟩
theorem partsOne_any (x : ByteArray) (B : Nat) (v : Value) (names : List (List UInt8)) (w : World) (hB : w.cell? ⟨B, 0, none⟩ = some v) (h : Words w v names) :
    Calls Tryz.prog 168 #[.string x, .pointer (some ⟨B, 0, none⟩)] w fun e w' => e = .returned (.bool (names.contains x.toList)) ∧ w' = w := by
  have hct := slContains_any v names x w h
  obtain ⟨p, c, rfl, _⟩ := h.len
  generalize names.contains x.toList = b3 at hct ⊢
  have HC := hid hct
  clear hct h
  go_enter Tryz.func168, Tryz.ntmps168
  go_wp2_with (go_at_call 162; refine HC.out.mono ?_; rintro e w' ⟨rfl, rfl⟩)
  go_ret
  exact ⟨rfl, rfl⟩

/-! ## the predicates, as IndexFunc asks them -/

theorem predEl (w : World) (ss : List (List UInt8)) (hT : KindsTab w) : PredW w 99 #[] ss (fun s => classL s == 0) := fun W s _ hb => by
  have := isUnkEl_any (bs s) W (hT.below hb)
  rw [bs_toList] at this
  exact this.mono (fun _ _ ⟨h1, h2⟩ => ⟨h1, hb.trans (h2.mono hb.size)⟩)
theorem predAt (w : World) (ss : List (List UInt8)) (hT : VAttrTab w) : PredW w 164 #[] ss (fun s => !attrT.contains s) := fun W s _ hb => by
  have := isUnkAt_any (bs s) W (hT.below hb)
  rw [bs_toList] at this
  exact this.mono (fun _ _ ⟨h1, h2⟩ => ⟨h1, by rw [h2]; exact hb⟩)
theorem predSch (w : World) (ss : List (List UInt8)) (hs : ∀ s ∈ ss, s.length ≤ 1000000000) : PredW w 104 #[] ss wrongSchemeP := fun W s hm hb => by
  have := isBadScheme_any (bs s) W (by rw [bs_size]; exact hs s hm)
  rw [bs_toList] at this
  exact this.mono (fun _ _ ⟨h1, h2⟩ => ⟨h1, by rw [h2]; exact hb⟩)
theorem predDrop (w : World) (ss : List (List UInt8)) (B : Nat) (v : Value) (names : List (List UInt8)) (hs : ∀ s ∈ ss, s.length ≤ 1000000000) (hB : w.cell? ⟨B, 0, none⟩ = some v) (h : Words w v names) :
    PredW w 166 #[.pointer (some ⟨B, 0, none⟩)] ss (wrongDropP names) := fun W s hm hb => by
  have := badDrop_any (bs s) B v names W (by rw [bs_size]; exact hs s hm) (cell_kept hB hb) (h.below hb)
  rw [bs_toList] at this
  exact this.mono (fun _ _ ⟨h1, h2⟩ => ⟨h1, by rw [h2]; exact hb⟩)

set_option maxHeartbeats 1000000 in
theorem listsUnk_any (r : RuleP) (u : Value) (w : World) (h : Words w u r.2) (hT : VAttrTab w) :
    Calls Tryz.prog 102 #[.agg #[.string (bs r.1), u]] w fun e w' => e = .returned (.bool (r.2.any fun a => !attrT.contains a)) ∧ Below w.heap.size w w' := by
  have hb := (Below.refl w.heap.size w).alloc (Nat.le_refl _) (.cells #[.string (bs r.1), u] 97)
  have hn := heap_alloc_new w (.cells #[.string (bs r.1), u] 97)
  have hc := slContainsFunc_any 164 #[] (enters_of Tryz.func164 (by kernel_rfl) rfl) _ u r.2 _ (h.below hb) (predAt _ r.2 (hT.below hb))
  have c1 := cell_at hn (j := 1) rfl
  obtain ⟨p, c, rfl, _⟩ := h.len
  obtain ⟨R, hR⟩ : ∃ R, r.2.any (fun a => !attrT.contains a) = R := ⟨_, rfl⟩
  obtain ⟨S, hS⟩ : ∃ S, bs r.1 = S := ⟨_, rfl⟩
  rw [hR, hS] at hc
  rw [hS] at c1 hb ⊢
  rw [hR]
  have HC := hid hc
  have HB := hid hb
  clear hc hR hS h hn hb
  go_enter Tryz.func102, Tryz.ntmps102
  go_wp2_with (go_at_call 98; refine HC.out.mono ?_; rintro e w' ⟨rfl, b1⟩)
  go_ret
  exact ⟨rfl, HB.out.trans (b1.mono HB.out.size)⟩
set_option maxHeartbeats 1000000 in
theorem listsTw_any (r : RuleP) (u : Value) (w : World) (h : Words w u r.2) :
    Calls Tryz.prog 103 #[.agg #[.string (bs r.1), u]] w fun e w' => e = .returned (.bool (twiceL r.2)) ∧ Below w.heap.size w w' := by
  have hb := (Below.refl w.heap.size w).alloc (Nat.le_refl _) (.cells #[.string (bs r.1), u] 97)
  have hn := heap_alloc_new w (.cells #[.string (bs r.1), u] 97)
  have hc := hasTwice_any u r.2 _ (h.below hb)
  have c1 := cell_at hn (j := 1) rfl
  obtain ⟨p, c, rfl, _⟩ := h.len
  obtain ⟨R, hR⟩ : ∃ R, twiceL r.2 = R := ⟨_, rfl⟩
  obtain ⟨S, hS⟩ : ∃ S, bs r.1 = S := ⟨_, rfl⟩
  rw [hR, hS] at hc
  rw [hS] at c1 hb ⊢
  rw [hR]
  have HC := hid hc
  have HB := hid hb
  clear hc hR hS h hn hb
  go_enter Tryz.func103, Tryz.ntmps103
  go_wp2_with (go_at_call 100; refine HC.out.mono ?_; rintro e w' ⟨rfl, rfl⟩)
  go_ret
  exact ⟨rfl, HB.out⟩
theorem predUnk (w : World) (rs : List RuleP) (hT : VAttrTab w) : PredR w 102 #[] rs (fun r => r.2.any fun a => !attrT.contains a) := fun W r u _ hu hb =>
  (listsUnk_any r u W (hu.below hb) (hT.below hb)).mono (fun _ _ ⟨h1, h2⟩ => ⟨h1, hb.trans (h2.mono hb.size)⟩)
theorem predTw (w : World) (rs : List RuleP) : PredR w 103 #[] rs (fun r => twiceL r.2) := fun W r u _ hu hb =>
  (listsTw_any r u W (hu.below hb)).mono (fun _ _ ⟨h1, h2⟩ => ⟨h1, hb.trans (h2.mono hb.size)⟩)
end Go.Proofs.YtcncbhbdpcpkeaaGreatDoor

/-
  policy.Check: the parts of lists and tables: its walk.
-/
namespace Go.Proofs.YtcncbhbdpcpkeaaGreatDoor
open Go.RowKit Go.Lib Own

set_option maxHeartbeats 8000000 in
set_option maxRecDepth 100000 in
theorem lacksParts_any (vn : Value) (names : List (List UInt8)) (w : World) (hn : Words w vn names) :
    Calls Tryz.prog 106 #[vn] w fun e w' => e = .returned (.bool (partsP names)) ∧ Below w.heap.size w w' := by
  have hb := (Below.refl w.heap.size w).alloc (Nat.le_refl _) (.cells #[vn] 41)
  have hw := heap_alloc_new w (.cells #[vn] 41)
  have hone := fun X => partsOne_any X w.heap.size vn names _ (cell_at hw rfl) (hn.below hb)
  obtain ⟨np, nc, rfl, _⟩ := hn.len
  obtain ⟨f, hf⟩ : ∃ f : ByteArray → Bool, (fun X : ByteArray => names.contains X.toList) = f := ⟨_, rfl⟩
  have hone2 : ∀ X : ByteArray, Calls Tryz.prog 168 #[.string X, .pointer (some ⟨w.heap.size, 0, none⟩)] (w.alloc (.cells #[.slice np names.length nc] 41)) fun e w' => e = .returned (.bool (f X)) ∧ w' = w.alloc (.cells #[.slice np names.length nc] 41) := fun X => by rw [← hf]; exact hone X
  unfold partsP
  have eul : names.contains [117, 108] = f ⟨#[117, 108]⟩ := by rw [← hf]; show _ = names.contains (bs [117, 108]).toList; rw [bs_toList]
  have eol : names.contains [111, 108] = f ⟨#[111, 108]⟩ := by rw [← hf]; show _ = names.contains (bs [111, 108]).toList; rw [bs_toList]
  have eli : names.contains [108, 105] = f ⟨#[108, 105]⟩ := by rw [← hf]; show _ = names.contains (bs [108, 105]).toList; rw [bs_toList]
  have eta : names.contains [116, 97, 98, 108, 101] = f ⟨#[116, 97, 98, 108, 101]⟩ := by rw [← hf]; show _ = names.contains (bs [116, 97, 98, 108, 101]).toList; rw [bs_toList]
  have etb : names.contains [116, 98, 111, 100, 121] = f ⟨#[116, 98, 111, 100, 121]⟩ := by rw [← hf]; show _ = names.contains (bs [116, 98, 111, 100, 121]).toList; rw [bs_toList]
  have etr : names.contains [116, 114] = f ⟨#[116, 114]⟩ := by rw [← hf]; show _ = names.contains (bs [116, 114]).toList; rw [bs_toList]
  have etd : names.contains [116, 100] = f ⟨#[116, 100]⟩ := by rw [← hf]; show _ = names.contains (bs [116, 100]).toList; rw [bs_toList]
  rw [eul, eol, eli, eta, etb, etr, etd]
  obtain ⟨ul, hul⟩ : ∃ ul, f ⟨#[117, 108]⟩ = ul := ⟨_, rfl⟩
  obtain ⟨ol, hol⟩ : ∃ ol, f ⟨#[111, 108]⟩ = ol := ⟨_, rfl⟩
  obtain ⟨li, hli⟩ : ∃ li, f ⟨#[108, 105]⟩ = li := ⟨_, rfl⟩
  obtain ⟨ta, hta⟩ : ∃ ta, f ⟨#[116, 97, 98, 108, 101]⟩ = ta := ⟨_, rfl⟩
  obtain ⟨tb, htb⟩ : ∃ tb, f ⟨#[116, 98, 111, 100, 121]⟩ = tb := ⟨_, rfl⟩
  obtain ⟨tr, htr⟩ : ∃ tr, f ⟨#[116, 114]⟩ = tr := ⟨_, rfl⟩
  obtain ⟨td, htd⟩ : ∃ td, f ⟨#[116, 100]⟩ = td := ⟨_, rfl⟩
  rw [hul, hol, hli, hta, htb, htr, htd]
  have HONE := hid hone2
  have HB := hid hb
  have hmf : ∀ (fn : Fn) (first cap : Array Value) (w : World), (Instr.makeFunc fn first cap).run Tryz.prog w = .ok (.func fn first cap) w := fun _ _ _ _ => rfl
  have eg := enters_of Tryz.func168 (by kernel_rfl) rfl
  clear hone hone2 hf hn hw hb eul eol eli eta etb etr etd
  cases ul
  · cases ol
    · cases ta
      · go_enter Tryz.func106, Tryz.ntmps106
        go_wp2_with (go_at_call 168; refine (HONE.out _).mono ?_; rintro e w' ⟨rfl, rfl⟩)
        go_ret
        exact ⟨ret_bool (by simp), HB.out⟩
      · cases tb
        · go_enter Tryz.func106, Tryz.ntmps106
          go_wp2_with (go_at_call 168; refine (HONE.out _).mono ?_; rintro e w' ⟨rfl, rfl⟩)
          go_ret
          exact ⟨ret_bool (by simp), HB.out⟩
        · cases tr
          · go_enter Tryz.func106, Tryz.ntmps106
            go_wp2_with (go_at_call 168; refine (HONE.out _).mono ?_; rintro e w' ⟨rfl, rfl⟩)
            go_ret
            exact ⟨ret_bool (by simp), HB.out⟩
          · cases td
            · go_enter Tryz.func106, Tryz.ntmps106
              go_wp2_with (go_at_call 168; refine (HONE.out _).mono ?_; rintro e w' ⟨rfl, rfl⟩)
              go_ret
              exact ⟨ret_bool (by simp), HB.out⟩
            · go_enter Tryz.func106, Tryz.ntmps106
              go_wp2_with (go_at_call 168; refine (HONE.out _).mono ?_; rintro e w' ⟨rfl, rfl⟩)
              go_ret
              exact ⟨ret_bool (by simp), HB.out⟩
    · cases li
      · go_enter Tryz.func106, Tryz.ntmps106
        go_wp2_with (go_at_call 168; refine (HONE.out _).mono ?_; rintro e w' ⟨rfl, rfl⟩)
        go_ret
        exact ⟨ret_bool (by simp), HB.out⟩
      · cases ta
        · go_enter Tryz.func106, Tryz.ntmps106
          go_wp2_with (go_at_call 168; refine (HONE.out _).mono ?_; rintro e w' ⟨rfl, rfl⟩)
          go_ret
          exact ⟨ret_bool (by simp), HB.out⟩
        · cases tb
          · go_enter Tryz.func106, Tryz.ntmps106
            go_wp2_with (go_at_call 168; refine (HONE.out _).mono ?_; rintro e w' ⟨rfl, rfl⟩)
            go_ret
            exact ⟨ret_bool (by simp), HB.out⟩
          · cases tr
            · go_enter Tryz.func106, Tryz.ntmps106
              go_wp2_with (go_at_call 168; refine (HONE.out _).mono ?_; rintro e w' ⟨rfl, rfl⟩)
              go_ret
              exact ⟨ret_bool (by simp), HB.out⟩
            · cases td
              · go_enter Tryz.func106, Tryz.ntmps106
                go_wp2_with (go_at_call 168; refine (HONE.out _).mono ?_; rintro e w' ⟨rfl, rfl⟩)
                go_ret
                exact ⟨ret_bool (by simp), HB.out⟩
              · go_enter Tryz.func106, Tryz.ntmps106
                go_wp2_with (go_at_call 168; refine (HONE.out _).mono ?_; rintro e w' ⟨rfl, rfl⟩)
                go_ret
                exact ⟨ret_bool (by simp), HB.out⟩
  · cases li
    · go_enter Tryz.func106, Tryz.ntmps106
      go_wp2_with (go_at_call 168; refine (HONE.out _).mono ?_; rintro e w' ⟨rfl, rfl⟩)
      go_ret
      exact ⟨ret_bool (by simp), HB.out⟩
    · cases ta
      · go_enter Tryz.func106, Tryz.ntmps106
        go_wp2_with (go_at_call 168; refine (HONE.out _).mono ?_; rintro e w' ⟨rfl, rfl⟩)
        go_ret
        exact ⟨ret_bool (by simp), HB.out⟩
      · cases tb
        · go_enter Tryz.func106, Tryz.ntmps106
          go_wp2_with (go_at_call 168; refine (HONE.out _).mono ?_; rintro e w' ⟨rfl, rfl⟩)
          go_ret
          exact ⟨ret_bool (by simp), HB.out⟩
        · cases tr
          · go_enter Tryz.func106, Tryz.ntmps106
            go_wp2_with (go_at_call 168; refine (HONE.out _).mono ?_; rintro e w' ⟨rfl, rfl⟩)
            go_ret
            exact ⟨ret_bool (by simp), HB.out⟩
          · cases td
            · go_enter Tryz.func106, Tryz.ntmps106
              go_wp2_with (go_at_call 168; refine (HONE.out _).mono ?_; rintro e w' ⟨rfl, rfl⟩)
              go_ret
              exact ⟨ret_bool (by simp), HB.out⟩
            · go_enter Tryz.func106, Tryz.ntmps106
              go_wp2_with (go_at_call 168; refine (HONE.out _).mono ?_; rintro e w' ⟨rfl, rfl⟩)
              go_ret
              exact ⟨ret_bool (by simp), HB.out⟩
end Go.Proofs.YtcncbhbdpcpkeaaGreatDoor
