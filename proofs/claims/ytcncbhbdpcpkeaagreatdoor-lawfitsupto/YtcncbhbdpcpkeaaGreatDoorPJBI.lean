/-
  Parts of the walk, joined: SieveA, SieveB.
-/
import Derived.Test.YtcncbhbdpcpkeaaGreatDoorPJBC
import Derived.Test.YtcncbhbdpcpkeaaGreatDoorPJBD
import Derived.Test.YtcncbhbdpcpkeaaGreatDoorPJAE
import Derived.Test.YtcncbhbdpcpkeaaGreatDoorPJAX
/-
  Package sieve: the rule of an element, an attribute's value, the attributes that stay: their walks.
-/
namespace Go.Proofs.YtcncbhbdpcpkeaaGreatDoor
open Go.RowKit Go.Lib Own

theorem results_two {P : Program} {fn : Func} {p u : Tmp} {ty : TypeId} (h : fn.results = #[.cell p ty, .tmp u]) (tmps : Array Value) (w : World) (g : Nat) (t : TypeId) (cs : Array Value) (fr : Nat × Nat) (d : TypeDesc)
    (hp : tmps.getD p undef = .pointer (some ⟨g, 0, none⟩)) (hg : w.heap[g]? = some (.cells cs t fr))
    (hu : P.underlying ty = some d) (hd : (match d with | .struct _ | .array _ _ => true | _ => false) = true) (hi : (P.info? ty).map (·.size) = some cs.size) (x : Value) (hx : tmps.getD u undef = x) :
    (results fn tmps).run P w = .ok (.tuple #[.agg cs, x]) w := by
  rw [results_cell_tmp h, hp, hx]
  simp [asAddr, Result.andThen, run_loadVar_row w g t ty cs fr d hg hu hd hi]

/-- the cells of a Sieve -/
def sieveC (vr vs vd : Value) (P : PolP) (sk : List UInt8) (n : Nat) : Array Value := #[vr, vs, vd, .int .i64 P.depth, .int .i64 P.window, .string (bs sk), .int .i64 n]
/-- a Sieve at block b, over a policy that lies below w0's end -/
structure SvAt (w0 w : World) (b : Nat) (vr vs vd : Value) (P : PolP) (sk : List UInt8) (n : Nat) : Prop where
  at_ : w.heap[b]? = some (.cells (sieveC vr vs vd P sk n) 205 (0, 0))
  pol : PolR w0 vr vs vd P
  be : Below w0.heap.size w0 w
  lo : w0.heap.size ≤ b
theorem SvAt.below {w0 w w' : World} {b : Nat} {vr vs vd : Value} {P : PolP} {sk : List UInt8} {n : Nat} (h : SvAt w0 w b vr vs vd P sk n) (hb : Below w.heap.size w w') : SvAt w0 w' b vr vs vd P sk n :=
  ⟨(hb.block b (block_lt h.at_)).trans h.at_, h.pol, h.be.trans (hb.mono h.be.size), h.lo⟩
theorem SvAt.drew {w0 w : World} {b : Nat} {vr vs vd : Value} {P : PolP} {sk : List UInt8} {n : Nat} (h : SvAt w0 w b vr vs vd P sk n) : SvAt w0 w.drew b vr vs vd P sk n := ⟨h.at_, h.pol, ⟨h.be.os, h.be.tape, h.be.output, h.be.size, h.be.block⟩, h.lo⟩
theorem SvAt.cur {w0 w : World} {b : Nat} {vr vs vd : Value} {P : PolP} {sk : List UInt8} {n : Nat} (h : SvAt w0 w b vr vs vd P sk n) : PolR w vr vs vd P := h.pol.below h.be

theorem isLink_any (x : ByteArray) (w : World) : Calls Tryz.prog 288 #[.string x] w fun e w' => e = .returned (.bool (isLinkL x.toList)) ∧ w' = w := by
  unfold isLinkL
  by_cases h1 : (x.toList == [99, 105, 116, 101]) = true
  · rw [h1, Bool.true_or]
    go_enter Tryz.func288, Tryz.ntmps288
    go_wp2
    go_ret
    exact ⟨rfl, rfl⟩
  rw [Bool.not_eq_true] at h1
  rw [h1, Bool.false_or]
  by_cases h2 : (x.toList == [104, 114, 101, 102]) = true
  · rw [h2, Bool.true_or]
    go_enter Tryz.func288, Tryz.ntmps288
    go_wp2
    go_ret
    exact ⟨rfl, rfl⟩
  rw [Bool.not_eq_true] at h2
  rw [h2, Bool.false_or]
  obtain ⟨R, hR⟩ : ∃ R, (x.toList == [115, 114, 99]) = R := ⟨_, rfl⟩
  rw [hR]
  go_enter Tryz.func288, Tryz.ntmps288
  go_wp2
  go_ret
  exact ⟨rfl, rfl⟩

theorem ruleIs_any (g : Nat) (r : RuleP) (u : Value) (x : ByteArray) (w : World) (hg : w.cell? ⟨g, 0, none⟩ = some (.string x)) (hu : ∃ p n c, u = .slice p n c) :
    Calls Tryz.prog 273 #[.agg #[.string (bs r.1), u], .pointer (some ⟨g, 0, none⟩)] w fun e w' => e = .returned (.bool (r.1 == x.toList)) ∧ Below w.heap.size w w' := by
  obtain ⟨p, n, c, rfl⟩ := hu
  have hb := (Below.refl w.heap.size w).alloc (Nat.le_refl _) (.cells #[.string (bs r.1), .slice p n c] 97)
  have hbt := bs_toList r.1
  obtain ⟨S, hS⟩ : ∃ S, bs r.1 = S := ⟨_, rfl⟩
  rw [hS] at hb hbt ⊢
  have hg2 := cell_low hg hb (cell_block hg)
  have e : (r.1 == x.toList) = (S.toList == x.toList) := by rw [hbt]
  rw [e]
  have HB := hid hb
  clear hbt hS e hb
  go_enter Tryz.func273, Tryz.ntmps273
  go_wp2
  go_ret
  exact ⟨rfl, HB.out⟩

theorem ruleL_none {rs : List RuleP} {n : List UInt8} (h : ruleL rs n = none) : idxP (fun r : RuleP => r.1 == n) rs = -1 := by
  refine idxP_miss _ rs (fun j y hj => ?_)
  induction rs generalizing j with
  | nil => simp at hj
  | cons r rs ih =>
    unfold ruleL at h
    by_cases hr : r.1 = n
    · rw [if_pos hr] at h; cases h
    · rw [if_neg hr] at h
      cases j with
      | zero =>
        simp only [List.getElem?_cons_zero, Option.some.injEq] at hj
        subst hj
        exact beq_eq_false_iff_ne.2 hr
      | succ j => exact ih h j (by simpa using hj)
theorem ruleL_some {n : List UInt8} {l : List (List UInt8)} {rs : List RuleP} (h : ruleL rs n = some l) : ∃ k : Nat, rs[k]? = some (n, l) ∧ idxP (fun r : RuleP => r.1 == n) rs = (k : Int) := by
  induction rs with
  | nil => cases h
  | cons r rs ih =>
    unfold ruleL at h
    by_cases hr : r.1 = n
    · rw [if_pos hr] at h
      refine ⟨0, ?_, ?_⟩
      · show some r = some (n, l)
        rw [← hr, ← Option.some.inj h]
      · rw [idxP_cons, if_pos (beq_iff_eq.2 hr)]
        rfl
    · rw [if_neg hr] at h
      obtain ⟨k, h1, h2⟩ := ih h
      refine ⟨k + 1, by rw [List.getElem?_cons_succ]; exact h1, ?_⟩
      rw [idxP_cons, if_neg (by rw [beq_iff_eq]; exact hr), h2, if_neg (by omega)]
      simp

/-- what rule answers -/
def RuleV (W : World) (n : List UInt8) : Option (List (List UInt8)) → Value → Prop
  | none, v => v = .tuple #[.agg #[.string ⟨#[]⟩, .slice none 0 0], .bool false]
  | some l, v => ∃ u, v = .tuple #[.agg #[.string (bs n), u], .bool true] ∧ Words W u l

set_option maxHeartbeats 4000000 in
set_option maxRecDepth 100000 in
theorem rule_any (w0 : World) (b : Nat) (vr vs vd : Value) (P : PolP) (sk : List UInt8) (cnt : Nat) (x : ByteArray) (w : World) (h : SvAt w0 w b vr vs vd P sk cnt) (hF : P.Few) :
    Calls Tryz.prog 247 #[.pointer (some ⟨b, 0, none⟩), .string x] w fun e w' => ∃ v, e = .returned v ∧ RuleV w x.toList (ruleL P.rules x.toList) v ∧ Below w.heap.size w w' := by
  have hpol := h.cur
  obtain ⟨rp, rc, hvr, _, hrm, hcell⟩ := hpol.rules
  subst hvr
  have f1 := hF.rules
  -- the boxes
  obtain ⟨W1, hW1⟩ : ∃ W1, (w.alloc (.cells #[.string x] 9)).alloc (.cells #[.string ⟨#[]⟩, .slice none 0 0] 97) = W1 := ⟨_, rfl⟩
  have hB : Below w.heap.size w W1 := by rw [← hW1]; exact ((Below.refl w.heap.size w).alloc (Nat.le_refl _) _).alloc (by simp) _
  have b0 : W1.heap[w.heap.size]? = some (.cells #[.string x] 9 (0, 0)) := by rw [← hW1]; exact (Go.Lib.alloc_old _ _ _ (by simp)).trans (heap_alloc_new w _)
  have b1 : W1.heap[w.heap.size + 1]? = some (.cells #[.string ⟨#[]⟩, .slice none 0 0] 97 (0, 0)) := by rw [← hW1]; exact heap_two_new w _ _ _
  have hix := ruIndexFunc_any 273 #[.pointer (some ⟨w.heap.size, 0, none⟩)] (enters_of Tryz.func273 (by kernel_rfl) rfl) (fun r => r.1 == x.toList) (.slice rp P.rules.length rc) P.rules W1 (hpol.rules.below hB)
    (fun W r u _ hu hb => (ruleIs_any w.heap.size r u x W (cell_low (cell_at b0 (j := 0) rfl) hb (block_lt b0)) hu.shape).mono fun e w' q => ⟨q.1, hb.trans (q.2.mono hb.size)⟩)
  have c0 : W1.cell? ⟨b, 0, none⟩ = some (.slice rp P.rules.length rc) := cell_low (cell_at h.at_ rfl) hB (block_lt h.at_)
  have HC := hid hcell
  have HB := hid hB
  have HB1 := hid b1
  have HX := hid hix
  have HA := hid (cell_at h.at_ (j := 0) rfl)
  clear hcell hix hpol h hF b0 b1 hB
  go_enter Tryz.func247, Tryz.ntmps247
  go_upto_region 1 with fail
  go_wp2_with fail
  refine HX.out.mono ?_
  rintro e W2 ⟨rfl, hb2⟩
  have hb1 := (hb2.block _ (block_lt HB1.out)).trans HB1.out
  have hbel := HB.out.trans (hb2.mono HB.out.size)
  have d0 : W2.cell? ⟨b, 0, none⟩ = some (.slice rp P.rules.length rc) := cell_low c0 hb2 (cell_block c0)
  have z0 := cell_at hb1 (j := 0) rfl
  have z1 := cell_at hb1 (j := 1) rfl
  have y0 := free_at hb1 0
  have y1 := free_at hb1 1
  have hlo : w.heap.size < w.heap.size + 1 := by omega
  cases hr : ruleL P.rules x.toList with
  | none =>
    have hi := ruleL_none hr
    have HRR := hid hr
    have HF := hid (And.intro hb1 hbel)
    rw [hi]
    clear hr hi hb2 hbel hb1 HX HB HB1 hW1 c0 d0
    go_wp2_with fail
    have j0 := just_put (j := 0) (cs2 := #[.string ⟨#[]⟩, .slice none 0 0]) HF.out.1 (.string ⟨#[]⟩) (by simp)
    have j1 := just_put (j := 1) (cs2 := #[.string ⟨#[]⟩, .slice none 0 0]) j0.at_ (.slice none 0 0) (by simp)
    refine bodyPost_ret (v := .tuple #[.agg #[.string ⟨#[]⟩, .slice none 0 0], .bool false]) (results_two rfl _ _ _ _ _ _ _ rfl j1.at_ Tryz.underlying97 rfl (by kernel_rfl) _ rfl) rfl ⟨_, rfl, by rw [HRR.out]; rfl, ?_⟩
    exact (HF.out.2.trans (just_low j0 (by omega))).trans (just_low j1 (by omega))
  | some l =>
    obtain ⟨k, hk, hi⟩ := ruleL_some hr
    have HRR := hid hr
    obtain ⟨bb, o, u, rfl, q1, q2, q3⟩ := HC.out k _ hk
    have hkl := (List.getElem?_eq_some_iff.1 hk).1
    obtain ⟨up, uc, rfl, _⟩ := q3.len
    have HQ := hid q3
    have HF := hid (And.intro hb1 hbel)
    simp only at q1
    rw [bs_toList2] at q1
    replace q1 := cell_low q1 hbel (cell_block q1)
    replace q2 := cell_low q2 hbel (cell_block q2)
    rw [hi]
    have hxx := hid (bs_toList2 x)
    clear hr hi hb2 hbel hb1 HX HB HB1 hW1 c0 hk HC q3
    go_wp2_with fail
    have j0 := just_put (j := 0) (cs2 := #[.string x, .slice none 0 0]) HF.out.1 (.string x) (by simp)
    have j1 := just_put (j := 1) (cs2 := #[.string x, .slice up l.length uc]) j0.at_ (.slice up l.length uc) (by simp)
    refine bodyPost_ret (v := .tuple #[.agg #[.string x, .slice up l.length uc], .bool true]) (results_two rfl _ _ _ _ _ _ _ rfl j1.at_ Tryz.underlying97 rfl (by kernel_rfl) _ rfl) rfl ⟨_, rfl, by rw [HRR.out]; exact ⟨_, by rw [hxx.out], HQ.out⟩, ?_⟩
    exact (HF.out.2.trans (just_low j0 (by omega))).trans (just_low j1 (by omega))
end Go.Proofs.YtcncbhbdpcpkeaaGreatDoor

/-
  Package sieve: an attribute's value, the attributes that stay: their walks.
-/
namespace Go.Proofs.YtcncbhbdpcpkeaaGreatDoor
open Go.RowKit Go.Lib Own

/-- the value that an attribute is to have, and whether it stays -/
def valueA (schemes : List (List UInt8)) (a : AttrP) : List UInt8 × Bool := if isLinkL a.1 = true then linkL schemes a.2 else (a.2, true)
theorem keptA_cons (schemes listed seen : List (List UInt8)) (a : AttrP) (r : List AttrP) : keptA schemes listed seen (a :: r) =
    if listed.contains a.1 = false ∨ seen.contains a.1 = true then keptA schemes listed seen r else (if (valueA schemes a).2 = true then [(a.1, (valueA schemes a).1)] else []) ++ keptA schemes listed (seen ++ [a.1]) r := by
  rw [keptA]
  unfold valueA
  split
  · rfl
  · split
    · split <;> rfl
    · rfl
theorem ret_sb {a b : ByteArray} {x y : Bool} (h : a = b) (k : x = y) : Ending.returned (.tuple #[.string a, .bool x]) = .returned (.tuple #[.string b, .bool y]) := by rw [h, k]

set_option maxHeartbeats 4000000 in
set_option maxRecDepth 100000 in
theorem cleanValue_any (w0 : World) (b : Nat) (vr vs vd : Value) (P : PolP) (sk : List UInt8) (cnt : Nat) (a : AttrP) (w : World) (h : SvAt w0 w b vr vs vd P sk cnt) (ha : a.2.length ≤ 4000000) :
    Calls Tryz.prog 284 #[.pointer (some ⟨b, 0, none⟩), .agg #[.string (bs a.1), .string (bs a.2)]] w fun e w' => e = .returned (.tuple #[.string (bs (valueA P.schemes a).1), .bool (valueA P.schemes a).2]) ∧ Below w.heap.size w w' := by
  have hlk := fun W => isLink_any (bs a.1) W
  rw [bs_toList] at hlk
  have hB : Below w.heap.size w (w.alloc (.cells #[.string (bs a.1), .string (bs a.2)] 122)) := (Below.refl w.heap.size w).alloc (Nat.le_refl _) _
  have b0 := heap_alloc_new w (.cells #[.string (bs a.1), .string (bs a.2)] 122)
  obtain ⟨W1, hW1⟩ : ∃ W1, w.alloc (.cells #[.string (bs a.1), .string (bs a.2)] 122) = W1 := ⟨_, rfl⟩
  rw [hW1] at hB b0
  have hS1 := h.below hB
  obtain ⟨sp, sc, hvs, _⟩ := hS1.cur.schemes.len
  subst hvs
  have c1 := cell_at hS1.at_ (j := 1) rfl
  have hcl := fun W hW => cleanURL_any (.slice sp P.schemes.length sc) P.schemes (bs a.2) W hW (by rw [bs_size]; omega)
  rw [bs_data] at hcl
  have hw1 := hS1.cur.schemes
  have d0 := cell_at b0 (j := 0) rfl
  have d1 := cell_at b0 (j := 1) rfl
  unfold valueA
  obtain ⟨S1, hS1'⟩ : ∃ S, bs a.1 = S := ⟨_, rfl⟩
  obtain ⟨S2, hS2'⟩ : ∃ S, bs a.2 = S := ⟨_, rfl⟩
  rw [hS1', hS2'] at hW1
  rw [hS1'] at hlk d0
  rw [hS2'] at hcl d1
  have HB := hid hB
  have HS2 := hid hS2'
  rw [hS1', hS2']
  have HLK := hid hlk
  have HW1 := hid hw1
  clear hlk hS1 hB b0 h hS1' hS2' hw1
  by_cases hl : isLinkL a.1 = true
  · rw [if_pos hl]
    rw [hl] at HLK
    generalize linkL P.schemes a.2 = q at hcl ⊢
    obtain ⟨q1, q2⟩ := q
    simp only at hcl ⊢
    obtain ⟨Q, hQ⟩ : ∃ Q, bs q1 = Q := ⟨_, rfl⟩
    rw [hQ] at hcl ⊢
    have HCL := hid hcl
    clear hcl hQ HS2
    go_enter Tryz.func284, Tryz.ntmps284
    go_upto_region 1 with fail
    clear hW1
    go_wp2_with fail
    refine (HLK.out _).mono ?_
    rintro e W2 ⟨rfl, rfl⟩
    go_wp2_with fail
    go_region_with (first | (go_at_call 289; refine (HCL.out _ (by exact HW1.out)).mono ?_; rintro e W3 ⟨rfl, b3⟩; have HB3 : Hid (Below W2.heap.size W2 W3) := ⟨b3.os, b3.tape, b3.output, b3.size, b3.block⟩; clear b3))
    all_goals
      go_wp2_with fail
      go_ret2
      exact ⟨rfl, HB.out.trans (HB3.out.mono HB.out.size)⟩
  · rw [if_neg hl]
    rw [Bool.not_eq_true] at hl
    rw [hl] at HLK
    clear hcl HW1 c1
    simp only
    go_enter Tryz.func284, Tryz.ntmps284
    go_upto_region 1 with fail
    clear hW1
    go_wp2_with fail
    refine (HLK.out _).mono ?_
    rintro e W2 ⟨rfl, rfl⟩
    go_wp2_with fail
    go_ret2
    exact ⟨ret_sb HS2.out.symm rfl, HB.out⟩

set_option maxHeartbeats 8000000 in
set_option maxRecDepth 100000 in
theorem cleanAttrs_any (w0 : World) (b : Nat) (vr vs vd : Value) (P : PolP) (sk : List UInt8) (cnt : Nat) (rn : List UInt8) (ru : Value) (listed : List (List UInt8)) (av : Value) (al : List AttrP) (w : World) (h : SvAt w0 w b vr vs vd P sk cnt) (hr : Words w ru listed) (ha : AttrsR w av al) (hl : bulkA al ≤ 4000000) :
    Calls Tryz.prog 272 #[.pointer (some ⟨b, 0, none⟩), .agg #[.string (bs rn), ru], av] w fun e w' => ∃ v, e = .returned v ∧ w'.ownsRow w.heap.size 122 2 v (keptA P.schemes listed [] al).length (attrsV (keptA P.schemes listed [] al)) ∧ Below w.heap.size w w' := by
  obtain ⟨ap, ac, rfl, _, _, hcell, _⟩ := ha
  obtain ⟨rp, rc, rfl, _⟩ := hr.len
  obtain ⟨R, hR⟩ : ∃ R, keptA P.schemes listed [] al = R := ⟨_, rfl⟩
  have hRb : R.length ≤ 4000000 := by rw [← hR]; have := (keptA_bulk P.schemes listed al []).2; have := bulkA_len al; omega
  rw [hR]
  have hB : Below w.heap.size w (w.alloc (.cells #[.string (bs rn), .slice rp listed.length rc] 97)) := (Below.refl w.heap.size w).alloc (Nat.le_refl _) _
  have b0 := heap_alloc_new w (.cells #[.string (bs rn), .slice rp listed.length rc] 97)
  have H0 := hid (And.intro hB b0)
  have HS := hid h
  have HC := hid hcell
  have HW := hid hr
  have HR := hid (fun (_ : True) => (hR : [] ++ keptA P.schemes listed [] (al.drop 0) = R))
  have HRB := hid hRb
  have hall := bulkA_len al
  have hlen : al.length ≤ 4000000 := by omega
  have HL := hid hl
  obtain ⟨si, hsi, hs0, hs1, hs2⟩ := info_parts info_str
  obtain ⟨ai, hai, ha0, ha1, ha2⟩ := info_parts info_attr
  clear h hcell hr hR hB b0 hRb hall hl
  go_enter Tryz.func272, Tryz.ntmps272
  go_wp2_with fail
  go_loopw [7, 8, 15] (fun cv mv iv wr => ∃ (k : Nat) (kept : List AttrP) (seen : List (List UInt8)), iv = .int .i64 k ∧ k ≤ al.length ∧ Hid (wr.ownsRow w.heap.size 122 2 cv kept.length (attrsV kept) ∧ wr.ownsRow w.heap.size 9 1 mv seen.length (wordsV seen) ∧ Below w.heap.size w wr ∧ wr.heap[w.heap.size]? = some (.cells #[.string (bs rn), .slice rp listed.length rc] 97 (0, 0)) ∧ kept.length ≤ k ∧ seen.length ≤ k) ∧ Hid (True → kept ++ keptA P.schemes listed seen (al.drop k) = R)) (fun _ _ iv _ => al.length - (RowKit.intOf iv).toNat)
  case atStart => exact ⟨0, [], [], rfl, Nat.zero_le _, hid ⟨World.ownsRow_nil _ _ _ _, World.ownsRow_nil _ _ _ _, H0.out.1, H0.out.2, Nat.le_refl _, Nat.le_refl _⟩, HR⟩
  case round =>
    obtain ⟨k, kept, seen, rfl, hk, HX, HK⟩ := hrel
    obtain ⟨cp, cc, rfl⟩ := row_shape HX.out.1
    obtain ⟨mp, mc, rfl⟩ := row_shape HX.out.2.1
    clear H0 HR
    by_cases hkl : k < al.length
    · obtain ⟨a, hak⟩ : ∃ a, al[k]? = some a := ⟨_, List.getElem?_eq_getElem hkl⟩
      obtain ⟨bb, o, rfl, q1, q2⟩ := HC.out k a hak
      obtain ⟨hown, hmet, hbw, hbox, hkn, hsn⟩ := HX.out
      have hab := bulkA_get hak
      have hLL := HL.out
      replace q1 := cell_low q1 hbw (cell_block q1)
      replace q2 := cell_low q2 hbw (cell_block q2)
      have hd := HK.out trivial
      rw [drop_at hak, keptA_cons] at hd
      -- the box of the attribute
      obtain ⟨W1, hW1⟩ : ∃ W1, wr.alloc (.cells #[.string (bs a.1), .string (bs a.2)] 122) = W1 := ⟨_, rfl⟩
      have hb1 : Below wr.heap.size wr W1 := by rw [← hW1]; exact (Below.refl _ _).alloc (Nat.le_refl _) _
      have hn1 : W1.heap[wr.heap.size]? = some (.cells #[.string (bs a.1), .string (bs a.2)] 122 (0, 0)) := by rw [← hW1]; exact heap_alloc_new _ _
      have hbw1 := hbw.trans (hb1.mono hbw.size)
      have hbox1 := (hb1.block _ (block_lt hbox)).trans hbox
      have hown1 := row_below hown hb1
      have hmet1 := row_below hmet hb1
      have hmw : Words W1 (.slice mp seen.length mc) seen := Words.row hmet1
      have hct1 := slContains_any (.slice rp listed.length rc) listed (bs a.1) W1 (HW.out.below hbw1)
      have hct2 := slContains_any (.slice mp seen.length mc) seen (bs a.1) W1 hmw
      rw [bs_toList] at hct1 hct2
      have hcv := fun W hb => cleanValue_any w0 b vr vs vd P sk cnt a W (HS.out.below hb) (by omega)
      have d0 := cell_at hn1 (j := 0) rfl
      have d1 := cell_at hn1 (j := 1) rfl
      have e1 := cell_at hbox1 (j := 1) rfl
      have HCV := hid hcv
      have HCT1 := hid hct1
      have HCT2 := hid hct2
      have H1 := hid (And.intro hown1 (And.intro hmet1 (And.intro hbw1 (And.intro hbox1 hn1))))
      obtain ⟨c1, hc1⟩ : ∃ c1, listed.contains a.1 = c1 := ⟨_, rfl⟩
      obtain ⟨c2, hc2⟩ : ∃ c2, seen.contains a.1 = c2 := ⟨_, rfl⟩
      rw [hc1] at HCT1 hd
      rw [hc2] at HCT2 hd
      clear hcv hct1 hct2 hmw hown hmet hbw hbox hown1 hmet1 hbw1 hbox1 hn1 hb1 hak hab hLL hc1 hc2 HX HK HC
      go_upto_region 6 with fail
      clear hW1 q1 q2
      cases c1 with
      | false =>
        rw [if_pos (.inl rfl)] at hd
        have HD := hid (fun (_ : True) => hd)
        clear hd HCV HCT2
        go_wp2_with fail
        refine HCT1.out.mono ?_
        rintro r W2 ⟨rfl, rfl⟩
        go_wp2_with fail
        go_roundw
        case rel => exact ⟨k + 1, kept, seen, rfl, by omega, hid ⟨H1.out.1, H1.out.2.1, H1.out.2.2.1, H1.out.2.2.2.1, by omega, by omega⟩, HD⟩
        case measure => simp [RowKit.intOf]; omega
      | true =>
        go_wp2_with fail
        refine HCT1.out.mono ?_
        rintro r W2 ⟨rfl, rfl⟩
        cases c2 with
        | true =>
          rw [if_pos (.inr rfl)] at hd
          have HD := hid (fun (_ : True) => hd)
          clear hd HCV
          go_wp2_with fail
          refine HCT2.out.mono ?_
          rintro r W2 ⟨rfl, rfl⟩
          go_wp2_with fail
          go_roundw
          case rel => exact ⟨k + 1, kept, seen, rfl, by omega, hid ⟨H1.out.1, H1.out.2.1, H1.out.2.2.1, H1.out.2.2.2.1, by omega, by omega⟩, HD⟩
          case measure => simp [RowKit.intOf]; omega
        | false =>
          rw [if_neg (by simp)] at hd
          have HD := hid (fun (_ : True) => hd)
          clear hd
          go_wp2_with fail
          refine HCT2.out.mono ?_
          rintro r W2 ⟨rfl, rfl⟩
          obtain ⟨hown, hmet, hbw, hbox, hn1⟩ := H1.out
          have hbs := hbw.size
          have hbx := block_lt hn1
          clear HCT1 HCT2 e1
          go_wp2_with (at_builtin; refine wpList_append_own _ rfl (.tmp 31) (.tmp 34) 41 rfl w.heap.size 9 si (.string ⟨#[]⟩) 1 16 Tryz.underlying41 hsi hs0 hs1 hs2 rfl (by decide) _ _ _ rfl (hmet.alloc _) ⟨_, 0, none⟩ 1 1 [.string (bs a.1)] rfl rfl (cells_newV _ _ _) (by simp [Value.oneCell']) (by unfold maxLen; omega) (by omega) (by simp; omega) ?_)
          intro v3 W3 hown3 hgrow3 _
          have hma := hmet.alloc (.cells #[.string (bs a.1)] 9)
          have hn3 := grown_at hgrow3 ((Go.Lib.alloc_old _ (.cells #[.string (bs a.1)] 9) _ (block_lt hn1)).trans hn1) (row_ne hma ((Go.Lib.alloc_old _ _ _ (block_lt hn1)).trans hn1) (by decide))
          have hbox3 := grown_at hgrow3 ((Go.Lib.alloc_old _ (.cells #[.string (bs a.1)] 9) _ (block_lt hbox)).trans hbox) (row_ne hma ((Go.Lib.alloc_old _ _ _ (block_lt hbox)).trans hbox) (by decide))
          have hown3k := (hown.alloc (.cells #[.string (bs a.1)] 9)).kept hgrow3 (rows_ne (hown.alloc _) hma (by decide))
          have hbw3 := (hbw.alloc hbs (.cells #[.string (bs a.1)] 9)).grown hgrow3 (by simp; omega) (fun k hk => (hma.lt k hk).1)
          have hcv := HCV.out W3 (by
            refine ⟨hbw3.os, hbw3.tape, hbw3.output, hbw3.size, hbw3.block⟩)
          have hmet3 : W3.ownsRow w.heap.size 9 1 v3 (seen ++ [a.1]).length (wordsV (seen ++ [a.1])) := by
            rw [List.length_append, wordsV_app]
            exact hown3
          obtain ⟨vp3, vc3, rfl⟩ := row_shape hown3
          have d0 := cell_at hn3 (j := 0) rfl
          have d1 := cell_at hn3 (j := 1) rfl
          have HD3 := hid (And.intro hown3k (And.intro hmet3 (And.intro hbw3 (And.intro hbox3 hn3))))
          generalize valueA P.schemes a = q at hcv HD
          obtain ⟨x1, x2⟩ := q
          simp only at hcv HD
          obtain ⟨X, hX⟩ : ∃ X, bs x1 = X := ⟨_, rfl⟩
          rw [hX] at hcv
          have HCV3 := hid hcv
          have HXX := hid hX
          clear hma hn3 hbox3 hown3k hbw3 hcv hmet3 hown3 hgrow3 hown hmet hbw hbox hn1 H1 HCV hX
          go_wp2_with fail
          refine HCV3.out.mono ?_
          rintro r W4 ⟨rfl, b4⟩
          obtain ⟨hown3k, hmet3, hbw3, hbox3, hn3⟩ := HD3.out
          have hown4 := row_below hown3k b4
          have hmet4 := row_below hmet3 b4
          have hbw4 := hbw3.trans (b4.mono hbw3.size)
          have hbox4 := (b4.block _ (block_lt hbox3)).trans hbox3
          have hn4 := (b4.block _ (block_lt hn3)).trans hn3
          replace d0 := cell_at hn4 (j := 0) rfl
          have hsl : (seen ++ [a.1]).length = seen.length + 1 := by rw [List.length_append]; rfl
          have HSL := hid hsl
          clear hown3k hmet3 hbw3 hbox3 hn3 b4 d1 HD3 HCV3 hsl
          cases x2 with
          | false =>
            have HD4 := hid (fun (_ : True) => (by have := HD.out trivial; rwa [if_neg (by simp), List.nil_append] at this : kept ++ keptA P.schemes listed (seen ++ [a.1]) (al.drop (k + 1)) = R))
            have HZ := hid (And.intro hown4 (And.intro hmet4 (And.intro hbw4 (And.intro hbox4 (And.intro (show kept.length ≤ k + 1 by omega) (show (seen ++ [a.1]).length ≤ k + 1 by rw [HSL.out]; omega))))))
            clear hown4 hmet4 hbw4 hbox4 hn4 HD d0
            go_wp2_with fail
            go_roundw
            case rel => exact ⟨k + 1, kept, seen ++ [a.1], rfl, by omega, HZ, HD4⟩
            case measure => simp [RowKit.intOf]; omega
          | true =>
            have HD4 := hid (fun (_ : True) => (by have := HD.out trivial; rwa [if_pos rfl, ← List.append_assoc] at this : (kept ++ [(a.1, x1)]) ++ keptA P.schemes listed (seen ++ [a.1]) (al.drop (k + 1)) = R))
            have hbs4 := hbw4.size
            clear HD
            go_wp2_with (at_builtin; refine wpList_append_own _ rfl (.tmp 43) (.tmp 48) 36 rfl w.heap.size 122 ai (.agg #[.string ⟨#[]⟩, .string ⟨#[]⟩]) 2 32 Tryz.underlying36 hai ha0 ha1 ha2 rfl (by decide) _ _ _ rfl (hown4.alloc _) ⟨_, 0, none⟩ 1 1 [.string (bs a.1), .string X] rfl rfl (cells_newV _ _ _) (by simp [Value.oneCell']) (by unfold maxLen; omega) (by omega) (by simp; omega) ?_)
            intro v5 W5 hown5 hgrow5 _
            have hma := hown4.alloc (.cells #[.string (bs a.1), .string X] 122)
            have hbox5 := grown_at hgrow5 ((Go.Lib.alloc_old _ (.cells #[.string (bs a.1), .string X] 122) _ (block_lt hbox4)).trans hbox4) (row_ne hma ((Go.Lib.alloc_old _ _ _ (block_lt hbox4)).trans hbox4) (by decide))
            have hmet5 := (hmet4.alloc (.cells #[.string (bs a.1), .string X] 122)).kept hgrow5 (rows_ne (hmet4.alloc _) hma (by decide))
            have hbw5 := (hbw4.alloc hbs4 (.cells #[.string (bs a.1), .string X] 122)).grown hgrow5 (by simp; omega) (fun k hk => (hma.lt k hk).1)
            have hkept5 : W5.ownsRow w.heap.size 122 2 v5 (kept ++ [(a.1, x1)]).length (attrsV (kept ++ [(a.1, x1)])) := by
              rw [List.length_append, attrsV_app, show attrsV [(a.1, x1)] = [.string (bs a.1), .string X] by rw [← HXX.out]; rfl]
              exact hown5
            have HZ := hid (And.intro hkept5 (And.intro hmet5 (And.intro hbw5 (And.intro hbox5 (And.intro (show (kept ++ [(a.1, x1)]).length ≤ k + 1 by rw [List.length_append]; simp; omega) (show (seen ++ [a.1]).length ≤ k + 1 by rw [HSL.out]; omega))))))
            clear hown4 hmet4 hbw4 hbox4 hn4 d0 hma hbox5 hmet5 hbw5 hkept5 hown5 hgrow5
            go_wp2
            go_roundw
            case rel => exact ⟨k + 1, _, _, rfl, by omega, HZ, HD4⟩
            case measure => simp [RowKit.intOf]; omega
    · obtain rfl : kept = R := by
        have := HK.out trivial
        rw [List.drop_of_length_le (by omega)] at this
        rwa [show keptA P.schemes listed seen [] = [] by rw [keptA], List.append_nil] at this
      have HZ := hid (And.intro HX.out.1 HX.out.2.2.1)
      clear HK HX HC HS HW
      go_wp2_with fail
      go_ret
      exact ⟨_, rfl, HZ.out.1, HZ.out.2⟩
end Go.Proofs.YtcncbhbdpcpkeaaGreatDoor
