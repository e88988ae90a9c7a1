/-
  Parts of the walk, joined: WrTake, InStr, TabsK.
-/
import Derived.Lib.UnsafeStr
import Derived.Test.YtcncbhbdpcpkeaaGreatDoorRows
import Derived.SliceStrings
import Derived.Deep.Strs
import Derived.Lib.LaidU8T
import Derived.Lib.LaidTab
import Derived.Lib.LaidU8
import Derived.OpenShut
import Derived.ChangeSame
import Derived.ChangeArms
import Derived.Test.YtcncbhbdpcpkeaaGreatDoorPJAU
import Derived.Test.YtcncbhbdpcpkeaaGreatDoorPJAG
import Derived.Test.YtcncbhbdpcpkeaaGreatDoorPJAQ
import Derived.Test.YtcncbhbdpcpkeaaGreatDoorPJAD
import Derived.Test.YtcncbhbdpcpkeaaGreatDoorPJAE
import Derived.Test.YtcncbhbdpcpkeaaGreatDoorPJAJ
/-
  Package written: the Writer: its walks.
-/
namespace Go.Proofs.YtcncbhbdpcpkeaaGreatDoor
open Go.RowKit Go.Lib Own

theorem ret_txt {a b : ByteArray} (h : a = b) : Ending.returned (.string a) = .returned (.string b) := by rw [h]
theorem eatsNl_any (x : ByteArray) (w : World) : Calls Tryz.prog 80 #[.string x] w fun e w' => e = .returned (.bool (eatsL x.toList)) ∧ w' = w := by
  unfold eatsL
  by_cases h1 : (x.toList == [112, 114, 101]) = true
  · rw [h1, Bool.true_or]
    go_enter Tryz.func80, Tryz.ntmps80
    go_wp2
    go_ret
    exact ⟨rfl, rfl⟩
  · rw [Bool.not_eq_true] at h1
    rw [h1, Bool.false_or]
    obtain ⟨R, hR⟩ : ∃ R, (x.toList == [116, 101, 120, 116, 97, 114, 101, 97]) = R := ⟨_, rfl⟩
    rw [hR]
    go_enter Tryz.func80, Tryz.ntmps80
    go_wp2
    go_ret
    exact ⟨rfl, rfl⟩

/-- a text as it is written, and whether a newline is still to be guarded -/
def textW (eat : Bool) (t : List UInt8) : Bool × List UInt8 :=
  if t = [] then (eat, []) else (false, (if eat = true ∧ t.head? = some 10 then [10] else []) ++ escL false t)
def takeW (eat : Bool) (e : EvP) : Bool × List UInt8 :=
  if e.k = 1 then (eatsL e.n, openL e.n e.a) else if e.k = 2 then (false, etagL e.n) else if e.k = 3 then textW eat e.t else (eat, [])
def writeW (eat : Bool) : List EvP → List UInt8
  | [] => []
  | e :: r => (takeW eat e).2 ++ writeW (takeW eat e).1 r

theorem grown_below {w w' : World} (h : Below w.heap.size w w') (row : Option Nat) : w.grownBy w' row := ⟨h.os, h.tape, h.output, h.size, fun k hk _ => h.block k hk⟩
theorem just_grown {w w' : World} {b : Nat} {cs : Array Value} {T : TypeId} (h : Just w w' b cs T) : w.grownBy w' (some b) := ⟨h.os, h.tape, h.output, by rw [h.size]; exact Nat.le_refl _, fun k _ hk => h.other k (fun e => hk (by rw [e]))⟩
theorem cell_grown {w w' : World} {b o k : Nat} {v : Value} (h : w.cell? ⟨b, o, none⟩ = some v) (hg : w.grownBy w' (some k)) (hb : b ≠ k) : w'.cell? ⟨b, o, none⟩ = some v := by
  have := hg.block b (cell_block h) (fun e => hb (Option.some.inj e))
  unfold World.cell? at h ⊢
  rw [this]
  exact h

/-- the flag of a Writer that lies at cell o of block b -/
structure EatAt (w : World) (b o : Nat) (cs : Array Value) (T : TypeId) (eat : Bool) : Prop where
  at_ : w.heap[b]? = some (.cells cs T (0, 0))
  c : cs[o]? = some (.bool eat)

set_option maxHeartbeats 2000000 in
set_option maxRecDepth 100000 in
theorem wText_any (b o : Nat) (cs : Array Value) (T : TypeId) (eat : Bool) (t : ByteArray) (m : Int) (w : World) (h : EatAt w b o cs T eat) (ht : t.size ≤ 100000000) (hm : w.cell? ⟨4, 0, none⟩ = some (.int .i64 m)) (hmb : 4 ≠ b) :
    Calls Tryz.prog 135 #[.pointer (some ⟨b, o, none⟩), .string t] w fun e w' => e = .returned (.string (bs (textW eat t.data.toList).2)) ∧ w'.heap[b]? = some (.cells (cs.setIfInBounds o (.bool (textW eat t.data.toList).1)) T (0, 0)) ∧ w.grownBy w' (some b) := by
  have hc := cell_at h.at_ h.c
  have hz := size_eq t
  by_cases h0 : t.data.toList = []
  · have q : (t.toList == []) = true := by rw [Lib.toList_data, h0]; rfl
    have hcs : cs.setIfInBounds o (.bool eat) = cs := set_same h.c
    unfold textW
    rw [if_pos h0]
    simp only
    rw [hcs]
    clear hz hm ht
    go_enter Tryz.func135, Tryz.ntmps135
    go_wp2
    go_ret
    exact ⟨rfl, h.at_, World.grownBy.refl _ _⟩
  · have q : (t.toList == []) = false := by rw [Lib.toList_data]; exact beq_eq_false_iff_ne.2 h0
    have hp : 0 < t.size := by rw [hz]; exact List.length_pos_iff.2 h0
    obtain ⟨c, hcc⟩ : ∃ c, t[0]'hp = c := ⟨_, rfl⟩
    have hl := getElem_list hp hcc
    have hhd : t.data.toList.head? = some c := by rw [List.head?_eq_getElem?]; exact hl
    have j1 := just_set (j := o) h.at_ (.bool false)
    have hm1 := cell_grown hm (just_grown j1) hmb
    have ct := wrText_any t m _ ht hm1
    have e1 : (textW eat t.data.toList).1 = false := by unfold textW; rw [if_neg h0]
    have e2 : (textW eat t.data.toList).2 = (if eat = true ∧ c = 10 then [10] else []) ++ escL false t.data.toList := by
      unfold textW
      rw [if_neg h0, hhd]
      simp only [Option.some.injEq]
    rw [e1, e2]
    obtain ⟨E, hE⟩ : ∃ E, escL false t.data.toList = E := ⟨_, rfl⟩
    have hEl : (bs E).size ≤ 1000000000 := by rw [bs_size, ← hE]; have := esc_len false _ t.data.toList (Nat.le_refl _); omega
    rw [hE] at ct ⊢
    obtain ⟨S, hS⟩ : ∃ S, bs E = S := ⟨_, rfl⟩
    have HS := hid (fun (_ : True) => hS)
    rw [hS] at ct hEl
    have CT := hid ct
    have HJ := hid j1
    have hfz := free_at h.at_ o
    clear ct j1 hm1 hm hz hl hhd e1 e2 hE hS h h0 ht
    have fin : ∀ W3, Below (w.setCell ⟨b, o, none⟩ (.bool false)).heap.size (w.setCell ⟨b, o, none⟩ (.bool false)) W3 → W3.heap[b]? = some (.cells (cs.setIfInBounds o (.bool false)) T (0, 0)) ∧ w.grownBy W3 (some b) := fun W3 hb3 =>
      ⟨(hb3.block b (block_lt HJ.out.at_)).trans HJ.out.at_, (just_grown HJ.out).trans (grown_below hb3 _)⟩
    have FIN := hid fin
    clear fin
    by_cases hg : eat = true ∧ c = 10
    · rw [if_pos hg]
      obtain ⟨rfl, rfl⟩ := hg
      obtain ⟨R, hR⟩ : ∃ R, bs ([10] ++ E) = R := ⟨_, rfl⟩
      have hR2 : (⟨#[10]⟩ : ByteArray) ++ S = R := by
        rw [← hR, ← bs_cat, HS.out trivial]
        rfl
      rw [hR]
      have HR := hid (fun (_ : True) => hR2)
      clear hR hR2 HS
      go_enter Tryz.func135, Tryz.ntmps135
      go_wp2_with (go_at_call 187; refine CT.out.mono ?_; rintro e W3 ⟨rfl, b3⟩)
      go_ret
      exact ⟨ret_txt (HR.out trivial), FIN.out W3 b3⟩
    · rw [if_neg hg]
      obtain ⟨R, hR⟩ : ∃ R, bs ([] ++ E) = R := ⟨_, rfl⟩
      have hR2 : (⟨#[]⟩ : ByteArray) ++ S = R := by
        rw [← hR, ← bs_cat, HS.out trivial]
        rfl
      rw [hR]
      have HR := hid (fun (_ : True) => hR2)
      clear hR hR2 HS
      cases eat
      · clear hg
        go_enter Tryz.func135, Tryz.ntmps135
        go_wp2_with (go_at_call 187; refine CT.out.mono ?_; rintro e W3 ⟨rfl, b3⟩)
        go_ret
        exact ⟨ret_txt (HR.out trivial), FIN.out W3 b3⟩
      · have hc10 : c ≠ 10 := fun e => hg ⟨rfl, e⟩
        have hn10 : c.toNat ≠ 10 := fun e => hc10 (UInt8.toNat_inj.1 (e.trans rfl))
        have q11 : ((c.toNat : Int) == 10) = false := beq_eq_false_iff_ne.2 (by omega)
        clear hg hc10 hn10
        go_enter Tryz.func135, Tryz.ntmps135
        go_wp2_with (go_at_call 187; refine CT.out.mono ?_; rintro e W3 ⟨rfl, b3⟩)
        go_ret
        exact ⟨ret_txt (HR.out trivial), FIN.out W3 b3⟩

set_option maxHeartbeats 4000000 in
set_option maxRecDepth 100000 in
theorem wTake_any (b o : Nat) (cs : Array Value) (T : TypeId) (eat : Bool) (e : EvP) (u : Value) (m : Int) (w0 w : World) (h : EatAt w b o cs T eat) (hu0 : AttrsR w0 u e.a) (hb0 : Below w0.heap.size w0 w) (hlo : w0.heap.size ≤ b) (hs : e.n.length + e.t.length + bulkA e.a ≤ 100000000)
    (hm0 : w0.cell? ⟨4, 0, none⟩ = some (.int .i64 m)) :
    Calls Tryz.prog 70 #[.pointer (some ⟨b, o, none⟩), .agg (evC e u)] w fun r w' => r = .returned (.string (bs (takeW eat e).2)) ∧ w'.heap[b]? = some (.cells (cs.setIfInBounds o (.bool (takeW eat e).1)) T (0, 0)) ∧ w.grownBy w' (some b) := by
  obtain ⟨p, c, rfl⟩ := hu0.len
  have hmb : 4 ≠ b := by have := cell_block hm0; omega
  have hm := cell_low hm0 hb0 (cell_block hm0)
  have hu := hu0.below hb0
  have hbs := block_lt h.at_
  have hB := (Below.refl w.heap.size w).alloc (Nat.le_refl _) (.cells (evC e (.slice p e.a.length c)) 60)
  have hn := heap_alloc_new w (.cells (evC e (.slice p e.a.length c)) 60)
  obtain ⟨W1, hW1⟩ : ∃ W1, w.alloc (.cells (evC e (.slice p e.a.length c)) 60) = W1 := ⟨_, rfl⟩
  have hsz1 : W1.heap.size = w.heap.size + 1 := by rw [← hW1]; simp
  rw [hW1] at hB hn
  have h1 : EatAt W1 b o cs T eat := ⟨(hB.block b hbs).trans h.at_, h.c⟩
  have hm1 := cell_low hm hB (cell_block hm)
  have hu1 := hu.below hB
  obtain ⟨c0, c1, c2, c3⟩ := evC_at hn
  have hg1 := grown_below hB (some b)
  have hbe := cell_at h1.at_ h1.c
  have hfz := free_at h1.at_ o
  unfold evC at hW1 ⊢
  have HG := hid hg1
  have HB1 := hid (hb0.trans (hB.mono hb0.size))
  clear hB hg1 hu hm h
  have hj : ∀ v, Hid (Just W1 (W1.setCell ⟨b, o, none⟩ (.bool v)) b (cs.setIfInBounds o (.bool v)) T) := fun v => just_set (j := o) h1.at_ (.bool v)
  have fin : ∀ v W3, Below (W1.setCell ⟨b, o, none⟩ (.bool v)).heap.size (W1.setCell ⟨b, o, none⟩ (.bool v)) W3 → W3.heap[b]? = some (.cells (cs.setIfInBounds o (.bool v)) T (0, 0)) ∧ w.grownBy W3 (some b) := fun v W3 hb3 =>
    ⟨(hb3.block b (block_lt (hj v).out.at_)).trans (hj v).out.at_, (HG.out.trans (just_grown (hj v).out)).trans (grown_below hb3 _)⟩
  have FIN := hid fin
  have hm2 : ∀ v, (W1.setCell ⟨b, o, none⟩ (.bool v)).cell? ⟨4, 0, none⟩ = some (.int .i64 m) := fun v => cell_grown hm1 (just_grown (hj v).out) hmb
  clear fin
  by_cases k1 : e.k = 1
  · have e1 : takeW eat e = (eatsL e.n, openL e.n e.a) := by unfold takeW; rw [if_pos k1]
    rw [e1, k1]
    simp only
    rw [k1] at c0 hW1
    have hst := startTag_any (bs e.n) (.slice p e.a.length c) e.a m (W1.setCell ⟨b, o, none⟩ (.bool (eatsL e.n))) (by rw [bs_size]; omega) (hu0.below (HB1.out.setCell hlo _)) (by omega) (hm2 _)
    have het := fun W => eatsNl_any (bs e.n) W
    rw [bs_data] at hst
    rw [bs_toList] at het
    have fin2 := FIN.out (eatsL e.n)
    obtain ⟨v, hv⟩ : ∃ v, eatsL e.n = v := ⟨_, rfl⟩
    rw [hv] at het hst fin2 ⊢
    have HST := hid hst
    have HET := hid het
    have HF := hid fin2
    clear hst het fin2 hv hm2 hj FIN e1 k1 hs hn
    go_enter Tryz.func70, Tryz.ntmps70
    go_wp2_with (go_at_call 80; refine (HET.out _).mono ?_; rintro r W2 ⟨rfl, rfl⟩)
    refine HST.out.mono ?_
    rintro r W3 ⟨rfl, b3⟩
    go_wp2_with fail
    go_ret
    exact ⟨rfl, HF.out _ b3⟩
  · have q1 : (e.k == 1) = false := beq_eq_false_iff_ne.2 k1
    by_cases k2 : e.k = 2
    · have e1 : takeW eat e = (false, etagL e.n) := by unfold takeW; rw [if_neg k1, if_pos k2]
      rw [e1, k2]
      simp only
      rw [k2] at c0 hW1 q1
      have hen := fun W => wrEnd_any (bs e.n) W (by rw [bs_size]; omega)
      rw [bs_data] at hen
      have HEN := hid hen
      have HF := hid (FIN.out false)
      clear hen FIN hm2 hj e1 k1 k2 hs hn
      go_enter Tryz.func70, Tryz.ntmps70
      go_wp2_with (go_at_call 134; refine (HEN.out _).mono ?_; rintro r W3 ⟨rfl, rfl⟩)
      go_ret
      exact ⟨rfl, HF.out _ (Below.refl _ _)⟩
    · have q2 : (e.k == 2) = false := beq_eq_false_iff_ne.2 k2
      by_cases k3 : e.k = 3
      · have e1 : takeW eat e = textW eat e.t := by unfold takeW; rw [if_neg k1, if_neg k2, if_pos k3]
        rw [e1, k3]
        rw [k3] at c0 hW1 q1 q2
        have htx := wText_any b o cs T eat (bs e.t) m W1 h1 (by rw [bs_size]; omega) hm1 hmb
        rw [bs_data] at htx
        generalize textW eat e.t = tw at htx ⊢
        obtain ⟨t1, t2⟩ := tw
        simp only at htx ⊢
        have HTX := hid htx
        clear htx FIN hm2 hj e1 k1 k2 k3 hs hn
        go_enter Tryz.func70, Tryz.ntmps70
        go_wp2_with (go_at_call 135; refine HTX.out.mono ?_; rintro r W3 ⟨rfl, a3, g3⟩)
        go_ret
        exact ⟨rfl, a3, HG.out.trans g3⟩
      · have q3 : (e.k == 3) = false := beq_eq_false_iff_ne.2 k3
        have e1 : takeW eat e = (eat, []) := by unfold takeW; rw [if_neg k1, if_neg k2, if_neg k3]
        have hcs : cs.setIfInBounds o (.bool eat) = cs := set_same h1.c
        rw [e1]
        simp only
        rw [hcs]
        have h1a := hid h1.at_
        clear FIN hm2 hj e1 k1 k2 k3 hs hn hcs
        go_enter Tryz.func70, Tryz.ntmps70
        go_wp2
        go_ret
        exact ⟨rfl, h1a.out, HG.out⟩
end Go.Proofs.YtcncbhbdpcpkeaaGreatDoor

/-
  String of a strings.Builder that lies inside another block, an empty one too: its walk.
-/
namespace Go.Proofs.YtcncbhbdpcpkeaaGreatDoor
open Go.RowKit Go.Lib Own

theorem us_none (p : Option Addr) (W : World) : (Builtin.unsafeString_ #[129, 3] 9 #[.pointer p, .int .i64 0]).run Tryz.prog W = .ok (.string ⟨#[]⟩) W := Lib.run_unsafeString_none W _ _ _ p
set_option maxHeartbeats 2000000 in
set_option maxRecDepth 100000 in
theorem string_nil_in (b o : Nat) (cs : Array Value) (T : TypeId) (n : Nat) (hn : n = 0) (w : World) (hat : w.heap[b]? = some (.cells cs T (0, 0))) (hcv : cs[o + 1]? = some (.slice none n 0)) :
    Calls Tryz.prog 33 #[.pointer (some ⟨b, o, none⟩)] w fun e w' => e = .returned (.string ⟨#[]⟩) ∧ w' = w.drew := by
  subst hn
  have hUS := us_none
  have c1 : w.drew.cell? ⟨b, o + 1, none⟩ = some (.slice none 0 0) := cell_at hat hcv
  have hSD : (Builtin.unsafeSliceData_ #[65] 129 #[.slice none 0 0]).run Tryz.prog w.drew = .ok (.pointer none) w.drew := rfl
  go_enter Tryz.func33, Tryz.ntmps33
  go_wp2
  go_region
  all_goals (go_wp2; go_ret; exact ⟨rfl, rfl⟩)
set_option maxHeartbeats 2000000 in
set_option maxRecDepth 100000 in
theorem string_room_in (b o : Nat) (cs : Array Value) (T : TypeId) (g cap : Nat) (hc0 : cap ≠ 0) (w : World) (hat : w.heap[b]? = some (.cells cs T (0, 0))) (hcv : cs[o + 1]? = some (.slice (some ⟨g, 0, none⟩) 0 cap)) :
    Calls Tryz.prog 33 #[.pointer (some ⟨b, o, none⟩)] w fun e w' => e = .returned (.string ⟨#[]⟩) ∧ w' = w.drew := by
  have hUS := us_none
  have c1 : w.drew.cell? ⟨b, o + 1, none⟩ = some (.slice (some ⟨g, 0, none⟩) 0 cap) := cell_at hat hcv
  have hSD : (Builtin.unsafeSliceData_ #[65] 129 #[.slice (some ⟨g, 0, none⟩) 0 cap]).run Tryz.prog w.drew = .ok (.pointer (some ⟨g, 0, none⟩)) w.drew := Lib.run_unsafeSliceData_row _ _ _ _ _ _ hc0
  clear hc0
  go_enter Tryz.func33, Tryz.ntmps33
  go_wp2
  go_region
  all_goals (go_wp2; go_ret; exact ⟨rfl, rfl⟩)
set_option maxHeartbeats 2000000 in
set_option maxRecDepth 100000 in
theorem string_noroom_in (b o : Nat) (cs : Array Value) (T : TypeId) (g : Nat) (cur : Array Value) (fz : Nat × Nat) (w : World) (hat : w.heap[b]? = some (.cells cs T (0, 0))) (hcv : cs[o + 1]? = some (.slice (some ⟨g, 0, none⟩) 0 0)) (hg : w.heap[g]? = some (.cells cur 5 fz)) :
    Calls Tryz.prog 33 #[.pointer (some ⟨b, o, none⟩)] w fun e w' => e = .returned (.string ⟨#[]⟩) ∧ Below w.heap.size w w' := by
  have hUS := us_none
  have hlt := block_lt hat
  have c1 : w.drew.cell? ⟨b, o + 1, none⟩ = some (.slice (some ⟨g, 0, none⟩) 0 0) := cell_at hat hcv
  have hSD : (Builtin.unsafeSliceData_ #[65] 129 #[.slice (some ⟨g, 0, none⟩) 0 0]).run Tryz.prog w.drew = .ok (.pointer (some ⟨w.drew.heap.size, 0, none⟩)) (w.drew.alloc (.view ⟨g, 0, none⟩ 5)) :=
    Lib.run_unsafeSliceData_zero w.drew _ _ 5 Tryz.underlying129 ⟨g, 0, none⟩ 0 (5, cur.size) (by have hg' : w.drew.heap[g]? = some (.cells cur 5 fz) := hg; simp [World.shape?, hg'])
  have c2 : (w.drew.alloc (.view ⟨g, 0, none⟩ 5)).cell? ⟨b, o + 1, none⟩ = some (.slice (some ⟨g, 0, none⟩) 0 0) := by
    have : (w.drew.alloc (.view ⟨g, 0, none⟩ 5)).heap[b]? = _ := (Lib.alloc_old w.drew _ b hlt).trans hat
    exact cell_at this hcv
  have c3 : (w.alloc (.view ⟨g, 0, none⟩ 5)).drew.cell? ⟨b, o + 1, none⟩ = some (.slice (some ⟨g, 0, none⟩) 0 0) := c2
  have c0 : w.cell? ⟨b, o + 1, none⟩ = some (.slice (some ⟨g, 0, none⟩) 0 0) := c1
  go_enter Tryz.func33, Tryz.ntmps33
  go_wp2
  go_region
  all_goals (go_wp2; go_ret; exact ⟨rfl, (Below.drew (Below.refl _ w)).alloc (Nat.le_refl _) _⟩)
theorem string_any_in (base b o : Nat) (cs : Array Value) (T : TypeId) (p v : Value) (l : List UInt8) (w : World) (h : InB w base b o cs T p v l) :
    Calls Tryz.prog 33 #[.pointer (some ⟨b, o, none⟩)] w fun e w' => e = .returned (.string (bs l)) ∧ w'.heap[b]? = some (.cells cs T (0, 0)) ∧ Below base w w' ∧
      ∀ k, k < w.heap.size → k ≠ b → v.ownBlock ≠ some k → w'.heap[k]? = w.heap[k]? := by
  have hlt := block_lt h.at_
  have hbase : base ≤ w.heap.size := by have := h.lo; omega
  cases l with
  | cons x r => exact (string_in base b o cs T p v (x :: r) w h (by simp)).mono (fun e w' ⟨h1, h2, h3, h4⟩ => ⟨h1, h2, h3, fun k _ h5 h6 => h4 k h5 h6⟩)
  | nil =>
    have fin : ∀ e w', (e = Ending.returned (.string ⟨#[]⟩) ∧ Below w.heap.size w w') → (e = .returned (.string (bs [])) ∧ w'.heap[b]? = some (.cells cs T (0, 0)) ∧ Below base w w' ∧ ∀ k, k < w.heap.size → k ≠ b → v.ownBlock ≠ some k → w'.heap[k]? = w.heap[k]?) := by
      rintro e w' ⟨rfl, hb⟩
      exact ⟨rfl, (hb.block b hlt).trans h.at_, hb.mono hbase, fun k hk _ _ => hb.block k hk⟩
    have hcv := h.cv
    rcases h.own.2 with ⟨hv, h0⟩ | ⟨g, cap, cur, fz, hv, _, hg, _⟩
    · rw [hv] at hcv
      exact (string_nil_in b o cs T 0 rfl w h.at_ hcv).mono (fun e w' ⟨h1, h2⟩ => fin e w' ⟨h1, by rw [h2]; exact (Below.refl _ w).drew⟩)
    · rw [hv] at hcv
      by_cases hc0 : cap = 0
      · subst hc0
        exact (string_noroom_in b o cs T g cur fz w h.at_ hcv hg).mono (fun e w' h1 => fin e w' h1)
      · exact (string_room_in b o cs T g cap hc0 w h.at_ hcv).mono (fun e w' ⟨h1, h2⟩ => fin e w' ⟨h1, by rw [h2]; exact (Below.refl _ w).drew⟩)
end Go.Proofs.YtcncbhbdpcpkeaaGreatDoor

/-
  From what a row says of the tables of words to what lies in memory.
-/
namespace Go.Proofs.YtcncbhbdpcpkeaaGreatDoor
open Go.RowKit Go.Lib Go.ChangeShapes Go.Deep

theorem range_ofK {P : Program} {w : World} {n : String} {g : Nat} {cs : Array Value} {L : List Value} (hg : P.globalNamed n = some g) (hvar : w.var? P n = some cs) (h : ∀ (j : Nat) (v : Value), L[j]? = some v → cs.toList[j]? = some v) : w.rangeAt g 0 L := by
  intro j v hv
  rw [Nat.zero_add, World.var?_cell hg hvar j, ← Array.getElem?_toList]
  exact h j v hv
theorem one_atK {α : Type} {l : List α} {j : Nat} {x : α} (h : (l.drop j).take 1 = [x]) : l[j]? = some x := by
  have := congrArg (·[0]?) h
  simpa using this
theorem strs_ofK {P : Program} {w : World} {n : String} {g t e m : Nat} {T : List (List UInt8)} (hg : P.globalNamed n = some g) (ht : (P.globals[g]?).map (·.type) = some t)
    (hu : P.underlying t = some (.array m e)) (he : P.underlying e = some .string) (hce : P.cellsOf e = 1) (hm : T.length = m) (h : VarReads P w n (.agg (T.map fun x => .lit (.string x)))) : w.rangeAt g 0 (T.map fun s => .string (bs s)) := by
  obtain ⟨g', t', cs, fuel, p, hg', hty, hvar, hd⟩ := h
  obtain rfl := Option.some.inj (hg.symm.trans hg')
  obtain rfl := Option.some.inj (ht.symm.trans hty)
  refine range_ofK hg hvar (fun j v hv => ?_)
  rw [List.getElem?_map] at hv
  obtain ⟨x, hx, rfl⟩ := Option.map_eq_some_iff.1 hv
  obtain ⟨fuel', d, q, hdi, hel⟩ := array_elem hu hd j (by rw [← hm]; exact (List.getElem?_eq_some_iff.1 hx).1)
  rw [List.getElem?_map, hx] at hdi
  simp only [Option.map_some, Option.some.injEq] at hdi
  subst hdi
  rw [hce, Nat.mul_one] at hel
  obtain ⟨s, hs, hx2, _⟩ := DataW.trod_string he hel
  simp only [Prod.mk.injEq, DataW.lit.injEq, Lit.string.injEq] at hx2
  rw [one_atK hs, hx2.1]
  rfl

theorem list3 {l : List Value} {a b c : Value} (hl : l.length = 3) (h0 : (l.drop 0).take 1 = [a]) (h1 : (l.drop 1).take 1 = [b]) (h2 : (l.drop 2).take 1 = [c]) : l = [a, b, c] := by
  match l, hl with
  | [x, y, z], _ =>
    simp only [List.drop_zero, List.take_succ_cons, List.take_zero, List.drop_succ_cons, List.cons.injEq, and_true] at h0 h1 h2
    rw [h0, h1, h2]
theorem add_noneK (b o : Nat) (n : Nat) : (⟨b, o, none⟩ : Addr).add n = ⟨b, o + n, none⟩ := by unfold Addr.add; split <;> simp_all
set_option maxRecDepth 100000 in
theorem kinds_of {w : World} (h : VarReads Tryz.prog w "scrub/vocabulary.kinds" (.agg (kindT.map fun x => .agg [.slice (x.1.map fun s => .lit (.string s)) [], .lit (.int .i64 x.2.1), .lit (.int .i64 x.2.2)]))) : KindsTab w := by
  obtain ⟨g', t', cs, fuel, p, hg', hty, hvar, hd⟩ := h
  obtain rfl := Option.some.inj ((show Tryz.prog.globalNamed "scrub/vocabulary.kinds" = some 0 by kernel_rfl).symm.trans hg')
  obtain rfl := Option.some.inj ((show (Tryz.prog.globals[0]?).map (·.type) = some 214 by kernel_rfl).symm.trans hty)
  obtain ⟨_, _, _, _, hlen, _⟩ := DataW.trod_array Tryz.underlying214 hd
  have k36 : Tryz.prog.cellsOf 214 = 36 := by kernel_rfl
  have k3 : Tryz.prog.cellsOf 213 = 3 := by kernel_rfl
  have k1 : Tryz.prog.cellsOf 41 = 1 := by kernel_rfl
  have ki : Tryz.prog.cellsOf 3 = 1 := by kernel_rfl
  refine ⟨cs.toList, by rw [← k36]; exact hlen, range_ofK (by kernel_rfl) hvar (fun j v hv => hv), fun k x hx => ?_⟩
  obtain ⟨fuel', d, q, hdi, hel⟩ := array_elem Tryz.underlying214 hd k (by have := (List.getElem?_eq_some_iff.1 hx).1; exact this)
  rw [List.getElem?_map, hx] at hdi
  simp only [Option.map_some, Option.some.injEq] at hdi
  subst hdi
  rw [k3] at hel
  obtain ⟨y0, y1, y2, n, hy, hl3, g0, g1, g2⟩ := trod_struct3 Tryz.underlying213 hel
  simp only [Prod.mk.injEq, DataW.agg.injEq, List.cons.injEq, and_true] at hy
  obtain ⟨⟨hy0, hy1, hy2⟩, _⟩ := hy
  have kc : Tryz.prog.cellsOf 169 = 1 := by kernel_rfl
  have km : Tryz.prog.cellsOf 170 = 1 := by kernel_rfl
  dsimp only at g0 g1 g2
  rw [k1] at g0
  rw [kc] at g1
  rw [km] at g2
  obtain ⟨n1, c1, e1, _⟩ := DataW.trod_int (k := .i64) (by kernel_rfl) g1
  obtain ⟨n2, c2, e2, _⟩ := DataW.trod_int (k := .i64) (by kernel_rfl) g2
  rw [e1] at hy1
  rw [e2] at hy2
  simp only [DataW.lit.injEq, Lit.int.injEq, true_and] at hy1 hy2
  rcases open_strings Tryz.underlying41 Tryz.underlying9 (by kernel_rfl) g0 with ⟨hcs, hx0⟩ | ⟨a, len, cap, ss, hcs, _, hl, hm9, hz, hx0, hcell, _⟩
  · rw [hx0] at hy0
    cases hy0
  · rw [hx0] at hy0
    simp only [DataW.slice.injEq] at hy0
    simp only [if_true] at hz
    refine ⟨.slice (some a) len cap, ?_, some a, cap, ?_, ?_, ?_, fun j s hj => ?_, fun h => by cases h⟩
    · rw [hy1, hy2]
      exact list3 (hl3.trans k3) hcs c1 c2
    all_goals have hxl := congrArg List.length hy0.1
    all_goals have hdl := congrArg List.length hy0.2
    all_goals unfold strs at hxl hdl
    all_goals simp only [List.length_map, List.length_take, List.length_drop, List.length_nil] at hxl hdl
    · rw [hxl]
      congr 1
      omega
    · omega
    · unfold maxLen at hm9
      omega
    · have hjl := (List.getElem?_eq_some_iff.1 hj).1
      have hc0 := hcell 0 (by omega)
      have hc := hcell j (by omega)
      obtain ⟨b, o, sp⟩ := a
      rw [show (⟨b, o, sp⟩ : Addr).add 0 = ⟨b, o, sp⟩ by simp [Addr.add]] at hc0
      obtain rfl := cell_spot hc0
      rw [add_noneK] at hc
      refine ⟨b, o, rfl, ?_⟩
      have he := congrArg (·[j]?) hy0.1
      unfold strs at he
      simp only [List.getElem?_map, hj, Option.map_some, List.getElem?_take_of_lt (show j < len by omega)] at he
      obtain ⟨s0, hs0, he0⟩ := Option.map_eq_some_iff.1 he.symm
      simp only [DataW.lit.injEq, Lit.string.injEq] at he0
      rw [hc, List.getD_eq_getElem?_getD, hs0, ← he0]
      rfl
end Go.Proofs.YtcncbhbdpcpkeaaGreatDoor
