/-
  Parts of the walk, joined: Voc, WrTake.
-/
import Derived.Deep.MidRow
import Derived.Laws.ResultCell
import Derived.Laws.Rows
import Derived.Deep.Cut
import Derived.BigQuiet
import Derived.Test.YtcncbhbdpcpkeaaGreatDoorPJAN
import Derived.Test.YtcncbhbdpcpkeaaGreatDoorPJAF
import Derived.Test.YtcncbhbdpcpkeaaGreatDoorPJAD
/-
  Package vocabulary: its two tables, Find, IsVoid, IsAttribute, IsLink: their walks.
-/
namespace Go.Proofs.YtcncbhbdpcpkeaaGreatDoor
open Go.RowKit Go.Lib

/-- the elements by kinds: names, class, model -/
def kindT : List (List (List UInt8) × Nat × Nat) := [([[97], [98], [99, 111, 100, 101], [101, 109], [105], [113], [115], [115, 109, 97, 108, 108], [115, 112, 97, 110], [115, 116, 114, 111, 110, 103], [115, 117, 98], [115, 117, 112], [117]], 2, 2), ([[98, 114], [105, 109, 103]], 2, 9), ([[116, 101, 120, 116, 97, 114, 101, 97]], 2, 3), ([[104, 49], [104, 50], [104, 51], [104, 52], [104, 53], [104, 54], [112], [112, 114, 101]], 1, 2), ([[98, 108, 111, 99, 107, 113, 117, 111, 116, 101], [100, 105, 118]], 1, 1), ([[104, 114]], 1, 9), ([[111, 108], [117, 108]], 1, 4), ([[116, 97, 98, 108, 101]], 1, 5), ([[108, 105]], 4, 1), ([[116, 98, 111, 100, 121], [116, 102, 111, 111, 116], [116, 104, 101, 97, 100]], 5, 6), ([[116, 114]], 6, 7), ([[116, 100], [116, 104]], 7, 8)]
def elemF : List (List (List UInt8) × Nat × Nat) → List UInt8 → Option (Nat × Nat)
  | [], _ => none
  | k :: r, x => if k.1.contains x = true then some k.2 else elemF r x
/-- class and model of a known element -/
def elemL (x : List UInt8) : Option (Nat × Nat) := elemF kindT x
/-- an Element: name, class, model -/
def elemC (x : List UInt8) (c m : Nat) : Array Value := #[.string (bs x), .int .i64 c, .int .i64 m]
def zeroE : Array Value := #[.string ⟨#[]⟩, .int .i64 0, .int .i64 0]
def foundV (x : List UInt8) : Option (Nat × Nat) → Value
  | some (c, m) => .tuple #[.agg (elemC x c m), .bool true]
  | none => .tuple #[.agg zeroE, .bool false]
structure KindsAt (W : World) (L : List Value) : Prop where
  len : L.length = 36
  at_ : W.rangeAt 0 0 L
  it : ∀ (k : Nat) (x : List (List UInt8) × Nat × Nat), kindT[k]? = some x → ∃ v, (L.drop (k * 3)).take 3 = [v, .int .i64 x.2.1, .int .i64 x.2.2] ∧ Words W v x.1
def KindsTab (W : World) : Prop := ∃ L, KindsAt W L
theorem KindsAt.below {W W' : World} {L : List Value} (h : KindsAt W L) (hb : Below W.heap.size W W') : KindsAt W' L :=
  ⟨h.len, rangeAt_below h.at_ hb, fun k x hk => by obtain ⟨v, h1, h2⟩ := h.it k x hk; exact ⟨v, h1, h2.below hb⟩⟩
theorem KindsTab.below {W W' : World} (h : KindsTab W) (hb : Below W.heap.size W W') : KindsTab W' := by obtain ⟨L, h⟩ := h; exact ⟨L, h.below hb⟩
theorem index_kinds (L : List Value) (_hL : L.length = 36) (k : Nat) (hk : k < 12) (v : Value) (c m : Nat) (h : (L.drop (k * 3)).take 3 = [v, .int .i64 c, .int .i64 m]) (W : World) :
    (Instr.index 214 (.agg L.toArray) (.int .i64 (k : Int))).run Tryz.prog W = .ok (.agg #[v, .int .i64 c, .int .i64 m]) W := by
  have hn : (0 ≤ (k : Int) ∧ (k : Int) < 12) := by omega
  simp [Instr.index, run_underlying Tryz.underlying214, asIntOf, hk, go_sem, h]
theorem elem_set {W : World} {b : Nat} {a0 a1 a2 v0 v1 v2 : Value} (h : W.heap[b]? = some (.cells #[a0, a1, a2] 172 (0, 0))) :
    (((W.setCell ⟨b, 0, none⟩ v0).setCell ⟨b, 1, none⟩ v1).setCell ⟨b, 2, none⟩ v2).heap[b]? = some (.cells #[v0, v1, v2] 172 (0, 0)) := by
  simp [World.setCell, Array.getElem?_modify, h]
theorem elem_load {W : World} {b : Nat} {v0 v1 v2 : Value} (h : W.heap[b]? = some (.cells #[v0, v1, v2] 172 (0, 0))) :
    (loadVar 172 ⟨b, 0, none⟩).run Tryz.prog W = .ok (.agg #[v0, v1, v2]) W :=
  run_loadVar_row W b _ _ _ _ _ h Tryz.underlying172 rfl (by kernel_rfl)
theorem words_small : ∀ x ∈ kindT, x.1.length ≤ 13 := by decide +kernel

set_option maxHeartbeats 2000000 in
set_option maxRecDepth 100000 in
theorem find_any (x : ByteArray) (w : World) (hT : KindsTab w) :
    Calls Tryz.prog 121 #[.string x] w fun e w' => e = .returned (foundV x.toList (elemL x.toList)) ∧ Below w.heap.size w w' := by
  obtain ⟨L, hL⟩ := hT
  obtain ⟨R, hR⟩ : ∃ R, elemL x.toList = R := ⟨_, rfl⟩
  have HR : Hid (True → elemF (kindT.drop 0) x.toList = R) := fun _ => hR
  rw [hR]
  have hbs2 := bs_of x
  rw [← Lib.toList_data] at hbs2
  have HBS := hid hbs2
  have HL := hid hL
  have hlen := hL.len
  have hB1 := (Below.refl w.heap.size w).alloc (Nat.le_refl _) (.cells zeroE 172)
  have H0 : Hid (Below w.heap.size w (w.alloc (.cells zeroE 172)) ∧ (w.alloc (.cells zeroE 172)).heap[w.heap.size]? = some (.cells zeroE 172 (0, 0))) := ⟨hB1, heap_alloc_new w _⟩
  have hat := rangeAt_below hL.at_ hB1
  have HAT := hid hat
  clear hR hL hB1 hat hbs2
  unfold zeroE at H0 HAT
  go_enter Tryz.func121, Tryz.ntmps121
  go_upto_region 1 with fail
  apply wp_region_lit
  refine wpList_load_mid rfl 214 _ rfl 0 0 rfl L (.array 12 213) HAT.out Tryz.underlying214 rfl (by rw [hlen]; kernel_rfl) ?_
  go_wp2_with fail
  go_loopw [5, 7, 9] (fun _ _ iv wr => ∃ k : Nat, iv = .int .i64 k ∧ k ≤ 12 ∧ Hid (Below w.heap.size w wr ∧ wr.heap[w.heap.size]? = some (.cells #[.string ⟨#[]⟩, .int .i64 0, .int .i64 0] 172 (0, 0))) ∧ Hid (True → elemF (kindT.drop k) x.toList = R)) (fun _ _ iv _ => 12 - (RowKit.intOf iv).toNat)
  case atStart => exact ⟨0, rfl, Nat.zero_le _, H0, HR⟩
  case round =>
    obtain ⟨k, rfl, hk, HX, HK⟩ := hrel
    by_cases hkl : k < 12
    · obtain ⟨q, hq⟩ : ∃ q, kindT[k]? = some q := ⟨_, List.getElem?_eq_getElem (show k < kindT.length from hkl)⟩
      obtain ⟨v, hv1, hv2⟩ := HL.out.it k q hq
      have hsm := words_small q (List.mem_of_getElem? hq)
      have hix := fun W => index_kinds L hlen k hkl v q.2.1 q.2.2 hv1 W
      have hd := HK.out trivial
      rw [drop_at hq] at hd
      obtain ⟨names, c, m⟩ := q
      simp only [elemF] at hd
      obtain ⟨vp, vc, rfl, hv3, hv4, hv5, hv6⟩ := hv2
      have HV := hid hv5
      have HI := hid hix
      have HD := hid (fun (_ : True) => hd)
      simp only at hsm
      have hxl : names.length ≤ 9223372036854775807 := by omega
      clear hq hv1 hix hd hv5 hv6 HK H0 HR HAT
      go_wp2_with fail
      rw [HI.out]
      simp only [Result.andThen]
      rw [Oper.upon_value]
      go_wp2_with fail
      have hbA := (Below.refl wr.heap.size wr).alloc (Nat.le_refl _) (.cells #[.slice vp names.length vc, .int .i64 c, .int .i64 m] 213)
      have hnA := heap_alloc_new wr (.cells #[.slice vp names.length vc, .int .i64 c, .int .i64 m] 213)
      obtain ⟨W1, hW1⟩ : ∃ W1, wr.alloc (.cells #[.slice vp names.length vc, .int .i64 c, .int .i64 m] 213) = W1 := ⟨_, rfl⟩
      rw [hW1] at hbA hnA
      simp only [hW1]
      have hbW := HX.out.1.trans (hbA.mono HX.out.1.size)
      have hz0 := (hbA.block _ (block_lt HX.out.2)).trans HX.out.2
      have HY := hid (And.intro hbW (And.intro hz0 hnA))
      have a1 := cell_at hnA (j := 1) rfl
      have a2 := cell_at hnA (j := 2) rfl
      have e0 := cell_at hz0 (j := 0) rfl
      have e1 := cell_at hz0 (j := 1) rfl
      have e2 := cell_at hz0 (j := 2) rfl
      have f0 := free_at hz0 0
      have f1 := free_at hz0 1
      have f2 := free_at hz0 2
      clear hbA hnA hbW hz0 HX HI
      obtain ⟨Q, hQ⟩ : ∃ Q, names.contains x.toList = Q := ⟨_, rfl⟩
      have HQ : Hid (True → (names.drop 0).contains x.toList = Q) := fun _ => hQ
      have HDQ := hid (fun (_ : True) => (by rw [← hQ]; exact HD.out trivial : (if Q = true then some (c, m) else elemF (kindT.drop (k + 1)) x.toList) = R))
      clear hQ HD
      go_loopw [7, 15] (fun _ iv wr2 => ∃ i : Nat, iv = .int .i64 i ∧ i ≤ names.length ∧ wr2 = W1 ∧ Hid (True → (names.drop i).contains x.toList = Q)) (fun _ iv _ => names.length - (RowKit.intOf iv).toNat)
      case atStart => exact ⟨0, rfl, Nat.zero_le _, rfl, HQ⟩
      case round =>
        obtain ⟨i, rfl, hi, rfl, HK⟩ := hrel
        by_cases hil : i < names.length
        · obtain ⟨s, hs⟩ : ∃ s, names[i]? = some s := ⟨_, List.getElem?_eq_getElem hil⟩
          obtain ⟨b, o, rfl, hc1⟩ := HV.out i s hs
          replace hc1 := cell_low hc1 HY.out.1 (cell_block hc1)
          have hd := HK.out trivial
          rw [drop_at hs, List.contains_cons] at hd
          have hbt := bs_toList s
          have HS := hid (fun (_ : True) => hbt)
          obtain ⟨S, hS⟩ : ∃ S, bs s = S := ⟨_, rfl⟩
          rw [hS] at hbt hc1
          cases q : (x.toList == s)
          · have q2 : (S.toList == x.toList) = false := by rw [hbt, ← q, Bool.eq_iff_iff, beq_iff_eq, beq_iff_eq]; exact eq_comm
            rw [q, Bool.false_or] at hd
            have HD2 := hid (fun (_ : True) => hd)
            clear hs hbt q hd HK hS HV
            go_wp2_with fail
            go_roundw
            case rel => first | exact ⟨i + 1, rfl, by omega, by first | rfl | trivial, HD2⟩ | ((repeat apply Exists.intro); exact ⟨⟨i + 1, rfl, by omega, by first | rfl | trivial, HD2⟩, rfl⟩)
            case measure => simp [RowKit.intOf]; omega
          · have q2 : (S.toList == x.toList) = true := by rw [hbt]; rw [beq_iff_eq] at q ⊢; exact q.symm
            rw [q, Bool.true_or] at hd
            subst hd
            have hR := HDQ.out trivial
            rw [if_pos rfl] at hR
            subst hR
            have hsx : S = x := by
              rw [beq_iff_eq] at q
              rw [← hS, ← q]
              exact HBS.out
            subst hsx
            clear hs hbt q HK hS HV HDQ HQ
            go_wp2_with fail
            have hfin := elem_set (v0 := .string S) (v1 := .int .i64 c) (v2 := .int .i64 m) HY.out.2.1
            have hld := elem_load hfin
            have hbf := ((HY.out.1.setCell (p := ⟨w.heap.size, 0, none⟩) (Nat.le_refl _) (.string S)).setCell (p := ⟨w.heap.size, 1, none⟩) (Nat.le_refl _) (.int .i64 c)).setCell (p := ⟨w.heap.size, 2, none⟩) (Nat.le_refl _) (.int .i64 m)
            have hbs3 := HBS.out
            refine bodyPost_ret (v := foundV S.toList (some (c, m))) ?_ rfl ⟨rfl, hbf⟩
            unfold foundV elemC
            rw [hbs3, results_cell_tmp rfl]
            simp [asAddr, Result.andThen, hld]
        · obtain rfl : Q = false := by
            have := HK.out trivial
            rw [List.drop_of_length_le (by omega)] at this
            exact this.symm
          have HD2 := hid (fun (_ : True) => (by have := HDQ.out trivial; rwa [if_neg (by simp)] at this : elemF (kindT.drop (k + 1)) x.toList = R))
          have HZ := hid (And.intro HY.out.1 HY.out.2.1)
          clear HK HQ HDQ HV HY
          go_wp2_with fail
          go_roundw
          case rel => first | exact ⟨k + 1, rfl, by omega, HZ, HD2⟩ | ((repeat apply Exists.intro); exact ⟨⟨k + 1, rfl, by omega, HZ, HD2⟩, rfl⟩)
          case measure => simp [RowKit.intOf]; omega
    · obtain rfl : R = none := by
        have := HK.out trivial
        rw [List.drop_of_length_le (show kindT.length ≤ k by have : kindT.length = 12 := rfl; omega)] at this
        exact this.symm
      have e0 := cell_at HX.out.2 (j := 0) rfl
      have e1 := cell_at HX.out.2 (j := 1) rfl
      have e2 := cell_at HX.out.2 (j := 2) rfl
      have f0 := free_at HX.out.2 0
      have f1 := free_at HX.out.2 1
      have f2 := free_at HX.out.2 2
      clear HK HR H0 HAT
      go_wp2_with fail
      have hfin := elem_set (v0 := .string ⟨#[]⟩) (v1 := .int .i64 0) (v2 := .int .i64 0) HX.out.2
      have hld := elem_load hfin
      have hbf := ((HX.out.1.setCell (p := ⟨w.heap.size, 0, none⟩) (Nat.le_refl _) (.string ⟨#[]⟩)).setCell (p := ⟨w.heap.size, 1, none⟩) (Nat.le_refl _) (.int .i64 0)).setCell (p := ⟨w.heap.size, 2, none⟩) (Nat.le_refl _) (.int .i64 0)
      refine bodyPost_ret (v := foundV x.toList none) ?_ rfl ⟨rfl, hbf⟩
      unfold foundV zeroE
      rw [results_cell_tmp rfl]
      simp [asAddr, Result.andThen, hld]
end Go.Proofs.YtcncbhbdpcpkeaaGreatDoor

/-
  Package written: the Writer: its walks.
-/
namespace Go.Proofs.YtcncbhbdpcpkeaaGreatDoor
open Go.RowKit Go.Lib Own

theorem ret_txt {a b : ByteArray} (h : a = b) : Ending.returned (.string a) = .returned (.string b) := by rw [h]
theorem eatsNl_any (x : ByteArray) (w : World) : Calls Tryz.prog 80 #[.string x] w fun e w' => e = .returned (.bool (eatsL x.toList)) ∧ w' = w := by
  unfold eatsL
  by_cases h1 : (x.toList == [112, 114, 101]) = true
  · rw [h1, Bool.true_or]
    go_enter Tryz.func80, Tryz.ntmps80
    go_wp2
    go_ret
    exact ⟨rfl, rfl⟩
  · rw [Bool.not_eq_true] at h1
    rw [h1, Bool.false_or]
    obtain ⟨R, hR⟩ : ∃ R, (x.toList == [116, 101, 120, 116, 97, 114, 101, 97]) = R := ⟨_, rfl⟩
    rw [hR]
    go_enter Tryz.func80, Tryz.ntmps80
    go_wp2
    go_ret
    exact ⟨rfl, rfl⟩

/-- a text as it is written, and whether a newline is still to be guarded -/
def textW (eat : Bool) (t : List UInt8) : Bool × List UInt8 :=
  if t = [] then (eat, []) else (false, (if eat = true ∧ t.head? = some 10 then [10] else []) ++ escL false t)
def takeW (eat : Bool) (e : EvP) : Bool × List UInt8 :=
  if e.k = 1 then (eatsL e.n, openL e.n e.a) else if e.k = 2 then (false, etagL e.n) else if e.k = 3 then textW eat e.t else (eat, [])
def writeW (eat : Bool) : List EvP → List UInt8
  | [] => []
  | e :: r => (takeW eat e).2 ++ writeW (takeW eat e).1 r

theorem grown_below {w w' : World} (h : Below w.heap.size w w') (row : Option Nat) : w.grownBy w' row := ⟨h.os, h.tape, h.output, h.size, fun k hk _ => h.block k hk⟩
theorem just_grown {w w' : World} {b : Nat} {cs : Array Value} {T : TypeId} (h : Just w w' b cs T) : w.grownBy w' (some b) := ⟨h.os, h.tape, h.output, by rw [h.size]; exact Nat.le_refl _, fun k _ hk => h.other k (fun e => hk (by rw [e]))⟩
theorem cell_grown {w w' : World} {b o k : Nat} {v : Value} (h : w.cell? ⟨b, o, none⟩ = some v) (hg : w.grownBy w' (some k)) (hb : b ≠ k) : w'.cell? ⟨b, o, none⟩ = some v := by
  have := hg.block b (cell_block h) (fun e => hb (Option.some.inj e))
  unfold World.cell? at h ⊢
  rw [this]
  exact h

/-- the flag of a Writer that lies at cell o of block b -/
structure EatAt (w : World) (b o : Nat) (cs : Array Value) (T : TypeId) (eat : Bool) : Prop where
  at_ : w.heap[b]? = some (.cells cs T (0, 0))
  c : cs[o]? = some (.bool eat)

set_option maxHeartbeats 2000000 in
set_option maxRecDepth 100000 in
theorem wText_any (b o : Nat) (cs : Array Value) (T : TypeId) (eat : Bool) (t : ByteArray) (m : Int) (w : World) (h : EatAt w b o cs T eat) (ht : t.size ≤ 100000000) (hm : w.cell? ⟨4, 0, none⟩ = some (.int .i64 m)) (hmb : 4 ≠ b) :
    Calls Tryz.prog 135 #[.pointer (some ⟨b, o, none⟩), .string t] w fun e w' => e = .returned (.string (bs (textW eat t.data.toList).2)) ∧ w'.heap[b]? = some (.cells (cs.setIfInBounds o (.bool (textW eat t.data.toList).1)) T (0, 0)) ∧ w.grownBy w' (some b) := by
  have hc := cell_at h.at_ h.c
  have hz := size_eq t
  by_cases h0 : t.data.toList = []
  · have q : (t.toList == []) = true := by rw [Lib.toList_data, h0]; rfl
    have hcs : cs.setIfInBounds o (.bool eat) = cs := set_same h.c
    unfold textW
    rw [if_pos h0]
    simp only
    rw [hcs]
    clear hz hm ht
    go_enter Tryz.func135, Tryz.ntmps135
    go_wp2
    go_ret
    exact ⟨rfl, h.at_, World.grownBy.refl _ _⟩
  · have q : (t.toList == []) = false := by rw [Lib.toList_data]; exact beq_eq_false_iff_ne.2 h0
    have hp : 0 < t.size := by rw [hz]; exact List.length_pos_iff.2 h0
    obtain ⟨c, hcc⟩ : ∃ c, t[0]'hp = c := ⟨_, rfl⟩
    have hl := getElem_list hp hcc
    have hhd : t.data.toList.head? = some c := by rw [List.head?_eq_getElem?]; exact hl
    have j1 := just_set (j := o) h.at_ (.bool false)
    have hm1 := cell_grown hm (just_grown j1) hmb
    have ct := wrText_any t m _ ht hm1
    have e1 : (textW eat t.data.toList).1 = false := by unfold textW; rw [if_neg h0]
    have e2 : (textW eat t.data.toList).2 = (if eat = true ∧ c = 10 then [10] else []) ++ escL false t.data.toList := by
      unfold textW
      rw [if_neg h0, hhd]
      simp only [Option.some.injEq]
    rw [e1, e2]
    obtain ⟨E, hE⟩ : ∃ E, escL false t.data.toList = E := ⟨_, rfl⟩
    have hEl : (bs E).size ≤ 1000000000 := by rw [bs_size, ← hE]; have := esc_len false _ t.data.toList (Nat.le_refl _); omega
    rw [hE] at ct ⊢
    obtain ⟨S, hS⟩ : ∃ S, bs E = S := ⟨_, rfl⟩
    have HS := hid (fun (_ : True) => hS)
    rw [hS] at ct hEl
    have CT := hid ct
    have HJ := hid j1
    have hfz := free_at h.at_ o
    clear ct j1 hm1 hm hz hl hhd e1 e2 hE hS h h0 ht
    have fin : ∀ W3, Below (w.setCell ⟨b, o, none⟩ (.bool false)).heap.size (w.setCell ⟨b, o, none⟩ (.bool false)) W3 → W3.heap[b]? = some (.cells (cs.setIfInBounds o (.bool false)) T (0, 0)) ∧ w.grownBy W3 (some b) := fun W3 hb3 =>
      ⟨(hb3.block b (block_lt HJ.out.at_)).trans HJ.out.at_, (just_grown HJ.out).trans (grown_below hb3 _)⟩
    have FIN := hid fin
    clear fin
    by_cases hg : eat = true ∧ c = 10
    · rw [if_pos hg]
      obtain ⟨rfl, rfl⟩ := hg
      obtain ⟨R, hR⟩ : ∃ R, bs ([10] ++ E) = R := ⟨_, rfl⟩
      have hR2 : (⟨#[10]⟩ : ByteArray) ++ S = R := by
        rw [← hR, ← bs_cat, HS.out trivial]
        rfl
      rw [hR]
      have HR := hid (fun (_ : True) => hR2)
      clear hR hR2 HS
      go_enter Tryz.func135, Tryz.ntmps135
      go_wp2_with (go_at_call 187; refine CT.out.mono ?_; rintro e W3 ⟨rfl, b3⟩)
      go_ret
      exact ⟨ret_txt (HR.out trivial), FIN.out W3 b3⟩
    · rw [if_neg hg]
      obtain ⟨R, hR⟩ : ∃ R, bs ([] ++ E) = R := ⟨_, rfl⟩
      have hR2 : (⟨#[]⟩ : ByteArray) ++ S = R := by
        rw [← hR, ← bs_cat, HS.out trivial]
        rfl
      rw [hR]
      have HR := hid (fun (_ : True) => hR2)
      clear hR hR2 HS
      cases eat
      · clear hg
        go_enter Tryz.func135, Tryz.ntmps135
        go_wp2_with (go_at_call 187; refine CT.out.mono ?_; rintro e W3 ⟨rfl, b3⟩)
        go_ret
        exact ⟨ret_txt (HR.out trivial), FIN.out W3 b3⟩
      · have hc10 : c ≠ 10 := fun e => hg ⟨rfl, e⟩
        have hn10 : c.toNat ≠ 10 := fun e => hc10 (UInt8.toNat_inj.1 (e.trans rfl))
        have q11 : ((c.toNat : Int) == 10) = false := beq_eq_false_iff_ne.2 (by omega)
        clear hg hc10 hn10
        go_enter Tryz.func135, Tryz.ntmps135
        go_wp2_with (go_at_call 187; refine CT.out.mono ?_; rintro e W3 ⟨rfl, b3⟩)
        go_ret
        exact ⟨ret_txt (HR.out trivial), FIN.out W3 b3⟩

set_option maxHeartbeats 4000000 in
set_option maxRecDepth 100000 in
theorem wTake_any (b o : Nat) (cs : Array Value) (T : TypeId) (eat : Bool) (e : EvP) (u : Value) (m : Int) (w0 w : World) (h : EatAt w b o cs T eat) (hu0 : AttrsR w0 u e.a) (hb0 : Below w0.heap.size w0 w) (hlo : w0.heap.size ≤ b) (hs : e.n.length + e.t.length + bulkA e.a ≤ 100000000)
    (hm0 : w0.cell? ⟨4, 0, none⟩ = some (.int .i64 m)) :
    Calls Tryz.prog 70 #[.pointer (some ⟨b, o, none⟩), .agg (evC e u)] w fun r w' => r = .returned (.string (bs (takeW eat e).2)) ∧ w'.heap[b]? = some (.cells (cs.setIfInBounds o (.bool (takeW eat e).1)) T (0, 0)) ∧ w.grownBy w' (some b) := by
  obtain ⟨p, c, rfl⟩ := hu0.len
  have hmb : 4 ≠ b := by have := cell_block hm0; omega
  have hm := cell_low hm0 hb0 (cell_block hm0)
  have hu := hu0.below hb0
  have hbs := block_lt h.at_
  have hB := (Below.refl w.heap.size w).alloc (Nat.le_refl _) (.cells (evC e (.slice p e.a.length c)) 60)
  have hn := heap_alloc_new w (.cells (evC e (.slice p e.a.length c)) 60)
  obtain ⟨W1, hW1⟩ : ∃ W1, w.alloc (.cells (evC e (.slice p e.a.length c)) 60) = W1 := ⟨_, rfl⟩
  have hsz1 : W1.heap.size = w.heap.size + 1 := by rw [← hW1]; simp
  rw [hW1] at hB hn
  have h1 : EatAt W1 b o cs T eat := ⟨(hB.block b hbs).trans h.at_, h.c⟩
  have hm1 := cell_low hm hB (cell_block hm)
  have hu1 := hu.below hB
  obtain ⟨c0, c1, c2, c3⟩ := evC_at hn
  have hg1 := grown_below hB (some b)
  have hbe := cell_at h1.at_ h1.c
  have hfz := free_at h1.at_ o
  unfold evC at hW1 ⊢
  have HG := hid hg1
  have HB1 := hid (hb0.trans (hB.mono hb0.size))
  clear hB hg1 hu hm h
  have hj : ∀ v, Hid (Just W1 (W1.setCell ⟨b, o, none⟩ (.bool v)) b (cs.setIfInBounds o (.bool v)) T) := fun v => just_set (j := o) h1.at_ (.bool v)
  have fin : ∀ v W3, Below (W1.setCell ⟨b, o, none⟩ (.bool v)).heap.size (W1.setCell ⟨b, o, none⟩ (.bool v)) W3 → W3.heap[b]? = some (.cells (cs.setIfInBounds o (.bool v)) T (0, 0)) ∧ w.grownBy W3 (some b) := fun v W3 hb3 =>
    ⟨(hb3.block b (block_lt (hj v).out.at_)).trans (hj v).out.at_, (HG.out.trans (just_grown (hj v).out)).trans (grown_below hb3 _)⟩
  have FIN := hid fin
  have hm2 : ∀ v, (W1.setCell ⟨b, o, none⟩ (.bool v)).cell? ⟨4, 0, none⟩ = some (.int .i64 m) := fun v => cell_grown hm1 (just_grown (hj v).out) hmb
  clear fin
  by_cases k1 : e.k = 1
  · have e1 : takeW eat e = (eatsL e.n, openL e.n e.a) := by unfold takeW; rw [if_pos k1]
    rw [e1, k1]
    simp only
    rw [k1] at c0 hW1
    have hst := startTag_any (bs e.n) (.slice p e.a.length c) e.a m (W1.setCell ⟨b, o, none⟩ (.bool (eatsL e.n))) (by rw [bs_size]; omega) (hu0.below (HB1.out.setCell hlo _)) (by omega) (hm2 _)
    have het := fun W => eatsNl_any (bs e.n) W
    rw [bs_data] at hst
    rw [bs_toList] at het
    have fin2 := FIN.out (eatsL e.n)
    obtain ⟨v, hv⟩ : ∃ v, eatsL e.n = v := ⟨_, rfl⟩
    rw [hv] at het hst fin2 ⊢
    have HST := hid hst
    have HET := hid het
    have HF := hid fin2
    clear hst het fin2 hv hm2 hj FIN e1 k1 hs hn
    go_enter Tryz.func70, Tryz.ntmps70
    go_wp2_with (go_at_call 80; refine (HET.out _).mono ?_; rintro r W2 ⟨rfl, rfl⟩)
    refine HST.out.mono ?_
    rintro r W3 ⟨rfl, b3⟩
    go_wp2_with fail
    go_ret
    exact ⟨rfl, HF.out _ b3⟩
  · have q1 : (e.k == 1) = false := beq_eq_false_iff_ne.2 k1
    by_cases k2 : e.k = 2
    · have e1 : takeW eat e = (false, etagL e.n) := by unfold takeW; rw [if_neg k1, if_pos k2]
      rw [e1, k2]
      simp only
      rw [k2] at c0 hW1 q1
      have hen := fun W => wrEnd_any (bs e.n) W (by rw [bs_size]; omega)
      rw [bs_data] at hen
      have HEN := hid hen
      have HF := hid (FIN.out false)
      clear hen FIN hm2 hj e1 k1 k2 hs hn
      go_enter Tryz.func70, Tryz.ntmps70
      go_wp2_with (go_at_call 134; refine (HEN.out _).mono ?_; rintro r W3 ⟨rfl, rfl⟩)
      go_ret
      exact ⟨rfl, HF.out _ (Below.refl _ _)⟩
    · have q2 : (e.k == 2) = false := beq_eq_false_iff_ne.2 k2
      by_cases k3 : e.k = 3
      · have e1 : takeW eat e = textW eat e.t := by unfold takeW; rw [if_neg k1, if_neg k2, if_pos k3]
        rw [e1, k3]
        rw [k3] at c0 hW1 q1 q2
        have htx := wText_any b o cs T eat (bs e.t) m W1 h1 (by rw [bs_size]; omega) hm1 hmb
        rw [bs_data] at htx
        generalize textW eat e.t = tw at htx ⊢
        obtain ⟨t1, t2⟩ := tw
        simp only at htx ⊢
        have HTX := hid htx
        clear htx FIN hm2 hj e1 k1 k2 k3 hs hn
        go_enter Tryz.func70, Tryz.ntmps70
        go_wp2_with (go_at_call 135; refine HTX.out.mono ?_; rintro r W3 ⟨rfl, a3, g3⟩)
        go_ret
        exact ⟨rfl, a3, HG.out.trans g3⟩
      · have q3 : (e.k == 3) = false := beq_eq_false_iff_ne.2 k3
        have e1 : takeW eat e = (eat, []) := by unfold takeW; rw [if_neg k1, if_neg k2, if_neg k3]
        have hcs : cs.setIfInBounds o (.bool eat) = cs := set_same h1.c
        rw [e1]
        simp only
        rw [hcs]
        have h1a := hid h1.at_
        clear FIN hm2 hj e1 k1 k2 k3 hs hn hcs
        go_enter Tryz.func70, Tryz.ntmps70
        go_wp2
        go_ret
        exact ⟨rfl, h1a.out, HG.out⟩
end Go.Proofs.YtcncbhbdpcpkeaaGreatDoor
