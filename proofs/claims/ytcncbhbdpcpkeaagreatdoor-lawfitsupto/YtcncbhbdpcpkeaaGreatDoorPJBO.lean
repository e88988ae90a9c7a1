/-
  Parts of the walk, joined: FtL, ParW, RpA, FtG, BalC.
-/
import Derived.Test.YtcncbhbdpcpkeaaGreatDoorPJBC
import Derived.Test.YtcncbhbdpcpkeaaGreatDoorPJBF
import Derived.Test.YtcncbhbdpcpkeaaGreatDoorPJBA
import Derived.Test.YtcncbhbdpcpkeaaGreatDoorPJBH
import Derived.Test.YtcncbhbdpcpkeaaGreatDoorPJBE
import Derived.Test.YtcncbhbdpcpkeaaGreatDoorPJAR
import Derived.Test.YtcncbhbdpcpkeaaGreatDoorPJAV
import Derived.Test.YtcncbhbdpcpkeaaGreatDoorPJAI
import Derived.Test.YtcncbhbdpcpkeaaGreatDoorPJAK
import Derived.Test.YtcncbhbdpcpkeaaGreatDoorPJAS
import Derived.Test.YtcncbhbdpcpkeaaGreatDoorPJAB
import Derived.Test.YtcncbhbdpcpkeaaGreatDoorPJAT
import Derived.Test.YtcncbhbdpcpkeaaGreatDoorPJAO
import Derived.Test.YtcncbhbdpcpkeaaGreatDoorPJBK
/-
  Whether a tree is one that the policy leaves as it is, as a plain function: node by node.
-/
namespace Go.Proofs.YtcncbhbdpcpkeaaGreatDoor
open Go.RowKit Go.Lib Own

/-- is an element just what its rule leaves of it? -/
def ruleFits (P : PolP) (n : EvP) : Bool := match ruleL P.rules n.n with
  | none => false
  | some l => decide (keptA P.schemes l [] n.a = n.a) && (n.a.all (fun a => gt a.2) && decide (((openL n.n n.a).length : Int) ≤ P.window))
/-- may this node stand within these open elements? -/
def fitN (P : PolP) (op : List (List UInt8)) (again : Bool) (n : EvP) : Bool :=
  if n.n = [] then !again && (decide (n.t ≠ []) && (gt n.t && nestP (modO op) 3 == 2))
  else decide (elemL n.n ≠ none) && (nestP (modO op) (clsX n.n) == 2 && (decide (n.k < P.depth) && (ruleFits P n && !(n.n == [97] && op.contains [97]))))
/-- what stands open behind a node -/
def fitO (op : List (List UInt8)) (n : EvP) : List (List UInt8) := if n.n = [] ∨ voidL n.n = true then op.take n.k.toNat else op.take n.k.toNat ++ [n.n]
/-- a text's depth; no text: one that no node has -/
def fitT (n : EvP) : Int := if n.n = [] then n.k else -1
def fitL (P : PolP) : List (List UInt8) → Int → List EvP → Bool
  | _, _, [] => true
  | op, la, n :: r => fitN P (op.take n.k.toNat) (decide (la = n.k)) n && fitL P (fitO op n) (fitT n) r
def fitsP (P : PolP) (ns : List EvP) : Bool := decide (checkP P = 0) && (shapeB 0 ns && fitL P [] (-1) ns)

theorem gt_norm (l : List UInt8) : ((rd false false l).1 = l) ↔ gt l = true := by
  constructor
  · intro h
    have := gt_rd false l.length false l (Nat.le_refl _)
    rw [h] at this
    exact this
  · intro h
    rw [rd_good l.length l (Nat.le_refl _) h]
theorem keptA_sub (schemes listed : List (List UInt8)) : ∀ (al : List AttrP) (seen : List (List UInt8)), List.Sublist ((keptA schemes listed seen al).map Prod.fst) (al.map Prod.fst)
  | [], _ => List.Sublist.refl _
  | a :: r, seen => by
    unfold keptA
    rw [List.map_cons]
    split
    · exact (keptA_sub schemes listed r seen).cons _
    · split
      · split
        · exact (keptA_sub schemes listed r _).cons_cons _
        · exact (keptA_sub schemes listed r _).cons _
      · exact (keptA_sub schemes listed r _).cons_cons _
/-- two lists of attributes held side by side: the same values, and all good -/
def cmpA : List AttrP → List AttrP → Bool
  | a :: r, b :: s => (a.2 == b.2 && gt a.2) && cmpA r s
  | _, _ => true
theorem cmpA_names : ∀ K al : List AttrP, K.map Prod.fst = al.map Prod.fst → cmpA K al = (decide (K = al) && al.all fun a => gt a.2)
  | [], [], _ => rfl
  | [], _ :: _, h => by cases h
  | _ :: _, [], h => by cases h
  | (x, v) :: r, (y, u) :: s, h => by
    rw [List.map_cons, List.map_cons, List.cons.injEq] at h
    obtain ⟨rfl, h⟩ := h
    show ((v == u && gt v) && cmpA r s) = _
    rw [cmpA_names r s h]
    by_cases e : v = u
    · subst e
      simp only [beq_self_eq_true, Bool.true_and, List.all_cons, List.cons.injEq, true_and]
      cases gt v <;> simp
    · have e1 : (v == u) = false := beq_eq_false_iff_ne.2 e
      simp [e1, e]
theorem cmpA_kept (schemes listed : List (List UInt8)) (al : List AttrP) (h : (keptA schemes listed [] al).length = al.length) :
    cmpA (keptA schemes listed [] al) al = (decide (keptA schemes listed [] al = al) && al.all fun a => gt a.2) := by
  refine cmpA_names _ _ ((keptA_sub schemes listed al []).eq_of_length ?_)
  rw [List.length_map, List.length_map, h]

/-! ## what a policy without a fault gives -/

theorem from_zero {P : PolP} : ∀ (f n : Nat), 1 ≤ n → checkFrom P n f = 0 → ∀ k, n ≤ k → k < n + f → wrongP k P = false
  | 0, _, _, _, _, _, _ => by omega
  | f + 1, n, h1, h, k, hk, hk2 => by
    unfold checkFrom at h
    split at h
    · omega
    · rename_i hw
      by_cases e : k = n
      · subst e; simpa using hw
      · exact from_zero f (n + 1) (by omega) h k (by omega) (by omega)
theorem check_wrong {P : PolP} (h : checkP P = 0) (k : Nat) (h1 : 1 ≤ k) (h2 : k ≤ 10) : wrongP k P = false := from_zero 10 1 (Nat.le_refl _) h k h1 (by omega)
theorem ruleL_mem : ∀ (rs : List RuleP) (n : List UInt8) (l : List (List UInt8)), ruleL rs n = some l → n ∈ rs.map Prod.fst
  | [], _, _, h => by cases h
  | r :: rs, n, l, h => by
    unfold ruleL at h
    split at h
    · rename_i e; rw [List.map_cons, ← e]; exact List.mem_cons_self ..
    · rw [List.map_cons]; exact List.mem_cons_of_mem _ (ruleL_mem rs n l h)
theorem rule_known {P : PolP} (h : checkP P = 0) {n : List UInt8} {l : List (List UInt8)} (hr : ruleL P.rules n = some l) : elemL n ≠ none := by
  have h3 := check_wrong h 3 (by omega) (by omega)
  have h3' : anyWrongP 3 P = false := h3
  rw [anyWrong3] at h3'
  have hm := List.any_eq_false.1 h3' n (ruleL_mem _ _ _ hr)
  intro e
  have := elem_known n
  rw [e] at this
  exact hm this.symm
theorem rule_kept {P : PolP} (h : checkP P = 0) {n : List UInt8} {l : List (List UInt8)} (hr : ruleL P.rules n = some l) : P.drop.contains n = false := by
  have h9 := check_wrong h 9 (by omega) (by omega)
  have h9' : ((decide (64 < P.drop.length) || twiceL P.drop) || anyWrongP 9 P) = false := h9
  rw [Bool.or_eq_false_iff] at h9'
  have h2 : (P.rules.any (wrongRuleP 9) || ((decide (9 = 7) && P.schemes.any wrongSchemeP) || (decide (9 = 9) && P.drop.any (wrongDropP (P.rules.map Prod.fst))))) = false := h9'.2
  rw [Bool.or_eq_false_iff, Bool.or_eq_false_iff] at h2
  have h4 : P.drop.any (wrongDropP (P.rules.map Prod.fst)) = false := h2.2.2
  cases hc : P.drop.contains n
  · rfl
  · have hm : n ∈ P.drop := by simpa using hc
    have := List.any_eq_false.1 h4 n hm
    refine absurd ?_ this
    unfold wrongDropP
    have : (P.rules.map Prod.fst).contains n = true := by simpa using ruleL_mem _ _ _ hr
    rw [this]
    simp
/-- what the sieve leaves of a start tag is the tag itself -/
def keepsE (n : EvP) : Option Ev → Bool
  | some (.start _ K) => decide (K = n.a)
  | _ => false
theorem keeps_rule {P : PolP} (h : checkP P = 0) (sk : List UInt8) (n : EvP) : (keepsE n (sieveL P (sk, 0) ⟨1, n.n, n.a, []⟩).2 && n.a.all fun a => gt a.2) = ruleFits P n := by
  unfold ruleFits sieveL
  rw [if_neg (Nat.lt_irrefl 0)]
  cases hr : ruleL P.rules n.n with
  | none =>
    by_cases hd : P.drop.contains n.n = true
    · rw [if_pos ⟨rfl, hd⟩]; rfl
    · rw [if_neg (fun e => hd e.2)]
      have : outL P ⟨1, n.n, n.a, []⟩ = none := by unfold outL; rw [if_pos rfl]; exact ruledF_none hr
      rw [this]; rfl
  | some l =>
    have hd := rule_kept h hr
    rw [if_neg (fun e => by rw [hd] at e; exact absurd e.2 (by simp))]
    have e1 : outL P ⟨1, n.n, n.a, []⟩ = startF P ⟨1, n.n, n.a, []⟩ l := by unfold outL; rw [if_pos rfl]; exact ruledF_some hr
    simp only [e1]
    unfold startF
    simp only
    by_cases hk : keptA P.schemes l [] n.a = n.a
    · rw [hk]
      by_cases hw : ((openL n.n n.a).length : Int) ≤ P.window
      · rw [if_pos hw]; simp [keepsE, hw]
      · rw [if_neg hw]; simp [keepsE, hw]
    · have e2 : decide (keptA P.schemes l [] n.a = n.a) = false := decide_eq_false hk
      rw [e2]
      split
      · simp [keepsE, hk]
      · simp [keepsE]
theorem keeps_known {P : PolP} (h : checkP P = 0) (sk : List UInt8) (n : EvP) (hk : keepsE n (sieveL P (sk, 0) ⟨1, n.n, n.a, []⟩).2 = true) : elemL n.n ≠ none := by
  cases hr : ruleL P.rules n.n with
  | some l => exact rule_known h hr
  | none =>
    unfold sieveL at hk
    rw [if_neg (Nat.lt_irrefl 0)] at hk
    have : outL P ⟨1, n.n, n.a, []⟩ = none := by unfold outL; rw [if_pos rfl]; exact ruledF_none hr
    rw [this] at hk
    split at hk <;> exact absurd hk (by simp [keepsE])
end Go.Proofs.YtcncbhbdpcpkeaaGreatDoor

/-
  The token reader's small methods: their walks.
-/
namespace Go.Proofs.YtcncbhbdpcpkeaaGreatDoor
open Go.RowKit Go.Lib Own

theorem drop_bs (s : ByteArray) (n : Nat) : s.extract n s.size = bs (s.data.toList.drop n) := by
  have := Lib.extract_to_end s n
  rw [← this]
  rfl
end Go.Proofs.YtcncbhbdpcpkeaaGreatDoor

/-
  The reference's unitAt: what it answers, its walk.
-/
namespace Go.Proofs.YtcncbhbdpcpkeaaGreatDoor
open Go.RowKit Go.Lib Own

theorem dec_code (n b0 b1 b2 b3 : Nat) (h : decodeN n b0 b1 b2 b3 ≠ (65533, 1)) (l0 : b0 < 256) (l1 : b1 < 256) (l2 : b2 < 256) (l3 : b3 < 256) : codeN n b0 b1 b2 b3 = decodeN n b0 b1 b2 b3 := by
  unfold decodeN at h ⊢
  unfold codeN
  by_cases a1 : b0 < 128
  · rw [if_pos a1, if_pos a1]
  · rw [if_neg a1] at h ⊢
    rw [if_neg a1]
    by_cases a2 : b0 / 32 = 6 ∧ (1 < n ∧ b1 / 64 = 2)
    · rw [if_pos a2] at h ⊢
      by_cases q : b0 % 32 * 64 + b1 % 64 ≥ 128
      · rw [if_pos q, if_neg (show ¬ b0 < 192 by omega), if_pos (show b0 < 224 by omega), if_pos (by omega), Prod.mk.injEq]
        omega
      · rw [if_neg q] at h; exact absurd rfl h
    · rw [if_neg a2] at h ⊢
      by_cases a3 : b0 / 16 = 14 ∧ (1 < n ∧ b1 / 64 = 2) ∧ (2 < n ∧ b2 / 64 = 2)
      · rw [if_pos a3] at h ⊢
        split at h
        · rename_i q
          rw [if_pos q, if_neg (show ¬ b0 < 192 by omega), if_neg (show ¬ b0 < 224 by omega), if_pos (show b0 < 240 by omega), if_pos (by omega), Prod.mk.injEq]
          omega
        · exact absurd rfl h
      · rw [if_neg a3] at h ⊢
        by_cases a4 : b0 / 8 = 30 ∧ (1 < n ∧ b1 / 64 = 2) ∧ (2 < n ∧ b2 / 64 = 2) ∧ (3 < n ∧ b3 / 64 = 2)
        · rw [if_pos a4] at h ⊢
          split at h
          · rename_i q
            rw [if_pos q, if_neg (show ¬ b0 < 192 by omega), if_neg (show ¬ b0 < 224 by omega), if_neg (show ¬ b0 < 240 by omega), if_pos (by omega), Prod.mk.injEq]
            omega
          · exact absurd rfl h
        · rw [if_neg a4] at h; exact absurd rfl h
theorem codeN_one {n b0 b1 b2 b3 c : Nat} (h : codeN n b0 b1 b2 b3 = (c, 1)) (hc : 128 ≤ c) : False := by
  have h1 := congrArg Prod.fst h
  have h2 := congrArg Prod.snd h
  clear h
  unfold codeN at h1 h2
  by_cases a1 : b0 < 128
  · rw [if_pos a1] at h1
    simp only at h1
    omega
  · rw [if_neg a1] at h2
    by_cases a2 : b0 < 192
    · rw [if_pos a2] at h2; exact absurd h2 (by simp)
    · rw [if_neg a2] at h2
      by_cases a3 : b0 < 224
      · rw [if_pos a3] at h2
        split at h2 <;> exact absurd h2 (by simp)
      · rw [if_neg a3] at h2
        by_cases a4 : b0 < 240
        · rw [if_pos a4] at h2
          split at h2 <;> exact absurd h2 (by simp)
        · rw [if_neg a4] at h2
          split at h2 <;> exact absurd h2 (by simp)
theorem char_code (l : List UInt8) : ((codeL l).2 = 0 ∨ (codeL l).1 = 38 ∨ goodB (codeL l).1 = false ↔ (charL l).2 = 0 ∨ (charL l).1 = 38 ∨ goodB (charL l).1 = false) ∧ (¬ ((charL l).2 = 0 ∨ (charL l).1 = 38 ∨ goodB (charL l).1 = false) → charL l = codeL l) := by
  have l0 := (l.getD 0 0).toNat_lt
  have l1 := (l.getD 1 0).toNat_lt
  have l2 := (l.getD 2 0).toNat_lt
  have l3 := (l.getD 3 0).toNat_lt
  unfold charL codeL charN
  generalize (l.getD 0 0).toNat = b0 at *
  generalize (l.getD 1 0).toNat = b1 at *
  generalize (l.getD 2 0).toNat = b2 at *
  generalize (l.getD 3 0).toNat = b3 at *
  by_cases h : decodeN l.length b0 b1 b2 b3 = (65533, 1)
  · rw [if_pos h]
    refine ⟨⟨fun _ => .inl rfl, fun _ => Classical.byContradiction fun hn => ?_⟩, fun hn => absurd (.inl rfl) hn⟩
    have h1 : (codeN l.length b0 b1 b2 b3).2 ≠ 0 := fun e => hn (.inl e)
    have h2 : goodB (codeN l.length b0 b1 b2 b3).1 = true := by
      cases hg : goodB (codeN l.length b0 b1 b2 b3).1 with
      | true => rfl
      | false => exact absurd (.inr (.inr hg)) hn
    have h3 := code_dec _ _ _ _ _ h1 h2 l0
    rw [h] at h3
    exact codeN_one h3.symm (by decide)
  · rw [if_neg h, dec_code _ _ _ _ _ h l0 l1 l2 l3]
    exact ⟨Iff.rfl, fun _ => rfl⟩
theorem charL_le (l : List UInt8) (h0 : l ≠ []) : (charL l).2 ≤ l.length := by
  by_cases hc : (charL l).2 = 0 ∨ (charL l).1 = 38 ∨ goodB (charL l).1 = false
  · rw [charL_dec]
    split
    · exact Nat.zero_le _
    · exact (width_le l h0).2
  · rw [(char_code l).2 hc]; exact (codeL_le l h0).2.1
end Go.Proofs.YtcncbhbdpcpkeaaGreatDoor

/-
  Is a text made of good characters alone: the reference's isGoodText, the code's isGood: their walks.
-/
namespace Go.Proofs.YtcncbhbdpcpkeaaGreatDoor
open Go.RowKit Go.Lib Own

theorem gt_char {l : List UInt8} (h0 : l ≠ []) (h : (charL l).2 = 0 ∨ goodB (charL l).1 = false) : gt l = false := by
  refine gt_bad l h0 ?_
  have hc := (char_code l).1
  have h' : (charL l).2 = 0 ∨ (charL l).1 = 38 ∨ goodB (charL l).1 = false := h.elim .inl (fun e => .inr (.inr e))
  rcases hc.2 h' with e | e | e
  · exact .inl e
  · by_cases h2 : (codeL l).2 = 0
    · exact .inl h2
    · have hl := codeL_le l h0
      have l0 := (l.getD 0 0).toNat_lt
      have l1 := (l.getD 1 0).toNat_lt
      have l2 := (l.getD 2 0).toNat_lt
      have l3 := (l.getD 3 0).toNat_lt
      have e1 : charL l = codeL l := by
        unfold codeL at e h2
        have h3 := code_dec _ _ _ _ _ h2 (by rw [e]; decide) l0
        unfold charL charN codeL
        rw [if_neg (fun e2 => by rw [e2] at h3; rw [← h3] at e; exact absurd e (by decide)), h3]
      rw [← e1]
      exact h
  · exact .inr e
theorem gt_charS {l : List UInt8} (h0 : l ≠ []) (h1 : (charL l).2 ≠ 0) (h2 : goodB (charL l).1 = true) : gt l = gt (l.drop (charL l).2) := by
  have e1 : charL l = codeL l := by
    by_cases h : (charL l).2 = 0 ∨ (charL l).1 = 38 ∨ goodB (charL l).1 = false
    · rcases h with e | e | e
      · exact absurd e h1
      · have l0 := (l.getD 0 0).toNat_lt
        have l1 := (l.getD 1 0).toNat_lt
        have l2 := (l.getD 2 0).toNat_lt
        have l3 := (l.getD 3 0).toNat_lt
        unfold charL charN at e h1 ⊢
        unfold codeL
        by_cases hd : decodeN l.length (l.getD 0 0).toNat (l.getD 1 0).toNat (l.getD 2 0).toNat (l.getD 3 0).toNat = (65533, 1)
        · rw [if_pos hd] at e; exact absurd e (by decide)
        · rw [if_neg hd, dec_code _ _ _ _ _ hd l0 l1 l2 l3]
      · rw [h2] at e; exact absurd e (by simp)
    · exact (char_code l).2 h
  rw [e1] at h1 h2 ⊢
  exact gt_step l h0 h1 h2
set_option maxHeartbeats 4000000 in
set_option maxRecDepth 100000 in
theorem refGoodText_any (l : List UInt8) (w : World) (hs : l.length ≤ 8000000) :
    Calls Tryz.prog 41 #[.string (bs l)] w fun e w' => e = .returned (.bool (gt l)) ∧ Below w.heap.size w w' := by
  obtain ⟨R, hR⟩ : ∃ R, gt l = R := ⟨_, rfl⟩
  rw [hR]
  have HR : Hid (gt (l.drop 0) = R) := hid hR
  have hsz := bs_size l
  have hdr := fun k => drop_bs (bs l) k
  rw [bs_data, hsz] at hdr
  have HU := hid (fun k (hk : k < l.length) W => char_walk (bs (l.drop k)) W (by rw [bs_size, List.length_drop]; omega) (by rw [bs_size, List.length_drop]; omega))
  obtain ⟨B, hB⟩ : ∃ B, bs l = B := ⟨_, rfl⟩
  rw [hB] at hsz hdr ⊢
  have HD := hid hdr
  clear hR hB hdr
  go_enter Tryz.func41, Tryz.ntmps41
  go_wp2_with fail
  go_loopw [3] (fun iv wr => ∃ k : Nat, iv = .int .i64 k ∧ k ≤ l.length ∧ Hid (Below w.heap.size w wr) ∧ Hid (gt (l.drop k) = R)) (fun iv _ => l.length - (RowKit.intOf iv).toNat)
  case atStart => exact ⟨0, rfl, Nat.zero_le _, hid (Below.refl _ _), HR⟩
  case round =>
    clear HR
    obtain ⟨k, rfl, hk, HX, HK⟩ := hrel
    by_cases hkl : k < l.length
    · have hne : l.drop k ≠ [] := fun e => by have := congrArg List.length e; rw [List.length_drop] at this; simp at this; omega
      have hx := HD.out k
      have hc := HU.out k hkl wr
      rw [bs_data] at hc
      have hb := fun h => gt_char hne h
      have hst := fun h1 h2 => gt_charS hne h1 h2
      have hle := charL_le _ hne
      have hgd := fun W => refGood_all ((charL (l.drop k)).1 : Int) (by omega) W
      rw [List.length_drop] at hle
      rw [HK.out] at hb hst
      rw [List.drop_drop] at hst
      generalize (charL (l.drop k)).1 = V at hc hb hst hle hgd
      generalize (charL (l.drop k)).2 = S at hc hb hst hle hgd
      obtain ⟨T, hT⟩ : ∃ T, bs (l.drop k) = T := ⟨_, rfl⟩
      rw [hT] at hx hc
      have HC := hid hc
      have HG := hid hgd
      have HBD := hid hb
      have HST := hid hst
      clear hc hgd hb hst hT hne HD HU HK
      go_wp2_with fail
      refine HC.out.mono ?_
      rintro e W1 ⟨rfl, hb1⟩
      have HZ := hid (HX.out.trans (hb1.mono HX.out.size))
      clear hb1 HC HX
      by_cases c1 : S = 0
      · have z1 : ((S : Int) == 0) = true := beq_iff_eq.2 (by omega)
        have hr := HBD.out (.inl c1)
        subst hr
        clear HBD HST HG c1
        go_wp2_with fail
        go_ret
        exact ⟨rfl, HZ.out⟩
      · have z1 : ((S : Int) == 0) = false := beq_eq_false_iff_ne.2 (by omega)
        cases hgv : goodB (V : Int) with
        | false =>
          have hr := HBD.out (.inr hgv)
          subst hr
          rw [hgv] at HG
          clear HBD HST
          go_wp2_with fail
          refine (HG.out _).mono ?_
          rintro e W2 ⟨rfl, rfl⟩
          go_wp2_with fail
          go_ret
          exact ⟨rfl, HZ.out⟩
        | true =>
          have HN := hid (HST.out c1 hgv)
          rw [hgv] at HG
          clear HBD HST hgv
          have hwi : IntKind.i64.wrap ((k : Int) + (S : Int)) = ((k + S : Nat) : Int) := by rw [IntKind.wrap_i64]; omega
          go_wp2_with fail
          refine (HG.out _).mono ?_
          rintro e W2 ⟨rfl, rfl⟩
          go_wp2_with fail
          go_roundw
          case rel => exact ⟨k + S, by go_num, by omega, HZ, hid HN.out.symm⟩
          case measure => simp [RowKit.intOf]; omega
    · have hr := HK.out
      rw [List.drop_of_length_le (by omega), gt_nil] at hr
      subst hr
      clear HK HD HU
      go_wp2_with fail
      go_ret
      exact ⟨rfl, HX.out⟩
theorem normal_gt (l : List UInt8) : ((⟨(rd false false l).1.toArray⟩ : ByteArray).toList == (bs l).toList) = gt l := by
  rw [Bool.eq_iff_iff, beq_iff_eq, ← gt_norm, bs_toList, Lib.toList_data]
set_option maxHeartbeats 4000000 in
theorem isGood_any (l : List UInt8) (w : World) (hs : l.length ≤ 8000000) :
    Calls Tryz.prog 172 #[.string (bs l)] w fun e w' => e = .returned (.bool (gt l)) ∧ Below w.heap.size w w' := by
  have hn := normal_any (bs l) w (by rw [bs_size]; omega)
  rw [bs_data] at hn
  have hns := normal_gt l
  generalize (⟨(rd false false l).1.toArray⟩ : ByteArray) = N at hn hns
  generalize gt l = R at hns ⊢
  generalize bs l = B at hn hns ⊢
  have HN := hid hn
  clear hn hs
  go_enter Tryz.func172, Tryz.ntmps172
  go_wp2_with fail
  refine HN.out.mono ?_
  rintro e W1 ⟨rfl, hb⟩
  have HB := hid hb
  clear hb HN
  go_wp2_with fail
  go_ret
  exact ⟨rfl, HB.out⟩
end Go.Proofs.YtcncbhbdpcpkeaaGreatDoor

/-
  The balancer's openImplied and closeTo: their walks.
-/
namespace Go.Proofs.YtcncbhbdpcpkeaaGreatDoor
open Go.RowKit Go.Lib Own

section
variable {w0 W W' : World} {ob b : Nat} {d : Int} {op op' : List (List UInt8)} {ov outv ov' outv' : Value} {J J' : List Ev} {xs xs' : List Value}
end
theorem elem_some {x : List UInt8} (h : elemL x ≠ none) : elemL x = some (clsX x, modX x) := by
  unfold clsX modX
  cases hx : elemL x with
  | none => exact absurd hx h
  | some p => rfl
theorem known_lt (x : List UInt8) (h : elemL x ≠ none) : modX x < 10 ∧ clsX x < 10 := by
  have := known_bd x h
  omega
end Go.Proofs.YtcncbhbdpcpkeaaGreatDoor
