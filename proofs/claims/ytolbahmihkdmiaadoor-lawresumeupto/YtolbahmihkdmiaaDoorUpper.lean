/-
  Parts of the walk, joined: SameEv, LexJoin, JoinW, ReadAll, EndAll, MakeRd, FeedAll, Within, ResumeP, Resume, TabsOf.
-/
import Derived.Test.YtolbahmihkdmiaaDoorGen
import Derived.Test.YtolbahmihkdmiaaDoorEvGet
import Derived.BigQuiet
import Derived.Test.YtolbahmihkdmiaaDoorLexLaw
import Derived.Test.YtolbahmihkdmiaaDoorStepB
import Derived.Test.YtolbahmihkdmiaaDoorLower
import Derived.Test.YtolbahmihkdmiaaDoorStepAll
import Derived.Deep.CutRange
import Derived.Laws.AppendOwnNone
import Derived.Test.YtolbahmihkdmiaaDoorRows
import Derived.Test.YtolbahmihkdmiaaDoorRefTabs
import Derived.Test.YtolbahmihkdmiaaDoorFindName
import Derived.Lib.LaidU8T
import Derived.Lib.LaidTab
import Derived.ChangeSame
import Derived.ChangeArms
/-
  The statement's comparing of events: its walk, where both hold the same.
-/
namespace Go.Proofs.YtolbahmihkdmiaaDoor
open Go.RowKit Go.Lib Own

theorem attrs_at (l : List (List UInt8 × List UInt8)) (k : Nat) (a : List UInt8 × List UInt8) (h : l[k]? = some a) : (attrsV l)[k * 2]? = some (strV a.1) ∧ (attrsV l)[k * 2 + 1]? = some (strV a.2) := by
  induction l generalizing k with
  | nil => simp at h
  | cons b l ih =>
    cases k with
    | zero =>
      simp only [List.getElem?_cons_zero, Option.some.injEq] at h
      subst h
      exact ⟨rfl, rfl⟩
    | succ k =>
      rw [List.getElem?_cons_succ] at h
      obtain ⟨h1, h2⟩ := ih k h
      refine ⟨?_, ?_⟩
      · rw [show (k + 1) * 2 = k * 2 + 1 + 1 by omega]; exact h1
      · rw [show (k + 1) * 2 + 1 = k * 2 + 1 + 1 + 1 by omega]; exact h2
set_option maxHeartbeats 2000000 in
set_option maxRecDepth 10000 in
theorem sameAttrs_any (B1 B2 : Nat) (v1 v2 : Value) (l : List (List UInt8 × List UInt8)) (w : World) (h1 : w.ownsRow B1 59 2 v1 l.length (attrsV l)) (h2 : w.ownsRow B2 59 2 v2 l.length (attrsV l)) :
    Calls Tryd.prog 17 #[v1, v2] w fun e w' => e = .returned (.bool true) ∧ ∃ n, w' = w.drewN n := by
  have hl := row_max h1
  obtain ⟨p1, k1, rfl⟩ := row_shape h1
  obtain ⟨p2, k2, rfl⟩ := row_shape h2
  have hlen : (attrsV l).length = l.length * 2 := attrsV_len l
  have H1 := hid h1
  have H2 := hid h2
  clear h1 h2
  go_enter Tryd.func17, Tryd.ntmps17
  have q0 : ((l.length : Int) != (l.length : Int)) = false := by simp
  go_wp2
  go_loopw [13] (fun iv wr => ∃ k n : Nat, iv = .int .i64 k ∧ k ≤ l.length ∧ wr = w.drewN n) (fun iv _ => l.length - (RowKit.intOf iv).toNat)
  case atStart => exact ⟨0, 0, rfl, Nat.zero_le _, rfl⟩
  case round =>
    obtain ⟨k, n, rfl, hk, rfl⟩ := hrel
    by_cases hkl : k < l.length
    · obtain ⟨g1, ca1, e1, _, _, hc1⟩ := row_at H1.out (by omega)
      obtain ⟨g2, ca2, e2, _, _, hc2⟩ := row_at H2.out (by omega)
      cases e1
      cases e2
      obtain ⟨x1, x2⟩ := attrs_at l k l[k] (List.getElem?_eq_getElem hkl)
      have a1 := (hc1 (k * 2) (by omega)).trans x1
      have a2 := (hc1 (k * 2 + 1) (by omega)).trans x2
      have b1 := (hc2 (k * 2) (by omega)).trans x1
      have b2 := (hc2 (k * 2 + 1) (by omega)).trans x2
      obtain ⟨u1, hu1⟩ : ∃ u1, (⟨l[k].1.toArray⟩ : ByteArray) = u1 := ⟨_, rfl⟩
      obtain ⟨u2, hu2⟩ : ∃ u2, (⟨l[k].2.toArray⟩ : ByteArray) = u2 := ⟨_, rfl⟩
      unfold strV at a1 a2 b1 b2
      rw [hu1] at a1 b1
      rw [hu2] at a2 b2
      clear hc1 hc2 x1 x2 hu1 hu2 H1 H2
      go_wp2_with fail
      go_quiet (fail)
      go_wp2
      go_roundw
      case rel => exact ⟨k + 1, n + nq, rfl, by omega, by first | rfl | simp⟩
      case measure => simp [RowKit.intOf]; omega
    · go_wp2
      go_ret
      exact ⟨rfl, n, rfl⟩

/-- the four cells of an event in a row -/
theorem ev_cells {W : World} {base : Nat} {v : Value} {xs : List Value} {l : List Ev} (h : W.ownsRow base 36 4 v l.length xs) (he : EvsAt W base xs l) (k : Nat) (hk : k < l.length) :
    ∃ g cap a, v = .slice (some ⟨g, 0, none⟩) l.length cap ∧ base ≤ g ∧ g < W.heap.size ∧ W.cell? ⟨g, k * 4, none⟩ = some (.int .i64 (evK l[k] : Nat)) ∧ W.cell? ⟨g, k * 4 + 1, none⟩ = some (strV (evN l[k])) ∧ W.cell? ⟨g, k * 4 + 2, none⟩ = some a ∧
      W.cell? ⟨g, k * 4 + 3, none⟩ = some (strV (evT l[k])) ∧ W.ownsRow base 59 2 a (evA l[k]).length (attrsV (evA l[k])) ∧ EvsAt W base [.int .i64 (evK l[k] : Nat), strV (evN l[k]), a, strV (evT l[k])] [l[k]] := by
  obtain ⟨g, cap, hv, hg1, hg2, hc⟩ := row_at h (by omega)
  obtain ⟨a, a0, a1, a2, a3, a4, a5⟩ := evs_get xs l k l[k] he (List.getElem?_eq_getElem hk)
  exact ⟨g, cap, a, hv, hg1, hg2, (hc _ (by omega)).trans a0, (hc _ (by omega)).trans a1, (hc _ (by omega)).trans a2, (hc _ (by omega)).trans a3, a4, a5⟩

set_option maxHeartbeats 4000000 in
set_option maxRecDepth 10000 in
theorem sameEvents_any (B1 B2 : Nat) (v1 v2 : Value) (xs1 xs2 : List Value) (l : List Ev) (w : World) (h1 : w.ownsRow B1 36 4 v1 l.length xs1) (e1 : EvsAt w B1 xs1 l) (h2 : w.ownsRow B2 36 4 v2 l.length xs2) (e2 : EvsAt w B2 xs2 l) :
    Calls Tryd.prog 9 #[v1, v2] w fun e w' => e = .returned (.bool true) ∧ ∃ n, w' = w.drewN n := by
  have hl := row_max h1
  obtain ⟨p1, k1, rfl⟩ := row_shape h1
  obtain ⟨p2, k2, rfl⟩ := row_shape h2
  have H1 := hid (And.intro h1 e1)
  have H2 := hid (And.intro h2 e2)
  clear h1 h2 e1 e2
  go_enter Tryd.func9, Tryd.ntmps9
  have q0 : ((l.length : Int) != (l.length : Int)) = false := by simp
  go_wp2
  go_loopw [13] (fun iv wr => ∃ k : Nat, iv = .int .i64 k ∧ k ≤ l.length ∧ Hid (True → ∃ n, wr = w.drewN n)) (fun iv _ => l.length - (RowKit.intOf iv).toNat)
  case atStart => exact ⟨0, rfl, Nat.zero_le _, hid (fun _ => ⟨0, rfl⟩)⟩
  case round =>
    obtain ⟨k, rfl, hk, HQ⟩ := hrel
    by_cases hkl : k < l.length
    · obtain ⟨g1, ca1, a1, ex1, _, _, b0, b1, b2, b3, b4, _⟩ := ev_cells H1.out.1 H1.out.2 k hkl
      obtain ⟨g2, ca2, a2, ex2, _, _, d0, d1, d2, d3, d4, _⟩ := ev_cells H2.out.1 H2.out.2 k hkl
      cases ex1
      cases ex2
      obtain ⟨sp1, sc1, rfl⟩ := row_shape b4
      obtain ⟨sp2, sc2, rfl⟩ := row_shape d4
      have hq := HQ.out trivial
      replace b0 := cell_drew hq b0
      replace b1 := cell_drew hq b1
      replace b2 := cell_drew hq b2
      replace b3 := cell_drew hq b3
      replace d0 := cell_drew hq d0
      replace d1 := cell_drew hq d1
      replace d2 := cell_drew hq d2
      replace d3 := cell_drew hq d3
      have hsame := fun n => sameAttrs_any B1 B2 _ _ (evA l[k]) (wr.drewN n) (by obtain ⟨n', rfl⟩ := hq; exact b4) (by obtain ⟨n', rfl⟩ := hq; exact d4)
      have HS := hid hsame
      clear hsame b4 d4 hq H1 H2
      obtain ⟨u1, hu1⟩ : ∃ u1, (⟨(evN l[k]).toArray⟩ : ByteArray) = u1 := ⟨_, rfl⟩
      obtain ⟨u2, hu2⟩ : ∃ u2, (⟨(evT l[k]).toArray⟩ : ByteArray) = u2 := ⟨_, rfl⟩
      unfold strV at b1 b3 d1 d3
      rw [hu1] at b1 d1
      rw [hu2] at b3 d3
      have q1 : (((evK l[k] : Nat) : Int) != ((evK l[k] : Nat) : Int)) = false := by simp
      generalize ((evK l[k] : Nat) : Int) = z at *
      clear hu1 hu2
      go_wp2_with fail
      go_quiet (first | (go_at_call 17; refine Calls.quiet_of (HS.out _)))
      go_wp2
      go_roundw
      case rel =>
        obtain ⟨n, hn⟩ := HQ.out trivial
        exact ⟨k + 1, rfl, by omega, hid (fun _ => ⟨n + nq, by rw [hn]; simp⟩)⟩
      case measure => simp [RowKit.intOf]; omega
    · go_wp2
      go_ret
      exact ⟨rfl, HQ.out trivial⟩
end Go.Proofs.YtolbahmihkdmiaaDoor

/-
  Joining texts that meet, step by step, as a loop does it.
-/
namespace Go.Proofs.YtolbahmihkdmiaaDoor

def isText : Ev → Bool
  | .text _ => true
  | _ => false
theorem join_other {e : Ev} (h : isText e = false) (r : List Ev) : joinEv (e :: r) = e :: joinEv r := by
  cases e with
  | text b => cases h
  | start n a => rfl
  | stop n => rfl
theorem join_stop (B : List UInt8) : ∀ (r : List Ev), (∀ e, r[0]? = some e → isText e = false) → joinEv (.text B :: r) = .text B :: joinEv r
  | [], _ => rfl
  | e :: r, h => by
    have he := h e rfl
    show jcons (.text B) (joinEv (e :: r)) = _
    rw [join_other he]
    cases e with
    | text b => cases he
    | start n a => rfl
    | stop n => rfl
/-- what a loop over a list keeps: the events put out, and those to come -/
def JoinAt (O L J : List Ev) (i : Nat) : Prop := O ++ joinEv (L.drop i) = J
def JoinIn (O L J : List Ev) (i : Nat) (B : List UInt8) : Prop := O ++ joinEv (.text B :: L.drop i) = J
theorem JoinAt.begin {O L J : List Ev} {i : Nat} {b : List UInt8} (h : JoinAt O L J i) (hi : L[i]? = some (.text b)) : JoinIn O L J (i + 1) b := by
  obtain ⟨h1, h2⟩ := List.getElem?_eq_some_iff.1 hi
  unfold JoinAt at h
  rw [List.drop_eq_getElem_cons h1, h2] at h
  exact h
theorem JoinIn.more {O L J : List Ev} {i : Nat} {B b : List UInt8} (h : JoinIn O L J i B) (hi : L[i]? = some (.text b)) : JoinIn O L J (i + 1) (B ++ b) := by
  obtain ⟨h1, h2⟩ := List.getElem?_eq_some_iff.1 hi
  unfold JoinIn at h ⊢
  rw [List.drop_eq_getElem_cons h1, h2, join_two] at h
  exact h
theorem JoinIn.stop {O L J : List Ev} {i : Nat} {B : List UInt8} (h : JoinIn O L J i B) (hi : ∀ e, L[i]? = some e → isText e = false) : JoinAt (O ++ [.text B]) L J i := by
  unfold JoinIn at h
  unfold JoinAt
  rw [join_stop B _ (by simpa using hi)] at h
  rw [List.append_assoc]
  exact h
theorem JoinAt.other {O L J : List Ev} {i : Nat} {e : Ev} (h : JoinAt O L J i) (hi : L[i]? = some e) (he : isText e = false) : JoinAt (O ++ [e]) L J (i + 1) := by
  obtain ⟨h1, h2⟩ := List.getElem?_eq_some_iff.1 hi
  unfold JoinAt at h ⊢
  rw [List.drop_eq_getElem_cons h1, h2, join_other he] at h
  rw [List.append_assoc]
  exact h
theorem JoinAt.over {O L J : List Ev} {i : Nat} (h : JoinAt O L J i) (hi : L.length ≤ i) : O = J := by
  unfold JoinAt at h
  rw [List.drop_of_length_le hi] at h
  simpa [joinEv] using h
end Go.Proofs.YtolbahmihkdmiaaDoor

/-
  The statement's joining of texts: its walk.
-/
namespace Go.Proofs.YtolbahmihkdmiaaDoor
open Go.RowKit Go.Lib Own

def tot (l : List Ev) : Nat := (l.map fun e => (evT e).length).sum
theorem tot_step (l : List Ev) (i : Nat) (hi : i < l.length) : (evT l[i]).length + tot (l.drop (i + 1)) = tot (l.drop i) := by
  unfold tot
  rw [List.drop_eq_getElem_cons hi, List.map_cons, List.sum_cons]
theorem tot_drop (l : List Ev) : ∀ i, tot (l.drop i) ≤ tot l
  | 0 => Nat.le_refl _
  | i + 1 => by
    have ih := tot_drop l i
    rcases Nat.lt_or_ge i l.length with h | h
    · have := tot_step l i h
      omega
    · rw [List.drop_of_length_le (by omega)]
      exact Nat.zero_le _
theorem blockN_ne {W : World} {e T : TypeId} {k g n cap : Nat} {xs : List Value} {cs : Array Value} {fz : Nat × Nat} (hk : W.heap[k]? = some (.cells cs T fz)) (hn : ownsN W e g n cap xs) (hT : T ≠ e) : k ≠ g := by
  rintro rfl
  obtain ⟨cur, fz2, hg, _⟩ := hn
  rw [hk] at hg
  simp only [Option.some.injEq, Obj.cells.injEq] at hg
  exact hT hg.2.1
theorem rowN_ne {W : World} {e e2 : TypeId} {base size n0 g n cap : Nat} {v : Value} {xs ys : List Value} (h : W.ownsRow base e size v n0 ys) (hn : ownsN W e2 g n cap xs) (hne : e ≠ e2) : v.ownBlock ≠ some g := by
  rcases h.2 with ⟨rfl, _⟩ | ⟨g1, cap1, cur, rfl, _, hg, _⟩
  · simp [Value.ownBlock]
  · intro h3
    simp only [Value.ownBlock, Option.some.injEq] at h3
    exact blockN_ne hg hn hne h3
theorem one_cells (e : Ev) (p : Option Addr) (c : Nat) (b : ByteArray) : ∀ u ∈ [Value.int .i64 (evK e : Nat), strV (evN e), .slice p (evA e).length c, .string b], u.oneCell' = true := by
  simp [Value.oneCell', strV]

theorem cells_newV2 (L : List Value) (t : TypeId) (X : Obj) (W : World) : ∀ j u, L[j]? = some u → ((W.alloc X).alloc (.cells L.toArray t)).cell? ((⟨W.heap.size + 1, 0, none⟩ : Addr).add j) = some u := by
  have h := cells_newV L t (W.alloc X)
  rw [show (W.alloc X).heap.size = W.heap.size + 1 by simp] at h
  exact h
theorem cells_newV3 (L : List Value) (t : TypeId) (a : Addr) (v : Value) (W : World) : ∀ j u, L[j]? = some u → ((W.setCell a v).alloc (.cells L.toArray t)).cell? ((⟨W.heap.size, 0, none⟩ : Addr).add j) = some u := by
  have h := cells_newV L t (W.setCell a v)
  rw [show (W.setCell a v).heap.size = W.heap.size by simp] at h
  exact h
theorem row_set {W : World} {base r n : Nat} {e : TypeId} {size : Nat} {v : Value} {xs : List Value} (h : W.ownsRow base e size v n xs) (hne : v.ownBlock ≠ some r) (o : Nat) (u : Value) : (W.setCell ⟨r, o, none⟩ u).ownsRow base e size v n xs :=
  h.kept (row := some r) ⟨rfl, rfl, rfl, by simp, fun k _ hk => heap_setCell_other _ _ _ _ (fun e => hk (by rw [e]))⟩ (.inr hne)
set_option maxHeartbeats 8000000 in
set_option maxRecDepth 100000 in
theorem joinTexts_any (B : Nat) (v : Value) (xs : List Value) (l : List Ev) (w : World) (h : w.ownsRow B 36 4 v l.length xs) (he : EvsAt w B xs l) (hl : l.length ≤ 1000000000) (ht : tot l ≤ 100000000000) :
    Calls Tryd.prog 7 #[v] w fun e w' => ∃ v' ys, e = .returned v' ∧ w'.ownsRow w.heap.size 36 4 v' (joinEv l).length ys ∧ EvsAt w B ys (joinEv l) ∧ Below w.heap.size w w' := by
  obtain ⟨i0, hi, hz0, hz1, hz2⟩ := info_parts info_event
  obtain ⟨ub, hub, hub0, hub1, hub2⟩ := info_parts info_u8
  obtain ⟨J, hJ⟩ : ∃ J, joinEv l = J := ⟨_, rfl⟩
  obtain ⟨p1, k1, rfl⟩ := row_shape h
  have H0 : JoinAt [] l J 0 := hJ
  have HH := hid (And.intro h he)
  have HT := hid ht
  rw [hJ]
  clear h he ht hJ
  go_enter Tryd.func7, Tryd.ntmps7
  go_wp2
  go_loopw [3, 4] (fun ov iv wr => ∃ (i : Nat) (O : List Ev) (ys : List Value), iv = .int .i64 i ∧ i ≤ l.length ∧ O.length ≤ i ∧ Hid (wr.ownsRow w.heap.size 36 4 ov O.length ys ∧ EvsAt w B ys O ∧ Below w.heap.size w wr ∧ JoinAt O l J i)) (fun _ iv _ => l.length - (RowKit.intOf iv).toNat)
  case atStart => exact ⟨0, [], [], rfl, Nat.zero_le _, Nat.le_refl _, hid ⟨World.ownsRow_nil _ _ _ _, trivial, Below.refl _ _, H0⟩⟩
  case round =>
    obtain ⟨i, O, ys, rfl, hil, hOi, HX⟩ := hrel
    obtain ⟨op, oc, rfl⟩ := row_shape HX.out.1
    clear H0
    by_cases hlt : i < l.length
    · obtain ⟨g, ca, a, hv, _, hg2, b0, b1, b2, b3, b4, b5⟩ := ev_cells HH.out.1 HH.out.2 i hlt
      cases hv
      obtain ⟨sp, sc, rfl⟩ := row_shape b4
      have a0 := cell_low b0 HX.out.2.2.1 hg2
      have a1 := cell_low b1 HX.out.2.2.1 hg2
      have a2 := cell_low b2 HX.out.2.2.1 hg2
      have a3 := cell_low b3 HX.out.2.2.1 hg2
      have hown := HX.out.1
      have hlo := HX.out.2.2.1.size
      have hA4 := hid (show O.length + 1 ≤ maxLen by unfold maxLen; omega)
      have hA5 := hid (show (O.length + 1) * 64 ≤ 140737488355328 by omega)
      have HE5 := hid b5
      clear b0 b1 b2 b3 b4 b5
      obtain ⟨nb, hnb⟩ : ∃ nb : ByteArray, (⟨(evN l[i]).toArray⟩ : ByteArray) = nb := ⟨_, rfl⟩
      obtain ⟨tb, htb⟩ : ∃ tb : ByteArray, (⟨(evT l[i]).toArray⟩ : ByteArray) = tb := ⟨_, rfl⟩
      have HONE := hid (one_cells l[i] sp sc)
      have HNB := hid (fun (_ : True) => hnb)
      have HTB := hid (fun (_ : True) => htb)
      unfold strV at a1 a3
      rw [hnb] at a1
      rw [htb] at a3
      clear hnb htb
      have hwi : IntKind.i64.wrap ((i : Int) + 1) = ((i + 1 : Nat) : Int) := by rw [IntKind.wrap_i64]; omega
      cases htx : isText l[i] with
      | false =>
        have hnx := HX.out.2.2.2.other (List.getElem?_eq_getElem hlt) htx
        have q : (((evK l[i] : Nat) : Int) == 3) = false := by
          cases hh : l[i] with
          | text b => rw [hh] at htx; cases htx
          | start n a => rfl
          | stop n => rfl
        have HNX := hid hnx
        clear hnx htx
        obtain ⟨K, hK⟩ : ∃ K : Int, ((evK l[i] : Nat) : Int) = K := ⟨_, rfl⟩
        have HK := hid (fun (_ : True) => hK)
        rw [hK] at a0 q
        clear hK
        obtain ⟨AL, hAL⟩ : ∃ AL, (evA l[i]).length = AL := ⟨_, rfl⟩
        have HAL := hid (fun (_ : True) => hAL)
        rw [hAL] at a2
        clear hAL
        go_wp2_with (at_builtin; refine wpList_append_own _ rfl (.tmp 47) (.tmp 49) 26 rfl w.heap.size 36 i0 (.agg #[.int .i64 0, .string ⟨#[]⟩, .slice none 0 0, .string ⟨#[]⟩]) 4 64 Tryd.underlying26 hi hz0 hz1 hz2 rfl (by decide) _ _ _ rfl ((hown.alloc _).alloc _) ⟨_, 0, none⟩ 1 1 [.int .i64 K, .string nb, .slice sp AL sc, .string tb] rfl rfl (cells_newV2 _ _ _ _) (by simp [Value.oneCell']) hA4.out hA5.out ?_ ?_)
        · first | omega | (simp; omega)
        · intro v' w2 hown2 hgrow _
          have hb2 : Below w.heap.size w w2 := ((HX.out.2.2.1.alloc hlo _).alloc (by simp; omega) _).grown hgrow (by simp; omega) (fun j hj => (hown.lt j hj).1)
          have HY := hid (And.intro hown2 hb2)
          clear hown2 hb2 hgrow
          go_wp2
          go_roundw
          case rel =>
            have hfin : w2.ownsRow w.heap.size 36 4 v' (O ++ [l[i]]).length (ys ++ [.int .i64 K, .string nb, .slice sp AL sc, .string tb]) ∧ EvsAt w B (ys ++ [.int .i64 K, .string nb, .slice sp AL sc, .string tb]) (O ++ [l[i]]) ∧ Below w.heap.size w w2 ∧ JoinAt (O ++ [l[i]]) l J (i + 1) := by
              refine ⟨by rw [List.length_append]; exact HY.out.1, evs_snoc2 _ _ HX.out.2.1 ?_, HY.out.2, HNX.out⟩
              have := HE5.out
              unfold strV at this
              rw [HNB.out trivial, HTB.out trivial, HK.out trivial, HAL.out trivial] at this
              exact this
            first
              | exact ⟨i + 1, _, _, rfl, by omega, by simp; omega, hid hfin⟩
              | ((repeat apply Exists.intro); exact ⟨⟨i + 1, _, _, rfl, by omega, by simp; omega, hid hfin⟩, rfl⟩)
          case measure => simp [RowKit.intOf]; omega
      | true =>
        obtain ⟨bt, hbt⟩ : ∃ bt, l[i] = .text bt := by
          cases hh : l[i] with
          | text b => exact ⟨b, rfl⟩
          | start n a => rw [hh] at htx; cases htx
          | stop n => rw [hh] at htx; cases htx
        have hin := HX.out.2.2.2.begin (by rw [List.getElem?_eq_getElem hlt, hbt])
        have htb2 := HTB.out trivial
        have hnb2 := HNB.out trivial
        have hst := tot_step l i hlt
        have he5 := HE5.out
        rw [hbt] at a0 a2 htb2 hnb2 hst he5
        obtain ⟨⟨_, _, hsl, _⟩, _⟩ := he5
        simp only [Value.slice.injEq] at hsl
        obtain ⟨rfl, _, rfl⟩ := hsl
        have hnb3 : nb = ⟨#[]⟩ := hnb2.symm
        subst hnb3
        have htl : tb.data.toList = bt := by rw [← htb2]; rfl
        have hbz : bt.length = tb.size := by rw [size_eq, htl]
        have htd : tot (l.drop i) ≤ 100000000000 := Nat.le_trans (tot_drop l i) HT.out
        simp only [evT] at hst
        have hb0 : bt.length + tot (l.drop (i + 1)) ≤ 100000000000 := by omega
        change wr.cell? ⟨g, i * 4, none⟩ = some (.int .i64 3) at a0
        change wr.cell? ⟨g, i * 4 + 2, none⟩ = some (.slice none 0 0) at a2
        have hW1s : (wr.alloc (.cells #[.int .i64 3, .string ⟨#[]⟩, .slice none 0 0, .string tb] 36)).heap.size = wr.heap.size + 1 := by simp
        have heb : (wr.alloc (.cells #[.int .i64 3, .string ⟨#[]⟩, .slice none 0 0, .string tb] 36)).heap[wr.heap.size]? = some (.cells #[.int .i64 3, .string ⟨#[]⟩, .slice none 0 0, .string tb] 36 (0, 0)) := heap_alloc_new wr _
        have hown1 := hown.alloc (.cells #[.int .i64 3, .string ⟨#[]⟩, .slice none 0 0, .string tb] 36)
        have hbl1 := HX.out.2.2.1.alloc hlo (.cells #[.int .i64 3, .string ⟨#[]⟩, .slice none 0 0, .string tb] 36)
        have hne : (Value.slice op O.length oc).ownBlock ≠ some wr.heap.size := fun hh => by have := (hown.lt _ hh).2; omega
        generalize hW1 : wr.alloc (.cells #[.int .i64 3, .string ⟨#[]⟩, .slice none 0 0, .string tb] 36) = W1 at hW1s heb hown1 hbl1
        have hconv := Go.Lib.run_convert_string_bytes (P := Tryd.prog) W1 9 29 5 tb Tryd.underlying9 Tryd.underlying29 Tryd.underlying5
        have hbo := ownsN_bytes W1 5 tb (by unfold maxLen; omega)
        have hold := bytesWorld_at_old W1 5 tb
        have hzz := bytesWorld_size W1 5 tb
        have hg0 : W1.grownBy (bytesWorld W1 5 tb) none := ⟨rfl, rfl, rfl, by rw [hzz]; omega, fun k hk _ => hold k hk⟩
        generalize bytesWorld W1 5 tb = W2 at hconv hbo hold hzz hg0
        generalize grownCap W1 tb.size 0 5 = cap at hconv hbo
        change ownsN W2 5 W1.heap.size tb.size cap (byteCells tb.data.toList) at hbo
        rw [htl, ← hbz] at hbo
        rw [← hbz, hW1s, ← hW1] at hconv
        rw [hW1s] at hbo
        have heb2 := (hold wr.heap.size (by omega)).trans heb
        have hown2 := hown1.kept hg0 (Classical.em _)
        have hbl2 : Below w.heap.size w W2 := hbl1.trans ⟨hg0.os, hg0.tape, hg0.output, hg0.size, fun k hk => hg0.block k (by omega) (by simp)⟩
        have HI := hid (And.intro hbo (And.intro hown2 (And.intro heb2 (And.intro hbl2 (And.intro hin (And.intro hb0 hne))))))
        clear hbo hown2 heb2 hbl2 hin hb0 hold hzz hg0 heb hown1 hbl1 hW1s hst htd htl htb2 hnb2 HTB HNB HONE htx hW1 hown hA4 hA5 hbz
        obtain ⟨eb, heb⟩ : ∃ eb, wr.heap.size = eb := ⟨_, rfl⟩
        rw [heb] at hconv HI
        have hneE := HI.out.2.2.2.2.2.2
        have hebl : w.heap.size ≤ eb := by omega
        have hneq : (Value.slice op O.length oc).ownBlock ≠ some eb := hneE
        clear hneE hne
        go_wp2
        clear a0 a1 a2 a3
        obtain ⟨wo, hwo⟩ : ∃ wo : World, wo = wr := ⟨_, rfl⟩
        go_loopw [4, 6] (fun jv bv wr => ∃ (j gb cb : Nat) (Bt : List UInt8), jv = .int .i64 j ∧ bv = .slice (some ⟨gb, 0, none⟩) Bt.length cb ∧ i + 1 ≤ j ∧ j ≤ l.length ∧ Hid (ownsN wr 5 gb Bt.length cb (byteCells Bt) ∧ w.heap.size ≤ gb ∧ wr.ownsRow w.heap.size 36 4 (.slice op O.length oc) O.length ys ∧ wr.heap[eb]? = some (.cells #[.int .i64 3, .string ⟨#[]⟩, .slice none 0 0, .string tb] 36 (0, 0)) ∧ Below w.heap.size w wr ∧ JoinIn O l J j Bt ∧ Bt.length + tot (l.drop j) ≤ 100000000000)) (fun jv _ _ => l.length - (RowKit.intOf jv).toNat)
        case atStart =>
          obtain ⟨i1, i2, i3, i4, i5, i6, _⟩ := HI.out
          exact ⟨i + 1, eb + 1, cap, bt, rfl, rfl, Nat.le_refl _, by omega, hid ⟨i1, by omega, i2, i3, i4, i5, i6⟩⟩
        case round =>
          obtain ⟨j, gb, cb, Bt, rfl, rfl, hj1, hj2, HB⟩ := hrel
          obtain ⟨hN, hgb, hOw, hEb, hBl, hJin, htt⟩ := HB.out
          clear HB HI hconv hwo
          by_cases hjl : j < l.length
          · obtain ⟨g', ca', a', hv', _, hg2', b0, b1, b2, b3, b4, b5⟩ := ev_cells HH.out.1 HH.out.2 j hjl
            cases hv'
            have c0 := cell_low b0 hBl hg2'
            have c3 := cell_low b3 hBl hg2'
            clear b0 b1 b2 b3 b4 b5
            cases htj : isText l[j] with
            | true =>
              obtain ⟨b2, hb2⟩ : ∃ b2, l[j] = .text b2 := by
                cases hh : l[j] with
                | text b => exact ⟨b, rfl⟩
                | start n a => rw [hh] at htj; cases htj
                | stop n => rw [hh] at htj; cases htj
              have hmore := hJin.more (by rw [List.getElem?_eq_getElem hjl, hb2])
              have hst := tot_step l j hjl
              rw [hb2] at c0 c3 hst
              simp only [evT] at hst
              change wr.cell? ⟨g, j * 4, none⟩ = some (.int .i64 3) at c0
              change wr.cell? ⟨g, j * 4 + 3, none⟩ = some (strV b2) at c3
              obtain ⟨tb2, htb2⟩ : ∃ tb2 : ByteArray, (⟨b2.toArray⟩ : ByteArray) = tb2 := ⟨_, rfl⟩
              unfold strV at c3
              rw [htb2] at c3
              have htz : tb2.size = b2.length := by rw [← htb2]; rfl
              have hbnd : Bt.length + tb2.size ≤ 140737488355328 := by omega
              have hwj : IntKind.i64.wrap ((j : Int) + 1) = ((j + 1 : Nat) : Int) := by rw [IntKind.wrap_i64]; omega
              have hEbN : eb ≠ gb := blockN_ne hEb hN (by decide)
              have hOwN := rowN_ne hOw hN (by decide)
              have HM := hid (And.intro hmore (And.intro hBl (And.intro hOw (And.intro hEb (And.intro (show Bt.length + b2.length + tot (l.drop (j + 1)) ≤ 100000000000 by omega) htb2)))))
              have hbd := hid hbnd
              have hsz9 := hBl.size
              have htzH := hid (fun (_ : True) => htz)
              clear hmore hBl hOw hEb htt hst hJin htj hb2 htz htb2 hbnd
              go_wp2_with (at_builtin; refine wpList_append_marked _ rfl (.tmp 35) (.tmp 40) 29 9 rfl 5 ub Tryd.underlying29 Tryd.underlying9 hub hub0 hub1 hub2 gb Bt.length cb (byteCells Bt) rfl (by exact hN) tb2 rfl hbd.out ?_)
              intro gb2 cb2 W4 ho4 hgr4 hor4
              obtain ⟨m1, m2, m3, m4, m5, m6⟩ := HM.out
              have hOw4 := m3.kept hgr4 (.inr hOwN)
              have hEb4 := (hgr4.block eb (Array.getElem?_eq_some_iff.1 m4).1 (by first | (simp; done) | (simp; omega))).trans m4
              have hBl4 : Below w.heap.size w W4 := m2.trans ⟨hgr4.os, hgr4.tape, hgr4.output, hgr4.size, fun k hk => hgr4.block k (by omega) (by first | (simp; done) | (simp; omega))⟩
              have hgb4 : w.heap.size ≤ gb2 := by rcases hor4 with h | h <;> omega
              have ho5 : ownsN W4 5 gb2 (Bt ++ b2).length cb2 (byteCells (Bt ++ b2)) := by
                rw [byteCells_append, List.length_append, ← htzH.out trivial]
                rw [← m6] at ho4 ⊢
                exact ho4
              have HF := hid (And.intro ho5 (And.intro hgb4 (And.intro hOw4 (And.intro hEb4 (And.intro hBl4 (And.intro m1 (show (Bt ++ b2).length + tot (l.drop (j + 1)) ≤ 100000000000 by rw [List.length_append]; exact m5)))))))
              have hlen4 : Bt.length + tb2.size = (Bt ++ b2).length := by rw [List.length_append, ← htzH.out trivial]
              have HL4 := hid (fun (_ : True) => hlen4)
              clear ho4 ho5 hgr4 hOw4 hEb4 hBl4 m1 m2 m3 m4 m5 m6 hlen4 hN
              go_wp2
              go_roundw
              case rel => exact ⟨j + 1, gb2, cb2, Bt ++ b2, rfl, by rw [← HL4.out trivial], by omega, by omega, HF⟩
              case measure => simp [RowKit.intOf]; omega
            | false =>
              have hstop : ∀ e, l[j]? = some e → isText e = false := fun e he => by
                rw [List.getElem?_eq_getElem hjl] at he
                cases he
                exact htj
              have q : (((evK l[j] : Nat) : Int) == 3) = false := by
                cases hh : l[j] with
                | text b => rw [hh] at htj; cases htj
                | start n a => rfl
                | stop n => rfl
              generalize ((evK l[j] : Nat) : Int) = K2 at c0 q
              clear htj c3
              have hcv := ownsN_text hN
              have e0 := cell_at hEb (j := 0) rfl
              have e1 := cell_at hEb (j := 1) rfl
              have e2 := cell_at hEb (j := 2) rfl
              have e3 := cell_at hEb (j := 3) rfl
              have ef3 := free_at hEb 3
              obtain ⟨Bb, hBb⟩ : ∃ Bb : ByteArray, (⟨Bt.toArray⟩ : ByteArray) = Bb := ⟨_, rfl⟩
              rw [hBb] at hcv
              have hownS := row_set hOw hneq 3 (.string Bb)
              have hblS : Below w.heap.size w (wr.setCell ⟨eb, 3, none⟩ (.string Bb)) := hBl.setCell hebl _
              have hA4 := hid (show O.length + 1 ≤ maxLen by unfold maxLen; omega)
              have hA5 := hid (show (O.length + 1) * 64 ≤ 140737488355328 by omega)
              have hnx := hJin.stop hstop
              have HZ := hid (And.intro hblS hnx)
              have hszw : w.heap.size ≤ wr.heap.size := hBl.size
              clear hN hEb hOw hBl hblS hnx hJin hstop htt
              go_wp2_with (at_builtin; refine wpList_append_own _ rfl (.tmp 47) (.tmp 49) 26 rfl w.heap.size 36 i0 (.agg #[.int .i64 0, .string ⟨#[]⟩, .slice none 0 0, .string ⟨#[]⟩]) 4 64 Tryd.underlying26 hi hz0 hz1 hz2 rfl (by decide) _ _ _ rfl (hownS.alloc _) ⟨_, 0, none⟩ 1 1 [.int .i64 3, .string ⟨#[]⟩, .slice none 0 0, .string Bb] rfl rfl (cells_newV3 _ _ _ _ _) (by simp [Value.oneCell']) hA4.out hA5.out ?_ ?_)
              · first | omega | (simp; omega)
              · intro v' w2 hown2 hgrow _
                have hb2 : Below w.heap.size w w2 := (HZ.out.1.alloc (by simp; omega) _).grown hgrow (by simp; omega) (fun j hj => (hownS.lt j hj).1)
                have HY := hid (And.intro hown2 hb2)
                clear hown2 hb2 hgrow hownS
                go_wp2
                go_roundw
                case rel =>
                  have hfin : w2.ownsRow w.heap.size 36 4 v' (O ++ [Ev.text Bt]).length (ys ++ [.int .i64 3, .string ⟨#[]⟩, .slice none 0 0, .string Bb]) ∧ EvsAt w B (ys ++ [.int .i64 3, .string ⟨#[]⟩, .slice none 0 0, .string Bb]) (O ++ [Ev.text Bt]) ∧ Below w.heap.size w w2 ∧ JoinAt (O ++ [Ev.text Bt]) l J j := by
                    refine ⟨by rw [List.length_append]; exact HY.out.1, evs_snoc2 _ _ HX.out.2.1 ⟨⟨rfl, rfl, rfl, by rw [← hBb]; rfl⟩, trivial⟩, HY.out.2, HZ.out.2⟩
                  first
                    | exact ⟨j, _, _, rfl, by omega, by simp; omega, hid hfin⟩
                    | ((repeat apply Exists.intro); exact ⟨⟨j, _, _, rfl, by omega, by simp; omega, hid hfin⟩, rfl⟩)
                case measure => simp [RowKit.intOf]; omega
          · have hstop : ∀ e, l[j]? = some e → isText e = false := fun e he => by
              have := (List.getElem?_eq_some_iff.1 he).1
              omega
            have hjn : ¬ (j : Int) < (l.length : Int) := by omega
            have hcv := ownsN_text hN
            have e0 := cell_at hEb (j := 0) rfl
            have e1 := cell_at hEb (j := 1) rfl
            have e2 := cell_at hEb (j := 2) rfl
            have e3 := cell_at hEb (j := 3) rfl
            have ef3 := free_at hEb 3
            obtain ⟨Bb, hBb⟩ : ∃ Bb : ByteArray, (⟨Bt.toArray⟩ : ByteArray) = Bb := ⟨_, rfl⟩
            rw [hBb] at hcv
            have hownS := row_set hOw hneq 3 (.string Bb)
            have hblS : Below w.heap.size w (wr.setCell ⟨eb, 3, none⟩ (.string Bb)) := hBl.setCell hebl _
            have hA4 := hid (show O.length + 1 ≤ maxLen by unfold maxLen; omega)
            have hA5 := hid (show (O.length + 1) * 64 ≤ 140737488355328 by omega)
            have hnx := hJin.stop hstop
            have HZ := hid (And.intro hblS hnx)
            have hszw : w.heap.size ≤ wr.heap.size := hBl.size
            clear hN hEb hOw hBl hblS hnx hJin hstop htt
            go_wp2_with (at_builtin; refine wpList_append_own _ rfl (.tmp 47) (.tmp 49) 26 rfl w.heap.size 36 i0 (.agg #[.int .i64 0, .string ⟨#[]⟩, .slice none 0 0, .string ⟨#[]⟩]) 4 64 Tryd.underlying26 hi hz0 hz1 hz2 rfl (by decide) _ _ _ rfl (hownS.alloc _) ⟨_, 0, none⟩ 1 1 [.int .i64 3, .string ⟨#[]⟩, .slice none 0 0, .string Bb] rfl rfl (cells_newV3 _ _ _ _ _) (by simp [Value.oneCell']) hA4.out hA5.out ?_ ?_)
            · first | omega | (simp; omega)
            · intro v' w2 hown2 hgrow _
              have hb2 : Below w.heap.size w w2 := (HZ.out.1.alloc (by simp; omega) _).grown hgrow (by simp; omega) (fun j hj => (hownS.lt j hj).1)
              have HY := hid (And.intro hown2 hb2)
              clear hown2 hb2 hgrow hownS
              go_wp2
              go_roundw
              case rel =>
                have hfin : w2.ownsRow w.heap.size 36 4 v' (O ++ [Ev.text Bt]).length (ys ++ [.int .i64 3, .string ⟨#[]⟩, .slice none 0 0, .string Bb]) ∧ EvsAt w B (ys ++ [.int .i64 3, .string ⟨#[]⟩, .slice none 0 0, .string Bb]) (O ++ [Ev.text Bt]) ∧ Below w.heap.size w w2 ∧ JoinAt (O ++ [Ev.text Bt]) l J j := by
                  refine ⟨by rw [List.length_append]; exact HY.out.1, evs_snoc2 _ _ HX.out.2.1 ⟨⟨rfl, rfl, rfl, by rw [← hBb]; rfl⟩, trivial⟩, HY.out.2, HZ.out.2⟩
                first
                  | exact ⟨j, _, _, rfl, by omega, by simp; omega, hid hfin⟩
                  | ((repeat apply Exists.intro); exact ⟨⟨j, _, _, rfl, by omega, by simp; omega, hid hfin⟩, rfl⟩)
              case measure => simp [RowKit.intOf]; omega
    · have hOJ := HX.out.2.2.2.over (by omega)
      go_wp2
      go_ret
      rw [← hOJ]
      exact ⟨_, ys, rfl, HX.out.1, HX.out.2.1, HX.out.2.2.1⟩
end Go.Proofs.YtolbahmihkdmiaaDoor

/-
  The reader's read: its walk.
-/
namespace Go.Proofs.YtolbahmihkdmiaaDoor
open Go.RowKit Go.Lib Own

def posOf (W : World) (b : Nat) : Nat := match W.cell? ⟨b, 2, none⟩ with
  | some v => (RowKit.intOf v).toNat
  | none => 0
theorem pos_of {W : World} {base b : Nat} {win : Int} {data : ByteArray} {k : Nat} {mode scan : Int} {eat : Bool} {evs : List Ev} {pend : List UInt8} (h : Rdr W base b win data k mode scan eat evs pend) : posOf W b = k := by
  unfold posOf
  rw [h.cells.1.c2]
  simp [RowKit.intOf]
/-- a run on its way -/
def ReadAt (win : Nat) (L : List UInt8) (k : Nat) (st : LS) (E : List Ev) (P : List UInt8) (sF : LS) (rest : List UInt8) (EF : List Ev) (PF : List UInt8) : Prop := ∃ it, runL win st (L.drop k) = (sF, rest, it) ∧ putAll (E, P) it = (EF, PF)
theorem ReadAt.done {win : Nat} {L : List UInt8} {k : Nat} {st : LS} {E : List Ev} {P : List UInt8} {sF : LS} {rest : List UInt8} {EF : List Ev} {PF : List UInt8} (h : ReadAt win L k st E P sF rest EF PF) (hW : 32 ≤ win) (h0 : st.scan ≤ 10) (hL : L.drop k ≠ []) {n : Nat} {st2 : LS} {it : List Item} (hs : stepL win st (L.drop k) = .done n st2 it) :
    ReadAt win L (k + n) st2 (putAll (E, P) it).1 (putAll (E, P) it).2 sF rest EF PF := by
  obtain ⟨it2, h1, h2⟩ := h
  rw [run_done hW h0 hL hs, List.drop_drop] at h1
  simp only [Prod.mk.injEq] at h1
  obtain ⟨rfl, rfl, rfl⟩ := h1
  refine ⟨_, rfl, ?_⟩
  rw [putAll_app] at h2
  exact h2
theorem ReadAt.more {win : Nat} {L : List UInt8} {k : Nat} {st : LS} {E : List Ev} {P : List UInt8} {sF : LS} {rest : List UInt8} {EF : List Ev} {PF : List UInt8} (h : ReadAt win L k st E P sF rest EF PF) (hL : L.drop k ≠ []) {n : Nat} {st2 : LS} (hs : stepL win st (L.drop k) = .more n st2) :
    sF = st2 ∧ rest = L.drop (k + n) ∧ E = EF ∧ P = PF := by
  obtain ⟨it2, h1, h2⟩ := h
  rw [run_more hL hs, List.drop_drop] at h1
  simp only [Prod.mk.injEq] at h1
  obtain ⟨rfl, rfl, rfl⟩ := h1
  have h3 : (E, P) = (EF, PF) := h2
  simp only [Prod.mk.injEq] at h3
  exact ⟨rfl, rfl, h3.1, h3.2⟩
theorem ReadAt.over {win : Nat} {L : List UInt8} {k : Nat} {st : LS} {E : List Ev} {P : List UInt8} {sF : LS} {rest : List UInt8} {EF : List Ev} {PF : List UInt8} (h : ReadAt win L k st E P sF rest EF PF) (hk : L.length ≤ k) :
    sF = st ∧ rest = [] ∧ E = EF ∧ P = PF := by
  obtain ⟨it2, h1, h2⟩ := h
  rw [List.drop_of_length_le hk, run_nil] at h1
  simp only [Prod.mk.injEq] at h1
  obtain ⟨rfl, rfl, rfl⟩ := h1
  have h3 : (E, P) = (EF, PF) := h2
  simp only [Prod.mk.injEq] at h3
  exact ⟨rfl, rfl, h3.1, h3.2⟩

set_option maxHeartbeats 4000000 in
set_option maxRecDepth 100000 in
theorem read_any (base b win : Nat) (data : ByteArray) (st : LS) (m : Int) (w : World) (h : Rdr w base b win data 0 st.mode st.scan st.eat [] []) (hd : data.size ≤ 4000000) (hW : 32 ≤ win) (hwin : win ≤ 4096) (hs : st.scan ≤ 10) (hm : st.mode ≤ 10) (hT : LexTabs base w m)
    (sF : LS) (rest : List UInt8) (EF : List Ev) (PF : List UInt8) (hR : ReadAt win data.data.toList 0 st [] [] sF rest EF PF) :
    Calls Tryd.prog 13 #[.pointer (some ⟨b, 0, none⟩)] w fun e w' => e = .returned (.tuple #[]) ∧
      Rdr w' base b win data ((data.size - rest.length : Nat) : Int) sF.mode sF.scan sF.eat EF PF ∧ Below base w w' := by
  have HH := hid h
  have HT := hid hT
  have HRA := hid hR
  clear h hT hR
  go_enter Tryd.func13, Tryd.ntmps13
  go_wp2_with fail
  go_loopw [] (fun wr => ∃ (k : Nat) (st1 : LS) (E : List Ev) (P : List UInt8), Hid (Rdr wr base b win data k st1.mode st1.scan st1.eat E P ∧ Below base w wr ∧ ReadAt win data.data.toList k st1 E P sF rest EF PF) ∧ k ≤ data.size ∧ st1.scan ≤ 10 ∧ st1.mode ≤ 10 ∧ E.length ≤ 2 * k ∧ P.length ≤ 4 * k) (fun wr => data.size - posOf wr b)
  case atStart => exact ⟨0, st, [], [], hid ⟨HH.out, Below.refl _ _, HRA.out⟩, Nat.zero_le _, hs, hm, Nat.zero_le _, Nat.zero_le _⟩
  case round =>
    obtain ⟨k, st1, E, P, HX, hk, hs1, hm1, hE, hP⟩ := hrel
    obtain ⟨⟨c0, c1, c2, c3, c4, c5⟩, _, _⟩ := HX.out.1.cells
    by_cases hlt : k < data.size
    · have hne : data.data.toList.drop k ≠ [] := fun e => by
        have := congrArg List.length e
        rw [List.length_drop, ← size_eq] at this
        simp at this
        omega
      have hstep := fun W hW1 hT1 => step_any base b win data k st1 E P m W ⟨hW1, by omega, hlt, hwin, by omega, by omega, hT1⟩ hs1 hm1
      have hpos := fun n st' it => step_pos (W := win) hW hs1 hne (n := n) (st' := st') (it := it)
      have hmore := fun n st' => step_more (W := win) hW hs1 hne (n := n) (st' := st')
      have hsm := fun n st' it => step_small (W := win) (st := st1) (L := data.data.toList.drop k) (n := n) (st' := st') (it := it)
      have hmo := step_mode (W := win) (L := data.data.toList.drop k) hm1
      have hdone := fun n st2 it => ReadAt.done HX.out.2.2 hW hs1 hne (n := n) (st2 := st2) (it := it)
      have hmo2 := fun n st2 => ReadAt.more HX.out.2.2 hne (n := n) (st2 := st2)
      cases hres : stepL win st1 (data.data.toList.drop k) with
      | more n st2 =>
        rw [hres] at hstep
        obtain ⟨rfl, hr2, rfl, rfl⟩ := hmo2 n st2 hres
        have hn := (hmore n sF hres).1
        have hrl : data.size - rest.length = k + n := by
          rw [hr2, List.length_drop, ← size_eq]
          rw [List.length_drop, ← size_eq] at hn
          omega
        have HRL := hid (fun (_ : True) => hrl)
        have HST := hid hstep
        clear hstep hpos hmore hsm hmo hdone hmo2 hres hne hn hrl hr2
        go_wp2_with fail
        go_region_law (go_simp; go_at_call 18; refine (HST.out _ (by exact HX.out.1.drew) (by exact (HT.out.below HX.out.2.1).drewN 1)).mono ?_; rintro e w3 ⟨rfl, h3, b3⟩)
        all_goals
          go_wp2
          go_end0
          exact ⟨rfl, by rw [HRL.out trivial]; exact h3, HX.out.2.1.trans ⟨b3.os, b3.tape, b3.output, b3.size, b3.block⟩⟩
      | done n st2 it =>
        rw [hres] at hstep
        obtain ⟨p1, p2, p3⟩ := hpos n st2 it hres
        rw [List.length_drop, ← size_eq] at p2
        have hsm2 := small_put (hsm n st2 it hres) p1 (E, P)
        have hmd := hmo.2 n st2 it hres
        have hdn := hdone n st2 it hres
        simp only at hsm2
        have HST := hid hstep
        have HDN := hid hdn
        clear hstep hpos hmore hsm hmo hdone hmo2 hres hne hdn
        go_wp2_with fail
        go_region_law (go_simp; go_at_call 18; refine (HST.out _ (by exact HX.out.1.drew) (by exact (HT.out.below HX.out.2.1).drewN 1)).mono ?_; rintro e w3 ⟨rfl, h3, b3⟩)
        all_goals
          have hp1 := pos_of HX.out.1
          have hp2 := pos_of h3
          have HX3 := hid (And.intro h3 (And.intro (HX.out.2.1.trans ⟨b3.os, b3.tape, b3.output, b3.size, b3.block⟩) HDN.out))
          clear h3 b3
          go_wp2
          go_roundw
          case rel =>
            have g1 : k + n ≤ data.size := by omega
            have g2 : (putAll (E, P) it).1.length ≤ 2 * (k + n) := by omega
            have g3 : (putAll (E, P) it).2.length ≤ 4 * (k + n) := by omega
            (repeat apply Exists.intro)
            exact ⟨⟨_, _, _, _, HX3, g1, p3, hmd, g2, g3⟩, rfl⟩
          case measure => omega
    · have hk' : k = data.size := by omega
      obtain ⟨rfl, rfl, rfl, rfl⟩ := HX.out.2.2.over (by rw [← size_eq]; omega)
      have HRL : Hid (True → data.size - ([] : List UInt8).length = k) := hid (fun _ => by rw [List.length_nil]; omega)
      have hnl : ¬ (k : Int) < (data.size : Int) := by omega
      go_wp2_with fail
      go_quiet (fail)
      go_wp2
      go_end0
      exact ⟨rfl, by rw [HRL.out trivial]; exact HX.out.1.drewN _, HX.out.2.1.trans (below_drewN (Below.refl base wr) _)⟩
end Go.Proofs.YtolbahmihkdmiaaDoor

/-
  The reader's end: its walk.
-/
namespace Go.Proofs.YtolbahmihkdmiaaDoor
open Go.RowKit Go.Lib Own

theorem below_drew2 {base : Nat} {w w' : World} (n : Nat) (h : Below base (w.drewN n) w') : Below base w w' := (below_drewN (Below.refl base w) n).trans h
/-- the bytes from k on, each a unit -/
def BytesAt (L : List UInt8) (k : Nat) (st : LS) (E : List Ev) (P PF : List UInt8) : Prop := putAll (E, P) (bytesL st (L.drop k)) = (E, PF)
theorem BytesAt.next {L : List UInt8} {k : Nat} {st : LS} {E : List Ev} {P PF : List UInt8} (h : BytesAt L k st E P PF) {x : UInt8} (hx : L[k]? = some x) : BytesAt L (k + 1) ⟨st.mode, st.scan, false⟩ E (if st.eat = true ∧ [x] = [10] then P else P ++ [x]) PF := by
  obtain ⟨h1, h2⟩ := List.getElem?_eq_some_iff.1 hx
  unfold BytesAt at h ⊢
  rw [List.drop_eq_getElem_cons h1, h2, bytesL, putAll_app, put_unit] at h
  exact h
theorem BytesAt.over {L : List UInt8} {k : Nat} {st : LS} {E : List Ev} {P PF : List UInt8} (h : BytesAt L k st E P PF) (hk : L.length ≤ k) : P = PF := by
  unfold BytesAt at h
  rw [List.drop_of_length_le hk, bytesL] at h
  have h3 : (E, P) = (E, PF) := h
  simpa using h3
theorem bytes_put (E : List Ev) : ∀ (L : List UInt8) (st : LS) (P : List UInt8), ∃ PF, putAll (E, P) (bytesL st L) = (E, PF)
  | [], st, P => ⟨P, rfl⟩
  | c :: r, st, P => by
    rw [bytesL, putAll_app, put_unit]
    exact bytes_put E r _ _

set_option maxHeartbeats 8000000 in
set_option maxRecDepth 100000 in
theorem end_any (base b win : Nat) (data : ByteArray) (pos : Nat) (st : LS) (evs : List Ev) (pend : List UInt8) (m : Int) (w : World) (h : Rdr w base b win data pos st.mode st.scan st.eat evs pend) (hd : data.size ≤ 4000000) (hp : pos ≤ data.size) (hs : st.scan ≤ 10) (hm : st.mode ≤ 10) (hpl : pend.length ≤ 17000000) (hT : LexTabs base w m) :
    Calls Tryd.prog 16 #[.pointer (some ⟨b, 0, none⟩)] w fun e w' => e = .returned (.tuple #[]) ∧
      (∃ (pos' mode' scan' : Int) (eat' : Bool) (PF : List UInt8), Rdr w' base b win data pos' mode' scan' eat' evs PF ∧ putAll (evs, pend) (endL st (data.data.toList.drop pos)) = (evs, PF)) ∧ Below base w w' := by
  obtain ⟨mode, scan, eat⟩ := st
  simp only at h hs hm
  have hll : (data.data.toList.drop pos).length = data.size - pos := by rw [List.length_drop, ← size_eq]
  obtain ⟨⟨c0, c1, c2, c3, c4, c5⟩, _, _⟩ := h.cells
  have HH := hid h
  have HT := hid hT
  by_cases hp0 : pos = data.size
  · have hnil : data.data.toList.drop pos = [] := List.drop_of_length_le (by rw [← size_eq]; omega)
    have hE : endL ⟨mode, scan, eat⟩ (data.data.toList.drop pos) = [] := by rw [hnil]; rfl
    rw [hE]
    have q1 : ((pos : Int) == (data.size : Int)) = true := beq_iff_eq.2 (by omega)
    clear hE hnil hll h hT hp0
    go_enter Tryd.func16, Tryd.ntmps16
    go_wp2_with fail
    go_quiet (fail)
    go_wp2
    refine bodyPost_ret (v := .tuple #[]) ?_ rfl ⟨rfl, ⟨_, _, _, _, pend, HH.out.drewN _, rfl⟩, below_drewN (Below.refl base w) _⟩
    simp [results, Tryd.results16]
  · have hne : data.data.toList.drop pos ≠ [] := fun e => by rw [e] at hll; simp at hll; omega
    have q1 : ((pos : Int) == (data.size : Int)) = false := beq_eq_false_iff_ne.2 (by omega)
    have hlt : pos < data.size := by omega
    by_cases hsc : scan = 0
    · subst hsc
      have q2 : (((0 : Nat) : Int) != 0) = false := rfl
      obtain ⟨t, ht⟩ : ∃ t : ByteArray, data.extract pos data.size = t := ⟨_, rfl⟩
      have htl : t.data.toList = data.data.toList.drop pos := by rw [← ht]; exact extract_to_end data pos
      have htz : t.size = data.size - pos := by rw [← ht, ByteArray.size_extract]; omega
      have h0s : 0 < t.size := by omega
      obtain ⟨x, hx⟩ : ∃ x, t[0]'h0s = x := ⟨_, rfl⟩
      have hlx := getElem_list h0s hx
      have hg0 : (data.data.toList.drop pos).getD 0 0 = x := by rw [← htl, List.getD_eq_getElem?_getD, hlx]; rfl
      have hTL : t.toList = t.data.toList := Lib.toList_data t
      by_cases h38 : x = 38
      · have hE : endL ⟨mode, 0, eat⟩ (data.data.toList.drop pos) = unitL2 ⟨mode, 0, eat⟩ (unr false (data.data.toList.drop pos)) := by
          unfold endL
          rw [if_neg (fun h => h.elim hne (fun h => h rfl)), hg0, if_pos h38]
        rw [hE, put_unit]
        have r1 : ((x.toNat : Int) == 38) = true := by rw [h38]; rfl
        have hun := fun W hTW hmW => unref_any t false m W (by omega) hTW hmW
        rw [htl] at hun
        obtain ⟨U, hU⟩ : ∃ U, unr false (data.data.toList.drop pos) = U := ⟨_, rfl⟩
        have hul : U.length ≤ 4 * (data.data.toList.drop pos).length := by rw [← hU]; exact unr_len false _ _ (Nat.le_refl _)
        rw [hU] at hun ⊢
        obtain ⟨ub, hub⟩ : ∃ ub : ByteArray, (⟨U.toArray⟩ : ByteArray) = ub := ⟨_, rfl⟩
        have hubl : ub.data.toList = U := by rw [← hub]
        have hubz : ub.size ≤ 40000000 := by rw [size_eq, hubl]; omega
        rw [hub] at hun
        have hunit := fun W hW => unit_any base b win data pos mode 0 eat evs pend ub W hW (by omega)
        rw [hubl] at hunit
        simp only
        generalize (if eat = true ∧ U = [10] then pend else pend ++ U) = P at hunit ⊢
        have HU := hid hun
        have HN := hid hunit
        clear hun hunit hE hU hul hub hubl hubz hll h hT hne hTL hg0 hlx htl h38
        go_enter Tryd.func16, Tryd.ntmps16
        go_wp2_with fail
        go_quiet (fail)
        go_wp2_with fail
        go_quiet (fail)
        go_wp2_with (first | (go_at_call 22; refine (HU.out _ (by exact (HT.out.drewN _).ch) (by exact HT.out.max)).mono ?_; rintro e w1 ⟨rfl, b1⟩) | (go_at_call 21; refine (HN.out _ (by exact (HH.out.drewN _).below b1)).mono ?_; rintro e w2 ⟨rfl, r2, b2⟩))
        go_end0
        exact ⟨rfl, ⟨_, _, _, _, P, r2, rfl⟩, below_drew2 _ ((b1.mono HH.out.size).trans b2)⟩
      · have r1 : ((x.toNat : Int) == 38) = false := beq_eq_false_iff_ne.2 (fun e => h38 (UInt8.toNat_inj.1 (by simp; omega)))
        by_cases hm0 : mode = 0
        · subst hm0
          have q3 : (((0 : Nat) : Int) == 0) = true := rfl
          have q4 : (((0 : Nat) : Int) == 1) = false := rfl
          by_cases hin : data.data.toList.drop pos = [60] ∨ data.data.toList.drop pos = [60, 47]
          · have hE : endL ⟨0, 0, eat⟩ (data.data.toList.drop pos) = bytesL ⟨0, 0, eat⟩ (data.data.toList.drop pos) := by
              unfold endL
              rw [if_neg (fun h => h.elim hne (fun h => h rfl)), hg0, if_neg h38, if_pos (.inl ⟨rfl, hin⟩)]
            obtain ⟨PF, hPF⟩ := bytes_put evs (data.data.toList.drop pos) ⟨0, 0, eat⟩ pend
            have HBY : Hid (BytesAt data.data.toList pos ⟨0, 0, eat⟩ evs pend PF) := hid hPF
            have HBF : Hid (putAll (evs, pend) (endL ⟨0, 0, eat⟩ (data.data.toList.drop pos)) = (evs, PF)) := hid (by rw [hE]; exact hPF)
            have hor : (t.toList == [60]) = true ∨ (t.toList == [60]) = false ∧ (t.toList == [60, 47]) = true := by
              rw [hTL, htl]
              rcases hin with e | e <;> rw [e] <;> decide
            clear hE hPF hin hTL hg0 hlx htl hne hll h hT
            rcases hor with q5 | ⟨q5, q6⟩
            all_goals
              go_enter Tryd.func16, Tryd.ntmps16
              go_wp2_with fail
              go_quiet (fail)
              go_wp2_with fail
              go_quiet (fail)
              go_wp2_with fail
              go_loopw [] (fun wr => ∃ (k : Nat) (eat1 : Bool) (P : List UInt8), Hid (Rdr wr base b win data k ((0 : Nat) : Int) 0 eat1 evs P ∧ Below base w wr ∧ BytesAt data.data.toList k ⟨0, 0, eat1⟩ evs P PF) ∧ pos ≤ k ∧ k ≤ data.size ∧ P.length ≤ pend.length + (k - pos)) (fun wr => data.size - posOf wr b)
              case atStart => exact ⟨pos, eat, pend, hid ⟨HH.out.drewN _, below_drewN (Below.refl base w) _, HBY.out⟩, Nat.le_refl _, hp, by omega⟩
              case round =>
                obtain ⟨k, eat1, P, HX, hk1, hk2, hPl⟩ := hrel
                obtain ⟨⟨d0, d1, d2, d3, d4, d5⟩, _, _⟩ := HX.out.1.cells
                by_cases hk : k < data.size
                · obtain ⟨y, hy⟩ : ∃ y, data[k]'hk = y := ⟨_, rfl⟩
                  have hly := getElem_list hk hy
                  have hrb := fun W hW => readByte_any base b win data k ((0 : Nat) : Int) 0 eat1 evs P W hW (by omega) (by omega) hk y hly
                  have hnx := HX.out.2.2.next hly
                  have HRB := hid hrb
                  have HNX := hid hnx
                  clear hrb hnx hy hly
                  go_wp2_with fail
                  go_quiet (fail)
                  go_wp2_with (go_at_call 24; refine (HRB.out _ (by exact HX.out.1.drewN nq)).mono ?_; rintro e w3 ⟨rfl, h3, b3⟩)
                  have hp1 := pos_of HX.out.1
                  have hp2 := pos_of (k := k + 1) h3
                  have hl3 : (if eat1 = true ∧ [y] = [10] then P else P ++ [y]).length ≤ P.length + 1 := by split <;> simp
                  have HX3 := hid (And.intro h3 (And.intro (HX.out.2.1.trans (below_drew2 _ b3)) HNX.out))
                  clear h3 b3
                  go_roundw
                  case rel =>
                    first
                      | exact ⟨k + 1, false, _, HX3, by omega, by omega, by omega⟩
                      | ((repeat apply Exists.intro); exact ⟨⟨k + 1, false, _, HX3, by omega, by omega, by omega⟩, rfl⟩)
                  case measure => omega
                · have hPP := HX.out.2.2.over (by rw [← size_eq]; omega)
                  subst hPP
                  go_wp2_with fail
                  go_quiet (fail)
                  go_wp2
                  go_end0
                  exact ⟨rfl, ⟨_, _, _, _, _, HX.out.1.drewN _, HBF.out⟩, HX.out.2.1.trans (below_drewN (Below.refl base wr) _)⟩
          · have hE : endL ⟨0, 0, eat⟩ (data.data.toList.drop pos) = [] := by
              unfold endL
              rw [if_neg (fun h => h.elim hne (fun h => h rfl)), hg0, if_neg h38, if_neg]
              rintro (h | h)
              · exact hin h.2
              · exact absurd h.1 (by simp)
            rw [hE]
            have q5 : (t.toList == [60]) = false := by rw [hTL, htl]; exact beq_eq_false_iff_ne.2 (fun e => hin (.inl e))
            have q6 : (t.toList == [60, 47]) = false := by rw [hTL, htl]; exact beq_eq_false_iff_ne.2 (fun e => hin (.inr e))
            clear hE hin hTL hg0 hlx htl hne hll h hT
            go_enter Tryd.func16, Tryd.ntmps16
            go_wp2_with fail
            go_quiet (fail)
            go_wp2_with fail
            go_quiet (fail)
            go_wp2
            go_end0
            exact ⟨rfl, ⟨_, _, _, _, pend, HH.out.drewN _, rfl⟩, below_drewN (Below.refl base w) _⟩
        · have q3 : ((mode : Int) == 0) = false := beq_eq_false_iff_ne.2 (by omega)
          by_cases hm1 : mode = 1
          · subst hm1
            have q4 : (((1 : Nat) : Int) == 1) = true := rfl
            have hown := fun W hW => ownEnd_any b win data pos 1 0 eat W hW (by omega) (by omega) (by omega) hp
            by_cases hO : ownL (60 :: 47 :: rawL 1) (data.data.toList.drop pos) = 1
            · have hE : endL ⟨1, 0, eat⟩ (data.data.toList.drop pos) = bytesL ⟨1, 0, eat⟩ (data.data.toList.drop pos) := by
                unfold endL
                rw [if_neg (fun h => h.elim hne (fun h => h rfl)), hg0, if_neg h38, if_pos (.inr ⟨rfl, hO⟩)]
              obtain ⟨PF, hPF⟩ := bytes_put evs (data.data.toList.drop pos) ⟨1, 0, eat⟩ pend
              have HBY : Hid (BytesAt data.data.toList pos ⟨1, 0, eat⟩ evs pend PF) := hid hPF
              have HBF : Hid (putAll (evs, pend) (endL ⟨1, 0, eat⟩ (data.data.toList.drop pos)) = (evs, PF)) := hid (by rw [hE]; exact hPF)
              rw [hO] at hown
              have HOW := hid hown
              clear hE hPF hTL hg0 hlx htl hne hll h hT hown hO hm0
              go_enter Tryd.func16, Tryd.ntmps16
              go_wp2_with fail
              go_quiet (fail)
              go_wp2_with fail
              go_quiet (fail)
              go_wp2_with (go_at_call 23; refine (HOW.out _ (by exact (HH.out.drewN _).cells.1)).mono ?_; rintro e w3 ⟨rfl, nd, rfl⟩)
              go_loopw [] (fun wr => ∃ (k : Nat) (eat1 : Bool) (P : List UInt8), Hid (Rdr wr base b win data k ((1 : Nat) : Int) 0 eat1 evs P ∧ Below base w wr ∧ BytesAt data.data.toList k ⟨1, 0, eat1⟩ evs P PF) ∧ pos ≤ k ∧ k ≤ data.size ∧ P.length ≤ pend.length + (k - pos)) (fun wr => data.size - posOf wr b)
              case atStart => exact ⟨pos, eat, pend, hid ⟨HH.out.drewN _, below_drewN (Below.refl base w) _, HBY.out⟩, Nat.le_refl _, hp, by omega⟩
              case round =>
                obtain ⟨k, eat1, P, HX, hk1, hk2, hPl⟩ := hrel
                obtain ⟨⟨d0, d1, d2, d3, d4, d5⟩, _, _⟩ := HX.out.1.cells
                by_cases hk : k < data.size
                · obtain ⟨y, hy⟩ : ∃ y, data[k]'hk = y := ⟨_, rfl⟩
                  have hly := getElem_list hk hy
                  have hrb := fun W hW => readByte_any base b win data k ((1 : Nat) : Int) 0 eat1 evs P W hW (by omega) (by omega) hk y hly
                  have hnx := HX.out.2.2.next hly
                  have HRB := hid hrb
                  have HNX := hid hnx
                  clear hrb hnx hy hly
                  go_wp2_with fail
                  go_quiet (fail)
                  go_wp2_with (go_at_call 24; refine (HRB.out _ (by exact HX.out.1.drewN nq)).mono ?_; rintro e w3 ⟨rfl, h3, b3⟩)
                  have hp1 := pos_of HX.out.1
                  have hp2 := pos_of (k := k + 1) h3
                  have hl3 : (if eat1 = true ∧ [y] = [10] then P else P ++ [y]).length ≤ P.length + 1 := by split <;> simp
                  have HX3 := hid (And.intro h3 (And.intro (HX.out.2.1.trans (below_drew2 _ b3)) HNX.out))
                  clear h3 b3
                  go_roundw
                  case rel =>
                    first
                      | exact ⟨k + 1, false, _, HX3, by omega, by omega, by omega⟩
                      | ((repeat apply Exists.intro); exact ⟨⟨k + 1, false, _, HX3, by omega, by omega, by omega⟩, rfl⟩)
                  case measure => omega
                · have hPP := HX.out.2.2.over (by rw [← size_eq]; omega)
                  subst hPP
                  go_wp2_with fail
                  go_quiet (fail)
                  go_wp2
                  go_end0
                  exact ⟨rfl, ⟨_, _, _, _, _, HX.out.1.drewN _, HBF.out⟩, HX.out.2.1.trans (below_drewN (Below.refl base wr) _)⟩
            · have hE : endL ⟨1, 0, eat⟩ (data.data.toList.drop pos) = [] := by
                unfold endL
                rw [if_neg (fun h => h.elim hne (fun h => h rfl)), hg0, if_neg h38, if_neg]
                rintro (h | h)
                · exact absurd h.1 (by simp)
                · exact hO h.2
              rw [hE]
              generalize ownL (60 :: 47 :: rawL 1) (data.data.toList.drop pos) = O at hown hO
              have q5 : ((O : Int) == 1) = false := beq_eq_false_iff_ne.2 (by omega)
              have HOW := hid hown
              clear hE hTL hg0 hlx htl hne hll h hT hown hO hm0
              go_enter Tryd.func16, Tryd.ntmps16
              go_wp2_with fail
              go_quiet (fail)
              go_wp2_with fail
              go_quiet (fail)
              go_wp2_with (go_at_call 23; refine (HOW.out _ (by exact (HH.out.drewN _).cells.1)).mono ?_; rintro e w3 ⟨rfl, nd, rfl⟩)
              go_end0
              exact ⟨rfl, ⟨_, _, _, _, pend, HH.out.drewN _, rfl⟩, below_drewN (Below.refl base w) _⟩
          · have q4 : ((mode : Int) == 1) = false := beq_eq_false_iff_ne.2 (by omega)
            have hE : endL ⟨mode, 0, eat⟩ (data.data.toList.drop pos) = [] := by
              unfold endL
              rw [if_neg (fun h => h.elim hne (fun h => h rfl)), hg0, if_neg h38, if_neg]
              rintro (h | h)
              · exact hm0 h.1
              · exact hm1 h.1
            rw [hE]
            clear hE hTL hg0 hlx htl hne hll h hT hm0 hm1
            go_enter Tryd.func16, Tryd.ntmps16
            go_wp2_with fail
            go_quiet (fail)
            go_wp2_with fail
            go_quiet (fail)
            go_wp2
            go_end0
            exact ⟨rfl, ⟨_, _, _, _, pend, HH.out.drewN _, rfl⟩, below_drewN (Below.refl base w) _⟩
    · have hE : endL ⟨mode, scan, eat⟩ (data.data.toList.drop pos) = [] := by unfold endL; rw [if_pos (.inr hsc)]
      rw [hE]
      have q2 : ((scan : Int) != 0) = true := by rw [bne, beq_eq_false_iff_ne.2 (by omega)]; rfl
      clear hE hne hll h hT hp0 hlt hsc
      go_enter Tryd.func16, Tryd.ntmps16
      go_wp2_with fail
      go_quiet (fail)
      go_wp2
      refine bodyPost_ret (v := .tuple #[]) ?_ rfl ⟨rfl, ⟨_, _, _, _, pend, HH.out.drewN _, rfl⟩, below_drewN (Below.refl base w) _⟩
      simp [results, Tryd.results16]
end Go.Proofs.YtolbahmihkdmiaaDoor

/-
  The reader's making and its state: their walks.
-/
namespace Go.Proofs.YtolbahmihkdmiaaDoor
open Go.RowKit Go.Lib Own

set_option maxHeartbeats 2000000 in
theorem allowed_any (win mode scan : Nat) (eat : Bool) (held : ByteArray) (w : World) (h1 : 32 ≤ win) (h2 : win ≤ 4096) (h3 : mode ≤ 10) (h4 : scan ≤ 10) :
    Calls Tryd.prog 11 #[.int .i64 win, .agg #[.int .i64 mode, .int .i64 scan, .bool eat, .string held]] w fun e w' => e = .returned (.bool true) ∧ Below w.heap.size w w' := by
  have q1 : (32 : Int) ≤ (win : Int) := by omega
  have q2 : (win : Int) ≤ 4096 := by omega
  have q3 : (0 : Int) ≤ (mode : Int) := by omega
  have q4 : (mode : Int) ≤ 10 := by omega
  have q5 : (0 : Int) ≤ (scan : Int) := by omega
  have q6 : (scan : Int) ≤ 10 := by omega
  go_enter Tryd.func11, Tryd.ntmps11
  go_wp2
  go_ret
  exact ⟨rfl, (Below.refl _ _).alloc (Nat.le_refl _) _⟩

set_option maxHeartbeats 2000000 in
theorem new_any (win : Int) (mode scan : Int) (eat : Bool) (held text data : ByteArray) (hda : held ++ text = data) (hlen : held.size + text.size ≤ 10000000) (w : World) :
    Calls Tryd.prog 12 #[.int .i64 win, .agg #[.int .i64 mode, .int .i64 scan, .bool eat, .string held], .string text] w fun e w' => ∃ b, e = .returned (.pointer (some ⟨b, 0, none⟩)) ∧
      Rdr w' w.heap.size b win data 0 mode scan eat [] [] ∧ Below w.heap.size w w' := by
  have hno : ¬ 9223372036854775807 < held.size + text.size := by omega
  go_enter Tryd.func12, Tryd.ntmps12
  go_wp2
  go_ret
  have hb : Below w.heap.size w ((w.alloc (.cells #[.int .i64 mode, .int .i64 scan, .bool eat, .string held] 25)).alloc (.cells (rdC win data 0 mode scan eat (.slice none 0 0) (.pointer none) (.slice none 0 0)) 49)) :=
    ((Below.refl w.heap.size w).alloc (Nat.le_refl _) _).alloc (by simp) _
  refine ⟨w.heap.size + 1, ?_, ⟨.slice none 0 0, .pointer none, .slice none 0 0, ⟨.slice none 0 0, .pointer none, .slice none 0 0, [], rfl, ⟨?_, by omega, rfl, rfl, .inl rfl, World.ownsRowF_nil _ _ _ _, by simp [Value.ownBlock]⟩, World.ownsRow_nil _ _ _ _, trivial, trivial⟩⟩, hb⟩
  · simp
  · have := heap_alloc_new (w.alloc (.cells #[.int .i64 mode, .int .i64 scan, .bool eat, .string held] 25)) (.cells (rdC win data 0 mode scan eat (.slice none 0 0) (.pointer none) (.slice none 0 0)) 49)
    show (World.alloc _ (.cells (rdC win data 0 mode scan eat (.slice none 0 0) (.pointer none) (.slice none 0 0)) _)).heap[_]? = _
    simpa using this

theorem Rdr.alloc {W : World} {base b : Nat} {win : Int} {data : ByteArray} {pos mode scan : Int} {eat : Bool} {evs : List Ev} {pend : List UInt8} (h : Rdr W base b win data pos mode scan eat evs pend) (X : Obj) : Rdr (W.alloc X) base b win data pos mode scan eat evs pend := by
  obtain ⟨ev, p, v, hS⟩ := h.it
  exact ⟨ev, p, v, hS.alloc X⟩

theorem st4 {B : Nat} {w w1 : World} (h : Below B w w1) {r : Nat} (hr : B ≤ r) (v0 v1 v2 v3 : Value) : Below B w ((((w1.drew.setCell ⟨r, 0, none⟩ v0).setCell ⟨r, 1, none⟩ v1).setCell ⟨r, 2, none⟩ v2).setCell ⟨r, 3, none⟩ v3) := by
  have s0 : Below B w w1.drew := below_drewN h 1
  have s1 : Below B w (w1.drew.setCell ⟨r, 0, none⟩ v0) := s0.setCell hr _
  have s2 : Below B w ((w1.drew.setCell ⟨r, 0, none⟩ v0).setCell ⟨r, 1, none⟩ v1) := s1.setCell hr _
  have s3 : Below B w (((w1.drew.setCell ⟨r, 0, none⟩ v0).setCell ⟨r, 1, none⟩ v1).setCell ⟨r, 2, none⟩ v2) := s2.setCell hr _
  exact s3.setCell hr _

set_option maxHeartbeats 4000000 in
set_option maxRecDepth 10000 in
theorem state_any (base b : Nat) (win : Int) (data : ByteArray) (pos : Nat) (mode scan : Int) (eat : Bool) (evs : List Ev) (pend : List UInt8) (w : World) (h : Rdr w base b win data pos mode scan eat evs pend) (hd : data.size ≤ 10000000) (hp : pos ≤ data.size) :
    Calls Tryd.prog 14 #[.pointer (some ⟨b, 0, none⟩)] w fun e w' => e = .returned (.agg #[.int .i64 mode, .int .i64 scan, .bool eat, .string (data.extract pos data.size)]) ∧
      Rdr w' base b win data pos mode scan eat evs pend ∧ Below base w w' := by
  obtain ⟨⟨c0, c1, c2, c3, c4, c5⟩, hf, hlo⟩ := h.cells
  have hbs : b < w.heap.size := cell_block c0
  obtain ⟨t, ht⟩ : ∃ t : ByteArray, data.extract pos data.size = t := ⟨_, rfl⟩
  have htz : t.size ≤ 10000000 := by rw [← ht, ByteArray.size_extract]; omega
  have hcl := fun W => clone_any t W (by omega)
  have HC := hid hcl
  have HR := hid h
  rw [ht]
  clear hcl h hf
  go_enter Tryd.func14, Tryd.ntmps14
  go_upto_region 1 with fail
  go_cut [3] from 4 to 13 (fun hv wc => hv = .string t ∧ Hid (Rdr wc base b win data pos mode scan eat evs pend ∧ Below w.heap.size w wc ∧ wc.heap[w.heap.size]? = some (.cells #[.int .i64 0, .int .i64 0, .bool false, .string ⟨#[]⟩] 25 (0, 0))))
  case first =>
    go_region_law (go_simp; go_at_call 19; refine (HC.out _).mono ?_; rintro e w1 ⟨rfl, b1⟩)
    all_goals
      have hr1 := (HR.out.alloc (.cells #[.int .i64 0, .int .i64 0, .bool false, .string ⟨#[]⟩] 25)).drew.below b1
      have hres : w1.heap[w.heap.size]? = some (.cells #[.int .i64 0, .int .i64 0, .bool false, .string ⟨#[]⟩] 25 (0, 0)) := (b1.block w.heap.size (by show w.heap.size < _; simp [World.drew])).trans (heap_alloc_new w _)
      have hb1 : Below w.heap.size w w1 := ((Below.refl w.heap.size w).alloc (Nat.le_refl _) (.cells #[.int .i64 0, .int .i64 0, .bool false, .string ⟨#[]⟩] 25)).trans (Below.mono (B := (w.alloc (.cells #[.int .i64 0, .int .i64 0, .bool false, .string ⟨#[]⟩] 25)).heap.size) ⟨b1.os, b1.tape, b1.output, b1.size, b1.block⟩ (by simp))
      have HX := hid (And.intro hr1 (And.intro hb1 hres))
      clear hr1 hres hb1 b1
      go_wp2_with fail
      go_meet
      exact ⟨rfl, HX⟩
  case rest =>
    obtain ⟨rfl, HX⟩ := hcut
    obtain ⟨hr1, hb1, hres⟩ := HX.out
    obtain ⟨⟨d0, d1, d2, d3, d4, d5⟩, _, _⟩ := hr1.cells
    have r0 := cell_at hres (j := 0) rfl
    have r1 := cell_at hres (j := 1) rfl
    have r2 := cell_at hres (j := 2) rfl
    have r3 := cell_at hres (j := 3) rfl
    have rf0 := free_at hres 0
    have rf1 := free_at hres 1
    have rf2 := free_at hres 2
    have rf3 := free_at hres 3
    have HFI := hid (st4 hb1 (Nat.le_refl _) (.int .i64 mode) (.int .i64 scan) (.bool eat) (.string t))
    clear hr1 hb1 hres c0 c1 c2 c3 c4 c5
    go_upto_region 2 with fail
    go_cut [] from 14 to 27 (fun wc2 => Hid (Below w.heap.size w wc2) ∧ wc2.cell? ⟨w.heap.size, 0, none⟩ = some (.int .i64 mode) ∧ wc2.cell? ⟨w.heap.size, 1, none⟩ = some (.int .i64 scan) ∧ wc2.cell? ⟨w.heap.size, 2, none⟩ = some (.bool eat) ∧ wc2.cell? ⟨w.heap.size, 3, none⟩ = some (.string t))
    case first =>
      go_region
      all_goals
        go_wp2_with fail
        go_meet
        refine ⟨HFI, ?_, ?_, ?_, ?_⟩
        all_goals simp [go_sem, r0, r1, r2, r3]
    case rest =>
      obtain ⟨HB, e0, e1, e2, e3⟩ := hcut
      go_wp2_with fail
      refine bodyPost_ret (v := .agg #[.int .i64 mode, .int .i64 scan, .bool eat, .string t]) ?_ rfl ⟨rfl, HR.out.below HB.out, HB.out.mono HR.out.size⟩
      simp [results, Tryd.results14, go_sem, e0, e1, e2, e3]
end Go.Proofs.YtolbahmihkdmiaaDoor

/-
  lexer.Feed, Finish, Lex: their walks.
-/
namespace Go.Proofs.YtolbahmihkdmiaaDoor
open Go.RowKit Go.Lib Own

theorem LexTabs.up {base base2 : Nat} {w : World} {m : Int} (h : LexTabs base w m) (hb : base ≤ base2) : LexTabs base2 w m :=
  ⟨h.tag, h.ch, h.max, Nat.lt_of_lt_of_le h.l1 hb, Nat.lt_of_lt_of_le h.l2 hb, Nat.lt_of_lt_of_le h.l3 hb, Nat.lt_of_lt_of_le h.l4 hb⟩
theorem evs_low {W : World} {B base : Nat} (hb : base ≤ B) : ∀ (xs : List Value) (l : List Ev), EvsAt W B xs l → EvsAt W base xs l
  | [], [], _ => trivial
  | k :: n :: a :: t :: r, e :: l, ⟨h1, h2⟩ => by
    refine ⟨?_, evs_low hb r l h2⟩
    cases e with
    | text b => exact h1
    | start m at_ => exact ⟨h1.1, h1.2.1, row_low h1.2.2.1 hb, h1.2.2.2⟩
    | stop m => exact h1
  | [], _ :: _, h => h.elim
  | [_], _, h => by cases ‹List Ev› <;> exact h.elim
  | [_, _], _, h => by cases ‹List Ev› <;> exact h.elim
  | [_, _, _], _, h => by cases ‹List Ev› <;> exact h.elim
  | _ :: _ :: _ :: _ :: _, [], h => h.elim
theorem rest_str {win : Nat} (hW : 32 ≤ win) (st : LS) (h0 : st.scan ≤ 10) (data : ByteArray) : (data.extract (data.size - (runL win st data.data.toList).2.1.length) data.size) = ⟨(runL win st data.data.toList).2.1.toArray⟩ := by
  obtain ⟨h1, h2⟩ := run_rest hW st data.data.toList h0
  have h3 : (data.extract (data.size - (runL win st data.data.toList).2.1.length) data.size).data.toList = (runL win st data.data.toList).2.1 := by
    rw [extract_to_end]
    conv => rhs; rw [h2]
    rw [size_eq]
  show (⟨(data.extract (data.size - (runL win st data.data.toList).2.1.length) data.size).data.toList.toArray⟩ : ByteArray) = _
  rw [h3]
/-- the four stores into a state's block -/
theorem four_other (W : World) (r : Nat) (v0 v1 v2 v3 : Value) (k : Nat) (hk : k ≠ r) : ((((W.setCell ⟨r, 0, none⟩ v0).setCell ⟨r, 1, none⟩ v1).setCell ⟨r, 2, none⟩ v2).setCell ⟨r, 3, none⟩ v3).heap[k]? = W.heap[k]? := by
  rw [heap_setCell_other _ _ _ _ hk, heap_setCell_other _ _ _ _ hk, heap_setCell_other _ _ _ _ hk, heap_setCell_other _ _ _ _ hk]

set_option maxHeartbeats 8000000 in
set_option maxRecDepth 100000 in
theorem finish_ap (win : Nat) (st : LS) (held : ByteArray) (broken : Bool) (m : Int) (w : World) (hsz : held.size ≤ 4000000) (hW : 32 ≤ win) (hwin : win ≤ 4096) (hs : st.scan ≤ 10) (hm : st.mode ≤ 10) (hT : LexTabs w.heap.size w m) (hbr : broken = false) :
    Calls Tryd.prog 6 #[.int .i64 win, .agg #[.int .i64 st.mode, .int .i64 st.scan, .bool st.eat, .string held], .bool broken] w fun e w' => ∃ ev xs, e = .returned ev ∧
      w'.ownsRow w.heap.size 36 4 ev (evsL (wholeL win st held.data.toList)).length xs ∧ EvsAt w' w.heap.size xs (evsL (wholeL win st held.data.toList)) ∧ Below w.heap.size w w' ∧ Apart xs := by
  subst hbr
  have hal := fun W => allowed_any win st.mode st.scan st.eat held W hW hwin hm hs
  have hnw := fun W => new_any win st.mode st.scan st.eat held ⟨#[]⟩ held (by rw [show (⟨#[]⟩ : ByteArray) = ByteArray.empty from rfl, ByteArray.append_empty]) (by show held.size + 0 ≤ _; omega) W
  obtain ⟨R1, hR1⟩ : ∃ R1, (runL win st held.data.toList).1 = R1 := ⟨_, rfl⟩
  obtain ⟨R2, hR2⟩ : ∃ R2, (runL win st held.data.toList).2.1 = R2 := ⟨_, rfl⟩
  obtain ⟨R3, hR3⟩ : ∃ R3, (runL win st held.data.toList).2.2 = R3 := ⟨_, rfl⟩
  obtain ⟨EF, hEF⟩ : ∃ EF, (putAll ([], []) R3).1 = EF := ⟨_, rfl⟩
  obtain ⟨PF, hPF⟩ : ∃ PF, (putAll ([], []) R3).2 = PF := ⟨_, rfl⟩
  have hRA : ReadAt win held.data.toList 0 st [] [] R1 R2 EF PF := ⟨R3, by rw [List.drop_zero, ← hR1, ← hR2, ← hR3], by rw [← hEF, ← hPF]⟩
  obtain ⟨g1, g2⟩ := run_grow hW st held.data.toList hs ([], [])
  obtain ⟨k1, k2⟩ := run_rest hW st held.data.toList hs
  have hsc := run_scan hW held.data.toList.length st held.data.toList hs (Nat.le_refl _)
  have hmo := run_mode hW st held.data.toList hs hm
  rw [hR3, hR2] at g1 g2
  rw [hR2] at k1 k2
  rw [hR1] at hsc hmo
  rw [hEF] at g1
  rw [hPF] at g2
  rw [← size_eq] at g1 g2 k1 k2
  simp only [List.length_nil, Nat.zero_add] at g1 g2
  have hrd := fun base b W hr hTW => read_any base b win held st m W hr hsz hW hwin hs hm hTW R1 R2 EF PF hRA
  have hdr : held.data.toList.drop (held.size - R2.length) = R2 := k2.symm
  have hen := fun base b W hr hTW => end_any base b win held (held.size - R2.length) R1 EF PF m W hr hsz (by omega) hsc hmo (by omega) hTW
  rw [hdr] at hen
  have hwhole : ∀ PE, putAll (EF, PF) (endL R1 R2) = (EF, PE) → evsL (wholeL win st held.data.toList) = flushE (EF, PE) := fun PE hPE => by
    unfold wholeL
    rw [hR1, hR2, hR3]
    show flushE (putAll ([], []) (R3 ++ endL R1 R2)) = _
    rw [putAll_app, show putAll ([], []) R3 = (EF, PF) by rw [← hEF, ← hPF], hPE]
  have hev := fun base b o cs T PE W (hW1 : StreamAt W base b o cs T EF PE) hT1 => events_ap base b o cs T EF PE W hW1 hT1 (by omega)
  have HAL := hid hal
  have HNW := hid hnw
  have HRD := hid hrd
  have HEN := hid hen
  have HEV := hid hev
  have HWH := hid hwhole
  have HT := hid hT
  clear hal hnw hrd hen hev hwhole hT hRA g1 g2 k1 k2 hsc hmo hdr hR1 hR2 hR3 hEF hPF
  go_enter Tryd.func6, Tryd.ntmps6
  go_wp2_with (first
    | (go_at_call 11; refine (HAL.out _).mono ?_; rintro e w1 ⟨rfl, b1⟩; have hbx : w1.heap[w.heap.size]? = some (.cells #[.int .i64 st.mode, .int .i64 st.scan, .bool st.eat, .string held] 25 (0, 0)) := (b1.block _ (by simp)).trans (heap_alloc_new w _); have x0 := cell_at hbx (j := 0) rfl; have x1 := cell_at hbx (j := 1) rfl; have x2 := cell_at hbx (j := 2) rfl; have x3 := cell_at hbx (j := 3) rfl; have hB1 : Below w.heap.size w w1 := ((Below.refl w.heap.size w).alloc (Nat.le_refl _) _).trans (b1.mono (by simp)); clear b1 hbx)
    | (go_at_call 12; refine (HNW.out _).mono ?_; rintro e w2 ⟨b, rfl, hr2, b2⟩; have hT2 := ((HT.out.below hB1).up hB1.size).below b2)
    | (go_at_call 13; refine (HRD.out _ b _ (by exact hr2) (by exact hT2)).mono ?_; rintro e w3 ⟨rfl, hr3, b3⟩; have hT3 := hT2.below b3)
    | (go_at_call 16; refine (HEN.out _ b _ (by exact hr3) (by exact hT3)).mono ?_; rintro e w4 ⟨rfl, ⟨p4, m4, s4, e4, PE, hr4, hPE⟩, b4⟩; obtain ⟨ev4, pp4, v4, hS4⟩ := hr4.it)
    | (go_at_call 15; refine (HEV.out _ b 6 _ _ PE _ (by exact hS4) (rd_T _ _ _ _ _ _ _ _ _)).mono ?_; rintro e w5 ⟨ev5, xs5, rfl, hrow5, hevs5, b5, hap5⟩))
  go_ret
  refine ⟨_, xs5, rfl, ?_, ?_, hB1.trans ((((b2.trans b3).trans b4).trans b5).mono hB1.size), hap5⟩
  · rw [HWH.out PE hPE]; exact row_low hrow5 hB1.size
  · rw [HWH.out PE hPE]; exact evs_low hB1.size _ _ hevs5

set_option maxHeartbeats 1000000 in
theorem lex_ap (win : Nat) (text : ByteArray) (m : Int) (w : World) (hsz : text.size ≤ 4000000) (hW : 32 ≤ win) (hwin : win ≤ 4096) (hT : LexTabs w.heap.size w m) :
    Calls Tryd.prog 8 #[.int .i64 win, .string text] w fun e w' => ∃ ev xs, e = .returned ev ∧
      w'.ownsRow w.heap.size 36 4 ev (evsL (wholeL win st0 text.data.toList)).length xs ∧ EvsAt w' w.heap.size xs (evsL (wholeL win st0 text.data.toList)) ∧ Below w.heap.size w w' ∧ Apart xs := by
  have hf := finish_ap win st0 text false m w hsz hW hwin (by decide) (by decide) hT rfl
  generalize evsL (wholeL win st0 text.data.toList) = J at hf ⊢
  have HF := hid hf
  clear hf hT
  go_enter Tryd.func8, Tryd.ntmps8
  go_wp2_with (go_at_call 6; refine HF.out.mono ?_; rintro e w1 ⟨ev, xs, rfl, h1, h2, h3, h4⟩)
  go_ret
  exact ⟨_, xs, rfl, h1, h2, h3, h4⟩

set_option maxHeartbeats 8000000 in
set_option maxRecDepth 100000 in
theorem feed_ap (win : Nat) (st : LS) (held text data : ByteArray) (hda : held ++ text = data) (m : Int) (w : World) (hsz : data.size ≤ 4000000) (hW : 32 ≤ win) (hwin : win ≤ 4096) (hs : st.scan ≤ 10) (hm : st.mode ≤ 10) (hT : LexTabs w.heap.size w m) :
    Calls Tryd.prog 5 #[.int .i64 win, .agg #[.int .i64 st.mode, .int .i64 st.scan, .bool st.eat, .string held], .string text] w fun e w' => ∃ ev xs,
      e = .returned (.tuple #[.agg #[.int .i64 (runL win st data.data.toList).1.mode, .int .i64 (runL win st data.data.toList).1.scan, .bool (runL win st data.data.toList).1.eat, .string ⟨(runL win st data.data.toList).2.1.toArray⟩], ev]) ∧
      w'.ownsRow w.heap.size 36 4 ev (evsL (runL win st data.data.toList).2.2).length xs ∧ EvsAt w' w.heap.size xs (evsL (runL win st data.data.toList).2.2) ∧ Below w.heap.size w w' ∧ Apart xs := by
  have hhs : held.size + text.size = data.size := by rw [← hda, ByteArray.size_append]
  have hal := fun W => allowed_any win st.mode st.scan st.eat held W hW hwin hm hs
  have hnw := fun W => new_any win st.mode st.scan st.eat held text data hda (by omega) W
  have hRS := rest_str hW st hs data
  obtain ⟨R1, hR1⟩ : ∃ R1, (runL win st data.data.toList).1 = R1 := ⟨_, rfl⟩
  obtain ⟨R2, hR2⟩ : ∃ R2, (runL win st data.data.toList).2.1 = R2 := ⟨_, rfl⟩
  obtain ⟨R3, hR3⟩ : ∃ R3, (runL win st data.data.toList).2.2 = R3 := ⟨_, rfl⟩
  obtain ⟨EF, hEF⟩ : ∃ EF, (putAll ([], []) R3).1 = EF := ⟨_, rfl⟩
  obtain ⟨PF, hPF⟩ : ∃ PF, (putAll ([], []) R3).2 = PF := ⟨_, rfl⟩
  have hRA : ReadAt win data.data.toList 0 st [] [] R1 R2 EF PF := ⟨R3, by rw [List.drop_zero, ← hR1, ← hR2, ← hR3], by rw [← hEF, ← hPF]⟩
  obtain ⟨g1, g2⟩ := run_grow hW st data.data.toList hs ([], [])
  obtain ⟨k1, _⟩ := run_rest hW st data.data.toList hs
  rw [hR3, hR2] at g1 g2
  rw [hR2] at k1 hRS
  rw [hEF] at g1
  rw [hPF] at g2
  rw [← size_eq] at g1 g2 k1
  simp only [List.length_nil, Nat.zero_add] at g1 g2
  have hrd := fun base b W hr hTW => read_any base b win data st m W hr hsz hW hwin hs hm hTW R1 R2 EF PF hRA
  have hst := fun base b W hr => state_any base b win data (data.size - R2.length) R1.mode R1.scan R1.eat EF PF W hr (by omega) (by omega)
  rw [hRS] at hst
  have hev := fun base b o cs T W (hW1 : StreamAt W base b o cs T EF PF) hT1 => events_ap base b o cs T EF PF W hW1 hT1 (by omega)
  have hfl : evsL R3 = flushE (EF, PF) := by
    show flushE (putAll ([], []) R3) = _
    rw [← hEF, ← hPF]
  rw [hR1, hR2, hR3, hfl]
  obtain ⟨rb, hrb⟩ : ∃ rb : ByteArray, (⟨R2.toArray⟩ : ByteArray) = rb := ⟨_, rfl⟩
  rw [hrb] at hst ⊢
  generalize flushE (EF, PF) = J at hev ⊢
  have HAL := hid hal
  have HNW := hid hnw
  have HRD := hid hrd
  have HST := hid hst
  have HEV := hid hev
  have HT := hid hT
  clear hal hnw hrd hst hev hT hRA g1 g2 k1 hRS hR1 hR2 hR3 hEF hPF hfl hrb hda hhs
  go_enter Tryd.func5, Tryd.ntmps5
  go_wp2_with (first
    | (go_at_call 11; refine (HAL.out _).mono ?_; rintro e w1 ⟨rfl, b1⟩; have hbx : w1.heap[w.heap.size]? = some (.cells #[.int .i64 st.mode, .int .i64 st.scan, .bool st.eat, .string held] 25 (0, 0)) := (b1.block _ (by simp; omega)).trans ((alloc_old _ _ _ (by simp)).trans (heap_alloc_new w _)); have x0 := cell_at hbx (j := 0) rfl; have x1 := cell_at hbx (j := 1) rfl; have x2 := cell_at hbx (j := 2) rfl; have x3 := cell_at hbx (j := 3) rfl; have hB1 : Below w.heap.size w w1 := (((Below.refl w.heap.size w).alloc (Nat.le_refl _) _).alloc (by simp) _).trans (b1.mono (by simp; omega)); have hsz1 := b1.size; have hre : w1.heap[w.heap.size + 1]? = some (.cells #[.int .i64 0, .int .i64 0, .bool false, .string ⟨#[]⟩] 25 (0, 0)) := (b1.block _ (by simp)).trans (by have := heap_alloc_new (w.alloc (.cells #[.int .i64 st.mode, .int .i64 st.scan, .bool st.eat, .string held] 25)) (.cells #[.int .i64 0, .int .i64 0, .bool false, .string ⟨#[]⟩] 25); simpa using this); clear b1 hbx)
    | (go_at_call 12; refine (HNW.out _).mono ?_; rintro e w2 ⟨b, rfl, hr2, b2⟩; have hT2 := ((HT.out.below hB1).up hB1.size).below b2)
    | (go_at_call 13; refine (HRD.out _ b _ (by exact hr2) (by exact hT2)).mono ?_; rintro e w3 ⟨rfl, hr3, b3⟩)
    | fail)
  have hlt1 : w.heap.size + 1 < w1.heap.size := by simp at hsz1; omega
  have hre3 := ((b3.block _ hlt1).trans (b2.block _ hlt1)).trans hre
  have hB3 : Below w.heap.size w w3 := hB1.trans ((b2.trans b3).mono hB1.size)
  have HX := hid (And.intro hr3 (And.intro hre3 hB3))
  clear hre hre3 hB3 hr3 hr2 b2 b3 hT2 x0 x1 x2 x3 hsz1
  go_cut [7] from 20 to 25 (fun ev wc => Hid (∃ xs, wc.ownsRow w.heap.size 36 4 ev J.length xs ∧ EvsAt wc w.heap.size xs J ∧ Below w.heap.size w wc ∧ Apart xs) ∧ wc.cell? ⟨w.heap.size + 1, 0, none⟩ = some (.int .i64 R1.mode) ∧ wc.cell? ⟨w.heap.size + 1, 1, none⟩ = some (.int .i64 R1.scan) ∧ wc.cell? ⟨w.heap.size + 1, 2, none⟩ = some (.bool R1.eat) ∧ wc.cell? ⟨w.heap.size + 1, 3, none⟩ = some (.string rb))
  case first =>
    go_region_law (first
      | (go_simp; go_at_call 14; refine (HST.out _ b _ (by exact HX.out.1.drew)).mono ?_; rintro e w4 ⟨rfl, hr4, b4⟩; obtain ⟨ev4, p4, v4, hS4⟩ := hr4.it)
      | (go_simp; go_at_call 15; refine (HEV.out _ b 6 _ _ _ (by exact hS4) (rd_T _ _ _ _ _ _ _ _ _)).mono ?_; rintro e w5 ⟨ev5, xs5, rfl, hrow5, hevs5, b5, hap5⟩; have hre5 : w5.heap[w.heap.size + 1]? = some (.cells #[.int .i64 0, .int .i64 0, .bool false, .string ⟨#[]⟩] 25 (0, 0)) := ((b5.block _ hlt1).trans (b4.block _ hlt1)).trans (by exact HX.out.2.1); have r0 := cell_at hre5 (j := 0) rfl; have r1 := cell_at hre5 (j := 1) rfl; have r2 := cell_at hre5 (j := 2) rfl; have r3 := cell_at hre5 (j := 3) rfl; have rf0 := free_at hre5 0; have rf1 := free_at hre5 1; have rf2 := free_at hre5 2; have rf3 := free_at hre5 3))
    all_goals
      have hB5 : Below w.heap.size w w5 := HX.out.2.2.trans (Below.mono (B := w1.heap.size) (((⟨rfl, rfl, rfl, Nat.le_refl _, fun _ _ => rfl⟩ : Below w1.heap.size w3 w3.drew).trans b4).trans b5) hB1.size)
      have HY := hid (And.intro hB5 (And.intro hre5 (And.intro hrow5 hevs5)))
      clear hB5 hre5 hrow5 hevs5 b4 b5 hr4 hS4
      go_wp2_with fail
      go_meet
      obtain ⟨hB5, hre5, hrow5, hevs5⟩ := HY.out
      refine ⟨hid ⟨xs5, row_just (row_low hrow5 hB1.size) hre5 (by decide) (four_other _ _ _ _ _ _), evs_mono (fun a n ys hr => row_just hr hre5 (by decide) (four_other _ _ _ _ _ _)) _ _ (evs_low hB1.size _ _ hevs5), ?_⟩, ?_, ?_, ?_, ?_⟩
      · exact ⟨(((hB5.setCell (by simp) _).setCell (by simp) _).setCell (by simp) _).setCell (by simp) _, hap5⟩
      all_goals simp [go_sem, r0, r1, r2, r3]
  case rest =>
    obtain ⟨HZ, e0, e1, e2, e3⟩ := hcut
    obtain ⟨xs, z1, z2, z3, z4⟩ := HZ.out
    go_wp2_with fail
    refine bodyPost_ret (v := .tuple #[.agg #[.int .i64 R1.mode, .int .i64 R1.scan, .bool R1.eat, .string rb], _]) ?_ rfl ⟨_, xs, rfl, z1, z2, z3, z4⟩
    simp [results, Tryd.results5, go_sem, e0, e1, e2, e3]
theorem finish_any (win : Nat) (st : LS) (held : ByteArray) (broken : Bool) (m : Int) (w : World) (hsz : held.size ≤ 4000000) (hW : 32 ≤ win) (hwin : win ≤ 4096) (hs : st.scan ≤ 10) (hm : st.mode ≤ 10) (hT : LexTabs w.heap.size w m) (hbr : broken = false) :
    Calls Tryd.prog 6 #[.int .i64 win, .agg #[.int .i64 st.mode, .int .i64 st.scan, .bool st.eat, .string held], .bool broken] w fun e w' => ∃ ev xs, e = .returned ev ∧
      w'.ownsRow w.heap.size 36 4 ev (evsL (wholeL win st held.data.toList)).length xs ∧ EvsAt w' w.heap.size xs (evsL (wholeL win st held.data.toList)) ∧ Below w.heap.size w w' :=
  (finish_ap win st held broken m w hsz hW hwin hs hm hT hbr).mono fun _ _ ⟨ev, xs, h1, h2, h3, h4, _⟩ => ⟨ev, xs, h1, h2, h3, h4⟩
theorem lex_any (win : Nat) (text : ByteArray) (m : Int) (w : World) (hsz : text.size ≤ 4000000) (hW : 32 ≤ win) (hwin : win ≤ 4096) (hT : LexTabs w.heap.size w m) :
    Calls Tryd.prog 8 #[.int .i64 win, .string text] w fun e w' => ∃ ev xs, e = .returned ev ∧
      w'.ownsRow w.heap.size 36 4 ev (evsL (wholeL win st0 text.data.toList)).length xs ∧ EvsAt w' w.heap.size xs (evsL (wholeL win st0 text.data.toList)) ∧ Below w.heap.size w w' :=
  (lex_ap win text m w hsz hW hwin hT).mono fun _ _ ⟨ev, xs, h1, h2, h3, h4, _⟩ => ⟨ev, xs, h1, h2, h3, h4⟩
theorem feed_any (win : Nat) (st : LS) (held text data : ByteArray) (hda : held ++ text = data) (m : Int) (w : World) (hsz : data.size ≤ 4000000) (hW : 32 ≤ win) (hwin : win ≤ 4096) (hs : st.scan ≤ 10) (hm : st.mode ≤ 10) (hT : LexTabs w.heap.size w m) :
    Calls Tryd.prog 5 #[.int .i64 win, .agg #[.int .i64 st.mode, .int .i64 st.scan, .bool st.eat, .string held], .string text] w fun e w' => ∃ ev xs,
      e = .returned (.tuple #[.agg #[.int .i64 (runL win st data.data.toList).1.mode, .int .i64 (runL win st data.data.toList).1.scan, .bool (runL win st data.data.toList).1.eat, .string ⟨(runL win st data.data.toList).2.1.toArray⟩], ev]) ∧
      w'.ownsRow w.heap.size 36 4 ev (evsL (runL win st data.data.toList).2.2).length xs ∧ EvsAt w' w.heap.size xs (evsL (runL win st data.data.toList).2.2) ∧ Below w.heap.size w w' :=
  (feed_ap win st held text data hda m w hsz hW hwin hs hm hT).mono fun _ _ ⟨ev, xs, h1, h2, h3, h4, _⟩ => ⟨ev, xs, h1, h2, h3, h4⟩
end Go.Proofs.YtolbahmihkdmiaaDoor

/-
  The statement's within and begun, the reader's making, its state, isAllowed: their walks.
-/
namespace Go.Proofs.YtolbahmihkdmiaaDoor
open Go.RowKit Go.Lib Own

set_option maxHeartbeats 2000000 in
theorem within_any (n : Int) (h0 : -9223372036854775808 ≤ n) (h1 : n ≤ 9223372036854775807) (w : World) :
    Calls Tryd.prog 4 #[.int .i64 n, .int .i64 32, .int .i64 4096] w fun e w' => ∃ k : Nat, e = .returned (.int .i64 (k : Int)) ∧ 32 ≤ k ∧ k ≤ 4096 ∧ w' = w := by
  have hs : IntKind.i64.wrap ((4096 : Int) - 32) = 4064 := by rw [IntKind.wrap_i64]; omega
  have hs2 : IntKind.i64.wrap ((4064 : Int) + 1) = 4065 := by rw [IntKind.wrap_i64]; omega
  by_cases hin : 32 ≤ n ∧ n ≤ 4096
  · obtain ⟨a, b⟩ := hin
    go_enter Tryd.func4, Tryd.ntmps4
    go_wp2
    all_goals go_ret
    all_goals exact ⟨n.toNat, ret_i64 (by omega), by omega, by omega, rfl⟩
  · have hm : n.tmod 4065 < 4065 := by have := Int.tmod_lt_of_pos n (show (0 : Int) < 4065 by omega); exact this
    have hm2 : -4065 < n.tmod 4065 := by
      have h3 := Int.tmod_lt_of_pos (-n) (show (0 : Int) < 4065 by omega)
      rw [Int.neg_tmod] at h3
      omega
    generalize hr : n.tmod 4065 = r at hm hm2
    have hin2 : (32 ≤ n ∧ ¬ n ≤ 4096) ∨ ¬ 32 ≤ n := by omega
    have hor : r < 0 ∨ ¬ r < 0 := by omega
    have hw1 : IntKind.i64.wrap (r + 4065) = r + 4065 := by rw [IntKind.wrap_i64]; omega
    have hw2 : IntKind.i64.wrap (32 + r) = 32 + r := by rw [IntKind.wrap_i64]; omega
    rcases hor with h | h
    · have hw3 : IntKind.i64.wrap (32 + (r + 4065)) = 32 + (r + 4065) := by rw [IntKind.wrap_i64]; omega
      rcases hin2 with ⟨i1, i2⟩ | i1
      all_goals
        go_enter Tryd.func4, Tryd.ntmps4
        go_wp2
        all_goals go_ret
        all_goals exact ⟨(32 + (r + 4065)).toNat, ret_i64 (by omega), by omega, by omega, rfl⟩
    · rcases hin2 with ⟨i1, i2⟩ | i1
      all_goals
        go_enter Tryd.func4, Tryd.ntmps4
        go_wp2
        all_goals go_ret
        all_goals exact ⟨(32 + r).toNat, ret_i64 (by omega), by omega, by omega, rfl⟩
set_option maxHeartbeats 2000000 in
theorem begun_any (s : ByteArray) (r : List UInt8) (hs : s.data.toList = 120 :: r) (w : World) :
    Calls Tryd.prog 10 #[.string s] w fun e w' => e = .returned (.bool true) ∧ w' = w := by
  have hz : 0 < s.size := by rw [size_eq, hs]; simp
  obtain ⟨x, hx⟩ : ∃ x, s[0]'hz = x := ⟨_, rfl⟩
  have hl := getElem_list hz hx
  rw [hs] at hl
  simp only [List.getElem?_cons_zero, Option.some.injEq] at hl
  have q : ((x.toNat : Int) == 120) = true := by rw [← hl]; rfl
  clear hl hs
  go_enter Tryd.func10, Tryd.ntmps10
  go_wp2
  go_ret
  exact ⟨rfl, rfl⟩
end Go.Proofs.YtolbahmihkdmiaaDoor

/-
  Feeding in pieces: how long the lists and the texts grow; a row of events appended to another.
-/
namespace Go.Proofs.YtolbahmihkdmiaaDoor
open Go.RowKit Go.Lib Own

theorem tot_app (a b : List Ev) : tot (a ++ b) = tot a + tot b := by unfold tot; rw [List.map_append, List.sum_append]
theorem tot_jcons (e : Ev) (r : List Ev) : tot (jcons e r) = (evT e).length + tot r := by
  cases e with
  | start n a => simp [jcons, tot]
  | stop n => simp [jcons, tot]
  | text b =>
    cases r with
    | nil => simp [jcons, tot]
    | cons f r =>
      cases f with
      | start n a => simp [jcons, tot]
      | stop n => simp [jcons, tot]
      | text c =>
        simp only [jcons, tot, List.map_cons, List.sum_cons, evT, List.length_append]
        omega
theorem tot_join : ∀ l : List Ev, tot (joinEv l) = tot l
  | [] => rfl
  | e :: r => by
    show tot (jcons e (joinEv r)) = _
    rw [tot_jcons, tot_join r]
    simp [tot]
def itot (l : List Item) : Nat := tot (l.map toEv)
theorem itot_app (a b : List Item) : itot (a ++ b) = itot a + itot b := by unfold itot; rw [List.map_append, tot_app]
theorem itot_small {n : Nat} {it : List Item} (h : Small n it) : itot it ≤ 4 * n := by
  rcases h with rfl | ⟨b, rfl, hb⟩ | ⟨x, a, rfl⟩ | ⟨x, rfl⟩
  · exact Nat.zero_le _
  · simpa [itot, tot, toEv, evT] using hb
  · simp [itot, tot, toEv, evT]
  · simp [itot, tot, toEv, evT]
theorem itot_run {W : Nat} (hW : 32 ≤ W) (st : LS) (L : List UInt8) (h0 : st.scan ≤ 10) : itot (runL W st L).2.2 ≤ 4 * L.length := by
  refine run_ind hW (fun _ L R => itot R.2.2 ≤ 4 * L.length) (fun _ => Nat.zero_le _) (fun _ _ _ _ _ _ _ => Nat.zero_le _) ?_ L.length st L h0 (Nat.le_refl _)
  intro st L n st' it R hs hL h ih
  obtain ⟨h1, h2, -⟩ := step_pos hW hs hL h
  have h3 := itot_small (step_small h)
  simp only
  rw [itot_app]
  rw [List.length_drop] at ih
  omega
theorem itot_bytes : ∀ (st : LS) (L : List UInt8), itot (bytesL st L) ≤ L.length
  | _, [] => Nat.zero_le _
  | st, c :: r => by
    have ih := itot_bytes (noEat st) r
    have h1 := itot_small (small_unit (n := 1) st (b := [c]) (by simp))
    have h2 : itot (unitL2 st [c]) ≤ 1 := by
      unfold unitL2
      split <;> simp [itot, tot, toEv, evT]
    rw [bytesL, itot_app, List.length_cons]
    omega
theorem itot_end (st : LS) (L : List UInt8) : itot (endL st L) ≤ 4 * L.length := by
  unfold endL
  split
  · exact Nat.zero_le _
  · split
    · exact itot_small (small_unit (n := L.length) st (unr_len false _ L (Nat.le_refl _)))
    · split
      · have := itot_bytes st L
        omega
      · exact Nat.zero_le _
theorem tot_whole {W : Nat} (hW : 32 ≤ W) (L : List UInt8) : tot (evsL (wholeL W st0 L)) ≤ 8 * L.length := by
  have hfull : ∀ i ∈ wholeL W st0 L, fullI i := fun i hi => by
    rcases List.mem_append.1 hi with hi | hi
    · exact run_full hW _ st0 _ (by decide) (Nat.le_refl _) i hi
    · exact end_full _ _ i hi
  rw [evs_join _ hfull, tot_join]
  show itot (wholeL W st0 L) ≤ _
  unfold wholeL
  rw [itot_app]
  have h1 := itot_run hW st0 L (by decide)
  have h2 := itot_end (runL W st0 L).1 (runL W st0 L).2.1
  have h3 := (run_rest hW st0 L (by decide)).1
  omega
theorem evs_grow {W : Nat} (hW : 32 ≤ W) (st : LS) (L : List UInt8) (h0 : st.scan ≤ 10) : (evsL (runL W st L).2.2).length ≤ 2 * (L.length - (runL W st L).2.1.length) + 1 := by
  have h1 := (run_grow hW st L h0 ([], [])).1
  have h2 := flush_len (putAll ([], []) (runL W st L).2.2)
  show (flushE (putAll ([], []) (runL W st L).2.2)).length ≤ _
  simp only [List.length_nil, Nat.zero_add] at h1
  omega
theorem end_grow (st : LS) (L : List UInt8) : (evsL (endL st L)).length ≤ 1 := by
  have hb : ∀ (L : List UInt8) (st : LS) (P : List UInt8), ∃ PF, putAll ([], P) (bytesL st L) = ([], PF) := fun L st P => bytes_put [] L st P
  show (flushE (putAll ([], []) (endL st L))).length ≤ 1
  have key : ∃ PF, putAll ([], []) (endL st L) = ([], PF) := by
    unfold endL
    split
    · exact ⟨[], rfl⟩
    · split
      · exact ⟨_, put_unit _ _ _ _⟩
      · split
        · exact hb _ _ _
        · exact ⟨[], rfl⟩
  obtain ⟨PF, h⟩ := key
  rw [h]
  exact flush_len ([], PF)

/-! ## the pieces -/

theorem getD_drop' {ss : List ByteArray} {k : Nat} (hk : k < ss.length) : ss = ss.take k ++ ss.getD k ByteArray.empty :: ss.drop (k + 1) := by
  have h1 : ss.getD k ByteArray.empty = ss[k] := by simp [List.getD, hk]
  rw [h1, ← List.drop_eq_getElem_cons hk, List.take_append_drop]
theorem piece_len' {ss : List ByteArray} {len k : Nat} {p : ByteArray} {whole : List UInt8} (hlen : ss.length = len) (hlt : k < len) (hp : ss.getD k ByteArray.empty = p)
    (hsum : (ss.flatMap (·.data.toList)).length ≤ 1048576) (hw : whole = 120 :: (ss.take k).flatMap (·.data.toList)) : whole.length + p.size ≤ 1048577 := by
  have e := getD_drop' (ss := ss) (k := k) (by omega)
  rw [hp] at e
  have h2 : (ss.flatMap (·.data.toList)).length = ((ss.take k).flatMap (·.data.toList)).length + (p.data.toList.length + ((ss.drop (k + 1)).flatMap (·.data.toList)).length) := by
    conv => lhs; rw [e]
    rw [List.flatMap_append, List.flatMap_cons, List.length_append, List.length_append]
  rw [hw, size_eq, List.length_cons]
  omega
theorem whole_next' {ss : List ByteArray} {len k : Nat} {p : ByteArray} {whole : List UInt8} (hlen : ss.length = len) (hlt : k < len) (hp : ss.getD k ByteArray.empty = p)
    (hw : whole = 120 :: (ss.take k).flatMap (·.data.toList)) : whole ++ p.data.toList = 120 :: (ss.take (k + 1)).flatMap (·.data.toList) := by
  have e : ss.take (k + 1) = ss.take k ++ [p] := by
    rw [List.take_succ_eq_append_getElem (by omega), ← hp]
    simp [List.getD, show k < ss.length by omega]
  rw [e, hw, List.flatMap_append]
  simp

/-! ## a row of events behind another -/

theorem evs_one {W : World} {B : Nat} : ∀ (xs : List Value) (l : List Ev), EvsAt W B xs l → ∀ u ∈ xs, u.oneCell' = true
  | [], [], _, u, hu => by cases hu
  | k :: n :: a :: t :: r, e :: l, ⟨h1, h2⟩, u, hu => by
    rcases List.mem_cons.1 hu with h | hu
    · subst h; cases e <;> (rw [h1.1]; rfl)
    · rcases List.mem_cons.1 hu with h | hu
      · subst h; cases e <;> (rw [h1.2.1]; rfl)
      · rcases List.mem_cons.1 hu with h | hu
        · subst h
          cases e with
          | text b => rw [h1.2.2.1]; rfl
          | start m at_ =>
            obtain ⟨p, c, h⟩ := row_shape h1.2.2.1
            rw [h]; rfl
          | stop m => rw [h1.2.2.1]; rfl
        · rcases List.mem_cons.1 hu with h | hu
          · subst h; cases e <;> (rw [h1.2.2.2]; rfl)
          · exact evs_one r l h2 u hu
  | [], _ :: _, h, _, _ => h.elim
  | [_], _, h, _, _ => by cases ‹List Ev› <;> exact h.elim
  | [_, _], _, h, _, _ => by cases ‹List Ev› <;> exact h.elim
  | [_, _, _], _, h, _, _ => by cases ‹List Ev› <;> exact h.elim
  | _ :: _ :: _ :: _ :: _, [], h, _, _ => h.elim
theorem wpList_append_evs {w : World} {ops : Array Oper} {rest : List Oper} {o : Oper} {a : Act} {Q : Exit → Act → World → Prop} (hgd : o.guard = none) (s x : Operand)
    (ho : o.op = .call { callee := .builtin .append, args := #[s, x], argTypes := #[26, 26] }) (base B2 : Nat) (v vx : Value) (l m : List Ev) (xs ys : List Value) (hs : a.eval s = v) (hx : a.eval x = vx)
    (hown : w.ownsRow base 36 4 v l.length xs) (he : EvsAt w base xs l) (hown2 : w.ownsRow B2 36 4 vx m.length ys) (he2 : EvsAt w base ys m) (hbase : base ≤ w.heap.size) (hsz : l.length + m.length ≤ 1000000000)
    (h : ∀ v' w' zs, w'.ownsRow base 36 4 v' (l ++ m).length zs → EvsAt w' base zs (l ++ m) → w.grownBy w' v.ownBlock → wpList Tryd.prog ops Q rest (a.put o.dst v') w') : wpList Tryd.prog ops Q (o :: rest) a w := by
  obtain ⟨i0, hi, hz0, hz1, hz2⟩ := info_parts info_event
  rcases hown2.2 with ⟨rfl, h0⟩ | ⟨g, cap, cur, rfl, _⟩
  · obtain rfl : m = [] := List.length_eq_zero_iff.1 h0
    refine wpList_append_own_none hgd s x 26 ho base 36 i0 4 Tryd.underlying26 hi v l.length xs hs hown hx ?_
    refine h v w xs (by rw [List.append_nil]; exact hown) (by rw [List.append_nil]; exact he) ?_
    exact ⟨rfl, rfl, rfl, Nat.le_refl _, fun _ _ _ => rfl⟩
  · refine wpList_append_own w hgd s x 26 ho base 36 i0 (.agg #[.int .i64 0, .string ⟨#[]⟩, .slice none 0 0, .string ⟨#[]⟩]) 4 64 Tryd.underlying26 hi hz0 hz1 hz2 rfl (by decide) v l.length xs hs hown ⟨g, 0, none⟩ m.length cap ys hx (evs_len ys m he2) ?_ (evs_one ys m he2) (by unfold maxLen; omega) (by omega) hbase ?_
    · intro j u hj
      have hadd : (⟨g, 0, none⟩ : Addr).add j = ⟨g, j, none⟩ := by unfold Addr.add; split <;> simp_all
      rw [hadd, hown2.cellAt j (by have := (List.getElem?_eq_some_iff.1 hj).1; rw [evs_len ys m he2] at this; exact this)]
      exact hj
    · intro v' w' h2 h3 _
      refine h v' w' (xs ++ ys) (by rw [List.length_append]; exact h2) ?_ h3
      exact evs_mono (fun a n zs hr => hr.kept h3 (rows_ne hr hown (by decide))) _ _ (evs_app xs l ys m he he2)
end Go.Proofs.YtolbahmihkdmiaaDoor

/-
  The statement LawResume: its walk.
-/
namespace Go.Proofs.YtolbahmihkdmiaaDoor
open Go.RowKit Go.Lib Own

theorem four_at {W : World} {r : Nat} {a b c d v0 v1 v2 v3 : Value} {T : TypeId} (h : W.heap[r]? = some (.cells #[a, b, c, d] T (0, 0))) :
    ((((W.setCell ⟨r, 0, none⟩ v0).setCell ⟨r, 1, none⟩ v1).setCell ⟨r, 2, none⟩ v2).setCell ⟨r, 3, none⟩ v3).heap[r]? = some (.cells #[v0, v1, v2, v3] T (0, 0)) := by
  simp [World.setCell, Array.getElem?_modify, h]
theorem four_below {B : Nat} {w W : World} (h : Below B w W) {r : Nat} (hr : B ≤ r) (v0 v1 v2 v3 : Value) : Below B w ((((W.setCell ⟨r, 0, none⟩ v0).setCell ⟨r, 1, none⟩ v1).setCell ⟨r, 2, none⟩ v2).setCell ⟨r, 3, none⟩ v3) :=
  (((h.setCell hr _).setCell hr _).setCell hr _).setCell hr _
theorem x_fed {W : Nat} (hW : 32 ≤ W) : (evsL (runL W st0 [120]).2.2).length + 2 * (runL W st0 [120]).2.1.length ≤ 3 ∧ Fed W [120] (runL W st0 [120]).1 (runL W st0 [120]).2.1 (evsL (runL W st0 [120]).2.2) := by
  refine ⟨?_, Fed.first hW⟩
  have := evs_grow hW st0 [120] (by decide)
  have h2 := (run_rest hW st0 [120] (by decide)).1
  simp only [List.length_cons, List.length_nil] at this h2
  omega
/-- what the loop keeps in memory -/
structure Loop (w wr : World) (sb gb nb cb : Nat) (allv : Value) (st : LS) (held whole : List UInt8) (all : List Ev) : Prop where
  it : ∃ xs, wr.ownsRow w.heap.size 36 4 allv all.length xs ∧ EvsAt wr w.heap.size xs all
  n : ownsN wr 5 gb nb cb (byteCells whole)
  gl : w.heap.size ≤ gb
  sl : w.heap.size ≤ sb
  s : wr.heap[sb]? = some (.cells #[.int .i64 st.mode, .int .i64 st.scan, .bool st.eat, .string ⟨held.toArray⟩] 25 (0, 0))
  b : Below w.heap.size w wr

set_option maxHeartbeats 8000000 in
set_option maxRecDepth 100000 in
theorem resume_walk (n : Int) (h0 : -9223372036854775808 ≤ n) (h1 : n ≤ 9223372036854775807) (ad : Option Addr) (len cap : Nat) (ss : List ByteArray) (m : Int) (w : World) (hsum : (ss.flatMap (·.data.toList)).length ≤ 1048576) (hmax : len ≤ 1048576) (hlen : ss.length = len)
    (hcell : ∀ j, j < len → ∃ b off, ad = some ⟨b, off, none⟩ ∧ w.cell? ⟨b, off + j, none⟩ = some (.string (ss.getD j ByteArray.empty))) (hT : LexTabs w.heap.size w m) :
    Calls Tryd.prog 3 #[.int .i64 n, .slice ad len cap] w fun e w' => e = .returned (.bool true) ∧ Below w.heap.size w w' := by
  obtain ⟨ub, hub, hub0, hub1, hub2⟩ := info_parts info_u8
  have HT := hid hT
  have hwn := fun W => within_any n h0 h1 W
  have HWN := hid hwn
  clear hT hwn
  go_enter Tryd.func3, Tryd.ntmps3
  go_wp2_with (go_at_call 4; refine (HWN.out _).mono ?_; rintro e w9 ⟨win, rfl, hW, hwin, hw9⟩; rw [hw9]; clear hw9 w9)
  have hf := feed_any win st0 ⟨#[]⟩ ⟨#[120]⟩ ⟨#[120]⟩ rfl m w (by decide) hW hwin (by decide) (by decide) HT.out
  rw [show (⟨#[120]⟩ : ByteArray).data.toList = [120] from rfl] at hf
  obtain ⟨hx1, hx2⟩ := x_fed hW
  obtain ⟨S, hS⟩ : ∃ S, (runL win st0 [120]).1 = S := ⟨_, rfl⟩
  obtain ⟨Hd, hHd⟩ : ∃ Hd, (runL win st0 [120]).2.1 = Hd := ⟨_, rfl⟩
  obtain ⟨Al, hAl⟩ : ∃ Al, evsL (runL win st0 [120]).2.2 = Al := ⟨_, rfl⟩
  rw [hS, hHd, hAl] at hf hx2
  rw [hAl, hHd] at hx1
  obtain ⟨hb, hhb⟩ : ∃ hb : ByteArray, (⟨Hd.toArray⟩ : ByteArray) = hb := ⟨_, rfl⟩
  rw [hhb] at hf
  have HF := hid hf
  have HX2 := hid (And.intro hx2 (And.intro hx1 hhb))
  clear hf hx1 hx2 hS hHd hAl hhb
  go_wp2_with fail
  refine HF.out.mono ?_
  rintro e W1 ⟨ev1, xs1, rfl, hrow1, hevs1, b1⟩
  have hcv : (convert 29 29 (.slice (some ⟨W1.heap.size + 1, 0, none⟩) 1 1)).run Tryd.prog ((W1.alloc (.cells #[.int .i64 S.mode, .int .i64 S.scan, .bool S.eat, .string hb] 25)).alloc (.cells #[.int .u8 120] 5)) = .ok (.slice (some ⟨W1.heap.size + 1, 0, none⟩) 1 1) ((W1.alloc (.cells #[.int .i64 S.mode, .int .i64 S.scan, .bool S.eat, .string hb] 25)).alloc (.cells #[.int .u8 120] 5 (1, 2))) := by
    have := run_convert_bytes_const (P := Tryd.prog) (W1.alloc (.cells #[.int .i64 S.mode, .int .i64 S.scan, .bool S.eat, .string hb] 25)) 29 5 #[.int .u8 120] 1 1 Tryd.underlying29 Tryd.underlying5
    simpa using this
  obtain ⟨V, hV⟩ : ∃ V, (W1.alloc (.cells #[.int .i64 S.mode, .int .i64 S.scan, .bool S.eat, .string hb] 25)).alloc (.cells #[.int .u8 120] 5 (1, 2)) = V := ⟨_, rfl⟩
  have hLoop : Loop w V W1.heap.size (W1.heap.size + 1) 1 1 ev1 S Hd [120] Al := by
    have hs1 : (W1.alloc (.cells #[.int .i64 S.mode, .int .i64 S.scan, .bool S.eat, .string hb] 25)).heap.size = W1.heap.size + 1 := by simp
    have hb1 := b1.size
    refine ⟨⟨xs1, ?_, ?_⟩, ⟨#[.int .u8 120], (1, 2), ?_, .inl (Nat.le_refl _), Nat.le_refl _, by unfold maxLen; omega, rfl, rfl, rfl⟩, by omega, hb1, ?_, ?_⟩
    · rw [← hV]; exact (hrow1.alloc _).alloc _
    · rw [← hV]; exact evs_mono (fun a n ys hr => (hr.alloc _).alloc _) _ _ hevs1
    · rw [← hV, ← hs1]; exact heap_alloc_new _ _
    · rw [← hV, HX2.out.2.2]; exact (alloc_old _ _ _ (by simp)).trans (heap_alloc_new W1 _)
    · rw [← hV]; exact (b1.alloc hb1 _).alloc (by simp; omega) _
  rw [hV] at hcv
  have HL := hid hLoop
  have hW1s := b1.size
  clear hrow1 hevs1 b1 hLoop hV
  obtain ⟨sb, hsb⟩ : ∃ sb, W1.heap.size = sb := ⟨_, rfl⟩
  rw [hsb] at HL hcv
  go_wp2
  clear hcv HF HWN
  go_loopw [7, 8, 26] (fun av bv iv wr => ∃ (k gb nb cb : Nat) (st : LS) (held whole : List UInt8) (all : List Ev), k ≤ len ∧ iv = .int .i64 k ∧ bv = .slice (some ⟨gb, 0, none⟩) nb cb ∧ Hid (whole = 120 :: (ss.take k).flatMap (·.data.toList)) ∧ Hid (Fed win whole st held all ∧ Loop w wr sb gb nb cb av st held whole all) ∧ all.length + 2 * held.length ≤ 2 * whole.length + k + 1) (fun _ _ iv _ => len - (RowKit.intOf iv).toNat)
  case atStart => exact ⟨0, sb + 1, 1, 1, S, Hd, [120], Al, Nat.zero_le _, rfl, rfl, hid rfl, hid ⟨HX2.out.1, HL.out⟩, HX2.out.2.1⟩
  case round =>
    obtain ⟨k, gb, nb, cb, st, held, whole, all, hk, rfl, rfl, HWH, HFL, hbnd⟩ := hrel
    clear HL HX2
    by_cases hlt : k < len
    · obtain ⟨b, off, rfl, hc0⟩ := hcell k hlt
      have HLT := hid hlt
      obtain ⟨p, hp⟩ : ∃ p, ss.getD k ByteArray.empty = p := ⟨_, rfl⟩
      rw [hp] at hc0
      obtain ⟨hfed, hloop⟩ := HFL.out
      have hcb := cell_block hc0
      have hc := cell_low hc0 hloop.b hcb
      have c0 := cell_at hloop.s (j := 0) rfl
      have c1 := cell_at hloop.s (j := 1) rfl
      have c2 := cell_at hloop.s (j := 2) rfl
      have c3 := cell_at hloop.s (j := 3) rfl
      have hpl := piece_len' hlen hlt hp hsum HWH.out
      have hwn := whole_next' hlen hlt hp HWH.out
      obtain ⟨s1, s2, s3, s4⟩ := hfed.small hW
      obtain ⟨data, hda⟩ : ∃ data, (⟨held.toArray⟩ : ByteArray) ++ p = data := ⟨_, rfl⟩
      have hdl : data.data.toList = held ++ p.data.toList := by rw [← hda, ByteArray.data_append, Array.toList_append]
      have hdz : data.size = held.length + p.size := by rw [size_eq, hdl, List.length_append, ← size_eq]
      have hfd := feed_any win st ⟨held.toArray⟩ p data hda m wr.drew (by omega) hW hwin s3 s4 (by exact ((HT.out.below hloop.b).up hloop.b.size).drewN 1)
      rw [hdl] at hfd
      have hnext := hfed.next hW p.data.toList
      obtain ⟨t1, t2, t3, t4⟩ := hnext.small hW
      have hgrow := evs_grow hW st (held ++ p.data.toList) s3
      have hrest := (run_rest hW st (held ++ p.data.toList) s3).1
      rw [List.length_append, ← size_eq] at hgrow hrest
      obtain ⟨S2, hS2⟩ : ∃ S2, (runL win st (held ++ p.data.toList)).1 = S2 := ⟨_, rfl⟩
      obtain ⟨H2, hH2⟩ : ∃ H2, (runL win st (held ++ p.data.toList)).2.1 = H2 := ⟨_, rfl⟩
      obtain ⟨A2, hA2⟩ : ∃ A2, evsL (runL win st (held ++ p.data.toList)).2.2 = A2 := ⟨_, rfl⟩
      rw [hS2, hH2, hA2] at hfd hnext
      rw [hH2, hA2] at hgrow
      rw [hH2] at t1 hrest
      obtain ⟨hb2, hhb2⟩ : ∃ hb2 : ByteArray, (⟨H2.toArray⟩ : ByteArray) = hb2 := ⟨_, rfl⟩
      have hhz : hb2.size = H2.length := by rw [← hhb2]; rfl
      rw [hhb2] at hfd
      obtain ⟨hd9, hhd9⟩ : ∃ hd9 : ByteArray, (⟨held.toArray⟩ : ByteArray) = hd9 := ⟨_, rfl⟩
      rw [hhd9] at hfd c3
      have hwl : (whole ++ p.data.toList).length = whole.length + p.size := by rw [List.length_append, ← size_eq]
      have hbnd2 : (all ++ A2).length + 2 * H2.length ≤ 2 * (whole ++ p.data.toList).length + (k + 1) + 1 := by rw [hwl, List.length_append]; omega
      have hall : all.length + A2.length ≤ 1000000000 := by omega
      have hnb : whole.length = nb := by obtain ⟨_, _, _, _, _, _, _, h, _⟩ := hloop.n; rw [byteCells_length] at h; exact h
      have hnbp : nb + p.size ≤ 140737488355328 := by omega
      have hng : ¬ ((win : Int) < (hb2.size : Int)) := by omega
      have HFD := hid hfd
      have HNX := hid (And.intro hnext (And.intro hbnd2 (And.intro hwn hhb2)))
      have HSZ := hid (And.intro hall (And.intro hnbp hnb))
      clear hfd hnext hbnd2 hwn hhb2 hall hnbp hnb s1 s2 s3 s4 t1 t2 t3 t4 hgrow hrest hS2 hH2 hA2 hda hdl hdz hpl hwl hhz hhd9 hbnd hfed hp
      go_wp2_with fail
      go_region_law (go_simp; go_at_call 5; refine HFD.out.mono ?_; rintro e W3 ⟨ev3, xs3, rfl, hrow3, hevs3, b3⟩; have hg3 : wr.grownBy W3 none := ⟨b3.os, b3.tape, b3.output, b3.size, fun j hj _ => b3.block j hj⟩; have hst3 : W3.heap[sb]? = some (.cells #[.int .i64 st.mode, .int .i64 st.scan, .bool st.eat, .string ⟨held.toArray⟩] 25 (0, 0)) := (b3.block sb (Array.getElem?_eq_some_iff.1 hloop.s).1).trans hloop.s; have d0 := cell_at hst3 (j := 0) rfl; have d1 := cell_at hst3 (j := 1) rfl; have d2 := cell_at hst3 (j := 2) rfl; have d3 := cell_at hst3 (j := 3) rfl; have df0 := free_at hst3 0; have df1 := free_at hst3 1; have df2 := free_at hst3 2; have df3 := free_at hst3 3)
      all_goals
        obtain ⟨xs, hxs, exs⟩ := hloop.it
        have hs4 := four_at (v0 := .int .i64 S2.mode) (v1 := .int .i64 S2.scan) (v2 := .bool S2.eat) (v3 := .string hb2) hst3
        have hA4 := row_just (hxs.kept hg3 (Classical.em _)) hst3 (by decide) (four_other W3 sb (.int .i64 S2.mode) (.int .i64 S2.scan) (.bool S2.eat) (.string hb2))
        have eA4 := evs_mono (fun a n ys hr => row_just (hr.kept hg3 (Classical.em _)) hst3 (by decide) (four_other W3 sb (.int .i64 S2.mode) (.int .i64 S2.scan) (.bool S2.eat) (.string hb2))) _ _ exs
        have hB4 := row_just (row_low hrow3 (by exact hloop.b.size)) hst3 (by decide) (four_other W3 sb (.int .i64 S2.mode) (.int .i64 S2.scan) (.bool S2.eat) (.string hb2))
        have eB4 := evs_mono (fun a n ys hr => row_just hr hst3 (by decide) (four_other W3 sb (.int .i64 S2.mode) (.int .i64 S2.scan) (.bool S2.eat) (.string hb2))) _ _ (evs_low (by exact hloop.b.size) _ _ hevs3)
        have hgsb : gb ≠ sb := (blockN_ne hloop.s hloop.n (by decide)).symm
        have hN4 : ownsN ((((W3.setCell ⟨sb, 0, none⟩ (.int .i64 S2.mode)).setCell ⟨sb, 1, none⟩ (.int .i64 S2.scan)).setCell ⟨sb, 2, none⟩ (.bool S2.eat)).setCell ⟨sb, 3, none⟩ (.string hb2)) 5 gb nb cb (byteCells whole) := hloop.n.kept ((four_other W3 sb _ _ _ _ gb hgsb).trans (b3.block gb (by exact hloop.n.lt)))
        have bel4 := four_below (hloop.b.trans (Below.mono (B := wr.heap.size) (⟨b3.os, b3.tape, b3.output, b3.size, b3.block⟩ : Below wr.heap.size wr W3) hloop.b.size)) hloop.sl (.int .i64 S2.mode) (.int .i64 S2.scan) (.bool S2.eat) (.string hb2)
        have HSL := hid hloop.sl
        have HGL := hid hloop.gl
        clear hrow3 hevs3 b3 hg3 hst3 d0 d1 d2 d3 df0 df1 df2 df3 hxs exs hc c0 c1 c2 c3 hloop HFL HFD
        go_wp2_with (at_builtin; refine wpList_append_evs rfl (.tmp 39) (.tmp 40) rfl w.heap.size w.heap.size _ _ all A2 xs xs3 rfl rfl (by exact hA4) (by exact eA4) (by exact hB4) (by exact eB4) (by exact bel4.size) HSZ.out.1 ?_)
        intro v5 W5 zs hA5 eA5 hg5
        have hs5 := (hg5.block sb (Array.getElem?_eq_some_iff.1 hs4).1 (fun e => row_ne hA4 hs4 (by decide) e.symm)).trans hs4
        have hN5 := hN4.kept (hg5.block gb hN4.lt (fun e => rowN_ne hA4 hN4 (by decide) e.symm))
        have bel5 : Below w.heap.size w W5 := bel4.grown hg5 bel4.size (fun k hk => (hA4.lt k hk).1)
        have hc5 := cell_low hc0 bel5 hcb
        have HZ5 := hid (And.intro hA5 (And.intro eA5 (And.intro hs5 bel5)))
        clear hA4 eA4 hB4 eB4 hs4 hN4 bel4 hg5 hA5 eA5 hs5 bel5
        go_wp2_with (at_builtin; refine wpList_append_marked _ rfl (.tmp 42) (.tmp 46) 29 9 rfl 5 ub Tryd.underlying29 Tryd.underlying9 hub hub0 hub1 hub2 gb nb cb (byteCells whole) rfl (by exact hN5) p rfl HSZ.out.2.1 ?_)
        intro gb6 cb6 W6 ho6 hg6 hor6
        obtain ⟨hA5, eA5, hs5, bel5⟩ := HZ5.out
        have hA6 := hA5.kept hg6 (.inr (rowN_ne hA5 hN5 (by decide)))
        have eA6 := evs_mono (fun a n ys hr => hr.kept hg6 (.inr (rowN_ne hr hN5 (by decide)))) _ _ eA5
        have hs6 := (hg6.block sb (Array.getElem?_eq_some_iff.1 hs5).1 (fun e => hgsb (Option.some.inj e).symm)).trans hs5
        have hgb6 : w.heap.size ≤ gb6 := by have := HGL.out; have := bel5.size; rcases hor6 with h | h <;> omega
        have bel6 : Below w.heap.size w W6 := bel5.trans ⟨hg6.os, hg6.tape, hg6.output, hg6.size, fun j hj => hg6.block j (by have := bel5.size; omega) (by intro e; have := HGL.out; simp at e; omega)⟩
        have e3 := cell_at hs6 (j := 3) rfl
        have HL6 : Hid (Fed win (whole ++ p.data.toList) S2 H2 (all ++ A2) ∧ Loop w W6 sb gb6 (nb + p.size) cb6 v5 S2 H2 (whole ++ p.data.toList) (all ++ A2)) := hid ⟨HNX.out.1, ⟨zs, by rw [List.length_append]; exact hA6, eA6⟩, by rw [byteCells_append]; exact ho6, hgb6, HSL.out, by rw [HNX.out.2.2.2]; exact hs6, bel6⟩
        clear hA5 eA5 hs5 bel5 hA6 eA6 hs6 bel6 ho6 hg6 hN5 HZ5 hc5
        go_wp2
        go_roundw
        case rel =>
          have hq := HLT.out
          exact ⟨k + 1, gb6, nb + p.size, cb6, S2, H2, whole ++ p.data.toList, all ++ A2, by omega, by go_num, rfl, hid HNX.out.2.2.1, HL6, HNX.out.2.1⟩
        case measure => have hq := HLT.out; simp [RowKit.intOf]; omega
    · have hkl : k = len := by omega
      obtain ⟨hfed, hloop⟩ := HFL.out
      obtain ⟨s1, s2, s3, s4⟩ := hfed.small hW
      obtain ⟨l1, l2⟩ := hfed.last hW
      have hwl : whole.length ≤ 1048577 := by
        rw [HWH.out, hkl, List.take_of_length_le (by omega)]
        simp only [List.length_cons]
        omega
      have hwx : ∃ r, whole = 120 :: r := ⟨_, HWH.out⟩
      obtain ⟨LE, hLE⟩ : ∃ LE, evsL (endL st held) = LE := ⟨_, rfl⟩
      have hLEn : LE.length ≤ 1 := by rw [← hLE]; exact end_grow st held
      have hfw : evsL (wholeL win st held) = LE := by
        unfold wholeL
        rw [l1, ← hLE]
        rfl
      rw [hLE] at l2
      have htw := tot_whole hW whole
      obtain ⟨J, hJ⟩ : ∃ J, evsL (wholeL win st0 whole) = J := ⟨_, rfl⟩
      rw [hJ] at l2 htw
      have htot : tot (all ++ LE) ≤ 100000000000 := by rw [← tot_join, l2]; omega
      have hJx : ∃ bb l, J = .text (120 :: bb) :: l := by
        obtain ⟨r, hr⟩ := hwx
        rw [← hJ, hr]
        exact whole_x hW r
      have hfi := finish_any win st ⟨held.toArray⟩ false m wr (by show held.length ≤ _; omega) hW hwin s3 s4 ((HT.out.below hloop.b).up hloop.b.size) rfl
      rw [show (⟨held.toArray⟩ : ByteArray).data.toList = held from rfl, hfw] at hfi
      have hal : all.length + LE.length ≤ 1000000000 := by omega
      have c0 := cell_at hloop.s (j := 0) rfl
      have c1 := cell_at hloop.s (j := 1) rfl
      have c2 := cell_at hloop.s (j := 2) rfl
      have c3 := cell_at hloop.s (j := 3) rfl
      obtain ⟨hd9, hhd9⟩ : ∃ hd9 : ByteArray, (⟨held.toArray⟩ : ByteArray) = hd9 := ⟨_, rfl⟩
      rw [hhd9] at hfi c3
      obtain ⟨wb, hwb⟩ : ∃ wb : ByteArray, (⟨whole.toArray⟩ : ByteArray) = wb := ⟨_, rfl⟩
      have hwbl : wb.data.toList = whole := by rw [← hwb]
      have hlx := fun W (hTW : LexTabs W.heap.size W m) => lex_any win wb m W (by rw [size_eq, hwbl]; omega) hW hwin hTW
      rw [hwbl, hJ] at hlx
      have HFI := hid hfi
      have HLX := hid hlx
      have HP := hid (And.intro l2 (And.intro htot (And.intro hal (And.intro hJx hwb))))
      clear hfi hlx hfed s1 s2 s3 s4 l1 l2 hwl hwx hLE hLEn hfw htw hJ htot hJx hal hhd9 hwb hwbl hbnd HWH hcell hsum
      go_wp2_with fail
      refine HFI.out.mono ?_
      rintro e W1 ⟨ev1, xsL, rfl, hL1, eL1, b1⟩
      obtain ⟨xs, hxs, exs⟩ := hloop.it
      have hg1 : wr.grownBy W1 none := ⟨b1.os, b1.tape, b1.output, b1.size, fun j hj _ => b1.block j hj⟩
      have hA1 := hxs.kept hg1 (Classical.em _)
      have eA1 := evs_mono (fun a n ys hr => hr.kept hg1 (Classical.em _)) _ _ exs
      have hL2 := row_low hL1 hloop.b.size
      have eL2 := evs_low hloop.b.size _ _ eL1
      have hN1 := hloop.n.kept (b1.block gb hloop.n.lt)
      have bel1 := hloop.b.trans (b1.mono hloop.b.size)
      clear hxs exs hL1 eL1 b1 hg1 c0 c1 c2 c3 hloop HFL HFI
      go_wp2_with (at_builtin; refine wpList_append_evs rfl (.tmp 57) (.tmp 58) rfl w.heap.size w.heap.size _ _ all LE xs xsL rfl rfl (by exact hA1) (by exact eA1) (by exact hL2) (by exact eL2) (by exact bel1.size) HP.out.2.2.1 ?_)
      intro v5 W2 zs hA2 eA2 hg2
      have hN2 := hN1.kept (hg2.block gb hN1.lt (fun e => rowN_ne hA1 hN1 (by decide) e.symm))
      have bel2 : Below w.heap.size w W2 := bel1.grown hg2 bel1.size (fun k hk => (hA1.lt k hk).1)
      have hjt := joinTexts_any w.heap.size v5 zs (all ++ LE) W2 (by rw [List.length_append]; exact hA2) eA2 (by rw [List.length_append]; exact HP.out.2.2.1) HP.out.2.1
      rw [HP.out.1] at hjt
      have HJT := hid hjt
      clear hA1 eA1 hL2 eL2 hN1 bel1 hg2 hA2 eA2 hjt
      go_wp2_with fail
      refine HJT.out.mono ?_
      rintro e W3 ⟨vG, ysG, rfl, hG3, eG2, b3⟩
      have hN3 := hN2.kept (b3.block gb hN2.lt)
      have bel3 := bel2.trans (b3.mono bel2.size)
      have hcv := ownsN_text hN3
      rw [HP.out.2.2.2.2] at hcv
      have eG3 : EvsAt W3 w.heap.size ysG J := evs_mono (fun a n ys hr => hr.kept (row := none) ⟨b3.os, b3.tape, b3.output, b3.size, fun j hj _ => b3.block j hj⟩ (Classical.em _)) _ _ eG2
      have hT3 := (HT.out.below bel3).up bel3.size
      have hlx3 := HLX.out W3 hT3
      have HLX3 := hid hlx3
      have HG := hid (And.intro hG3 (And.intro eG3 bel3))
      have hbs2 := hid bel2.size
      clear hG3 eG2 eG3 b3 hN3 bel3 hN2 bel2 hT3 hlx3 HJT HLX
      go_wp2_with fail
      refine HLX3.out.mono ?_
      rintro e W4 ⟨vD, xsD, rfl, hD4, eD4, b4⟩
      obtain ⟨hG3, eG3, bel3⟩ := HG.out
      have hg4 : W3.grownBy W4 none := ⟨b4.os, b4.tape, b4.output, b4.size, fun j hj _ => b4.block j hj⟩
      have hG4 := row_low (hG3.kept hg4 (Classical.em _)) hbs2.out
      have eG4 := evs_mono (fun a n ys hr => hr.kept hg4 (Classical.em _)) _ _ eG3
      have hse := sameEvents_any w.heap.size W3.heap.size vG vD ysG xsD J W4 hG4 eG4 hD4 eD4
      obtain ⟨bb, lJ, hJ2⟩ := HP.out.2.2.2.1
      have hJl : 0 < J.length := by rw [hJ2]; simp
      obtain ⟨gD, caD, aD, hvD, _, _, z0, _, _, z3, _, _⟩ := ev_cells hD4 eD4 0 hJl
      have hJ0 : J[0] = .text (120 :: bb) := by simp [hJ2]
      rw [hJ0] at z0 z3
      subst hvD
      change W4.cell? ⟨gD, 0, none⟩ = some (.int .i64 3) at z0
      change W4.cell? ⟨gD, 3, none⟩ = some (strV (120 :: bb)) at z3
      obtain ⟨xb, hxb⟩ : ∃ xb : ByteArray, (⟨(120 :: bb).toArray⟩ : ByteArray) = xb := ⟨_, rfl⟩
      unfold strV at z3
      rw [hxb] at z3
      have hbg := fun W => begun_any xb bb (by rw [← hxb]) W
      have HSE := hid hse
      have HBG := hid hbg
      have HB4 := hid (bel3.trans (b4.mono bel3.size))
      have hjpos : (0 : Int) < (J.length : Int) := by omega
      clear hse hbg hG3 eG3 bel3 hg4 hG4 eG4 hD4 eD4 b4 hJ2 hJ0 hxb HG HLX3
      go_wp2_with (first | (go_at_call 9; refine HSE.out.mono ?_; rintro e W5 ⟨rfl, nd, rfl⟩) | (go_at_call 10; refine (HBG.out _).mono ?_; rintro e W6 ⟨rfl, rfl⟩))
      go_ret
      exact ⟨rfl, below_drewN HB4.out _⟩
end Go.Proofs.YtolbahmihkdmiaaDoor

/-
  From what a row says of the six tables to what lies in memory.
-/
namespace Go.Proofs.YtolbahmihkdmiaaDoor
open Go.RowKit Go.Lib Go.ChangeShapes

theorem range_of {P : Program} {w : World} {n : String} {g : Nat} {cs : Array Value} {L : List Value} (hg : P.globalNamed n = some g) (hvar : w.var? P n = some cs) (h : ∀ (j : Nat) (v : Value), L[j]? = some v → cs.toList[j]? = some v) : w.rangeAt g 0 L := by
  intro j v hv
  rw [Nat.zero_add, World.var?_cell hg hvar j, ← Array.getElem?_toList]
  exact h j v hv
theorem ints_of {P : Program} {w : World} {n : String} {g t e m : Nat} {k : IntKind} {zs : List Int} (hg : P.globalNamed n = some g) (ht : (P.globals[g]?).map (·.type) = some t)
    (hu : P.underlying t = some (.array m e)) (he : P.underlying e = some (.int k)) (hce : P.cellsOf e = 1) (hct : P.cellsOf t = m) (h : VarReads P w n (tabData k zs)) : w.rangeAt g 0 (zs.map fun z => .int k z) := by
  obtain ⟨g', t', cs, fuel, p, hg', hty, hvar, hd⟩ := h
  obtain rfl := Option.some.inj (hg.symm.trans hg')
  obtain rfl := Option.some.inj (ht.symm.trans hty)
  have hcs := cells_of_tab hu he hce hct hd
  exact range_of hg hvar (fun j v hv => by rw [hcs]; exact hv)
theorem one_at {α : Type} {l : List α} {j : Nat} {x : α} (h : (l.drop j).take 1 = [x]) : l[j]? = some x := by
  have := congrArg (·[0]?) h
  simpa using this
theorem strs_of {P : Program} {w : World} {n : String} {g t e m : Nat} {T : List (List UInt8)} (hg : P.globalNamed n = some g) (ht : (P.globals[g]?).map (·.type) = some t)
    (hu : P.underlying t = some (.array m e)) (he : P.underlying e = some .string) (hce : P.cellsOf e = 1) (hm : T.length = m) (h : VarReads P w n (.agg (T.map fun x => .lit (.string x)))) : w.rangeAt g 0 (T.map strV) := by
  obtain ⟨g', t', cs, fuel, p, hg', hty, hvar, hd⟩ := h
  obtain rfl := Option.some.inj (hg.symm.trans hg')
  obtain rfl := Option.some.inj (ht.symm.trans hty)
  refine range_of hg hvar (fun j v hv => ?_)
  rw [List.getElem?_map] at hv
  obtain ⟨x, hx, rfl⟩ := Option.map_eq_some_iff.1 hv
  obtain ⟨fuel', d, q, hdi, hel⟩ := array_elem hu hd j (by rw [← hm]; exact (List.getElem?_eq_some_iff.1 hx).1)
  rw [List.getElem?_map, hx] at hdi
  simp only [Option.map_some, Option.some.injEq] at hdi
  subst hdi
  rw [hce, Nat.mul_one] at hel
  obtain ⟨s, hs, hx2, _⟩ := DataW.trod_string he hel
  simp only [Prod.mk.injEq, DataW.lit.injEq, Lit.string.injEq] at hx2
  rw [one_at hs]
  unfold strV
  rw [hx2.1]
theorem flat_even {f g : List UInt8 × Int → Value} : ∀ (T : List (List UInt8 × Int)) (k : Nat), (T.flatMap fun t => [f t, g t])[k * 2]? = T[k]?.map f ∧ (T.flatMap fun t => [f t, g t])[k * 2 + 1]? = T[k]?.map g
  | [], k => by simp
  | t :: T, 0 => by simp
  | t :: T, k + 1 => by
    have := flat_even (f := f) (g := g) T k
    rw [show (k + 1) * 2 = k * 2 + 2 from by omega, show k * 2 + 2 + 1 = k * 2 + 1 + 2 from by omega, List.flatMap_cons]
    simpa using this
theorem pairs_of {P : Program} {w : World} {n : String} {g t e m ts ti : Nat} {f0 f1 : Field} {T : List (List UInt8 × Int)} (hg : P.globalNamed n = some g) (ht : (P.globals[g]?).map (·.type) = some t)
    (hu : P.underlying t = some (.array m e)) (he : P.underlying e = some (.struct #[f0, f1])) (hce : P.cellsOf e = 2) (hm : T.length = m)
    (h0 : f0.type = ts ∧ f0.offset = 0) (h1 : f1.type = ti ∧ f1.offset = 1) (hs : P.underlying ts = some .string) (hcs : P.cellsOf ts = 1) (hi : P.underlying ti = some (.int .i32)) (hci : P.cellsOf ti = 1)
    (h : VarReads P w n (.agg (T.map fun x => .agg [.lit (.string x.1), .lit (.int .i32 x.2)]))) : w.rangeAt g 0 (T.flatMap fun t => [strV t.1, .int .i32 t.2]) := by
  obtain ⟨g', t', cs, fuel, p, hg', hty, hvar, hd⟩ := h
  obtain rfl := Option.some.inj (hg.symm.trans hg')
  obtain rfl := Option.some.inj (ht.symm.trans hty)
  have key : ∀ k x, T[k]? = some x → cs.toList[k * 2]? = some (strV x.1) ∧ cs.toList[k * 2 + 1]? = some (.int .i32 x.2) := by
    intro k x hx
    obtain ⟨fuel', d, q, hdi, hel⟩ := array_elem hu hd k (by rw [← hm]; exact (List.getElem?_eq_some_iff.1 hx).1)
    rw [List.getElem?_map, hx] at hdi
    simp only [Option.map_some, Option.some.injEq] at hdi
    subst hdi
    obtain ⟨y0, y1, n', hy, _, e0, e1⟩ := trod_struct2 he hel
    rw [h0.1, h0.2, hcs, hce] at e0
    rw [h1.1, h1.2, hci, hce] at e1
    obtain ⟨s, hs1, hs2, _⟩ := DataW.trod_string hs e0
    obtain ⟨z, hz1, hz2, _⟩ := DataW.trod_int hi e1
    rw [hs2, hz2] at hy
    simp only [Prod.mk.injEq, DataW.agg.injEq, List.cons.injEq, DataW.lit.injEq, Lit.string.injEq, Lit.int.injEq, true_and, and_true] at hy
    have a0 := one_at hs1
    have a1 := one_at hz1
    rw [List.getElem?_take_of_lt (by omega), List.getElem?_drop] at a0 a1
    refine ⟨?_, ?_⟩
    · rw [show k * 2 = k * 2 + 0 from rfl, a0]
      unfold strV
      rw [hy.1.1]
    · rw [a1, hy.1.2]
  refine range_of hg hvar (fun j v hv => ?_)
  obtain ⟨f1', f2'⟩ := flat_even (f := fun t => strV t.1) (g := fun t => .int .i32 t.2) T (j / 2)
  rcases Nat.mod_two_eq_zero_or_one j with h2 | h2
  · have e : j = j / 2 * 2 := by omega
    rw [e] at hv ⊢
    rw [f1'] at hv
    obtain ⟨x, hx, rfl⟩ := Option.map_eq_some_iff.1 hv
    exact (key _ x hx).1
  · have e : j = j / 2 * 2 + 1 := by omega
    rw [e] at hv ⊢
    rw [f2'] at hv
    obtain ⟨x, hx, rfl⟩ := Option.map_eq_some_iff.1 hv
    exact (key _ x hx).2
end Go.Proofs.YtolbahmihkdmiaaDoor
