/-
  Parts of the walk, joined: StepB, ApartA, ApartB, LendE, SieveA.
-/
import Derived.Test.YtkcgmimldjeaiaaGreatDoorGen
import Derived.Test.YtkcgmimldjeaiaaGreatDoorJoinI
import Derived.Test.YtkcgmimldjeaiaaGreatDoorLexFind
import Derived.Test.YtkcgmimldjeaiaaGreatDoorJoinF
import Derived.Test.YtkcgmimldjeaiaaGreatDoorJoinD
import Derived.Test.YtkcgmimldjeaiaaGreatDoorShelf
import Derived.Test.YtkcgmimldjeaiaaGreatDoorJoinH
import Derived.Test.YtkcgmimldjeaiaaGreatDoorJoinC
/-
  A step of the reader, in the plain lexer's words; skipBogus, skipComment: their walks.
-/
namespace Go.Proofs.YtkcgmimldjeaiaaGreatDoor
open Go.RowKit Go.Lib Own

theorem StreamAt.below {W W' : World} {base b o : Nat} {cs : Array Value} {T : TypeId} {evs : List Ev} {pend : List UInt8} (h : StreamAt W base b o cs T evs pend) (hb : Below W.heap.size W W') : StreamAt W' base b o cs T evs pend := by
  obtain ⟨ev, p, v, xs, hev, hin, hrow, hevs, hap⟩ := h.it
  have hg : W.grownBy W' none := ⟨hb.os, hb.tape, hb.output, hb.size, fun k hk _ => hb.block k hk⟩
  exact ⟨ev, p, v, xs, hev, ⟨(hb.block b (Array.getElem?_eq_some_iff.1 hin.at_).1).trans hin.at_, hin.lo, hin.cp, hin.cv, hin.hp, hin.own.kept hg (by cases hv : v.ownBlock <;> simp), hin.ne⟩, hrow.kept hg (Classical.em _), evs_mono (fun a n ys hr => hr.kept hg (Classical.em _)) xs evs hevs, hap⟩
theorem below_low {A B : Nat} {w w' : World} (h : Below B w w') (hAB : A ≤ B) : Below A w w' := Below.mono h hAB

end Go.Proofs.YtkcgmimldjeaiaaGreatDoor

/-
  The statements' appended and allNamed: their walks.
-/
namespace Go.Proofs.YtkcgmimldjeaiaaGreatDoor
open Go.RowKit Go.Lib Own

/-- attributes of one name -/
def namedV (nm : ByteArray) (ws : List ByteArray) : List Value := ws.flatMap fun x => [.string nm, .string x]
theorem namedV_len (nm : ByteArray) : ∀ ws : List ByteArray, (namedV nm ws).length = ws.length * 2
  | [] => rfl
  | x :: ws => by
    have := namedV_len nm ws
    unfold namedV at this ⊢
    simp only [List.flatMap_cons, List.length_append, List.length_cons, List.length_nil, this]
    omega
theorem namedV_app (nm : ByteArray) (a b : List ByteArray) : namedV nm (a ++ b) = namedV nm a ++ namedV nm b := by
  unfold namedV
  rw [List.flatMap_append]
theorem namedV_at (nm : ByteArray) : ∀ (ws : List ByteArray) (j : Nat), j < ws.length → (namedV nm ws)[j * 2]? = some (.string nm)
  | [], j, h => by simp at h
  | x :: ws, 0, _ => rfl
  | x :: ws, j + 1, h => by
    have := namedV_at nm ws j (by simpa using h)
    rw [show (j + 1) * 2 = j * 2 + 1 + 1 by omega]
    exact this
/-- a list of attributes that can be read, all of one name -/
def NamedR (W : World) (v : Value) (n : Nat) (nm : ByteArray) : Prop := n ≤ 9223372036854775807 ∧ ∃ p c, v = .slice p n c ∧ ∀ j, j < n → ∃ g, p = some ⟨g, 0, none⟩ ∧ W.cell? ⟨g, j * 2, none⟩ = some (.string nm) ∧ ∃ cs, W.heap[g]? = some (.cells cs 66 (0, 0))
theorem NamedR.of {W : World} {base n : Nat} {v : Value} {nm : ByteArray} {ws : List ByteArray} (h : W.ownsRow base 66 2 v n (namedV nm ws)) : NamedR W v n nm := by
  have hl : ws.length = n := by have := h.1; rw [namedV_len] at this; omega
  refine ⟨row_max h, ?_⟩
  obtain ⟨p, c, rfl⟩ := row_shape h
  refine ⟨p, c, rfl, fun j hj => ?_⟩
  obtain ⟨g, cap, e, _, _, hc⟩ := row_at h (by omega)
  cases e
  refine ⟨g, rfl, (hc _ (by omega)).trans (namedV_at nm ws j (by omega)), ?_⟩
  rcases h.2 with ⟨e2, _⟩ | ⟨g2, cap2, cur, e2, _, hh, _⟩
  · cases e2
  · cases e2
    exact ⟨cur, hh⟩
theorem NamedR.kept {W W' : World} {n : Nat} {v : Value} {nm : ByteArray} (h : NamedR W v n nm) (hk : 0 < n → ∀ k, v.ownBlock = some k → W'.heap[k]? = W.heap[k]?) : NamedR W' v n nm := by
  obtain ⟨h0, p, c, rfl, h1⟩ := h
  refine ⟨h0, p, c, rfl, fun j hj => ?_⟩
  obtain ⟨g, rfl, h2, cs, h3⟩ := h1 j hj
  have := hk (by omega) g rfl
  refine ⟨g, rfl, ?_, cs, by rw [this]; exact h3⟩
  unfold World.cell? at h2 ⊢
  rw [this]
  exact h2
theorem NamedR.own {W : World} {n : Nat} {v : Value} {nm : ByteArray} (h : NamedR W v n nm) (hn : 0 < n) : ∃ g, v.ownBlock = some g ∧ g < W.heap.size := by
  obtain ⟨h0, p, c, rfl, h1⟩ := h
  obtain ⟨g, rfl, h2, _⟩ := h1 0 hn
  exact ⟨g, rfl, cell_block h2⟩

set_option maxHeartbeats 2000000 in
set_option maxRecDepth 10000 in
theorem allNamed_any (v : Value) (n : Nat) (nm : ByteArray) (w : World) (h : NamedR w v n nm) :
    Calls Tryz.prog 47 #[v, .string nm] w fun e w' => e = .returned (.bool true) ∧ w' = w := by
  obtain ⟨h0, p, c, rfl, h1⟩ := h
  have H1 := hid h1
  clear h1
  go_enter Tryz.func47, Tryz.ntmps47
  go_wp2
  go_loopw [8] (fun iv wr => ∃ k : Nat, iv = .int .i64 k ∧ k ≤ n ∧ wr = w) (fun iv _ => n - (RowKit.intOf iv).toNat)
  case atStart => exact ⟨0, rfl, Nat.zero_le _, rfl⟩
  case round =>
    obtain ⟨k, rfl, hk, rfl⟩ := hrel
    by_cases hkl : k < n
    · obtain ⟨g, rfl, hc, _⟩ := H1.out k hkl
      clear H1
      go_wp2
      go_roundw
      case rel => exact ⟨k + 1, rfl, by omega, by first | rfl | trivial⟩
      case measure => simp [RowKit.intOf]; omega
    · go_wp2
      go_ret
      exact ⟨rfl, by first | rfl | trivial⟩

/-- a list of words that came in -/
structure WordsAt (W : World) (base : Nat) (a : Option Addr) (ss : List ByteArray) : Prop where
  at_ : ∀ j, j < ss.length → ∃ b o, a = some ⟨b, o, none⟩ ∧ b < base ∧ W.cell? ⟨b, o + j, none⟩ = some (.string (ss.getD j ByteArray.empty))
theorem WordsAt.below {W W' : World} {base : Nat} {a : Option Addr} {ss : List ByteArray} (h : WordsAt W base a ss) (hb : Below base W W') : WordsAt W' base a ss :=
  ⟨fun j hj => by
    obtain ⟨b, o, h1, h2, h3⟩ := h.at_ j hj
    exact ⟨b, o, h1, h2, cell_low h3 hb h2⟩⟩
theorem WordsAt.up {W : World} {base base2 : Nat} {a : Option Addr} {ss : List ByteArray} (h : WordsAt W base a ss) (hb : base ≤ base2) : WordsAt W base2 a ss :=
  ⟨fun j hj => by
    obtain ⟨b, o, h1, h2, h3⟩ := h.at_ j hj
    exact ⟨b, o, h1, by omega, h3⟩⟩

/-- a list that grows out of another one -/
structure Grows (w wr : World) (base : Nat) (v : Value) (n : Nat) (nm : ByteArray) (cv : Value) (K : Nat) (ws : List ByteArray) : Prop where
  own : wr.ownsRow base 66 2 cv K (namedV nm ws)
  le : n ≤ K
  low : base ≤ w.heap.size
  size : w.heap.size ≤ wr.heap.size
  fr : ∀ k, k < w.heap.size → v.ownBlock ≠ some k → wr.heap[k]? = w.heap[k]?
  bl : cv.ownBlock = v.ownBlock ∨ ∀ g, cv.ownBlock = some g → w.heap.size ≤ g
  be : Below base w wr
  nr : NamedR wr v n nm
theorem Grows.next {w wr w2 : World} {base : Nat} {v cv : Value} {n K g cap : Nat} {nm x : ByteArray} {ws : List ByteArray} {X : Obj} (h : Grows w wr base v n nm cv K ws)
    (h2 : w2.ownsRow base 66 2 (.slice (some ⟨g, 0, none⟩) (K + 1) cap) (K + 1) (namedV nm ws ++ [.string nm, .string x])) (h3 : (wr.alloc X).grownBy w2 cv.ownBlock)
    (h4 : cv.ownBlock = some g ∨ g = wr.heap.size + 1 ∧ ∀ k, k < wr.heap.size + 1 → w2.heap[k]? = (wr.alloc X).heap[k]?) : Grows w w2 base v n nm (.slice (some ⟨g, 0, none⟩) (K + 1) cap) (K + 1) (ws ++ [x]) := by
  have hown2 : w2.ownsRow base 66 2 (.slice (some ⟨g, 0, none⟩) (K + 1) cap) (K + 1) (namedV nm (ws ++ [x])) := by rw [namedV_app]; exact h2
  have hsz1 : (wr.alloc X).heap.size = wr.heap.size + 1 := by simp
  have hold : ∀ k, k < wr.heap.size → (wr.alloc X).heap[k]? = wr.heap[k]? := fun k hk => Go.Lib.alloc_old wr X k hk
  have hbs := h.size
  have hb3 : Below base wr w2 := ((Below.refl base wr).alloc (Nat.le_trans h.low hbs) X).grown h3 (by rw [hsz1]; have := h.low; omega) (fun k hk => (h.own.lt k hk).1)
  refine ⟨hown2, by have := h.le; omega, h.low, Nat.le_trans hbs hb3.size, fun k hk hv => ?_, ?_, h.be.trans hb3, ?_⟩
  · have hcv : cv.ownBlock ≠ some k := by
      rcases h.bl with e | e
      · rw [e]; exact hv
      · intro e2
        have := e k e2
        omega
    rw [h3.block k (by omega) (fun e => hcv e.symm), hold k (by omega)]
    exact h.fr k hk hv
  · rcases h4 with e | ⟨e, _⟩
    · rcases h.bl with e2 | e2
      · left
        show some g = _
        rw [← e2, e]
      · right
        intro g' hg'
        exact e2 g' (by rw [e]; exact hg')
    · right
      intro g' hg'
      have : g = g' := Option.some.inj hg'
      omega
  · -- what stood there can be read still
    by_cases hn : n = 0
    · obtain ⟨h0, p, c, rfl, h1⟩ := h.nr
      exact ⟨h0, p, c, rfl, fun j hj => by omega⟩
    · obtain ⟨g0, hg0, hlt⟩ := h.nr.own (by omega)
      by_cases hc : cv.ownBlock = some g0
      · rcases h4 with e | ⟨e, hk⟩
        · have hgg : g = g0 := by rw [hc] at e; exact (Option.some.inj e).symm
          subst hgg
          obtain ⟨h0, p, c, rfl, h1⟩ := h.nr
          obtain ⟨_, p2, c2, e2, h5⟩ := NamedR.of hown2
          cases e2
          refine ⟨h0, p, c, rfl, fun j hj => ?_⟩
          obtain ⟨g1, rfl, _⟩ := h1 j hj
          obtain ⟨g2, e3, h6, cs, h7⟩ := h5 j (by have := h.le; omega)
          have e4 : g2 = g := by cases e3; rfl
          have e5 : g1 = g := Option.some.inj hg0
          exact ⟨g1, rfl, by rw [e5]; rw [e4] at h6; exact h6, cs, by rw [e5]; rw [e4] at h7; exact h7⟩
        · exact h.nr.kept (fun _ k hk2 => by
            have : k = g0 := by rw [hg0] at hk2; exact (Option.some.inj hk2).symm
            subst this
            rw [hk k (by omega), hold k hlt])
      · exact h.nr.kept (fun _ k hk2 => by
          have : k = g0 := by rw [hg0] at hk2; exact (Option.some.inj hk2).symm
          subst this
          rw [h3.block k (by omega) (fun e => hc e.symm), hold k hlt])
theorem Grows.start {w : World} {base : Nat} {v : Value} {n : Nat} {nm : ByteArray} {ws : List ByteArray} (h : w.ownsRow base 66 2 v n (namedV nm ws)) (hb : base ≤ w.heap.size) : Grows w w base v n nm v n ws :=
  ⟨h, Nat.le_refl _, hb, Nat.le_refl _, fun _ _ _ => rfl, .inl rfl, Below.refl _ _, NamedR.of h⟩

set_option maxHeartbeats 4000000 in
set_option maxRecDepth 100000 in
theorem appended_any (base : Nat) (v : Value) (n : Nat) (nm : ByteArray) (ws : List ByteArray) (a : Option Addr) (mc : Nat) (ss : List ByteArray) (w : World) (h : w.ownsRow base 66 2 v n (namedV nm ws)) (hb : base ≤ w.heap.size) (hn : n ≤ 100000000) (hs : ss.length ≤ 100000000) (hw : WordsAt w base a ss) :
    Calls Tryz.prog 46 #[v, .string nm, .slice a ss.length mc] w fun e w' => ∃ u ws2, e = .returned u ∧ Grows w w' base v n nm u (n + 1 + ss.length) ws2 := by
  obtain ⟨i0, hii, hz0, hz1, hz2⟩ := info_parts info_attr
  obtain ⟨p, c, rfl⟩ := row_shape h
  have HG0 := hid (Grows.start h hb)
  have HW := hid hw
  clear hw
  go_enter Tryz.func46, Tryz.ntmps46
  go_wp2_with (at_builtin; refine wpList_append_two _ rfl (.tmp 8) (.tmp 11) 42 rfl base 66 i0 (.agg #[.string ⟨#[]⟩, .string ⟨#[]⟩]) 2 32 Tryz.underlying42 hii hz0 hz1 hz2 rfl (by decide) _ _ _ rfl (h.alloc _) ⟨_, 0, none⟩ 1 1 [.string nm, .string ⟨#[]⟩] rfl rfl (cells_newV _ _ _) (by simp [Value.oneCell']) (by decide) (by unfold maxLen; omega) (by omega) (by simp; omega) ?_)
  intro g cap w2 hown2 hgrow htwo
  have HG1 := hid (HG0.out.next hown2 hgrow htwo)
  clear hown2 hgrow htwo HG0 h
  go_wp2
  go_loopw [0, 15] (fun cv iv wr => ∃ (k : Nat) (ws2 : List ByteArray), iv = .int .i64 k ∧ k ≤ ss.length ∧ Grows w wr base (.slice p n c) n nm cv (n + 1 + k) ws2) (fun _ iv _ => ss.length - (RowKit.intOf iv).toNat)
  case atStart => exact ⟨0, _, rfl, Nat.zero_le _, HG1.out⟩
  case round =>
    obtain ⟨k, ws2, rfl, hk, hG⟩ := hrel
    by_cases hkl : k < ss.length
    · obtain ⟨b, o, rfl, hb2, hc⟩ := HW.out.at_ k hkl
      have hc2 := cell_low hc hG.be hb2
      obtain ⟨x, hx⟩ : ∃ x, ss.getD k ByteArray.empty = x := ⟨_, rfl⟩
      rw [hx] at hc2
      clear hc hx
      have hsz := hG.size
      have HG2 := hid hG
      obtain ⟨cp, cc, rfl⟩ := row_shape hG.own
      go_wp2_with (at_builtin; refine wpList_append_two _ rfl (.tmp 18) (.tmp 25) 42 rfl base 66 i0 (.agg #[.string ⟨#[]⟩, .string ⟨#[]⟩]) 2 32 Tryz.underlying42 hii hz0 hz1 hz2 rfl (by decide) _ _ _ rfl (HG2.out.own.alloc _) ⟨_, 0, none⟩ 1 1 [.string nm, .string x] rfl rfl (cells_newV _ _ _) (by simp [Value.oneCell']) (by decide) (by unfold maxLen; omega) (by omega) (by simp; omega) ?_)
      intro g3 cap3 w3 hown3 hgrow3 htwo3
      have HG3 := hid (HG2.out.next hown3 hgrow3 htwo3)
      clear hown3 hgrow3 htwo3 HG2 hG
      go_wp2
      go_roundw
      case rel => first | exact ⟨k + 1, _, rfl, by omega, HG3.out⟩ | ((repeat apply Exists.intro); exact ⟨⟨k + 1, _, rfl, by omega, HG3.out⟩, rfl⟩)
      case measure => simp [RowKit.intOf]; omega
    · obtain rfl : k = ss.length := by omega
      go_wp2
      go_ret
      exact ⟨_, ws2, rfl, hG⟩
end Go.Proofs.YtkcgmimldjeaiaaGreatDoor

/-
  The statements' apartLists: its walk.
-/
namespace Go.Proofs.YtkcgmimldjeaiaaGreatDoor
open Go.RowKit Go.Lib Own

/-- every block that is no list of events, of attributes or of such lists stays -/
def KeepT (w W : World) : Prop := ∀ (b : Nat) (cs : Array Value) (T : TypeId), w.heap[b]? = some (.cells cs T (0, 0)) → T ≠ 44 → T ≠ 66 → T ≠ 42 → W.heap[b]? = some (.cells cs T (0, 0))
theorem KeepT.refl (w : World) : KeepT w w := fun _ _ _ h _ _ _ => h
theorem KeepT.trans {w1 w2 w3 : World} (h : KeepT w1 w2) (h2 : KeepT w2 w3) : KeepT w1 w3 := fun b cs T hb e1 e2 e3 => h2 b cs T (h b cs T hb e1 e2 e3) e1 e2 e3
theorem KeepT.below {w W : World} (h : Below w.heap.size w W) : KeepT w W := fun b _ _ hb _ _ _ => (h.block b (Array.getElem?_eq_some_iff.1 hb).1).trans hb
theorem KeepT.row {W W' : World} {base : Nat} {e : TypeId} {size n : Nat} {v : Value} {xs : List Value} (h : W.ownsRow base e size v n xs) (he : e = 44 ∨ e = 66 ∨ e = 42) (hk : ∀ k, k < W.heap.size → v.ownBlock ≠ some k → W'.heap[k]? = W.heap[k]?) : KeepT W W' :=
  fun b cs T hb e1 e2 e3 => (hk b (Array.getElem?_eq_some_iff.1 hb).1 (row_ne h hb (by
    rcases he with rfl | rfl | rfl
    · exact e1
    · exact e2
    · exact e3))).trans hb
theorem info_list : (Tryz.prog.info? 42).map (fun i => (i.zero, i.size, i.bytes)) = some (some (.slice none 0 0), 1, 24) := by kernel_rfl
/-- the name that the statement gives list k -/
def nmOf (k : Nat) : ByteArray := ⟨(Go.Lib.itoa (k : Int)).toArray⟩
/-- the library's table of powers, ahead of block 'base' -/
structure PowB (base : Nat) (w : World) : Prop where
  tab : Go.Lib.TabIs Tryz.prog w "internal/strconv.uint64pow10" .u64 Go.Lib.pow10Tab
  lt : 3 < base
theorem PowB.below {base : Nat} {w w' : World} (h : PowB base w) (hb : Below base w w') : PowB base w' := by
  refine ⟨?_, h.lt⟩
  have h1 := h.tab
  have hg : Tryz.prog.globalNamed "internal/strconv.uint64pow10" = some 3 := by kernel_rfl
  unfold Go.Lib.TabIs World.var? at h1 ⊢
  rw [hg] at h1 ⊢
  simp only [Option.bind_some] at h1 ⊢
  rw [hb.block _ h.lt]
  exact h1
theorem itoa_any (k : Nat) (hk : k ≤ 10000000) (base : Nat) (w : World) (h : PowB base w) :
    Calls Tryz.prog 45 #[.int .i64 k] w fun e w' => e = .returned (.string (nmOf k)) ∧ Below w.heap.size w w' := by
  refine (Tryz.strconv_Itoa (k : Int) (by omega) (by omega) w h.tab).mono ?_
  rintro e w' ⟨rfl, n, os, rfl⟩
  refine ⟨rfl, rfl, rfl, rfl, ?_, fun k hk => ?_⟩
  · show w.heap.size ≤ (w.heap ++ os).size
    rw [Array.size_append]; omega
  · show (w.heap ++ os)[k]? = w.heap[k]?
    rw [Array.getElem?_append_left hk]

theorem named_step {nm : ByteArray} {ws : List ByteArray} {y0 y1 : Value} {ys : List Value} : ((namedV nm ws ++ y0 :: y1 :: ys).set (ws.length * 2) (.string nm)).set (ws.length * 2 + 1) (.string ⟨#[]⟩) = namedV nm (ws ++ [⟨#[]⟩]) ++ ys := by
  have hl := namedV_len nm ws
  rw [List.set_append, if_neg (by omega), hl, Nat.sub_self, List.set_cons_zero, List.set_append, if_neg (by omega), hl, Nat.add_sub_cancel_left]
  show namedV nm ws ++ (.string nm :: .string ⟨#[]⟩ :: ys) = _
  rw [namedV_app]
  simp [namedV]
/-- the lists that are written over and appended to -/
structure Fam (W : World) (base : Nat) (vs : List Value) (ns : Nat → Nat) (i : Nat) : Prop where
  row : ∀ (k : Nat) (v : Value), vs[k]? = some v → (k < i → ∃ ws, W.ownsRow base 66 2 v (ns k) (namedV (nmOf k) ws)) ∧ ∃ ys, W.ownsRow base 66 2 v (ns k) ys
def Dist (vs : List Value) : Prop := ∀ (j k : Nat) (v u : Value), vs[j]? = some v → vs[k]? = some u → j ≠ k → ∀ g, v.ownBlock = some g → u.ownBlock ≠ some g

/-- the second round: the lists that grew out of the first i -/
structure Two (w W : World) (base : Nat) (lv : Value) (N : Nat) (vs : List Value) (ns : Nat → Nat) (m i : Nat) (lgv : Value) (us : List Value) : Prop where
  be : Below base w W
  li : W.ownsRow base 42 1 lv N vs
  lg : W.ownsRow w.heap.size 42 1 lgv i us
  hi : ∀ (k : Nat) (v : Value), vs[k]? = some v → i ≤ k → ∃ ws, W.ownsRow base 66 2 v (ns k) (namedV (nmOf k) ws)
  lo : ∀ (k : Nat) (v : Value), vs[k]? = some v → k < i → NamedR W v (ns k) (nmOf k) ∧ ∃ u, us[k]? = some u ∧ NamedR W u (ns k + 1 + m) (nmOf k) ∧ ∀ (j : Nat) (vj : Value), i ≤ j → vs[j]? = some vj → ∀ g, vj.ownBlock = some g → u.ownBlock ≠ some g
  kp : KeepT w W
theorem NamedR.ne {W : World} {base n k : Nat} {v lgv : Value} {nm : ByteArray} {us : List Value} (h : NamedR W v n nm) (hn : 0 < n) (hl : W.ownsRow base 42 1 lgv k us) : ∀ g, v.ownBlock = some g → lgv.ownBlock ≠ some g := by
  obtain ⟨_, p, c, rfl, h1⟩ := h
  obtain ⟨g0, rfl, _, cs, h3⟩ := h1 0 hn
  intro g hg
  have : g0 = g := Option.some.inj hg
  subst this
  exact row_ne hl h3 (by decide)
theorem NamedR.below {W W' : World} {n : Nat} {v : Value} {nm : ByteArray} (h : NamedR W v n nm) (hb : Below W.heap.size W W') : NamedR W' v n nm :=
  h.kept (fun hn k hk => by
    obtain ⟨g, hg, hlt⟩ := h.own hn
    rw [hg] at hk
    cases hk
    exact hb.block _ hlt)
theorem Two.next {w wr w1 w2 w3 : World} {base N m i n K : Nat} {lv lgv lgv3 v u : Value} {vs us : List Value} {ns : Nat → Nat} {ws2 : List ByteArray} {X : Obj} (h : Two w wr base lv N vs ns m i lgv us) (hD : Dist vs) (hbase : base ≤ w.heap.size) (hlv : ∀ g, lv.ownBlock = some g → g < w.heap.size)
    (hv : vs[i]? = some v) (hn : ns i = n) (hK : K = n + 1 + m) (b1 : Below wr.heap.size wr w1) (hG : Grows w1 w2 base v n (nmOf i) u K ws2)
    (h3 : w3.ownsRow w.heap.size 42 1 lgv3 (i + 1) (us ++ [u])) (hg : (w2.alloc X).grownBy w3 lgv.ownBlock) : Two w w3 base lv N vs ns m (i + 1) lgv3 (us ++ [u]) := by
  subst hn hK
  have hbs := h.be.size
  have hul : us.length = i := by have := h.lg.1; omega
  have li1 := row_below h.li b1
  have lg1 := row_below h.lg b1
  obtain ⟨wsv, hvw⟩ := h.hi i v hv (Nat.le_refl _)
  have v1 := row_below hvw b1
  have li2 := row_of_block li1 (fun g e => hG.fr g (li1.lt g e).2 (rows_ne2 li1 v1 (by decide) g e))
  have lg2 := row_of_block lg1 (fun g e => hG.fr g (lg1.lt g e).2 (rows_ne2 lg1 v1 (by decide) g e))
  have F23 : ∀ k, k < w2.heap.size → lgv.ownBlock ≠ some k → w3.heap[k]? = w2.heap[k]? := fun k hk hne => (hg.block k (by simp; omega) (fun e => hne e.symm)).trans (Go.Lib.alloc_old w2 X k hk)
  have keepN : ∀ {v' : Value} {n' : Nat} {nm : ByteArray}, NamedR w2 v' n' nm → NamedR w3 v' n' nm := fun hN => hN.kept (fun hn k hk => by
    obtain ⟨g, hg2, hlt⟩ := hN.own hn
    have hne := hN.ne hn lg2 g hg2
    rw [hg2] at hk
    cases hk
    exact F23 _ hlt hne)
  have b3 : Below base w2 w3 := ((Below.refl base w2).alloc (Nat.le_trans hG.low hG.size) X).grown hg (by have := Nat.le_trans hG.low hG.size; simp; omega) (fun k hk => by have := (lg2.lt k hk).1; omega)
  refine ⟨((h.be.trans (b1.mono (Nat.le_trans hbase hbs))).trans hG.be).trans b3, ?_, h3, fun k vk hk hik => ?_, fun k vk hk hik => ?_, (h.kp.trans (KeepT.below b1)).trans ((KeepT.row v1 (.inr (.inl rfl)) (fun k hk hne => hG.fr k hk hne)).trans (KeepT.row lg2 (.inr (.inr rfl)) F23))⟩
  · exact row_of_block li2 (fun g e => F23 g (li2.lt g e).2 (fun e2 => by
      have := (lg2.lt g e2).1
      have := hlv g e
      omega))
  · obtain ⟨ws, hr⟩ := h.hi k vk hk (by omega)
    have r1 := row_below hr b1
    have r2 := row_of_block r1 (fun g e => hG.fr g (r1.lt g e).2 (hD k i vk v hk hv (by omega) g e))
    refine ⟨ws, row_of_block r2 (fun g e => F23 g (r2.lt g e).2 (rows_ne2 r2 lg2 (by decide) g e))⟩
  · by_cases hki : k = i
    · subst hki
      rw [hv] at hk
      obtain rfl := Option.some.inj hk
      refine ⟨keepN hG.nr, u, by rw [List.getElem?_append_right (by omega), hul, Nat.sub_self]; rfl, keepN (NamedR.of hG.own), fun j vj hj hvj g hgj => ?_⟩
      obtain ⟨ws, hr⟩ := h.hi j vj hvj (by omega)
      have r1 := row_below hr b1
      rcases hG.bl with e | e
      · rw [e]
        exact fun e2 => hD j k vj v hvj hv (by omega) g hgj e2
      · intro e2
        have := e g e2
        have := (r1.lt g hgj).2
        omega
    · obtain ⟨n1, u', hu', n2, n3⟩ := h.lo k vk hk (by omega)
      have keep12 : ∀ {v' : Value} {n' : Nat} {nm : ByteArray}, NamedR wr v' n' nm → (∀ g, v'.ownBlock = some g → v.ownBlock ≠ some g) → NamedR w2 v' n' nm := fun hN hne => (hN.below b1).kept (fun hn k hk => by
        obtain ⟨g, hg2, hlt⟩ := (hN.below b1).own hn
        have := hne g hg2
        rw [hg2] at hk
        cases hk
        exact hG.fr _ hlt this)
      refine ⟨keepN (keep12 n1 (fun g e => hD k i vk v hk hv hki g e)), u', by rw [List.getElem?_append_left (by omega)]; exact hu', keepN (keep12 n2 (fun g e e2 => n3 i v (Nat.le_refl _) hv g e2 e)), fun j vj hj hvj g hgj => n3 j vj (by omega) hvj g hgj⟩

set_option maxHeartbeats 8000000 in
set_option maxRecDepth 100000 in
theorem apart_any (base : Nat) (lv : Value) (vs : List Value) (ns : Nat → Nat) (a : Option Addr) (mc : Nat) (ss : List ByteArray) (w : World) (hl : w.ownsRow base 42 1 lv vs.length vs) (hF : Fam w base vs ns 0) (hD : Dist vs) (hns : ∀ k, k < vs.length → ns k ≤ 5000000) (hN : vs.length ≤ 5000000)
    (hb : base ≤ w.heap.size) (hs : ss.length ≤ 5000000) (hw : WordsAt w base a ss) (hP : PowB base w) :
    Calls Tryz.prog 23 #[lv, .slice a ss.length mc] w fun e w' => e = .returned (.bool true) ∧ Below base w w' ∧ KeepT w w' := by
  obtain ⟨N, hNN⟩ : ∃ N, vs.length = N := ⟨_, rfl⟩
  rw [hNN] at hl hN hns
  obtain ⟨lp, lc, rfl⟩ := row_shape hl
  have HLV := hid (fun g (e : (Value.slice lp N lc).ownBlock = some g) => (hl.lt g e).2)
  have HL := hid hl
  have HF := hid hF
  have HD := hid hD
  have HW := hid hw
  have HP := hid hP
  have HNN := hid (fun (_ : True) => hNN)
  have HNS := hid hns
  clear hl hF hD hw hP hNN hns
  go_enter Tryz.func23, Tryz.ntmps23
  go_wp2
  go_loopw [16] (fun iv wr => ∃ i : Nat, iv = .int .i64 i ∧ i ≤ N ∧ Hid (Below base w wr ∧ wr.ownsRow base 42 1 (.slice lp N lc) N vs ∧ Fam wr base vs ns i ∧ KeepT w wr)) (fun iv _ => N - (RowKit.intOf iv).toNat)
  case atStart => exact ⟨0, rfl, Nat.zero_le _, hid ⟨Below.refl _ _, HL.out, HF.out, KeepT.refl _⟩⟩
  case round =>
    obtain ⟨i, rfl, hi, HX⟩ := hrel
    by_cases hiN : i < N
    · obtain ⟨v, hv⟩ : ∃ v, vs[i]? = some v := ⟨_, List.getElem?_eq_getElem (by rw [HNN.out trivial]; exact hiN)⟩
      obtain ⟨ys0, hrow0⟩ := (HX.out.2.2.1.row i v hv).2
      obtain ⟨n, hn⟩ : ∃ n, ns i = n := ⟨_, rfl⟩
      rw [hn] at hrow0
      have hn5 : n ≤ 5000000 := by rw [← hn]; exact HNS.out i hiN
      obtain ⟨p, c, rfl⟩ := row_shape hrow0
      obtain ⟨gl, lcap, e0, hgl1, hgl2, hlc⟩ := row_at HX.out.2.1 (by omega)
      cases e0
      have cl := (hlc i (by omega)).trans hv
      have hit := fun W hW => itoa_any i (by omega) base W hW
      obtain ⟨nm, hnm⟩ : ∃ nm, nmOf i = nm := ⟨_, rfl⟩
      rw [hnm] at hit
      have HIT := hid hit
      have HR0 := hid hrow0
      have HV := hid hv
      have hP1 := HP.out.below HX.out.1
      have hbs := HX.out.1.size
      clear hit hrow0 hv hlc HL HF
      go_wp2_with (go_at_call 45; refine (HIT.out _ hP1).mono ?_; rintro e w1 ⟨rfl, b1⟩; have cl1 := cell_low cl b1 hgl2)
      go_loopw [26] (fun jv wr2 => ∃ (j : Nat) (ws : List ByteArray) (ys : List Value), jv = .int .i64 j ∧ j ≤ n ∧ ws.length = j ∧ Hid (wr2.ownsRow base 66 2 (.slice p n c) n (namedV nm ws ++ ys) ∧ Below base w1 wr2 ∧ ∀ b, (Value.slice p n c).ownBlock ≠ some b → wr2.heap[b]? = w1.heap[b]?)) (fun jv _ => n - (RowKit.intOf jv).toNat)
      case atStart => exact ⟨0, [], ys0, rfl, Nat.zero_le _, rfl, hid ⟨row_below HR0.out b1, Below.refl _ _, fun _ _ => rfl⟩⟩
      case round =>
        obtain ⟨j, ws, ys, rfl, hj, hws, HY⟩ := hrel
        have hlen := HY.out.1.1
        rw [List.length_append, namedV_len, hws] at hlen
        have hglp : (Value.slice p n c).ownBlock ≠ some gl := by
          have := rows_ne HX.out.2.1 HR0.out (by decide)
          rcases this with e | e
          · cases e
          · exact fun e2 => e (by rw [e2]; rfl)
        have hlb := HY.out.2.2 gl hglp
        by_cases hjn : j < n
        · obtain ⟨g, cap, e1, hg1, hg2, hc⟩ := row_at HY.out.1 (by omega)
          cases e1
          obtain ⟨y0, y1, ys2, rfl⟩ : ∃ y0 y1 ys2, ys = y0 :: y1 :: ys2 := by
            cases ys with
            | nil => simp at hlen; omega
            | cons y0 ys =>
              cases ys with
              | nil => simp at hlen; omega
              | cons y1 ys2 => exact ⟨y0, y1, ys2, rfl⟩
          have hnl := namedV_len nm ws
          have k0 : wr.cell? ⟨g, j * 2, none⟩ = some y0 := (hc (j * 2) (by omega)).trans (by rw [List.getElem?_append_right (by omega), hnl, hws, Nat.sub_self]; rfl)
          have k1 : wr.cell? ⟨g, j * 2 + 1, none⟩ = some y1 := (hc (j * 2 + 1) (by omega)).trans (by rw [List.getElem?_append_right (by omega), hnl, hws, Nat.add_sub_cancel_left]; rfl)
          have f0 := HY.out.1.frozenAt (j * 2)
          have f1 := HY.out.1.frozenAt (j * 2 + 1)
          have cl2 : wr.cell? ⟨gl, i, none⟩ = some (.slice (some ⟨g, 0, none⟩) n c) := by
            unfold World.cell? at cl1 ⊢
            rw [hlb]
            exact cl1
          have hst := ((HY.out.1.stored (j * 2) (.string nm)).1.stored (j * 2 + 1) (.string ⟨#[]⟩)).1
          rw [← hws, named_step, hws] at hst
          have hfr : ∀ b, (Value.slice (some ⟨g, 0, none⟩) n c).ownBlock ≠ some b → ((wr.setCell ⟨g, j * 2, none⟩ (.string nm)).setCell ⟨g, j * 2 + 1, none⟩ (.string ⟨#[]⟩)).heap[b]? = w1.heap[b]? := fun b hb2 => by
            have hne : b ≠ g := fun e => hb2 (by rw [e]; rfl)
            rw [heap_setCell_other _ _ _ _ hne, heap_setCell_other _ _ _ _ hne]
            exact HY.out.2.2 b hb2
          have hbe : Below base w1 ((wr.setCell ⟨g, j * 2, none⟩ (.string nm)).setCell ⟨g, j * 2 + 1, none⟩ (.string ⟨#[]⟩)) := (HY.out.2.1.setCell hg1 _).setCell hg1 _
          have HZ := hid (And.intro hst (And.intro hbe hfr))
          clear hst hbe hfr hlen hlb hglp hc hnl HY
          go_wp2
          go_roundw
          case rel => first | exact ⟨j + 1, ws ++ [⟨#[]⟩], ys2, rfl, by omega, by simp [hws], HZ⟩ | ((repeat apply Exists.intro); exact ⟨⟨j + 1, ws ++ [⟨#[]⟩], ys2, rfl, by omega, by simp [hws], HZ⟩, rfl⟩)
          case measure => simp [RowKit.intOf]; omega
        · obtain rfl : j = n := by omega
          obtain rfl : ys = [] := List.eq_nil_of_length_eq_zero (by omega)
          have hbw : Below base w wr := (HX.out.1.trans (b1.mono (Nat.le_trans hb hbs))).trans HY.out.2.1
          have hlrow : wr.ownsRow base 42 1 (.slice (some ⟨gl, 0, none⟩) N lc) N vs := row_of_block (row_below HX.out.2.1 b1) (fun g hg => by cases hg; exact hlb)
          have hfam : Fam wr base vs ns (i + 1) := ⟨fun k u hu => by
            by_cases hki : k = i
            · subst hki
              rw [HV.out] at hu
              obtain rfl := Option.some.inj hu
              have hr := HY.out.1
              rw [List.append_nil] at hr
              rw [hnm, hn]
              exact ⟨fun _ => ⟨ws, hr⟩, _, hr⟩
            · obtain ⟨f1, ys9, f2⟩ := HX.out.2.2.1.row k u hu
              have hkeep : ∀ g, u.ownBlock = some g → wr.heap[g]? = w1.heap[g]? := fun g hg => HY.out.2.2 g (HD.out k i u _ hu HV.out hki g hg)
              refine ⟨fun h => ?_, ys9, row_of_block (row_below f2 b1) hkeep⟩
              obtain ⟨ws9, f3⟩ := f1 (by omega)
              exact ⟨ws9, row_of_block (row_below f3 b1) hkeep⟩⟩
          have hkp := HX.out.2.2.2.trans ((KeepT.below b1).trans (KeepT.row (row_below HR0.out b1) (.inr (.inl rfl)) (fun k _ hne => HY.out.2.2 k hne)))
          have HZ := hid (And.intro hbw (And.intro hlrow (And.intro hfam hkp)))
          clear hbw hlrow hfam hkp hlen hlb hglp HY
          go_wp2
          go_roundw
          case rel => first | exact ⟨i + 1, rfl, by omega, HZ⟩ | ((repeat apply Exists.intro); exact ⟨⟨i + 1, rfl, by omega, HZ⟩, rfl⟩)
          case measure => simp [RowKit.intOf]; omega
    · have hT0 : Two w wr base (.slice lp N lc) N vs ns ss.length 0 (.slice none 0 0) [] := ⟨HX.out.1, HX.out.2.1, World.ownsRow_nil _ _ _ _, fun k v hk _ => (HX.out.2.2.1.row k v hk).1 (by
        have := (List.getElem?_eq_some_iff.1 hk).1
        rw [HNN.out trivial] at this
        omega), fun k v hk h => absurd h (Nat.not_lt_zero _), HX.out.2.2.2⟩
      have HT0 := hid hT0
      clear HL HF hT0 HX
      obtain ⟨li0, lhi, lhz0, lhz1, lhz2⟩ := info_parts info_list
      go_wp2_with fail
      go_loopw [5, 41] (fun lgv iv wr2 => ∃ (i : Nat) (us : List Value), iv = .int .i64 i ∧ i ≤ N ∧ Hid (Two w wr2 base (.slice lp N lc) N vs ns ss.length i lgv us)) (fun _ iv _ => N - (RowKit.intOf iv).toNat)
      case atStart => exact ⟨0, [], rfl, Nat.zero_le _, HT0⟩
      case round =>
        obtain ⟨i, us, rfl, hi, HT⟩ := hrel
        clear HT0
        by_cases hiN : i < N
        · obtain ⟨v, hv⟩ : ∃ v, vs[i]? = some v := ⟨_, List.getElem?_eq_getElem (by rw [HNN.out trivial]; exact hiN)⟩
          obtain ⟨ws, hrow⟩ := HT.out.hi i v hv (Nat.le_refl _)
          obtain ⟨n, hn⟩ : ∃ n, ns i = n := ⟨_, rfl⟩
          have hn5 : n ≤ 5000000 := by rw [← hn]; exact HNS.out i hiN
          rw [hn] at hrow
          obtain ⟨p, c, rfl⟩ := row_shape hrow
          obtain ⟨gl, lcap, e0, hgl1, hgl2, hlc⟩ := row_at HT.out.li (by omega)
          cases e0
          have cl := (hlc i (by omega)).trans hv
          have hit := fun W hW => itoa_any i (by omega) base W hW
          have HNM := hid (fun (_ : True) => (rfl : nmOf i = nmOf i))
          obtain ⟨nm, hnm⟩ : ∃ nm, nmOf i = nm := ⟨_, rfl⟩
          rw [hnm] at hit hrow
          have HEQ := hid (fun (_ : True) => hnm)
          have HIT := hid hit
          have HR0 := hid hrow
          have HV := hid hv
          have HN := hid (fun (_ : True) => hn)
          have hP1 := HP.out.below HT.out.be
          have hw1 := HW.out.below HT.out.be
          have hbs := HT.out.be.size
          obtain ⟨lgp, lgc, rfl⟩ := row_shape HT.out.lg
          have HW1 := hid hw1
          clear hit hrow hv hlc hn hnm hw1 HNM
          go_wp2_with (first
            | (go_at_call 45; refine (HIT.out _ hP1).mono ?_; rintro e w1 ⟨rfl, b1⟩; have cl1 := cell_low cl b1 hgl2; have hb1s := b1.size)
            | (go_at_call 46; refine (appended_any base (.slice p n c) n nm ws a mc ss _ (row_below HR0.out b1) (by omega) (by omega) (by omega) (HW1.out.below (b1.mono (by omega)))).mono ?_; rintro e w2 ⟨u, ws2, rfl, hG⟩; obtain ⟨up, uc, rfl⟩ := row_shape hG.own; have hlg2 := row_of_block (row_below HT.out.lg b1) (fun g e => hG.fr g ((row_below HT.out.lg b1).lt g e).2 (rows_ne2 (row_below HT.out.lg b1) (row_below HR0.out b1) (by decide) g e)); have hws2 := hG.size; have HGG := hid hG)
            | (at_builtin; refine wpList_append_own _ rfl (.tmp 53) (.tmp 55) 32 rfl w.heap.size 42 li0 (.slice none 0 0) 1 24 Tryz.underlying32 lhi lhz0 lhz1 lhz2 rfl (by decide) _ _ _ rfl (hlg2.alloc _) ⟨_, 0, none⟩ 1 1 [.slice up (n + 1 + ss.length) uc] rfl rfl (cells_newV _ _ _) (by simp [Value.oneCell']) (by unfold maxLen; omega) (by omega) (by simp; omega) ?_))
          intro v' w3 hown3 hgrow3 _
          have hnext := HT.out.next HD.out hb HLV.out HV.out (HN.out trivial) rfl b1 (by rw [HEQ.out trivial]; exact HGG.out) hown3 hgrow3
          have HZ := hid hnext
          clear hnext hown3 hgrow3 HGG hlg2 hG b1 cl cl1
          go_wp2
          go_roundw
          case rel => first | exact ⟨i + 1, _, rfl, by omega, HZ⟩ | ((repeat apply Exists.intro); exact ⟨⟨i + 1, _, rfl, by omega, HZ⟩, rfl⟩)
          case measure => simp [RowKit.intOf]; omega
        · obtain rfl : i = N := by omega
          have hul : us.length = i := by have := HT.out.lg.1; omega
          have hall : ∀ (k : Nat) (v : Value), vs[k]? = some v → NamedR wr v (ns k) (nmOf k) ∧ ∃ u, us[k]? = some u ∧ NamedR wr u (ns k + 1 + ss.length) (nmOf k) := fun k v hk => by
            have hki : k < i := by
              have := (List.getElem?_eq_some_iff.1 hk).1
              rw [HNN.out trivial] at this
              exact this
            obtain ⟨n1, u, hu, n2, _⟩ := HT.out.lo k v hk hki
            exact ⟨n1, u, hu, n2⟩
          have hlg := row_lo2 HT.out.lg hb
          obtain ⟨lgp, lgc, rfl⟩ := row_shape hlg
          have H3 : Hid (Below base w wr ∧ wr.ownsRow base 42 1 (.slice lp i lc) i vs ∧ wr.ownsRow base 42 1 (.slice lgp i lgc) i us ∧ (∀ (k : Nat) (v : Value), vs[k]? = some v → NamedR wr v (ns k) (nmOf k) ∧ ∃ u, us[k]? = some u ∧ NamedR wr u (ns k + 1 + ss.length) (nmOf k)) ∧ KeepT w wr) := ⟨HT.out.be, HT.out.li, hlg, hall, HT.out.kp⟩
          clear HT hall hlg
          go_wp2_with fail
          go_loopw [60] (fun iv wr2 => ∃ k : Nat, iv = .int .i64 k ∧ k ≤ i ∧ Hid (Below base w wr2 ∧ wr2.ownsRow base 42 1 (.slice lp i lc) i vs ∧ wr2.ownsRow base 42 1 (.slice lgp i lgc) i us ∧ (∀ (k : Nat) (v : Value), vs[k]? = some v → NamedR wr2 v (ns k) (nmOf k) ∧ ∃ u, us[k]? = some u ∧ NamedR wr2 u (ns k + 1 + ss.length) (nmOf k)) ∧ KeepT w wr2)) (fun iv _ => i - (RowKit.intOf iv).toNat)
          case atStart => exact ⟨0, rfl, Nat.zero_le _, H3⟩
          case round =>
            obtain ⟨k, rfl, hk, HT⟩ := hrel
            clear H3
            by_cases hkN : k < i
            · obtain ⟨v, hv⟩ : ∃ v, vs[k]? = some v := ⟨_, List.getElem?_eq_getElem (by rw [HNN.out trivial]; exact hkN)⟩
              obtain ⟨n1, u, hu, n2⟩ := HT.out.2.2.2.1 k v hv
              obtain ⟨n, hn⟩ : ∃ n, ns k = n := ⟨_, rfl⟩
              have hn5 : n ≤ 5000000 := by rw [← hn]; exact HNS.out k hkN
              rw [hn] at n1 n2
              obtain ⟨K, hK⟩ : ∃ K, n + 1 + ss.length = K := ⟨_, rfl⟩
              rw [hK] at n2
              have q0 : ((K : Int) != (n : Int) + (ss.length : Int) + 1) = false := by rw [bne, beq_iff_eq.2 (by omega)]; rfl
              have hit := fun W hW => itoa_any k (by omega) base W hW
              obtain ⟨nm, hnm⟩ : ∃ nm, nmOf k = nm := ⟨_, rfl⟩
              rw [hnm] at hit n1 n2
              have m1 := n1
              have m2 := n2
              obtain ⟨_, vp, vc, rfl, _⟩ := m1
              obtain ⟨_, up, uc, rfl, _⟩ := m2
              obtain ⟨gl, lcap, e0, hgl1, hgl2, hlc⟩ := row_at HT.out.2.1 (by omega)
              cases e0
              obtain ⟨gm, mcap, e1, hgm1, hgm2, hmc⟩ := row_at HT.out.2.2.1 (by omega)
              cases e1
              have cl := (hlc k (by omega)).trans hv
              have cm := (hmc k (by omega)).trans hu
              have HIT := hid hit
              have N1 := hid n1
              have N2 := hid n2
              have hP1 := HP.out.below HT.out.1
              clear hit hlc hmc n1 n2 hv hu hn hnm hK
              go_wp2_with (go_at_call 45; refine (HIT.out _ hP1).mono ?_; rintro e w1 ⟨rfl, b1⟩; have cl1 := cell_low cl b1 hgl2; have cm1 := cell_low cm b1 hgm2; have hA1 := hid (fun q => (allNamed_any (.slice vp n vc) n nm (w1.drewN q) ((N1.out.below b1).kept (fun _ _ _ => rfl))).mono (fun _ _ (h : _ ∧ _) => And.intro h.1 (⟨0, h.2⟩ : ∃ q', _ = (w1.drewN q).drewN q'))); have hA2 := hid (fun q => (allNamed_any (.slice up K uc) K nm (w1.drewN q) ((N2.out.below b1).kept (fun _ _ _ => rfl))).mono (fun _ _ (h : _ ∧ _) => And.intro h.1 (⟨0, h.2⟩ : ∃ q', _ = (w1.drewN q).drewN q'))); clear cl cm)
              go_quiet (first | (go_at_call 47; first | (with_reducible refine Calls.quiet_of (hA1.out _)) | (with_reducible refine Calls.quiet_of (hA2.out _))))
              have hkeep : Below base wr (w1.drewN nq) := below_drewN (b1.mono (Nat.le_trans hb HT.out.1.size)) nq
              have HZ : Hid (Below base w (w1.drewN nq) ∧ (w1.drewN nq).ownsRow base 42 1 (.slice (some ⟨gl, 0, none⟩) i lc) i vs ∧ (w1.drewN nq).ownsRow base 42 1 (.slice (some ⟨gm, 0, none⟩) i lgc) i us ∧ (∀ (k : Nat) (v : Value), vs[k]? = some v → NamedR (w1.drewN nq) v (ns k) (nmOf k) ∧ ∃ u, us[k]? = some u ∧ NamedR (w1.drewN nq) u (ns k + 1 + ss.length) (nmOf k)) ∧ KeepT w (w1.drewN nq)) := by
                refine ⟨HT.out.1.trans hkeep, row_of_block (row_below HT.out.2.1 b1) (fun _ _ => rfl), row_of_block (row_below HT.out.2.2.1 b1) (fun _ _ => rfl), fun k v hv => ?_, fun b cs T h1 h2 h3 h4 => (HT.out.2.2.2.2.trans (KeepT.below b1)) b cs T h1 h2 h3 h4⟩
                obtain ⟨n1, u, hu, n2⟩ := HT.out.2.2.2.1 k v hv
                exact ⟨(n1.below b1).kept (fun _ _ _ => rfl), u, hu, (n2.below b1).kept (fun _ _ _ => rfl)⟩
              clear hkeep hA1 hA2 b1 cl1 cm1 HT N1 N2
              go_wp2
              go_roundw
              case rel => first | exact ⟨k + 1, rfl, by omega, HZ⟩ | ((repeat apply Exists.intro); exact ⟨⟨k + 1, rfl, by omega, HZ⟩, rfl⟩)
              case measure => simp [RowKit.intOf]; omega
            · go_wp2
              go_ret
              exact ⟨rfl, HT.out.1, HT.out.2.2.2.2⟩
end Go.Proofs.YtkcgmimldjeaiaaGreatDoor

/-
  The statements' longAttrs: its walk; what the memory of lent events or nodes holds.
-/
namespace Go.Proofs.YtkcgmimldjeaiaaGreatDoor
open Go.RowKit Go.Lib Own

theorem attrsR_row {W : World} {base : Nat} {v : Value} {al : List AttrP} (h : W.ownsRow base 66 2 v al.length (attrsV al)) : AttrsR W v al := by
  have hc : ∀ j a, al[j]? = some a → ∃ b o, (∃ n c, v = .slice (some ⟨b, o, none⟩) n c) ∧ W.cell? ⟨b, o + j * 2, none⟩ = some (.string (bs a.1)) ∧ W.cell? ⟨b, o + j * 2 + 1, none⟩ = some (.string (bs a.2)) := fun j a hj => by
    have hlt := (List.getElem?_eq_some_iff.1 hj).1
    obtain ⟨g, cap, rfl, _, _, hcell⟩ := row_at h (by omega)
    obtain ⟨x1, x2⟩ := attrs_at al j a hj
    exact ⟨g, 0, ⟨_, _, rfl⟩, by rw [Nat.zero_add]; exact (hcell _ (by omega)).trans x1, by rw [Nat.zero_add]; exact (hcell _ (by omega)).trans x2⟩
  rcases h.2 with ⟨rfl, h0⟩ | ⟨g, cap, cur, rfl, _, _, h1, h2, _⟩
  · exact ⟨none, 0, by rw [h0], by omega, by omega, fun j s hj => by have := (List.getElem?_eq_some_iff.1 hj).1; omega, fun _ => rfl⟩
  · refine ⟨some ⟨g, 0, none⟩, cap, rfl, h1, by unfold maxLen at h2; omega, fun j s hj => ?_, fun e => by cases e⟩
    obtain ⟨b, o, ⟨n, c, e⟩, hcell⟩ := hc j s hj
    cases e
    exact ⟨g, 0, rfl, hcell⟩
theorem attrsR_front {W : World} {base : Nat} {v : Value} {a m : List AttrP} (h : W.ownsRow base 66 2 v (a ++ m).length (attrsV (a ++ m))) : AttrsR W (frontV v a.length) a := by
  have h1 := attrsR_row h
  obtain ⟨p, c, rfl⟩ := row_shape h
  have h2 := h1.front a.length (by simp)
  rw [List.take_left'] at h2
  · exact h2
  · rfl
theorem attrsV_one (al : List AttrP) : ∀ u ∈ attrsV al, u.oneCell' = true := by
  intro u hu
  unfold attrsV at hu
  obtain ⟨s, _, hs⟩ := List.mem_flatMap.1 hu
  simp only [List.mem_cons, List.not_mem_nil, or_false] at hs
  rcases hs with rfl | rfl <;> rfl
/-- attributes appended to a row of attributes that the call owns -/
theorem wpList_append_attrs {w : World} {ops : Array Oper} {rest : List Oper} {o : Oper} {a : Act} {Q : Exit → Act → World → Prop} (hgd : o.guard = none) (s x : Operand)
    (ho : o.op = .call { callee := .builtin .append, args := #[s, x], argTypes := #[42, 42] }) (base : Nat) (v vx : Value) (l m : List AttrP) (hs : a.eval s = v) (hx : a.eval x = vx)
    (hown : w.ownsRow base 66 2 v l.length (attrsV l)) (hw : AttrsR w vx m) (hbase : base ≤ w.heap.size) (hsz : l.length + m.length ≤ 1000000000)
    (h : ∀ v' w', w'.ownsRow base 66 2 v' (l ++ m).length (attrsV (l ++ m)) → w.grownBy w' v.ownBlock → wpList Tryz.prog ops Q rest (a.put o.dst v') w') : wpList Tryz.prog ops Q (o :: rest) a w := by
  obtain ⟨i0, hi, hz0, hz1, hz2⟩ := info_parts info_attr
  obtain ⟨p, c, rfl, hc, hm, hcell, hnone⟩ := hw
  cases p with
  | none =>
    obtain rfl : c = 0 := hnone rfl
    obtain rfl : m = [] := List.length_eq_zero_iff.1 (by omega)
    refine wpList_append_own_none hgd s x 42 ho base 66 i0 2 Tryz.underlying42 hi v l.length (attrsV l) hs hown hx ?_
    exact h v w (by rw [List.append_nil]; exact hown) ⟨rfl, rfl, rfl, Nat.le_refl _, fun _ _ _ => rfl⟩
  | some ad =>
    refine wpList_append_own w hgd s x 42 ho base 66 i0 (.agg #[.string ⟨#[]⟩, .string ⟨#[]⟩]) 2 32 Tryz.underlying42 hi hz0 hz1 hz2 rfl (by decide) v l.length (attrsV l) hs hown ad m.length c (attrsV m) hx (attrsV_len m) ?_ (attrsV_one m) (by unfold maxLen; omega) (by omega) hbase ?_
    · intro j u hj
      have hjl := (List.getElem?_eq_some_iff.1 hj).1
      rw [attrsV_len] at hjl
      obtain ⟨t, ht⟩ : ∃ t, m[j / 2]? = some t := ⟨_, List.getElem?_eq_getElem (by omega)⟩
      obtain ⟨b, o', e, hd1, hd2⟩ := hcell _ t ht
      obtain ⟨x1, x2⟩ := attrs_at m _ t ht
      cases e
      have hadd : (⟨b, o', none⟩ : Addr).add j = ⟨b, o' + j, none⟩ := by unfold Addr.add; split <;> simp_all
      rw [hadd]
      rcases (show j = j / 2 * 2 ∨ j = j / 2 * 2 + 1 by omega) with e | e
      · rw [← e] at x1 hd1
        obtain rfl := Option.some.inj (x1.symm.trans hj)
        exact hd1
      · rw [← e] at x2
        rw [Nat.add_assoc, ← e] at hd2
        obtain rfl := Option.some.inj (x2.symm.trans hj)
        exact hd2
    · intro v' w' h2 h3 _
      exact h v' w' (by rw [List.length_append, attrsV_app]; exact h2) h3
/-- the attributes of these names -/
def namesA (ms : List (List UInt8)) : List AttrP := ms.map fun s => (s, [])

set_option maxHeartbeats 2000000 in
set_option maxRecDepth 100000 in
theorem longAttrs_any (v1 v2 : Value) (l : List AttrP) (ms : List (List UInt8)) (w : World) (h1 : AttrsR w v1 l) (h2 : Words w v2 ms) (hl : l.length ≤ 4000000) (hm : ms.length ≤ 4000000) :
    Calls Tryz.prog 19 #[v1, v2] w fun e w' => ∃ v, e = .returned v ∧ w'.ownsRow w.heap.size 66 2 v (l ++ namesA ms).length (attrsV (l ++ namesA ms)) ∧ Below w.heap.size w w' := by
  have H1 := hid h1
  obtain ⟨p1, c1, rfl⟩ := h1.len
  obtain ⟨p2, c2, rfl, hmc, _, hcell, _⟩ := h2
  have H2 := hid hcell
  clear h1 hcell
  obtain ⟨i0, hi, hz0, hz1, hz2⟩ := info_parts info_attr
  go_enter Tryz.func19, Tryz.ntmps19
  have hb0 := heap_alloc_new w (.cells #[] 66)
  have hown0 : (w.alloc (.cells #[] 66)).ownsRow w.heap.size 66 2 (.slice (some ⟨w.heap.size, 0, none⟩) 0 0) ([] : List AttrP).length (attrsV []) := ⟨rfl, .inr ⟨w.heap.size, 0, #[], rfl, Nat.le_refl _, hb0, Nat.le_refl _, by decide, rfl, rfl⟩⟩
  have hbel0 : Below w.heap.size w (w.alloc (.cells #[] 66)) := (Below.refl w.heap.size w).alloc (Nat.le_refl _) _
  have HO := hid hown0
  have HB := hid hbel0
  clear hb0 hown0 hbel0
  go_wp2_with (at_builtin; refine wpList_append_attrs rfl (.tmp 7) (.tmp 8) rfl w.heap.size _ _ [] l rfl rfl (by exact HO.out) (by exact H1.out.below HB.out) HB.out.size (by simp; omega) ?_)
  intro v3 w3 hown3 hgrow3
  have hbel3 : Below w.heap.size w w3 := HB.out.grown hgrow3 HB.out.size (fun k hk => (HO.out.lt k hk).1)
  have HX3 := hid (And.intro hown3 hbel3)
  clear hown3 hgrow3 hbel3 HO HB
  go_wp2_with fail
  go_loopw [5, 12] (fun bv iv wr => ∃ (k : Nat) (acc : List AttrP), iv = .int .i64 k ∧ k ≤ ms.length ∧ Hid (wr.ownsRow w.heap.size 66 2 bv acc.length (attrsV acc) ∧ Below w.heap.size w wr ∧ acc = l ++ namesA (ms.take k))) (fun _ iv _ => ms.length - (RowKit.intOf iv).toNat)
  case atStart => exact ⟨0, l, rfl, Nat.zero_le _, hid ⟨HX3.out.1, HX3.out.2, (List.append_nil l).symm⟩⟩
  case round =>
    obtain ⟨k, acc, rfl, hk, HX⟩ := hrel
    obtain ⟨bp, bc, rfl⟩ := row_shape HX.out.1
    by_cases hkl : k < ms.length
    · obtain ⟨s, hs⟩ : ∃ s, ms[k]? = some s := ⟨_, List.getElem?_eq_getElem hkl⟩
      obtain ⟨b, o, rfl, hc1⟩ := H2.out k s hs
      obtain ⟨hown, hbw, hacc⟩ := HX.out
      have hbs := hbw.size
      replace hc1 := cell_low hc1 hbw (cell_block hc1)
      have hlen : acc.length ≤ 10000000 := by rw [hacc, List.length_append]; unfold namesA; rw [List.length_map, List.length_take]; omega
      have hnext : acc ++ [(s, [])] = l ++ namesA (ms.take (k + 1)) := by
        rw [List.take_add_one, hs, hacc]
        unfold namesA
        rw [List.map_append, List.append_assoc]
        rfl
      have HN := hid hnext
      clear hnext hs hacc HX HX3 H1 H2
      go_wp2_with (at_builtin; refine wpList_append_own _ rfl (.tmp 15) (.tmp 21) 42 rfl w.heap.size 66 i0 (.agg #[.string ⟨#[]⟩, .string ⟨#[]⟩]) 2 32 Tryz.underlying42 hi hz0 hz1 hz2 rfl (by decide) _ acc.length (attrsV acc) rfl (hown.alloc _) ⟨_, 0, none⟩ 1 1 [.string (bs s), .string ⟨#[]⟩] rfl rfl (cells_newV _ _ _) (by simp [Value.oneCell']) (by unfold maxLen; omega) (by omega) (by simp; omega) ?_)
      intro v' w2 hown2 hgrow2 _
      have hbw2 := (hbw.alloc hbs _).grown hgrow2 (by simp; omega) (fun k hk => ((hown.alloc (.cells #[.string (bs s), .string ⟨#[]⟩] 66)).lt k hk).1)
      have hZ : w2.ownsRow w.heap.size 66 2 v' (acc ++ [(s, [])]).length (attrsV (acc ++ [(s, [])])) := by
        rw [List.length_append, attrsV_app]
        exact hown2
      have HZ := hid (And.intro hZ (And.intro hbw2 HN.out))
      clear hZ hbw2 hown2 hgrow2 hown hbw HN
      go_wp2
      go_roundw
      case rel => exact ⟨k + 1, acc ++ [(s, [])], rfl, by omega, HZ⟩
      case measure => simp [RowKit.intOf]; omega
    · obtain rfl : k = ms.length := by omega
      obtain ⟨h1, h2, h3⟩ := HX.out
      rw [List.take_length] at h3
      have HZ := hid (And.intro h1 (And.intro h2 h3))
      clear h1 h2 h3 HX HX3
      go_wp2
      go_ret
      obtain ⟨h1, h2, h3⟩ := HZ.out
      rw [← h3]
      exact ⟨_, rfl, h1, h2⟩

/-! ## cells of events, lists of attributes beside them -/

def ecells (prs : List (EvP × Value)) : List Value := prs.flatMap fun x => [.int .i64 x.1.k, .string (bs x.1.n), x.2, .string (bs x.1.t)]
theorem ecells_app (a b : List (EvP × Value)) : ecells (a ++ b) = ecells a ++ ecells b := List.flatMap_append
theorem ecells_at : ∀ (a : List (EvP × Value)) (k : Nat) (x : EvP × Value), a[k]? = some x → (ecells a)[k * 4]? = some (.int .i64 x.1.k) ∧ (ecells a)[k * 4 + 1]? = some (.string (bs x.1.n)) ∧ (ecells a)[k * 4 + 2]? = some x.2 ∧ (ecells a)[k * 4 + 3]? = some (.string (bs x.1.t))
  | [], k, x, h => by simp at h
  | y :: r, 0, x, h => by
    simp only [List.getElem?_cons_zero, Option.some.injEq] at h
    subst h
    exact ⟨rfl, rfl, rfl, rfl⟩
  | y :: r, k + 1, x, h => by
    rw [List.getElem?_cons_succ] at h
    obtain ⟨h1, h2, h3, h4⟩ := ecells_at r k x h
    exact ⟨by rw [show (k + 1) * 4 = k * 4 + 1 + 1 + 1 + 1 by omega]; exact h1, by rw [show (k + 1) * 4 + 1 = k * 4 + 1 + 1 + 1 + 1 + 1 by omega]; exact h2,
      by rw [show (k + 1) * 4 + 2 = k * 4 + 2 + 1 + 1 + 1 + 1 by omega]; exact h3, by rw [show (k + 1) * 4 + 3 = k * 4 + 3 + 1 + 1 + 1 + 1 by omega]; exact h4⟩
theorem evsR_row {T : TypeId} {W : World} {base : Nat} {v : Value} {prs : List (EvP × Value)} (h : W.ownsRow base T 4 v prs.length (ecells prs)) (ha : ∀ x ∈ prs, AttrsR W x.2 x.1.a) : EvsR W v (prs.map Prod.fst) := by
  have hlen : (prs.map Prod.fst).length = prs.length := List.length_map _
  have hc : ∀ j e, (prs.map Prod.fst)[j]? = some e → ∃ b o u, (∃ n c, v = .slice (some ⟨b, o, none⟩) n c) ∧ W.cell? ⟨b, o + j * 4, none⟩ = some (.int .i64 e.k) ∧ W.cell? ⟨b, o + j * 4 + 1, none⟩ = some (.string (bs e.n)) ∧ W.cell? ⟨b, o + j * 4 + 2, none⟩ = some u ∧ W.cell? ⟨b, o + j * 4 + 3, none⟩ = some (.string (bs e.t)) ∧ AttrsR W u e.a := fun j e hj => by
    rw [List.getElem?_map] at hj
    obtain ⟨x, hx, rfl⟩ := Option.map_eq_some_iff.1 hj
    have hlt := (List.getElem?_eq_some_iff.1 hx).1
    obtain ⟨g, cap, rfl, _, _, hcell⟩ := row_at h (by omega)
    obtain ⟨x1, x2, x3, x4⟩ := ecells_at prs j x hx
    refine ⟨g, 0, x.2, ⟨_, _, rfl⟩, ?_, ?_, ?_, ?_, ha x (List.mem_of_getElem? hx)⟩
    all_goals rw [Nat.zero_add]
    · exact (hcell _ (by omega)).trans x1
    · exact (hcell _ (by omega)).trans x2
    · exact (hcell _ (by omega)).trans x3
    · exact (hcell _ (by omega)).trans x4
  rcases h.2 with ⟨rfl, h0⟩ | ⟨g, cap, cur, rfl, _, _, h1, h2, _⟩
  · exact ⟨none, 0, by rw [hlen, h0], by omega, by omega, fun j s hj => by have := (List.getElem?_eq_some_iff.1 hj).1; omega⟩
  · refine ⟨some ⟨g, 0, none⟩, cap, by rw [hlen], by omega, by unfold maxLen at h2; omega, fun j s hj => ?_⟩
    obtain ⟨b, o, u, ⟨n, c, e⟩, hcell⟩ := hc j s hj
    cases e
    exact ⟨g, 0, u, rfl, hcell⟩
theorem alistsR_row {W : World} {base : Nat} {v : Value} {us : List Value} {ls : List (List AttrP)} (h : W.ownsRow base 42 1 v us.length us) (hl : us.length = ls.length) (ha : ∀ (k : Nat) u l, us[k]? = some u → ls[k]? = some l → AttrsR W u l) : AlistsR W v ls := by
  have hc : ∀ j l, ls[j]? = some l → ∃ b o u, (∃ n c, v = .slice (some ⟨b, o, none⟩) n c) ∧ W.cell? ⟨b, o + j, none⟩ = some u ∧ AttrsR W u l := fun j l hj => by
    have hlt := (List.getElem?_eq_some_iff.1 hj).1
    obtain ⟨g, cap, rfl, _, _, hcell⟩ := row_at h (by omega)
    obtain ⟨u, hu⟩ : ∃ u, us[j]? = some u := ⟨_, List.getElem?_eq_getElem (by omega)⟩
    exact ⟨g, 0, u, ⟨_, _, rfl⟩, by rw [Nat.zero_add]; exact (hcell _ (by omega)).trans hu, ha j u l hu hj⟩
  rcases h.2 with ⟨rfl, h0⟩ | ⟨g, cap, cur, rfl, _, _, h1, h2, _⟩
  · exact ⟨none, 0, by rw [← hl, h0], by omega, by omega, fun j s hj => by have := (List.getElem?_eq_some_iff.1 hj).1; omega⟩
  · refine ⟨some ⟨g, 0, none⟩, cap, by rw [hl], by omega, by unfold maxLen at h2; omega, fun j s hj => ?_⟩
    obtain ⟨b, o, u, ⟨n, c, e⟩, hcell⟩ := hc j s hj
    cases e
    exact ⟨g, 0, u, rfl, hcell⟩
theorem EvsR.front2 {W : World} {p : Option Addr} {n c : Nat} {a b : List EvP} (h : EvsR W (.slice p n c) (a ++ b)) : EvsR W (.slice p a.length c) a := by
  have := h.front a.length (by simp)
  rwa [List.take_left'] at this
  rfl

/-! ## events or nodes that are being lent: the box of the answer, the box of the list, the lists -/

structure LndE (T LT : TypeId) (w W : World) (wv av : Value) (es : List EvP) (mA : List AttrP) (prs : List (EvP × Value)) (us : List Value) : Prop where
  be : Below w.heap.size w W
  b0 : W.heap[w.heap.size]? = some (.cells #[.slice none 0 0, .slice none 0 0, .slice none 0 0] LT (0, 0))
  bx : W.heap[w.heap.size + 1]? = some (.cells #[.slice none 0 0, wv, av] LT (0, 0))
  a : W.ownsRow w.heap.size 42 1 av us.length us
  r : W.ownsRow w.heap.size T 4 wv prs.length (ecells prs)
  u : ∀ (k : Nat) (v : Value) (e : EvP), us[k]? = some v → es[k]? = some e → W.ownsRow w.heap.size 66 2 v (e.a ++ mA).length (attrsV (e.a ++ mA))
  rw : ∀ (k : Nat) (x : EvP × Value), prs[k]? = some x → (x.1.a = [] ∧ x.2 = .slice none 0 0) ∨ ∃ v, us[k]? = some v ∧ es[k]? = some x.1 ∧ x.2 = frontV v x.1.a.length
/-- the types stand apart -/
structure LndT (T LT : TypeId) : Prop where
  t0 : T ≠ 66
  t1 : T ≠ 42
  t2 : LT ≠ T
  t3 : LT ≠ 66
  t4 : LT ≠ 42
section
variable {T LT : TypeId} {w W W2 : World} {wv av : Value} {es : List EvP} {mA : List AttrP} {prs : List (EvP × Value)} {us : List Value}
theorem LndE.below (h : LndE T LT w W wv av es mA prs us) (hb : Below W.heap.size W W2) : LndE T LT w W2 wv av es mA prs us :=
  ⟨h.be.trans (hb.mono h.be.size), (hb.block _ (block_lt h.b0)).trans h.b0, (hb.block _ (block_lt h.bx)).trans h.bx, row_below h.a hb, row_below h.r hb, fun k v e h1 h2 => row_below (h.u k v e h1 h2) hb, h.rw⟩
theorem LndE.drew (h : LndE T LT w W wv av es mA prs us) : LndE T LT w W.drew wv av es mA prs us := ⟨⟨h.be.os, h.be.tape, h.be.output, h.be.size, h.be.block⟩, h.b0, h.bx, h.a, h.r, h.u, h.rw⟩
/-- a box of the element's type that is written into -/
theorem LndE.box {c : Nat} {cs cs2 : Array Value} (ht : LndT T LT) (h : LndE T LT w W wv av es mA prs us) (hc : W.heap[c]? = some (.cells cs T (0, 0))) (hlo : w.heap.size + 2 ≤ c) (hne : wv.ownBlock ≠ some c) (j : Just W W2 c cs2 T) : LndE T LT w W2 wv av es mA prs us :=
  ⟨h.be.trans (just_low j (by omega)), (j.other _ (by omega)).trans h.b0, (j.other _ (by omega)).trans h.bx, row_just h.a hc ht.t1 j.other, row_of_block h.r (fun g hg => j.other g (fun e => hne (by rw [hg, e]))), fun k v e h1 h2 => row_just (h.u k v e h1 h2) hc ht.t0 j.other, h.rw⟩
/-- one more list of attributes -/
theorem LndE.attr {u' v' : Value} {e : EvP} (ht : LndT T LT) (h : LndE T LT w W wv av es mA prs us) (hu : W.ownsRow w.heap.size 66 2 u' (e.a ++ mA).length (attrsV (e.a ++ mA))) (he : es[us.length]? = some e)
    (hg : (W.alloc (.cells #[u'] 42)).grownBy W2 av.ownBlock) (hv : W2.ownsRow w.heap.size 42 1 v' (us ++ [u']).length (us ++ [u'])) :
    LndE T LT w (W2.setCell ⟨w.heap.size + 1, 2, none⟩ v') wv v' es mA prs (us ++ [u']) := by
  have hax := h.a.alloc (.cells #[u'] 42)
  have bxa : (W.alloc (.cells #[u'] 42)).heap[w.heap.size + 1]? = _ := (Go.Lib.alloc_old _ _ _ (block_lt h.bx)).trans h.bx
  have b0a : (W.alloc (.cells #[u'] 42)).heap[w.heap.size]? = _ := (Go.Lib.alloc_old _ _ _ (block_lt h.b0)).trans h.b0
  have bx2 := grown_at hg bxa (row_ne hax bxa ht.t4)
  have b02 := grown_at hg b0a (row_ne hax b0a ht.t4)
  have j := just_put (j := 2) (cs2 := #[.slice none 0 0, wv, v']) bx2 v' (by simp)
  have str : ∀ a n xs, W.ownsRow w.heap.size 66 2 a n xs → (W2.setCell ⟨w.heap.size + 1, 2, none⟩ v').ownsRow w.heap.size 66 2 a n xs := fun a n xs hr =>
    row_just ((hr.alloc _).kept hg (rows_ne (hr.alloc _) hax (by decide))) bx2 ht.t3 j.other
  refine ⟨((h.be.alloc h.be.size _).grown hg (by have := h.be.size; simp; omega) (fun k hk => (hax.lt k hk).1)).trans (just_low j (by omega)), (j.other _ (by omega)).trans b02, j.at_, row_just hv bx2 ht.t4 j.other, row_just ((h.r.alloc _).kept hg (rows_ne (h.r.alloc _) hax ht.t1)) bx2 ht.t2 j.other, fun k v x h1 h2 => ?_, fun k x h1 => ?_⟩
  · by_cases hk : k < us.length
    · rw [List.getElem?_append_left hk] at h1
      exact str _ _ _ (h.u k v x h1 h2)
    · obtain rfl : k = us.length := by have := (List.getElem?_eq_some_iff.1 h1).1; simp at this; omega
      rw [List.getElem?_append_right (Nat.le_refl _), Nat.sub_self] at h1
      obtain rfl := Option.some.inj h1
      obtain rfl := Option.some.inj (he.symm.trans h2)
      exact str _ _ _ hu
  · rcases h.rw k x h1 with h3 | ⟨v, h3, h4, h5⟩
    · exact .inl h3
    · exact .inr ⟨v, by rw [List.getElem?_append_left (List.getElem?_eq_some_iff.1 h3).1]; exact h3, h4, h5⟩
/-- one more event -/
theorem LndE.ev {v' : Value} {x : EvP × Value} {X : Obj} (ht : LndT T LT) (h : LndE T LT w W wv av es mA prs us)
    (hx : (x.1.a = [] ∧ x.2 = .slice none 0 0) ∨ ∃ v, us[prs.length]? = some v ∧ es[prs.length]? = some x.1 ∧ x.2 = frontV v x.1.a.length)
    (hg : (W.alloc X).grownBy W2 wv.ownBlock) (hv : W2.ownsRow w.heap.size T 4 v' (prs ++ [x]).length (ecells (prs ++ [x]))) :
    LndE T LT w (W2.setCell ⟨w.heap.size + 1, 1, none⟩ v') v' av es mA (prs ++ [x]) us := by
  have hax := h.r.alloc X
  have bxa : (W.alloc X).heap[w.heap.size + 1]? = _ := (Go.Lib.alloc_old _ _ _ (block_lt h.bx)).trans h.bx
  have b0a : (W.alloc X).heap[w.heap.size]? = _ := (Go.Lib.alloc_old _ _ _ (block_lt h.b0)).trans h.b0
  have bx2 := grown_at hg bxa (row_ne hax bxa ht.t2)
  have b02 := grown_at hg b0a (row_ne hax b0a ht.t2)
  have j := just_put (j := 1) (cs2 := #[.slice none 0 0, v', av]) bx2 v' (by simp)
  have str : ∀ a n xs, W.ownsRow w.heap.size 66 2 a n xs → (W2.setCell ⟨w.heap.size + 1, 1, none⟩ v').ownsRow w.heap.size 66 2 a n xs := fun a n xs hr =>
    row_just ((hr.alloc _).kept hg (rows_ne (hr.alloc _) hax ht.t0.symm)) bx2 ht.t3 j.other
  refine ⟨((h.be.alloc h.be.size _).grown hg (by have := h.be.size; simp; omega) (fun k hk => (hax.lt k hk).1)).trans (just_low j (by omega)), (j.other _ (by omega)).trans b02, j.at_, row_just ((h.a.alloc _).kept hg (rows_ne (h.a.alloc _) hax ht.t1.symm)) bx2 ht.t4 j.other, row_just hv bx2 ht.t2 j.other, fun k v x h1 h2 => str _ _ _ (h.u k v x h1 h2), fun k y h1 => ?_⟩
  by_cases hk : k < prs.length
  · rw [List.getElem?_append_left hk] at h1
    exact h.rw k y h1
  · obtain rfl : k = prs.length := by have := (List.getElem?_eq_some_iff.1 h1).1; simp at this; omega
    rw [List.getElem?_append_right (Nat.le_refl _), Nat.sub_self] at h1
    obtain rfl := Option.some.inj h1
    exact hx
/-- what was lent can be read -/
theorem LndE.whole (h : LndE T LT w W wv av es mA prs us) : EvsR W wv (prs.map Prod.fst) := by
  refine evsR_row h.r (fun x hx => ?_)
  obtain ⟨k, hk⟩ := List.getElem?_of_mem hx
  rcases h.rw k x hk with ⟨h1, h2⟩ | ⟨v, h1, h2, h3⟩
  · rw [h1, h2]; exact AttrsR.nil W
  · rw [h3]; exact attrsR_front (h.u k v x.1 h1 h2)
theorem LndE.lists (h : LndE T LT w W wv av es mA prs us) (hl : us.length = es.length) : AlistsR W av (es.map fun e => e.a ++ mA) := by
  refine alistsR_row h.a (by rw [hl, List.length_map]) (fun k u l hu hk => ?_)
  rw [List.getElem?_map] at hk
  obtain ⟨e, he, rfl⟩ := Option.map_eq_some_iff.1 hk
  exact attrsR_row (h.u k u e hu he)
end
/-- events or nodes that were lent: the front, the whole, the lists of attributes -/
def LentE (W : World) (v : Value) (es more : List EvP) (mA : List AttrP) : Prop :=
  ∃ vf vw va, v = .agg #[vf, vw, va] ∧ EvsR W vf es ∧ EvsR W vw (es ++ more) ∧ AlistsR W va (es.map fun e => e.a ++ mA)
theorem LentE.below {W W' : World} {v : Value} {es more : List EvP} {mA : List AttrP} (h : LentE W v es more mA) (hb : Below W.heap.size W W') : LentE W' v es more mA := by
  obtain ⟨vf, vw, va, e, h1, h2, h3⟩ := h
  exact ⟨vf, vw, va, e, h1.below hb, h2.below hb, h3.below hb⟩
theorem three_put {W : World} {b : Nat} {T : TypeId} {a0 a1 a2 p0 p1 p2 : Value} (h : W.heap[b]? = some (.cells #[a0, a1, a2] T (0, 0))) :
    Just W (((W.setCell ⟨b, 0, none⟩ p0).setCell ⟨b, 1, none⟩ p1).setCell ⟨b, 2, none⟩ p2) b #[p0, p1, p2] T := by
  have h0 := just_put (j := 0) (cs2 := #[p0, a1, a2]) h p0 (by simp)
  have h1 := just_put (j := 1) (cs2 := #[p0, p1, a2]) h0.at_ p1 (by simp)
  have h2 := just_put (j := 2) (cs2 := #[p0, p1, p2]) h1.at_ p2 (by simp)
  exact (h0.andThen h1).andThen h2
/-- the lists alone -/
structure LndL (T : TypeId) (w W : World) (wv av : Value) (es : List EvP) (mA : List AttrP) (prs : List (EvP × Value)) (us : List Value) : Prop where
  a : W.ownsRow w.heap.size 42 1 av us.length us
  r : W.ownsRow w.heap.size T 4 wv prs.length (ecells prs)
  u : ∀ (k : Nat) (v : Value) (e : EvP), us[k]? = some v → es[k]? = some e → W.ownsRow w.heap.size 66 2 v (e.a ++ mA).length (attrsV (e.a ++ mA))
  rw : ∀ (k : Nat) (x : EvP × Value), prs[k]? = some x → (x.1.a = [] ∧ x.2 = .slice none 0 0) ∨ ∃ v, us[k]? = some v ∧ es[k]? = some x.1 ∧ x.2 = frontV v x.1.a.length
theorem LndE.lst {T LT : TypeId} {w W : World} {wv av : Value} {es : List EvP} {mA : List AttrP} {prs : List (EvP × Value)} {us : List Value} (h : LndE T LT w W wv av es mA prs us) : LndL T w W wv av es mA prs us := ⟨h.a, h.r, h.u, h.rw⟩
theorem LndL.just {T LT : TypeId} {w W W2 : World} {b : Nat} {cs cs2 : Array Value} {wv av : Value} {es : List EvP} {mA : List AttrP} {prs : List (EvP × Value)} {us : List Value} (ht : LndT T LT) (h : LndL T w W wv av es mA prs us) (hb : W.heap[b]? = some (.cells cs LT (0, 0))) (j : Just W W2 b cs2 LT) : LndL T w W2 wv av es mA prs us :=
  ⟨row_just h.a hb ht.t4 j.other, row_just h.r hb ht.t2 j.other, fun k v e h1 h2 => row_just (h.u k v e h1 h2) hb ht.t3 j.other, h.rw⟩
theorem LndL.lent {T : TypeId} {w W : World} {wp ap : Option Addr} {wn wc an ac : Nat} {es more : List EvP} {mA : List AttrP} {prs : List (EvP × Value)} {us : List Value} (h : LndL T w W (.slice wp wn wc) (.slice ap an ac) es mA prs us)
    (hp : prs.map Prod.fst = es ++ more) (hl : us.length = es.length) : LentE W (.agg #[.slice wp es.length wc, .slice wp wn wc, .slice ap an ac]) es more mA := by
  have hw : EvsR W (.slice wp wn wc) (prs.map Prod.fst) := by
    refine evsR_row h.r (fun x hx => ?_)
    obtain ⟨k, hk⟩ := List.getElem?_of_mem hx
    rcases h.rw k x hk with ⟨h1, h2⟩ | ⟨v, h1, h2, h3⟩
    · rw [h1, h2]; exact AttrsR.nil W
    · rw [h3]; exact attrsR_front (h.u k v x.1 h1 h2)
  rw [hp] at hw
  refine ⟨_, _, _, rfl, hw.front2, hw, alistsR_row h.a (by rw [hl, List.length_map]) (fun k u l hu hk => ?_)⟩
  rw [List.getElem?_map] at hk
  obtain ⟨e, he, rfl⟩ := Option.map_eq_some_iff.1 hk
  exact attrsR_row (h.u k u e hu he)
theorem EvsR.drewN {W : World} {v : Value} {l : List EvP} (h : EvsR W v l) (n : Nat) : EvsR (W.drewN n) v l := h
theorem AlistsR.drewN {W : World} {v : Value} {l : List (List AttrP)} (h : AlistsR W v l) (n : Nat) : AlistsR (W.drewN n) v l := h
end Go.Proofs.YtkcgmimldjeaiaaGreatDoor

/-
  Package sieve: the rule of an element, an attribute's value, the attributes that stay: their walks.
-/
namespace Go.Proofs.YtkcgmimldjeaiaaGreatDoor
open Go.RowKit Go.Lib Own

theorem results_two {P : Program} {fn : Func} {p u : Tmp} {ty : TypeId} (h : fn.results = #[.cell p ty, .tmp u]) (tmps : Array Value) (w : World) (g : Nat) (t : TypeId) (cs : Array Value) (fr : Nat × Nat) (d : TypeDesc)
    (hp : tmps.getD p undef = .pointer (some ⟨g, 0, none⟩)) (hg : w.heap[g]? = some (.cells cs t fr))
    (hu : P.underlying ty = some d) (hd : (match d with | .struct _ | .array _ _ => true | _ => false) = true) (hi : (P.info? ty).map (·.size) = some cs.size) (x : Value) (hx : tmps.getD u undef = x) :
    (results fn tmps).run P w = .ok (.tuple #[.agg cs, x]) w := by
  rw [results_cell_tmp h, hp, hx]
  simp [asAddr, Result.andThen, run_loadVar_row w g t ty cs fr d hg hu hd hi]

/-- the cells of a Sieve -/
def sieveC (vr vs vd : Value) (P : PolP) (sk : List UInt8) (n : Nat) : Array Value := #[vr, vs, vd, .int .i64 P.depth, .int .i64 P.window, .string (bs sk), .int .i64 n]
/-- a Sieve at block b, over a policy that lies below w0's end -/
structure SvAt (w0 w : World) (b : Nat) (vr vs vd : Value) (P : PolP) (sk : List UInt8) (n : Nat) : Prop where
  at_ : w.heap[b]? = some (.cells (sieveC vr vs vd P sk n) 77 (0, 0))
  pol : PolR w0 vr vs vd P
  be : Below w0.heap.size w0 w
  lo : w0.heap.size ≤ b
theorem SvAt.below {w0 w w' : World} {b : Nat} {vr vs vd : Value} {P : PolP} {sk : List UInt8} {n : Nat} (h : SvAt w0 w b vr vs vd P sk n) (hb : Below w.heap.size w w') : SvAt w0 w' b vr vs vd P sk n :=
  ⟨(hb.block b (block_lt h.at_)).trans h.at_, h.pol, h.be.trans (hb.mono h.be.size), h.lo⟩
theorem SvAt.drew {w0 w : World} {b : Nat} {vr vs vd : Value} {P : PolP} {sk : List UInt8} {n : Nat} (h : SvAt w0 w b vr vs vd P sk n) : SvAt w0 w.drew b vr vs vd P sk n := ⟨h.at_, h.pol, ⟨h.be.os, h.be.tape, h.be.output, h.be.size, h.be.block⟩, h.lo⟩
theorem SvAt.cur {w0 w : World} {b : Nat} {vr vs vd : Value} {P : PolP} {sk : List UInt8} {n : Nat} (h : SvAt w0 w b vr vs vd P sk n) : PolR w vr vs vd P := h.pol.below h.be

theorem isLink_any (x : ByteArray) (w : World) : Calls Tryz.prog 90 #[.string x] w fun e w' => e = .returned (.bool (isLinkL x.toList)) ∧ w' = w := by
  unfold isLinkL
  by_cases h1 : (x.toList == [99, 105, 116, 101]) = true
  · rw [h1, Bool.true_or]
    go_enter Tryz.func90, Tryz.ntmps90
    go_wp2
    go_ret
    exact ⟨rfl, rfl⟩
  rw [Bool.not_eq_true] at h1
  rw [h1, Bool.false_or]
  by_cases h2 : (x.toList == [104, 114, 101, 102]) = true
  · rw [h2, Bool.true_or]
    go_enter Tryz.func90, Tryz.ntmps90
    go_wp2
    go_ret
    exact ⟨rfl, rfl⟩
  rw [Bool.not_eq_true] at h2
  rw [h2, Bool.false_or]
  obtain ⟨R, hR⟩ : ∃ R, (x.toList == [115, 114, 99]) = R := ⟨_, rfl⟩
  rw [hR]
  go_enter Tryz.func90, Tryz.ntmps90
  go_wp2
  go_ret
  exact ⟨rfl, rfl⟩

theorem ruleIs_any (g : Nat) (r : RuleP) (u : Value) (x : ByteArray) (w : World) (hg : w.cell? ⟨g, 0, none⟩ = some (.string x)) (hu : ∃ p n c, u = .slice p n c) :
    Calls Tryz.prog 69 #[.agg #[.string (bs r.1), u], .pointer (some ⟨g, 0, none⟩)] w fun e w' => e = .returned (.bool (r.1 == x.toList)) ∧ Below w.heap.size w w' := by
  obtain ⟨p, n, c, rfl⟩ := hu
  have hb := (Below.refl w.heap.size w).alloc (Nat.le_refl _) (.cells #[.string (bs r.1), .slice p n c] 53)
  have hbt := bs_toList r.1
  obtain ⟨S, hS⟩ : ∃ S, bs r.1 = S := ⟨_, rfl⟩
  rw [hS] at hb hbt ⊢
  have hg2 := cell_low hg hb (cell_block hg)
  have e : (r.1 == x.toList) = (S.toList == x.toList) := by rw [hbt]
  rw [e]
  have HB := hid hb
  clear hbt hS e hb
  go_enter Tryz.func69, Tryz.ntmps69
  go_wp2
  go_ret
  exact ⟨rfl, HB.out⟩

theorem ruleL_none {rs : List RuleP} {n : List UInt8} (h : ruleL rs n = none) : idxP (fun r : RuleP => r.1 == n) rs = -1 := by
  refine idxP_miss _ rs (fun j y hj => ?_)
  induction rs generalizing j with
  | nil => simp at hj
  | cons r rs ih =>
    unfold ruleL at h
    by_cases hr : r.1 = n
    · rw [if_pos hr] at h; cases h
    · rw [if_neg hr] at h
      cases j with
      | zero =>
        simp only [List.getElem?_cons_zero, Option.some.injEq] at hj
        subst hj
        exact beq_eq_false_iff_ne.2 hr
      | succ j => exact ih h j (by simpa using hj)
theorem ruleL_some {n : List UInt8} {l : List (List UInt8)} {rs : List RuleP} (h : ruleL rs n = some l) : ∃ k : Nat, rs[k]? = some (n, l) ∧ idxP (fun r : RuleP => r.1 == n) rs = (k : Int) := by
  induction rs with
  | nil => cases h
  | cons r rs ih =>
    unfold ruleL at h
    by_cases hr : r.1 = n
    · rw [if_pos hr] at h
      refine ⟨0, ?_, ?_⟩
      · show some r = some (n, l)
        rw [← hr, ← Option.some.inj h]
      · rw [idxP_cons, if_pos (beq_iff_eq.2 hr)]
        rfl
    · rw [if_neg hr] at h
      obtain ⟨k, h1, h2⟩ := ih h
      refine ⟨k + 1, by rw [List.getElem?_cons_succ]; exact h1, ?_⟩
      rw [idxP_cons, if_neg (by rw [beq_iff_eq]; exact hr), h2, if_neg (by omega)]
      simp

/-- what rule answers -/
def RuleV (W : World) (n : List UInt8) : Option (List (List UInt8)) → Value → Prop
  | none, v => v = .tuple #[.agg #[.string ⟨#[]⟩, .slice none 0 0], .bool false]
  | some l, v => ∃ u, v = .tuple #[.agg #[.string (bs n), u], .bool true] ∧ Words W u l

set_option maxHeartbeats 4000000 in
set_option maxRecDepth 100000 in
theorem rule_any (w0 : World) (b : Nat) (vr vs vd : Value) (P : PolP) (sk : List UInt8) (cnt : Nat) (x : ByteArray) (w : World) (h : SvAt w0 w b vr vs vd P sk cnt) (hF : P.Few) :
    Calls Tryz.prog 44 #[.pointer (some ⟨b, 0, none⟩), .string x] w fun e w' => ∃ v, e = .returned v ∧ RuleV w x.toList (ruleL P.rules x.toList) v ∧ Below w.heap.size w w' := by
  have hpol := h.cur
  obtain ⟨rp, rc, hvr, _, hrm, hcell⟩ := hpol.rules
  subst hvr
  have f1 := hF.rules
  -- the boxes
  obtain ⟨W1, hW1⟩ : ∃ W1, (w.alloc (.cells #[.string x] 9)).alloc (.cells #[.string ⟨#[]⟩, .slice none 0 0] 53) = W1 := ⟨_, rfl⟩
  have hB : Below w.heap.size w W1 := by rw [← hW1]; exact ((Below.refl w.heap.size w).alloc (Nat.le_refl _) _).alloc (by simp) _
  have b0 : W1.heap[w.heap.size]? = some (.cells #[.string x] 9 (0, 0)) := by rw [← hW1]; exact (Go.Lib.alloc_old _ _ _ (by simp)).trans (heap_alloc_new w _)
  have b1 : W1.heap[w.heap.size + 1]? = some (.cells #[.string ⟨#[]⟩, .slice none 0 0] 53 (0, 0)) := by rw [← hW1]; exact heap_two_new w _ _ _
  have hix := ruIndexFunc_any 69 #[.pointer (some ⟨w.heap.size, 0, none⟩)] (enters_of Tryz.func69 (by kernel_rfl) rfl) (fun r => r.1 == x.toList) (.slice rp P.rules.length rc) P.rules W1 (hpol.rules.below hB)
    (fun W r u _ hu hb => (ruleIs_any w.heap.size r u x W (cell_low (cell_at b0 (j := 0) rfl) hb (block_lt b0)) hu.shape).mono fun e w' q => ⟨q.1, hb.trans (q.2.mono hb.size)⟩)
  have c0 : W1.cell? ⟨b, 0, none⟩ = some (.slice rp P.rules.length rc) := cell_low (cell_at h.at_ rfl) hB (block_lt h.at_)
  have HC := hid hcell
  have HB := hid hB
  have HB1 := hid b1
  have HX := hid hix
  have HA := hid (cell_at h.at_ (j := 0) rfl)
  clear hcell hix hpol h hF b0 b1 hB
  go_enter Tryz.func44, Tryz.ntmps44
  go_upto_region 1 with fail
  go_wp2_with fail
  refine HX.out.mono ?_
  rintro e W2 ⟨rfl, hb2⟩
  have hb1 := (hb2.block _ (block_lt HB1.out)).trans HB1.out
  have hbel := HB.out.trans (hb2.mono HB.out.size)
  have d0 : W2.cell? ⟨b, 0, none⟩ = some (.slice rp P.rules.length rc) := cell_low c0 hb2 (cell_block c0)
  have z0 := cell_at hb1 (j := 0) rfl
  have z1 := cell_at hb1 (j := 1) rfl
  have y0 := free_at hb1 0
  have y1 := free_at hb1 1
  have hlo : w.heap.size < w.heap.size + 1 := by omega
  cases hr : ruleL P.rules x.toList with
  | none =>
    have hi := ruleL_none hr
    have HRR := hid hr
    have HF := hid (And.intro hb1 hbel)
    rw [hi]
    clear hr hi hb2 hbel hb1 HX HB HB1 hW1 c0 d0
    go_wp2_with fail
    have j0 := just_put (j := 0) (cs2 := #[.string ⟨#[]⟩, .slice none 0 0]) HF.out.1 (.string ⟨#[]⟩) (by simp)
    have j1 := just_put (j := 1) (cs2 := #[.string ⟨#[]⟩, .slice none 0 0]) j0.at_ (.slice none 0 0) (by simp)
    refine bodyPost_ret (v := .tuple #[.agg #[.string ⟨#[]⟩, .slice none 0 0], .bool false]) (results_two rfl _ _ _ _ _ _ _ rfl j1.at_ Tryz.underlying53 rfl (by kernel_rfl) _ rfl) rfl ⟨_, rfl, by rw [HRR.out]; rfl, ?_⟩
    exact (HF.out.2.trans (just_low j0 (by omega))).trans (just_low j1 (by omega))
  | some l =>
    obtain ⟨k, hk, hi⟩ := ruleL_some hr
    have HRR := hid hr
    obtain ⟨bb, o, u, rfl, q1, q2, q3⟩ := HC.out k _ hk
    have hkl := (List.getElem?_eq_some_iff.1 hk).1
    obtain ⟨up, uc, rfl, _⟩ := q3.len
    have HQ := hid q3
    have HF := hid (And.intro hb1 hbel)
    simp only at q1
    rw [bs_toList2] at q1
    replace q1 := cell_low q1 hbel (cell_block q1)
    replace q2 := cell_low q2 hbel (cell_block q2)
    rw [hi]
    have hxx := hid (bs_toList2 x)
    clear hr hi hb2 hbel hb1 HX HB HB1 hW1 c0 hk HC q3
    go_wp2_with fail
    have j0 := just_put (j := 0) (cs2 := #[.string x, .slice none 0 0]) HF.out.1 (.string x) (by simp)
    have j1 := just_put (j := 1) (cs2 := #[.string x, .slice up l.length uc]) j0.at_ (.slice up l.length uc) (by simp)
    refine bodyPost_ret (v := .tuple #[.agg #[.string x, .slice up l.length uc], .bool true]) (results_two rfl _ _ _ _ _ _ _ rfl j1.at_ Tryz.underlying53 rfl (by kernel_rfl) _ rfl) rfl ⟨_, rfl, by rw [HRR.out]; exact ⟨_, by rw [hxx.out], HQ.out⟩, ?_⟩
    exact (HF.out.2.trans (just_low j0 (by omega))).trans (just_low j1 (by omega))
end Go.Proofs.YtkcgmimldjeaiaaGreatDoor
