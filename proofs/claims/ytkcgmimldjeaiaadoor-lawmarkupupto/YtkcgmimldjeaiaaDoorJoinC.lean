/-
  Parts of the walk, joined: ApartA, ApartB, EscText, WrText, WrTag, WrTake, RefWrA, RefWrB, WordsA.
-/
import Derived.Test.YtkcgmimldjeaiaaDoorJoinA
import Derived.Test.YtkcgmimldjeaiaaDoorGen
import Derived.Test.YtkcgmimldjeaiaaDoorShelf
import Derived.Lib.Replace
import Derived.Lib.ReplaceLaws
import Derived.WalkKit
import Derived.Test.YtkcgmimldjeaiaaDoorRefText
import Derived.Test.YtkcgmimldjeaiaaDoorInBuilder
import Derived.Test.YtkcgmimldjeaiaaDoorUnref
import Derived.Test.YtkcgmimldjeaiaaDoorLex
import Derived.Test.YtkcgmimldjeaiaaDoorRefSet
/-
  The statements' appended and allNamed: their walks.
-/
namespace Go.Proofs.YtkcgmimldjeaiaaDoor
open Go.RowKit Go.Lib Own

/-- attributes of one name -/
def namedV (nm : ByteArray) (ws : List ByteArray) : List Value := ws.flatMap fun x => [.string nm, .string x]
theorem namedV_len (nm : ByteArray) : ∀ ws : List ByteArray, (namedV nm ws).length = ws.length * 2
  | [] => rfl
  | x :: ws => by
    have := namedV_len nm ws
    unfold namedV at this ⊢
    simp only [List.flatMap_cons, List.length_append, List.length_cons, List.length_nil, this]
    omega
theorem namedV_app (nm : ByteArray) (a b : List ByteArray) : namedV nm (a ++ b) = namedV nm a ++ namedV nm b := by
  unfold namedV
  rw [List.flatMap_append]
theorem namedV_at (nm : ByteArray) : ∀ (ws : List ByteArray) (j : Nat), j < ws.length → (namedV nm ws)[j * 2]? = some (.string nm)
  | [], j, h => by simp at h
  | x :: ws, 0, _ => rfl
  | x :: ws, j + 1, h => by
    have := namedV_at nm ws j (by simpa using h)
    rw [show (j + 1) * 2 = j * 2 + 1 + 1 by omega]
    exact this
/-- a list of attributes that can be read, all of one name -/
def NamedR (W : World) (v : Value) (n : Nat) (nm : ByteArray) : Prop := n ≤ 9223372036854775807 ∧ ∃ p c, v = .slice p n c ∧ ∀ j, j < n → ∃ g, p = some ⟨g, 0, none⟩ ∧ W.cell? ⟨g, j * 2, none⟩ = some (.string nm) ∧ ∃ cs, W.heap[g]? = some (.cells cs 101 (0, 0))
theorem NamedR.of {W : World} {base n : Nat} {v : Value} {nm : ByteArray} {ws : List ByteArray} (h : W.ownsRow base 101 2 v n (namedV nm ws)) : NamedR W v n nm := by
  have hl : ws.length = n := by have := h.1; rw [namedV_len] at this; omega
  refine ⟨row_max h, ?_⟩
  obtain ⟨p, c, rfl⟩ := row_shape h
  refine ⟨p, c, rfl, fun j hj => ?_⟩
  obtain ⟨g, cap, e, _, _, hc⟩ := row_at h (by omega)
  cases e
  refine ⟨g, rfl, (hc _ (by omega)).trans (namedV_at nm ws j (by omega)), ?_⟩
  rcases h.2 with ⟨e2, _⟩ | ⟨g2, cap2, cur, e2, _, hh, _⟩
  · cases e2
  · cases e2
    exact ⟨cur, hh⟩
theorem NamedR.kept {W W' : World} {n : Nat} {v : Value} {nm : ByteArray} (h : NamedR W v n nm) (hk : 0 < n → ∀ k, v.ownBlock = some k → W'.heap[k]? = W.heap[k]?) : NamedR W' v n nm := by
  obtain ⟨h0, p, c, rfl, h1⟩ := h
  refine ⟨h0, p, c, rfl, fun j hj => ?_⟩
  obtain ⟨g, rfl, h2, cs, h3⟩ := h1 j hj
  have := hk (by omega) g rfl
  refine ⟨g, rfl, ?_, cs, by rw [this]; exact h3⟩
  unfold World.cell? at h2 ⊢
  rw [this]
  exact h2
theorem NamedR.own {W : World} {n : Nat} {v : Value} {nm : ByteArray} (h : NamedR W v n nm) (hn : 0 < n) : ∃ g, v.ownBlock = some g ∧ g < W.heap.size := by
  obtain ⟨h0, p, c, rfl, h1⟩ := h
  obtain ⟨g, rfl, h2, _⟩ := h1 0 hn
  exact ⟨g, rfl, cell_block h2⟩

set_option maxHeartbeats 2000000 in
set_option maxRecDepth 10000 in
theorem allNamed_any (v : Value) (n : Nat) (nm : ByteArray) (w : World) (h : NamedR w v n nm) :
    Calls Tryd.prog 60 #[v, .string nm] w fun e w' => e = .returned (.bool true) ∧ w' = w := by
  obtain ⟨h0, p, c, rfl, h1⟩ := h
  have H1 := hid h1
  clear h1
  go_enter Tryd.func60, Tryd.ntmps60
  go_wp2
  go_loopw [8] (fun iv wr => ∃ k : Nat, iv = .int .i64 k ∧ k ≤ n ∧ wr = w) (fun iv _ => n - (RowKit.intOf iv).toNat)
  case atStart => exact ⟨0, rfl, Nat.zero_le _, rfl⟩
  case round =>
    obtain ⟨k, rfl, hk, rfl⟩ := hrel
    by_cases hkl : k < n
    · obtain ⟨g, rfl, hc, _⟩ := H1.out k hkl
      clear H1
      go_wp2
      go_roundw
      case rel => exact ⟨k + 1, rfl, by omega, by first | rfl | trivial⟩
      case measure => simp [RowKit.intOf]; omega
    · go_wp2
      go_ret
      exact ⟨rfl, by first | rfl | trivial⟩

/-- a list of words that came in -/
structure WordsAt (W : World) (base : Nat) (a : Option Addr) (ss : List ByteArray) : Prop where
  at_ : ∀ j, j < ss.length → ∃ b o, a = some ⟨b, o, none⟩ ∧ b < base ∧ W.cell? ⟨b, o + j, none⟩ = some (.string (ss.getD j ByteArray.empty))
theorem WordsAt.below {W W' : World} {base : Nat} {a : Option Addr} {ss : List ByteArray} (h : WordsAt W base a ss) (hb : Below base W W') : WordsAt W' base a ss :=
  ⟨fun j hj => by
    obtain ⟨b, o, h1, h2, h3⟩ := h.at_ j hj
    exact ⟨b, o, h1, h2, cell_low h3 hb h2⟩⟩
theorem WordsAt.up {W : World} {base base2 : Nat} {a : Option Addr} {ss : List ByteArray} (h : WordsAt W base a ss) (hb : base ≤ base2) : WordsAt W base2 a ss :=
  ⟨fun j hj => by
    obtain ⟨b, o, h1, h2, h3⟩ := h.at_ j hj
    exact ⟨b, o, h1, by omega, h3⟩⟩

/-- a list that grows out of another one -/
structure Grows (w wr : World) (base : Nat) (v : Value) (n : Nat) (nm : ByteArray) (cv : Value) (K : Nat) (ws : List ByteArray) : Prop where
  own : wr.ownsRow base 101 2 cv K (namedV nm ws)
  le : n ≤ K
  low : base ≤ w.heap.size
  size : w.heap.size ≤ wr.heap.size
  fr : ∀ k, k < w.heap.size → v.ownBlock ≠ some k → wr.heap[k]? = w.heap[k]?
  bl : cv.ownBlock = v.ownBlock ∨ ∀ g, cv.ownBlock = some g → w.heap.size ≤ g
  be : Below base w wr
  nr : NamedR wr v n nm
theorem Grows.next {w wr w2 : World} {base : Nat} {v cv : Value} {n K g cap : Nat} {nm x : ByteArray} {ws : List ByteArray} {X : Obj} (h : Grows w wr base v n nm cv K ws)
    (h2 : w2.ownsRow base 101 2 (.slice (some ⟨g, 0, none⟩) (K + 1) cap) (K + 1) (namedV nm ws ++ [.string nm, .string x])) (h3 : (wr.alloc X).grownBy w2 cv.ownBlock)
    (h4 : cv.ownBlock = some g ∨ g = wr.heap.size + 1 ∧ ∀ k, k < wr.heap.size + 1 → w2.heap[k]? = (wr.alloc X).heap[k]?) : Grows w w2 base v n nm (.slice (some ⟨g, 0, none⟩) (K + 1) cap) (K + 1) (ws ++ [x]) := by
  have hown2 : w2.ownsRow base 101 2 (.slice (some ⟨g, 0, none⟩) (K + 1) cap) (K + 1) (namedV nm (ws ++ [x])) := by rw [namedV_app]; exact h2
  have hsz1 : (wr.alloc X).heap.size = wr.heap.size + 1 := by simp
  have hold : ∀ k, k < wr.heap.size → (wr.alloc X).heap[k]? = wr.heap[k]? := fun k hk => Go.Lib.alloc_old wr X k hk
  have hbs := h.size
  have hb3 : Below base wr w2 := ((Below.refl base wr).alloc (Nat.le_trans h.low hbs) X).grown h3 (by rw [hsz1]; have := h.low; omega) (fun k hk => (h.own.lt k hk).1)
  refine ⟨hown2, by have := h.le; omega, h.low, Nat.le_trans hbs hb3.size, fun k hk hv => ?_, ?_, h.be.trans hb3, ?_⟩
  · have hcv : cv.ownBlock ≠ some k := by
      rcases h.bl with e | e
      · rw [e]; exact hv
      · intro e2
        have := e k e2
        omega
    rw [h3.block k (by omega) (fun e => hcv e.symm), hold k (by omega)]
    exact h.fr k hk hv
  · rcases h4 with e | ⟨e, _⟩
    · rcases h.bl with e2 | e2
      · left
        show some g = _
        rw [← e2, e]
      · right
        intro g' hg'
        exact e2 g' (by rw [e]; exact hg')
    · right
      intro g' hg'
      have : g = g' := Option.some.inj hg'
      omega
  · -- what stood there can be read still
    by_cases hn : n = 0
    · obtain ⟨h0, p, c, rfl, h1⟩ := h.nr
      exact ⟨h0, p, c, rfl, fun j hj => by omega⟩
    · obtain ⟨g0, hg0, hlt⟩ := h.nr.own (by omega)
      by_cases hc : cv.ownBlock = some g0
      · rcases h4 with e | ⟨e, hk⟩
        · have hgg : g = g0 := by rw [hc] at e; exact (Option.some.inj e).symm
          subst hgg
          obtain ⟨h0, p, c, rfl, h1⟩ := h.nr
          obtain ⟨_, p2, c2, e2, h5⟩ := NamedR.of hown2
          cases e2
          refine ⟨h0, p, c, rfl, fun j hj => ?_⟩
          obtain ⟨g1, rfl, _⟩ := h1 j hj
          obtain ⟨g2, e3, h6, cs, h7⟩ := h5 j (by have := h.le; omega)
          have e4 : g2 = g := by cases e3; rfl
          have e5 : g1 = g := Option.some.inj hg0
          exact ⟨g1, rfl, by rw [e5]; rw [e4] at h6; exact h6, cs, by rw [e5]; rw [e4] at h7; exact h7⟩
        · exact h.nr.kept (fun _ k hk2 => by
            have : k = g0 := by rw [hg0] at hk2; exact (Option.some.inj hk2).symm
            subst this
            rw [hk k (by omega), hold k hlt])
      · exact h.nr.kept (fun _ k hk2 => by
          have : k = g0 := by rw [hg0] at hk2; exact (Option.some.inj hk2).symm
          subst this
          rw [h3.block k (by omega) (fun e => hc e.symm), hold k hlt])
theorem Grows.start {w : World} {base : Nat} {v : Value} {n : Nat} {nm : ByteArray} {ws : List ByteArray} (h : w.ownsRow base 101 2 v n (namedV nm ws)) (hb : base ≤ w.heap.size) : Grows w w base v n nm v n ws :=
  ⟨h, Nat.le_refl _, hb, Nat.le_refl _, fun _ _ _ => rfl, .inl rfl, Below.refl _ _, NamedR.of h⟩

set_option maxHeartbeats 4000000 in
set_option maxRecDepth 100000 in
theorem appended_any (base : Nat) (v : Value) (n : Nat) (nm : ByteArray) (ws : List ByteArray) (a : Option Addr) (mc : Nat) (ss : List ByteArray) (w : World) (h : w.ownsRow base 101 2 v n (namedV nm ws)) (hb : base ≤ w.heap.size) (hn : n ≤ 100000000) (hs : ss.length ≤ 100000000) (hw : WordsAt w base a ss) :
    Calls Tryd.prog 59 #[v, .string nm, .slice a ss.length mc] w fun e w' => ∃ u ws2, e = .returned u ∧ Grows w w' base v n nm u (n + 1 + ss.length) ws2 := by
  obtain ⟨i0, hii, hz0, hz1, hz2⟩ := info_parts info_attr
  obtain ⟨p, c, rfl⟩ := row_shape h
  have HG0 := hid (Grows.start h hb)
  have HW := hid hw
  clear hw
  go_enter Tryd.func59, Tryd.ntmps59
  go_wp2_with (at_builtin; refine wpList_append_two _ rfl (.tmp 8) (.tmp 11) 37 rfl base 101 i0 (.agg #[.string ⟨#[]⟩, .string ⟨#[]⟩]) 2 32 Tryd.underlying37 hii hz0 hz1 hz2 rfl (by decide) _ _ _ rfl (h.alloc _) ⟨_, 0, none⟩ 1 1 [.string nm, .string ⟨#[]⟩] rfl rfl (cells_newV _ _ _) (by simp [Value.oneCell']) (by decide) (by unfold maxLen; omega) (by omega) (by simp; omega) ?_)
  intro g cap w2 hown2 hgrow htwo
  have HG1 := hid (HG0.out.next hown2 hgrow htwo)
  clear hown2 hgrow htwo HG0 h
  go_wp2
  go_loopw [0, 15] (fun cv iv wr => ∃ (k : Nat) (ws2 : List ByteArray), iv = .int .i64 k ∧ k ≤ ss.length ∧ Grows w wr base (.slice p n c) n nm cv (n + 1 + k) ws2) (fun _ iv _ => ss.length - (RowKit.intOf iv).toNat)
  case atStart => exact ⟨0, _, rfl, Nat.zero_le _, HG1.out⟩
  case round =>
    obtain ⟨k, ws2, rfl, hk, hG⟩ := hrel
    by_cases hkl : k < ss.length
    · obtain ⟨b, o, rfl, hb2, hc⟩ := HW.out.at_ k hkl
      have hc2 := cell_low hc hG.be hb2
      obtain ⟨x, hx⟩ : ∃ x, ss.getD k ByteArray.empty = x := ⟨_, rfl⟩
      rw [hx] at hc2
      clear hc hx
      have hsz := hG.size
      have HG2 := hid hG
      obtain ⟨cp, cc, rfl⟩ := row_shape hG.own
      go_wp2_with (at_builtin; refine wpList_append_two _ rfl (.tmp 18) (.tmp 25) 37 rfl base 101 i0 (.agg #[.string ⟨#[]⟩, .string ⟨#[]⟩]) 2 32 Tryd.underlying37 hii hz0 hz1 hz2 rfl (by decide) _ _ _ rfl (HG2.out.own.alloc _) ⟨_, 0, none⟩ 1 1 [.string nm, .string x] rfl rfl (cells_newV _ _ _) (by simp [Value.oneCell']) (by decide) (by unfold maxLen; omega) (by omega) (by simp; omega) ?_)
      intro g3 cap3 w3 hown3 hgrow3 htwo3
      have HG3 := hid (HG2.out.next hown3 hgrow3 htwo3)
      clear hown3 hgrow3 htwo3 HG2 hG
      go_wp2
      go_roundw
      case rel => first | exact ⟨k + 1, _, rfl, by omega, HG3.out⟩ | ((repeat apply Exists.intro); exact ⟨⟨k + 1, _, rfl, by omega, HG3.out⟩, rfl⟩)
      case measure => simp [RowKit.intOf]; omega
    · obtain rfl : k = ss.length := by omega
      go_wp2
      go_ret
      exact ⟨_, ws2, rfl, hG⟩
end Go.Proofs.YtkcgmimldjeaiaaDoor

/-
  The statements' apartLists: its walk.
-/
namespace Go.Proofs.YtkcgmimldjeaiaaDoor
open Go.RowKit Go.Lib Own

/-- every block that is no list of events, of attributes or of such lists stays -/
def KeepT (w W : World) : Prop := ∀ (b : Nat) (cs : Array Value) (T : TypeId), w.heap[b]? = some (.cells cs T (0, 0)) → T ≠ 39 → T ≠ 101 → T ≠ 37 → W.heap[b]? = some (.cells cs T (0, 0))
theorem KeepT.refl (w : World) : KeepT w w := fun _ _ _ h _ _ _ => h
theorem KeepT.trans {w1 w2 w3 : World} (h : KeepT w1 w2) (h2 : KeepT w2 w3) : KeepT w1 w3 := fun b cs T hb e1 e2 e3 => h2 b cs T (h b cs T hb e1 e2 e3) e1 e2 e3
theorem KeepT.below {w W : World} (h : Below w.heap.size w W) : KeepT w W := fun b _ _ hb _ _ _ => (h.block b (Array.getElem?_eq_some_iff.1 hb).1).trans hb
theorem KeepT.row {W W' : World} {base : Nat} {e : TypeId} {size n : Nat} {v : Value} {xs : List Value} (h : W.ownsRow base e size v n xs) (he : e = 39 ∨ e = 101 ∨ e = 37) (hk : ∀ k, k < W.heap.size → v.ownBlock ≠ some k → W'.heap[k]? = W.heap[k]?) : KeepT W W' :=
  fun b cs T hb e1 e2 e3 => (hk b (Array.getElem?_eq_some_iff.1 hb).1 (row_ne h hb (by
    rcases he with rfl | rfl | rfl
    · exact e1
    · exact e2
    · exact e3))).trans hb
theorem info_list : (Tryd.prog.info? 37).map (fun i => (i.zero, i.size, i.bytes)) = some (some (.slice none 0 0), 1, 24) := by kernel_rfl
/-- the name that the statement gives list k -/
def nmOf (k : Nat) : ByteArray := ⟨(Go.Lib.itoa (k : Int)).toArray⟩
/-- the library's table of powers, ahead of block 'base' -/
structure PowB (base : Nat) (w : World) : Prop where
  tab : Go.Lib.TabIs Tryd.prog w "internal/strconv.uint64pow10" .u64 Go.Lib.pow10Tab
  lt : 7 < base
theorem PowB.below {base : Nat} {w w' : World} (h : PowB base w) (hb : Below base w w') : PowB base w' := by
  refine ⟨?_, h.lt⟩
  have h1 := h.tab
  have hg : Tryd.prog.globalNamed "internal/strconv.uint64pow10" = some 7 := by kernel_rfl
  unfold Go.Lib.TabIs World.var? at h1 ⊢
  rw [hg] at h1 ⊢
  simp only [Option.bind_some] at h1 ⊢
  rw [hb.block _ h.lt]
  exact h1
theorem itoa_any (k : Nat) (hk : k ≤ 10000000) (base : Nat) (w : World) (h : PowB base w) :
    Calls Tryd.prog 58 #[.int .i64 k] w fun e w' => e = .returned (.string (nmOf k)) ∧ Below w.heap.size w w' := by
  refine (Tryd.strconv_Itoa (k : Int) (by omega) (by omega) w h.tab).mono ?_
  rintro e w' ⟨rfl, n, os, rfl⟩
  refine ⟨rfl, rfl, rfl, rfl, ?_, fun k hk => ?_⟩
  · show w.heap.size ≤ (w.heap ++ os).size
    rw [Array.size_append]; omega
  · show (w.heap ++ os)[k]? = w.heap[k]?
    rw [Array.getElem?_append_left hk]

theorem named_step {nm : ByteArray} {ws : List ByteArray} {y0 y1 : Value} {ys : List Value} : ((namedV nm ws ++ y0 :: y1 :: ys).set (ws.length * 2) (.string nm)).set (ws.length * 2 + 1) (.string ⟨#[]⟩) = namedV nm (ws ++ [⟨#[]⟩]) ++ ys := by
  have hl := namedV_len nm ws
  rw [List.set_append, if_neg (by omega), hl, Nat.sub_self, List.set_cons_zero, List.set_append, if_neg (by omega), hl, Nat.add_sub_cancel_left]
  show namedV nm ws ++ (.string nm :: .string ⟨#[]⟩ :: ys) = _
  rw [namedV_app]
  simp [namedV]
/-- the lists that are written over and appended to -/
structure Fam (W : World) (base : Nat) (vs : List Value) (ns : Nat → Nat) (i : Nat) : Prop where
  row : ∀ (k : Nat) (v : Value), vs[k]? = some v → (k < i → ∃ ws, W.ownsRow base 101 2 v (ns k) (namedV (nmOf k) ws)) ∧ ∃ ys, W.ownsRow base 101 2 v (ns k) ys
def Dist (vs : List Value) : Prop := ∀ (j k : Nat) (v u : Value), vs[j]? = some v → vs[k]? = some u → j ≠ k → ∀ g, v.ownBlock = some g → u.ownBlock ≠ some g

/-- the second round: the lists that grew out of the first i -/
structure Two (w W : World) (base : Nat) (lv : Value) (N : Nat) (vs : List Value) (ns : Nat → Nat) (m i : Nat) (lgv : Value) (us : List Value) : Prop where
  be : Below base w W
  li : W.ownsRow base 37 1 lv N vs
  lg : W.ownsRow w.heap.size 37 1 lgv i us
  hi : ∀ (k : Nat) (v : Value), vs[k]? = some v → i ≤ k → ∃ ws, W.ownsRow base 101 2 v (ns k) (namedV (nmOf k) ws)
  lo : ∀ (k : Nat) (v : Value), vs[k]? = some v → k < i → NamedR W v (ns k) (nmOf k) ∧ ∃ u, us[k]? = some u ∧ NamedR W u (ns k + 1 + m) (nmOf k) ∧ ∀ (j : Nat) (vj : Value), i ≤ j → vs[j]? = some vj → ∀ g, vj.ownBlock = some g → u.ownBlock ≠ some g
  kp : KeepT w W
theorem NamedR.ne {W : World} {base n k : Nat} {v lgv : Value} {nm : ByteArray} {us : List Value} (h : NamedR W v n nm) (hn : 0 < n) (hl : W.ownsRow base 37 1 lgv k us) : ∀ g, v.ownBlock = some g → lgv.ownBlock ≠ some g := by
  obtain ⟨_, p, c, rfl, h1⟩ := h
  obtain ⟨g0, rfl, _, cs, h3⟩ := h1 0 hn
  intro g hg
  have : g0 = g := Option.some.inj hg
  subst this
  exact row_ne hl h3 (by decide)
theorem NamedR.below {W W' : World} {n : Nat} {v : Value} {nm : ByteArray} (h : NamedR W v n nm) (hb : Below W.heap.size W W') : NamedR W' v n nm :=
  h.kept (fun hn k hk => by
    obtain ⟨g, hg, hlt⟩ := h.own hn
    rw [hg] at hk
    cases hk
    exact hb.block _ hlt)
theorem Two.next {w wr w1 w2 w3 : World} {base N m i n K : Nat} {lv lgv lgv3 v u : Value} {vs us : List Value} {ns : Nat → Nat} {ws2 : List ByteArray} {X : Obj} (h : Two w wr base lv N vs ns m i lgv us) (hD : Dist vs) (hbase : base ≤ w.heap.size) (hlv : ∀ g, lv.ownBlock = some g → g < w.heap.size)
    (hv : vs[i]? = some v) (hn : ns i = n) (hK : K = n + 1 + m) (b1 : Below wr.heap.size wr w1) (hG : Grows w1 w2 base v n (nmOf i) u K ws2)
    (h3 : w3.ownsRow w.heap.size 37 1 lgv3 (i + 1) (us ++ [u])) (hg : (w2.alloc X).grownBy w3 lgv.ownBlock) : Two w w3 base lv N vs ns m (i + 1) lgv3 (us ++ [u]) := by
  subst hn hK
  have hbs := h.be.size
  have hul : us.length = i := by have := h.lg.1; omega
  have li1 := row_below h.li b1
  have lg1 := row_below h.lg b1
  obtain ⟨wsv, hvw⟩ := h.hi i v hv (Nat.le_refl _)
  have v1 := row_below hvw b1
  have li2 := row_of_block li1 (fun g e => hG.fr g (li1.lt g e).2 (rows_ne2 li1 v1 (by decide) g e))
  have lg2 := row_of_block lg1 (fun g e => hG.fr g (lg1.lt g e).2 (rows_ne2 lg1 v1 (by decide) g e))
  have F23 : ∀ k, k < w2.heap.size → lgv.ownBlock ≠ some k → w3.heap[k]? = w2.heap[k]? := fun k hk hne => (hg.block k (by simp; omega) (fun e => hne e.symm)).trans (Go.Lib.alloc_old w2 X k hk)
  have keepN : ∀ {v' : Value} {n' : Nat} {nm : ByteArray}, NamedR w2 v' n' nm → NamedR w3 v' n' nm := fun hN => hN.kept (fun hn k hk => by
    obtain ⟨g, hg2, hlt⟩ := hN.own hn
    have hne := hN.ne hn lg2 g hg2
    rw [hg2] at hk
    cases hk
    exact F23 _ hlt hne)
  have b3 : Below base w2 w3 := ((Below.refl base w2).alloc (Nat.le_trans hG.low hG.size) X).grown hg (by have := Nat.le_trans hG.low hG.size; simp; omega) (fun k hk => by have := (lg2.lt k hk).1; omega)
  refine ⟨((h.be.trans (b1.mono (Nat.le_trans hbase hbs))).trans hG.be).trans b3, ?_, h3, fun k vk hk hik => ?_, fun k vk hk hik => ?_, (h.kp.trans (KeepT.below b1)).trans ((KeepT.row v1 (.inr (.inl rfl)) (fun k hk hne => hG.fr k hk hne)).trans (KeepT.row lg2 (.inr (.inr rfl)) F23))⟩
  · exact row_of_block li2 (fun g e => F23 g (li2.lt g e).2 (fun e2 => by
      have := (lg2.lt g e2).1
      have := hlv g e
      omega))
  · obtain ⟨ws, hr⟩ := h.hi k vk hk (by omega)
    have r1 := row_below hr b1
    have r2 := row_of_block r1 (fun g e => hG.fr g (r1.lt g e).2 (hD k i vk v hk hv (by omega) g e))
    refine ⟨ws, row_of_block r2 (fun g e => F23 g (r2.lt g e).2 (rows_ne2 r2 lg2 (by decide) g e))⟩
  · by_cases hki : k = i
    · subst hki
      rw [hv] at hk
      obtain rfl := Option.some.inj hk
      refine ⟨keepN hG.nr, u, by rw [List.getElem?_append_right (by omega), hul, Nat.sub_self]; rfl, keepN (NamedR.of hG.own), fun j vj hj hvj g hgj => ?_⟩
      obtain ⟨ws, hr⟩ := h.hi j vj hvj (by omega)
      have r1 := row_below hr b1
      rcases hG.bl with e | e
      · rw [e]
        exact fun e2 => hD j k vj v hvj hv (by omega) g hgj e2
      · intro e2
        have := e g e2
        have := (r1.lt g hgj).2
        omega
    · obtain ⟨n1, u', hu', n2, n3⟩ := h.lo k vk hk (by omega)
      have keep12 : ∀ {v' : Value} {n' : Nat} {nm : ByteArray}, NamedR wr v' n' nm → (∀ g, v'.ownBlock = some g → v.ownBlock ≠ some g) → NamedR w2 v' n' nm := fun hN hne => (hN.below b1).kept (fun hn k hk => by
        obtain ⟨g, hg2, hlt⟩ := (hN.below b1).own hn
        have := hne g hg2
        rw [hg2] at hk
        cases hk
        exact hG.fr _ hlt this)
      refine ⟨keepN (keep12 n1 (fun g e => hD k i vk v hk hv hki g e)), u', by rw [List.getElem?_append_left (by omega)]; exact hu', keepN (keep12 n2 (fun g e e2 => n3 i v (Nat.le_refl _) hv g e2 e)), fun j vj hj hvj g hgj => n3 j vj (by omega) hvj g hgj⟩

set_option maxHeartbeats 8000000 in
set_option maxRecDepth 100000 in
theorem apart_any (base : Nat) (lv : Value) (vs : List Value) (ns : Nat → Nat) (a : Option Addr) (mc : Nat) (ss : List ByteArray) (w : World) (hl : w.ownsRow base 37 1 lv vs.length vs) (hF : Fam w base vs ns 0) (hD : Dist vs) (hns : ∀ k, k < vs.length → ns k ≤ 5000000) (hN : vs.length ≤ 5000000)
    (hb : base ≤ w.heap.size) (hs : ss.length ≤ 5000000) (hw : WordsAt w base a ss) (hP : PowB base w) :
    Calls Tryd.prog 30 #[lv, .slice a ss.length mc] w fun e w' => e = .returned (.bool true) ∧ Below base w w' ∧ KeepT w w' := by
  obtain ⟨N, hNN⟩ : ∃ N, vs.length = N := ⟨_, rfl⟩
  rw [hNN] at hl hN hns
  obtain ⟨lp, lc, rfl⟩ := row_shape hl
  have HLV := hid (fun g (e : (Value.slice lp N lc).ownBlock = some g) => (hl.lt g e).2)
  have HL := hid hl
  have HF := hid hF
  have HD := hid hD
  have HW := hid hw
  have HP := hid hP
  have HNN := hid (fun (_ : True) => hNN)
  have HNS := hid hns
  clear hl hF hD hw hP hNN hns
  go_enter Tryd.func30, Tryd.ntmps30
  go_wp2
  go_loopw [16] (fun iv wr => ∃ i : Nat, iv = .int .i64 i ∧ i ≤ N ∧ Hid (Below base w wr ∧ wr.ownsRow base 37 1 (.slice lp N lc) N vs ∧ Fam wr base vs ns i ∧ KeepT w wr)) (fun iv _ => N - (RowKit.intOf iv).toNat)
  case atStart => exact ⟨0, rfl, Nat.zero_le _, hid ⟨Below.refl _ _, HL.out, HF.out, KeepT.refl _⟩⟩
  case round =>
    obtain ⟨i, rfl, hi, HX⟩ := hrel
    by_cases hiN : i < N
    · obtain ⟨v, hv⟩ : ∃ v, vs[i]? = some v := ⟨_, List.getElem?_eq_getElem (by rw [HNN.out trivial]; exact hiN)⟩
      obtain ⟨ys0, hrow0⟩ := (HX.out.2.2.1.row i v hv).2
      obtain ⟨n, hn⟩ : ∃ n, ns i = n := ⟨_, rfl⟩
      rw [hn] at hrow0
      have hn5 : n ≤ 5000000 := by rw [← hn]; exact HNS.out i hiN
      obtain ⟨p, c, rfl⟩ := row_shape hrow0
      obtain ⟨gl, lcap, e0, hgl1, hgl2, hlc⟩ := row_at HX.out.2.1 (by omega)
      cases e0
      have cl := (hlc i (by omega)).trans hv
      have hit := fun W hW => itoa_any i (by omega) base W hW
      obtain ⟨nm, hnm⟩ : ∃ nm, nmOf i = nm := ⟨_, rfl⟩
      rw [hnm] at hit
      have HIT := hid hit
      have HR0 := hid hrow0
      have HV := hid hv
      have hP1 := HP.out.below HX.out.1
      have hbs := HX.out.1.size
      clear hit hrow0 hv hlc HL HF
      go_wp2_with (go_at_call 58; refine (HIT.out _ hP1).mono ?_; rintro e w1 ⟨rfl, b1⟩; have cl1 := cell_low cl b1 hgl2)
      go_loopw [26] (fun jv wr2 => ∃ (j : Nat) (ws : List ByteArray) (ys : List Value), jv = .int .i64 j ∧ j ≤ n ∧ ws.length = j ∧ Hid (wr2.ownsRow base 101 2 (.slice p n c) n (namedV nm ws ++ ys) ∧ Below base w1 wr2 ∧ ∀ b, (Value.slice p n c).ownBlock ≠ some b → wr2.heap[b]? = w1.heap[b]?)) (fun jv _ => n - (RowKit.intOf jv).toNat)
      case atStart => exact ⟨0, [], ys0, rfl, Nat.zero_le _, rfl, hid ⟨row_below HR0.out b1, Below.refl _ _, fun _ _ => rfl⟩⟩
      case round =>
        obtain ⟨j, ws, ys, rfl, hj, hws, HY⟩ := hrel
        have hlen := HY.out.1.1
        rw [List.length_append, namedV_len, hws] at hlen
        have hglp : (Value.slice p n c).ownBlock ≠ some gl := by
          have := rows_ne HX.out.2.1 HR0.out (by decide)
          rcases this with e | e
          · cases e
          · exact fun e2 => e (by rw [e2]; rfl)
        have hlb := HY.out.2.2 gl hglp
        by_cases hjn : j < n
        · obtain ⟨g, cap, e1, hg1, hg2, hc⟩ := row_at HY.out.1 (by omega)
          cases e1
          obtain ⟨y0, y1, ys2, rfl⟩ : ∃ y0 y1 ys2, ys = y0 :: y1 :: ys2 := by
            cases ys with
            | nil => simp at hlen; omega
            | cons y0 ys =>
              cases ys with
              | nil => simp at hlen; omega
              | cons y1 ys2 => exact ⟨y0, y1, ys2, rfl⟩
          have hnl := namedV_len nm ws
          have k0 : wr.cell? ⟨g, j * 2, none⟩ = some y0 := (hc (j * 2) (by omega)).trans (by rw [List.getElem?_append_right (by omega), hnl, hws, Nat.sub_self]; rfl)
          have k1 : wr.cell? ⟨g, j * 2 + 1, none⟩ = some y1 := (hc (j * 2 + 1) (by omega)).trans (by rw [List.getElem?_append_right (by omega), hnl, hws, Nat.add_sub_cancel_left]; rfl)
          have f0 := HY.out.1.frozenAt (j * 2)
          have f1 := HY.out.1.frozenAt (j * 2 + 1)
          have cl2 : wr.cell? ⟨gl, i, none⟩ = some (.slice (some ⟨g, 0, none⟩) n c) := by
            unfold World.cell? at cl1 ⊢
            rw [hlb]
            exact cl1
          have hst := ((HY.out.1.stored (j * 2) (.string nm)).1.stored (j * 2 + 1) (.string ⟨#[]⟩)).1
          rw [← hws, named_step, hws] at hst
          have hfr : ∀ b, (Value.slice (some ⟨g, 0, none⟩) n c).ownBlock ≠ some b → ((wr.setCell ⟨g, j * 2, none⟩ (.string nm)).setCell ⟨g, j * 2 + 1, none⟩ (.string ⟨#[]⟩)).heap[b]? = w1.heap[b]? := fun b hb2 => by
            have hne : b ≠ g := fun e => hb2 (by rw [e]; rfl)
            rw [heap_setCell_other _ _ _ _ hne, heap_setCell_other _ _ _ _ hne]
            exact HY.out.2.2 b hb2
          have hbe : Below base w1 ((wr.setCell ⟨g, j * 2, none⟩ (.string nm)).setCell ⟨g, j * 2 + 1, none⟩ (.string ⟨#[]⟩)) := (HY.out.2.1.setCell hg1 _).setCell hg1 _
          have HZ := hid (And.intro hst (And.intro hbe hfr))
          clear hst hbe hfr hlen hlb hglp hc hnl HY
          go_wp2
          go_roundw
          case rel => first | exact ⟨j + 1, ws ++ [⟨#[]⟩], ys2, rfl, by omega, by simp [hws], HZ⟩ | ((repeat apply Exists.intro); exact ⟨⟨j + 1, ws ++ [⟨#[]⟩], ys2, rfl, by omega, by simp [hws], HZ⟩, rfl⟩)
          case measure => simp [RowKit.intOf]; omega
        · obtain rfl : j = n := by omega
          obtain rfl : ys = [] := List.eq_nil_of_length_eq_zero (by omega)
          have hbw : Below base w wr := (HX.out.1.trans (b1.mono (Nat.le_trans hb hbs))).trans HY.out.2.1
          have hlrow : wr.ownsRow base 37 1 (.slice (some ⟨gl, 0, none⟩) N lc) N vs := row_of_block (row_below HX.out.2.1 b1) (fun g hg => by cases hg; exact hlb)
          have hfam : Fam wr base vs ns (i + 1) := ⟨fun k u hu => by
            by_cases hki : k = i
            · subst hki
              rw [HV.out] at hu
              obtain rfl := Option.some.inj hu
              have hr := HY.out.1
              rw [List.append_nil] at hr
              rw [hnm, hn]
              exact ⟨fun _ => ⟨ws, hr⟩, _, hr⟩
            · obtain ⟨f1, ys9, f2⟩ := HX.out.2.2.1.row k u hu
              have hkeep : ∀ g, u.ownBlock = some g → wr.heap[g]? = w1.heap[g]? := fun g hg => HY.out.2.2 g (HD.out k i u _ hu HV.out hki g hg)
              refine ⟨fun h => ?_, ys9, row_of_block (row_below f2 b1) hkeep⟩
              obtain ⟨ws9, f3⟩ := f1 (by omega)
              exact ⟨ws9, row_of_block (row_below f3 b1) hkeep⟩⟩
          have hkp := HX.out.2.2.2.trans ((KeepT.below b1).trans (KeepT.row (row_below HR0.out b1) (.inr (.inl rfl)) (fun k _ hne => HY.out.2.2 k hne)))
          have HZ := hid (And.intro hbw (And.intro hlrow (And.intro hfam hkp)))
          clear hbw hlrow hfam hkp hlen hlb hglp HY
          go_wp2
          go_roundw
          case rel => first | exact ⟨i + 1, rfl, by omega, HZ⟩ | ((repeat apply Exists.intro); exact ⟨⟨i + 1, rfl, by omega, HZ⟩, rfl⟩)
          case measure => simp [RowKit.intOf]; omega
    · have hT0 : Two w wr base (.slice lp N lc) N vs ns ss.length 0 (.slice none 0 0) [] := ⟨HX.out.1, HX.out.2.1, World.ownsRow_nil _ _ _ _, fun k v hk _ => (HX.out.2.2.1.row k v hk).1 (by
        have := (List.getElem?_eq_some_iff.1 hk).1
        rw [HNN.out trivial] at this
        omega), fun k v hk h => absurd h (Nat.not_lt_zero _), HX.out.2.2.2⟩
      have HT0 := hid hT0
      clear HL HF hT0 HX
      obtain ⟨li0, lhi, lhz0, lhz1, lhz2⟩ := info_parts info_list
      go_wp2_with fail
      go_loopw [5, 41] (fun lgv iv wr2 => ∃ (i : Nat) (us : List Value), iv = .int .i64 i ∧ i ≤ N ∧ Hid (Two w wr2 base (.slice lp N lc) N vs ns ss.length i lgv us)) (fun _ iv _ => N - (RowKit.intOf iv).toNat)
      case atStart => exact ⟨0, [], rfl, Nat.zero_le _, HT0⟩
      case round =>
        obtain ⟨i, us, rfl, hi, HT⟩ := hrel
        clear HT0
        by_cases hiN : i < N
        · obtain ⟨v, hv⟩ : ∃ v, vs[i]? = some v := ⟨_, List.getElem?_eq_getElem (by rw [HNN.out trivial]; exact hiN)⟩
          obtain ⟨ws, hrow⟩ := HT.out.hi i v hv (Nat.le_refl _)
          obtain ⟨n, hn⟩ : ∃ n, ns i = n := ⟨_, rfl⟩
          have hn5 : n ≤ 5000000 := by rw [← hn]; exact HNS.out i hiN
          rw [hn] at hrow
          obtain ⟨p, c, rfl⟩ := row_shape hrow
          obtain ⟨gl, lcap, e0, hgl1, hgl2, hlc⟩ := row_at HT.out.li (by omega)
          cases e0
          have cl := (hlc i (by omega)).trans hv
          have hit := fun W hW => itoa_any i (by omega) base W hW
          have HNM := hid (fun (_ : True) => (rfl : nmOf i = nmOf i))
          obtain ⟨nm, hnm⟩ : ∃ nm, nmOf i = nm := ⟨_, rfl⟩
          rw [hnm] at hit hrow
          have HEQ := hid (fun (_ : True) => hnm)
          have HIT := hid hit
          have HR0 := hid hrow
          have HV := hid hv
          have HN := hid (fun (_ : True) => hn)
          have hP1 := HP.out.below HT.out.be
          have hw1 := HW.out.below HT.out.be
          have hbs := HT.out.be.size
          obtain ⟨lgp, lgc, rfl⟩ := row_shape HT.out.lg
          have HW1 := hid hw1
          clear hit hrow hv hlc hn hnm hw1 HNM
          go_wp2_with (first
            | (go_at_call 58; refine (HIT.out _ hP1).mono ?_; rintro e w1 ⟨rfl, b1⟩; have cl1 := cell_low cl b1 hgl2; have hb1s := b1.size)
            | (go_at_call 59; refine (appended_any base (.slice p n c) n nm ws a mc ss _ (row_below HR0.out b1) (by omega) (by omega) (by omega) (HW1.out.below (b1.mono (by omega)))).mono ?_; rintro e w2 ⟨u, ws2, rfl, hG⟩; obtain ⟨up, uc, rfl⟩ := row_shape hG.own; have hlg2 := row_of_block (row_below HT.out.lg b1) (fun g e => hG.fr g ((row_below HT.out.lg b1).lt g e).2 (rows_ne2 (row_below HT.out.lg b1) (row_below HR0.out b1) (by decide) g e)); have hws2 := hG.size; have HGG := hid hG)
            | (at_builtin; refine wpList_append_own _ rfl (.tmp 53) (.tmp 55) 25 rfl w.heap.size 37 li0 (.slice none 0 0) 1 24 Tryd.underlying25 lhi lhz0 lhz1 lhz2 rfl (by decide) _ _ _ rfl (hlg2.alloc _) ⟨_, 0, none⟩ 1 1 [.slice up (n + 1 + ss.length) uc] rfl rfl (cells_newV _ _ _) (by simp [Value.oneCell']) (by unfold maxLen; omega) (by omega) (by simp; omega) ?_))
          intro v' w3 hown3 hgrow3 _
          have hnext := HT.out.next HD.out hb HLV.out HV.out (HN.out trivial) rfl b1 (by rw [HEQ.out trivial]; exact HGG.out) hown3 hgrow3
          have HZ := hid hnext
          clear hnext hown3 hgrow3 HGG hlg2 hG b1 cl cl1
          go_wp2
          go_roundw
          case rel => first | exact ⟨i + 1, _, rfl, by omega, HZ⟩ | ((repeat apply Exists.intro); exact ⟨⟨i + 1, _, rfl, by omega, HZ⟩, rfl⟩)
          case measure => simp [RowKit.intOf]; omega
        · obtain rfl : i = N := by omega
          have hul : us.length = i := by have := HT.out.lg.1; omega
          have hall : ∀ (k : Nat) (v : Value), vs[k]? = some v → NamedR wr v (ns k) (nmOf k) ∧ ∃ u, us[k]? = some u ∧ NamedR wr u (ns k + 1 + ss.length) (nmOf k) := fun k v hk => by
            have hki : k < i := by
              have := (List.getElem?_eq_some_iff.1 hk).1
              rw [HNN.out trivial] at this
              exact this
            obtain ⟨n1, u, hu, n2, _⟩ := HT.out.lo k v hk hki
            exact ⟨n1, u, hu, n2⟩
          have hlg := row_lo2 HT.out.lg hb
          obtain ⟨lgp, lgc, rfl⟩ := row_shape hlg
          have H3 : Hid (Below base w wr ∧ wr.ownsRow base 37 1 (.slice lp i lc) i vs ∧ wr.ownsRow base 37 1 (.slice lgp i lgc) i us ∧ (∀ (k : Nat) (v : Value), vs[k]? = some v → NamedR wr v (ns k) (nmOf k) ∧ ∃ u, us[k]? = some u ∧ NamedR wr u (ns k + 1 + ss.length) (nmOf k)) ∧ KeepT w wr) := ⟨HT.out.be, HT.out.li, hlg, hall, HT.out.kp⟩
          clear HT hall hlg
          go_wp2_with fail
          go_loopw [60] (fun iv wr2 => ∃ k : Nat, iv = .int .i64 k ∧ k ≤ i ∧ Hid (Below base w wr2 ∧ wr2.ownsRow base 37 1 (.slice lp i lc) i vs ∧ wr2.ownsRow base 37 1 (.slice lgp i lgc) i us ∧ (∀ (k : Nat) (v : Value), vs[k]? = some v → NamedR wr2 v (ns k) (nmOf k) ∧ ∃ u, us[k]? = some u ∧ NamedR wr2 u (ns k + 1 + ss.length) (nmOf k)) ∧ KeepT w wr2)) (fun iv _ => i - (RowKit.intOf iv).toNat)
          case atStart => exact ⟨0, rfl, Nat.zero_le _, H3⟩
          case round =>
            obtain ⟨k, rfl, hk, HT⟩ := hrel
            clear H3
            by_cases hkN : k < i
            · obtain ⟨v, hv⟩ : ∃ v, vs[k]? = some v := ⟨_, List.getElem?_eq_getElem (by rw [HNN.out trivial]; exact hkN)⟩
              obtain ⟨n1, u, hu, n2⟩ := HT.out.2.2.2.1 k v hv
              obtain ⟨n, hn⟩ : ∃ n, ns k = n := ⟨_, rfl⟩
              have hn5 : n ≤ 5000000 := by rw [← hn]; exact HNS.out k hkN
              rw [hn] at n1 n2
              obtain ⟨K, hK⟩ : ∃ K, n + 1 + ss.length = K := ⟨_, rfl⟩
              rw [hK] at n2
              have q0 : ((K : Int) != (n : Int) + (ss.length : Int) + 1) = false := by rw [bne, beq_iff_eq.2 (by omega)]; rfl
              have hit := fun W hW => itoa_any k (by omega) base W hW
              obtain ⟨nm, hnm⟩ : ∃ nm, nmOf k = nm := ⟨_, rfl⟩
              rw [hnm] at hit n1 n2
              have m1 := n1
              have m2 := n2
              obtain ⟨_, vp, vc, rfl, _⟩ := m1
              obtain ⟨_, up, uc, rfl, _⟩ := m2
              obtain ⟨gl, lcap, e0, hgl1, hgl2, hlc⟩ := row_at HT.out.2.1 (by omega)
              cases e0
              obtain ⟨gm, mcap, e1, hgm1, hgm2, hmc⟩ := row_at HT.out.2.2.1 (by omega)
              cases e1
              have cl := (hlc k (by omega)).trans hv
              have cm := (hmc k (by omega)).trans hu
              have HIT := hid hit
              have N1 := hid n1
              have N2 := hid n2
              have hP1 := HP.out.below HT.out.1
              clear hit hlc hmc n1 n2 hv hu hn hnm hK
              go_wp2_with (go_at_call 58; refine (HIT.out _ hP1).mono ?_; rintro e w1 ⟨rfl, b1⟩; have cl1 := cell_low cl b1 hgl2; have cm1 := cell_low cm b1 hgm2; have hA1 := hid (fun q => (allNamed_any (.slice vp n vc) n nm (w1.drewN q) ((N1.out.below b1).kept (fun _ _ _ => rfl))).mono (fun _ _ (h : _ ∧ _) => And.intro h.1 (⟨0, h.2⟩ : ∃ q', _ = (w1.drewN q).drewN q'))); have hA2 := hid (fun q => (allNamed_any (.slice up K uc) K nm (w1.drewN q) ((N2.out.below b1).kept (fun _ _ _ => rfl))).mono (fun _ _ (h : _ ∧ _) => And.intro h.1 (⟨0, h.2⟩ : ∃ q', _ = (w1.drewN q).drewN q'))); clear cl cm)
              go_quiet (first | (go_at_call 60; first | (with_reducible refine Calls.quiet_of (hA1.out _)) | (with_reducible refine Calls.quiet_of (hA2.out _))))
              have hkeep : Below base wr (w1.drewN nq) := below_drewN (b1.mono (Nat.le_trans hb HT.out.1.size)) nq
              have HZ : Hid (Below base w (w1.drewN nq) ∧ (w1.drewN nq).ownsRow base 37 1 (.slice (some ⟨gl, 0, none⟩) i lc) i vs ∧ (w1.drewN nq).ownsRow base 37 1 (.slice (some ⟨gm, 0, none⟩) i lgc) i us ∧ (∀ (k : Nat) (v : Value), vs[k]? = some v → NamedR (w1.drewN nq) v (ns k) (nmOf k) ∧ ∃ u, us[k]? = some u ∧ NamedR (w1.drewN nq) u (ns k + 1 + ss.length) (nmOf k)) ∧ KeepT w (w1.drewN nq)) := by
                refine ⟨HT.out.1.trans hkeep, row_of_block (row_below HT.out.2.1 b1) (fun _ _ => rfl), row_of_block (row_below HT.out.2.2.1 b1) (fun _ _ => rfl), fun k v hv => ?_, fun b cs T h1 h2 h3 h4 => (HT.out.2.2.2.2.trans (KeepT.below b1)) b cs T h1 h2 h3 h4⟩
                obtain ⟨n1, u, hu, n2⟩ := HT.out.2.2.2.1 k v hv
                exact ⟨(n1.below b1).kept (fun _ _ _ => rfl), u, hu, (n2.below b1).kept (fun _ _ _ => rfl)⟩
              clear hkeep hA1 hA2 b1 cl1 cm1 HT N1 N2
              go_wp2
              go_roundw
              case rel => first | exact ⟨k + 1, rfl, by omega, HZ⟩ | ((repeat apply Exists.intro); exact ⟨⟨k + 1, rfl, by omega, HZ⟩, rfl⟩)
              case measure => simp [RowKit.intOf]; omega
            · go_wp2
              go_ret
              exact ⟨rfl, HT.out.1, HT.out.2.2.2.2⟩
end Go.Proofs.YtkcgmimldjeaiaaDoor

/-
  What the writer escapes, as a plain function, and that the decoder gives it back.
-/
namespace Go.Proofs.YtkcgmimldjeaiaaDoor
open Go.Lib

theorem index_skip (c : UInt8) (r sub : List UInt8) (h : sub.isPrefixOf (c :: r) = false) : index (c :: r) sub = if index r sub = -1 then -1 else index r sub + 1 := by
  conv => lhs; unfold index
  rw [h]
  by_cases hh : index r sub = -1 <;> simp [hh]
theorem num_all (s old : List UInt8) : replaceNum s old (-1) = count s old := if_pos (.inl (by decide))
theorem rep_nil {old new : List UInt8} (h0 : old ≠ []) : replaceAll [] old new = [] := by
  have hi : index [] old = -1 := by
    cases old with
    | nil => exact absurd rfl h0
    | cons a t => rfl
  unfold replaceAll replace
  rw [num_all, count_miss hi]
  split <;> rfl
theorem rep_hit {old new : List UInt8} (h0 : old ≠ []) (hn : (old == new) = false) (r : List UInt8) : replaceAll (old ++ r) old new = new ++ replaceAll r old new := by
  have hi : index (old ++ r) old = (0 : Nat) := by
    cases old with
    | nil => exact absurd rfl h0
    | cons a t =>
      show index (a :: (t ++ r)) (a :: t) = 0
      unfold index
      rw [if_pos]
      exact List.isPrefixOf_iff_prefix.2 ⟨r, rfl⟩
  have hd : (old ++ r).drop (0 + old.length) = r := by rw [Nat.zero_add, List.drop_left]
  unfold replaceAll replace
  rw [hn, num_all, num_all, count_hit h0 hi, hd, Nat.add_comm 1]
  simp only [Bool.false_eq_true, if_false]
  rw [replaceK_hit old new _ _ 0 hi, hd]
  rfl
theorem rep_skip {old new : List UInt8} (h0 : old ≠ []) (hn : (old == new) = false) (c : UInt8) (r : List UInt8) (hp : old.isPrefixOf (c :: r) = false) : replaceAll (c :: r) old new = c :: replaceAll r old new := by
  have hx := index_skip c r old hp
  unfold replaceAll replace
  rw [hn, num_all, num_all]
  simp only [Bool.false_eq_true, if_false]
  by_cases hm : index r old = -1
  · rw [if_pos hm] at hx
    rw [count_miss hx, count_miss hm]
    rfl
  · rw [if_neg hm] at hx
    obtain ⟨i, hi⟩ : ∃ i : Nat, index r old = i := ⟨(index r old).toNat, by have := index_ge r old; omega⟩
    have hi1 : index (c :: r) old = (i + 1 : Nat) := by rw [hx, hi]; rfl
    have hd : (c :: r).drop (i + 1 + old.length) = r.drop (i + old.length) := by rw [show i + 1 + old.length = (i + old.length) + 1 by omega, List.drop_succ_cons]
    rw [count_hit h0 hi1, count_hit h0 hi, hd, Nat.add_comm 1, replaceK_hit old new _ _ (i + 1) hi1, replaceK_hit old new _ _ i hi, hd]
    rfl

/-! ## one byte replaced -/

theorem rep_one {x : UInt8} {new : List UInt8} (hn : ([x] == new) = false) : ∀ s : List UInt8, replaceAll s [x] new = s.flatMap fun c => if c = x then new else [c]
  | [] => rep_nil (by simp)
  | c :: r => by
    rw [List.flatMap_cons]
    by_cases hc : c = x
    · subst hc
      rw [if_pos rfl, ← rep_one hn r]
      exact rep_hit (by simp) hn r
    · rw [if_neg hc, ← rep_one hn r]
      exact rep_skip (by simp) hn c r (by simp [List.isPrefixOf]; exact fun h => hc h.symm)

def ampE : List UInt8 := [38, 97, 109, 112, 59]
def ltE : List UInt8 := [38, 108, 116, 59]
def gtE : List UInt8 := [38, 103, 116, 59]
def quotE : List UInt8 := [38, 113, 117, 111, 116, 59]
def nbspE : List UInt8 := [38, 110, 98, 115, 112, 59]
def esc1 (q : Bool) (c : UInt8) : List UInt8 := if c = 38 then ampE else if c = 60 then ltE else if c = 62 then gtE else if q = true ∧ c = 34 then quotE else [c]
def escL (q : Bool) : List UInt8 → List UInt8
  | [] => []
  | c :: r => if c = 194 ∧ r.head? = some 160 then nbspE ++ escL q (r.drop 1) else esc1 q c ++ escL q r
termination_by s => s.length
decreasing_by all_goals (simp; try omega)
/-- what package written does -/
def textE (s : List UInt8) : List UInt8 := replaceAll (replaceAll (replaceAll (replaceAll s [38] ampE) [60] ltE) [62] gtE) [194, 160] nbspE
def valueE (s : List UInt8) : List UInt8 := replaceAll (textE s) [34] quotE
theorem three (s : List UInt8) : replaceAll (replaceAll (replaceAll s [38] ampE) [60] ltE) [62] gtE = s.flatMap (esc1 false) := by
  rw [rep_one (by decide), rep_one (by decide), rep_one (by decide), List.flatMap_assoc, List.flatMap_assoc]
  congr 1
  funext c
  unfold esc1
  by_cases h1 : c = 38
  · subst h1; rfl
  · by_cases h2 : c = 60
    · subst h2; rfl
    · by_cases h3 : c = 62
      · subst h3; rfl
      · simp [h1, h2, h3]
theorem rep2_ahead : ∀ (a b : List UInt8), (∀ c ∈ a, c ≠ 194) → replaceAll (a ++ b) [194, 160] nbspE = a ++ replaceAll b [194, 160] nbspE
  | [], _, _ => rfl
  | c :: a, b, h => by
    have hc : ¬ 194 = c := fun e => h c (.head _) e.symm
    rw [List.cons_append, rep_skip (by simp) (by decide) c _ (by simp [List.isPrefixOf, hc]), rep2_ahead a b (fun d hd => h d (.tail _ hd))]
    rfl
theorem esc1_head (q : Bool) (c : UInt8) (h : c ≠ 160) (r : List UInt8) : (esc1 q c ++ r).head? ≠ some 160 := by
  unfold esc1
  repeat' split
  all_goals simp [ampE, ltE, gtE, quotE]
  exact h
theorem textE_eq : ∀ (n : Nat) (s : List UInt8), s.length ≤ n → textE s = escL false s
  | _, [], _ => by
    unfold textE
    rw [three, escL]
    exact rep_nil (by simp)
  | 0, c :: r, h => by simp at h
  | n + 1, c :: r, h => by
    simp only [List.length_cons] at h
    unfold textE
    rw [three, escL, List.flatMap_cons]
    by_cases h1 : c = 194 ∧ r.head? = some 160
    · obtain ⟨rfl, h2⟩ := h1
      rw [if_pos ⟨rfl, h2⟩]
      cases r with
      | nil => cases h2
      | cons d t =>
        simp only [List.head?_cons, Option.some.injEq] at h2
        subst h2
        have ih := textE_eq n t (by simp at h; omega)
        unfold textE at ih
        rw [three] at ih
        rw [List.drop_succ_cons, List.drop_zero, ← ih, List.flatMap_cons]
        exact rep_hit (by simp) (by decide) _
    · rw [if_neg h1]
      have ih := textE_eq n r (by omega)
      unfold textE at ih
      rw [three] at ih
      rw [← ih]
      by_cases hc : c = 194
      · subst hc
        have h2 : (r.flatMap (esc1 false)).head? ≠ some 160 := by
          cases r with
          | nil => simp
          | cons d t =>
            rw [List.flatMap_cons]
            exact esc1_head false d (fun e => h1 ⟨rfl, by rw [e]; rfl⟩) _
        show replaceAll (194 :: _) _ _ = 194 :: _
        refine rep_skip (by simp) (by decide) 194 _ ?_
        cases hf : r.flatMap (esc1 false) with
        | nil => rfl
        | cons d t =>
          rw [hf] at h2
          have h3 : ¬ 160 = d := fun e => h2 (by rw [e]; rfl)
          simp [List.isPrefixOf, h3]
      · refine rep2_ahead _ _ (fun d hd => ?_)
        unfold esc1 at hd
        rintro rfl
        revert hd
        repeat' split
        all_goals simp [ampE, ltE, gtE, quotE]
        exact fun e => hc e.symm
theorem valueE_eq (s : List UInt8) : valueE s = escL true s := by
  unfold valueE
  rw [textE_eq _ s (Nat.le_refl _), rep_one (by decide)]
  have main : ∀ (n : Nat) (s : List UInt8), s.length ≤ n → (escL false s).flatMap (fun c => if c = 34 then quotE else [c]) = escL true s := by
    intro n
    induction n with
    | zero =>
      intro s h
      cases s with
      | nil => rw [escL, escL]; rfl
      | cons c r => simp at h
    | succ n ih =>
      intro s h
      cases s with
      | nil => rw [escL, escL]; rfl
      | cons c r =>
        simp only [List.length_cons] at h
        rw [escL, escL]
        split
        · rw [List.flatMap_append, ih _ (by simp; omega)]
          rfl
        · rw [List.flatMap_append, ih r (by omega)]
          congr 1
          unfold esc1
          by_cases h1 : c = 38
          · subst h1; rfl
          · by_cases h2 : c = 60
            · subst h2; rfl
            · by_cases h3 : c = 62
              · subst h3; rfl
              · by_cases h4 : c = 34
                · subst h4; rfl
                · simp [h1, h2, h3, h4]
  exact main _ s (Nat.le_refl _)

/-! ## the decoder gives it back -/

theorem back_of {attr : Bool} {k : List UInt8} {n : Nat} {z : Int} {b : List UInt8} (r : List UInt8) (hn : nameL (k ++ r) = (n, z)) (hz : n ≠ 0) (hl : k.length = n) (h35 : (k ++ r)[0]? ≠ some 35) (h59 : (k ++ r)[n - 1]? = some 59) (hb : encodeRune z = b) : unr attr (38 :: (k ++ r)) = b ++ unr attr r := by
  have hr : refL attr (k ++ r) = (n, z) := by
    unfold refL
    rw [if_neg h35, hn]
    rw [if_neg (fun h => h.2.2.1 h59)]
  rw [unr_amp]
  unfold oneL
  rw [hr]
  simp only
  rw [if_neg hz, hb, ← hl, List.drop_left]
theorem back_amp (attr : Bool) (r : List UInt8) : unr attr (ampE ++ r) = 38 :: unr attr r := back_of (k := [97, 109, 112, 59]) (n := 4) (z := 38) (b := [38]) r (by kernel_rfl) (by decide) rfl (by simp) (by simp) (by kernel_rfl)
theorem back_lt (attr : Bool) (r : List UInt8) : unr attr (ltE ++ r) = 60 :: unr attr r := back_of (k := [108, 116, 59]) (n := 3) (z := 60) (b := [60]) r (by kernel_rfl) (by decide) rfl (by simp) (by simp) (by kernel_rfl)
theorem back_gt (attr : Bool) (r : List UInt8) : unr attr (gtE ++ r) = 62 :: unr attr r := back_of (k := [103, 116, 59]) (n := 3) (z := 62) (b := [62]) r (by kernel_rfl) (by decide) rfl (by simp) (by simp) (by kernel_rfl)
theorem back_quot (attr : Bool) (r : List UInt8) : unr attr (quotE ++ r) = 34 :: unr attr r := back_of (k := [113, 117, 111, 116, 59]) (n := 5) (z := 34) (b := [34]) r (by kernel_rfl) (by decide) rfl (by simp) (by simp) (by kernel_rfl)
theorem back_nbsp (attr : Bool) (r : List UInt8) : unr attr (nbspE ++ r) = 194 :: 160 :: unr attr r := back_of (k := [110, 98, 115, 112, 59]) (n := 5) (z := 160) (b := [194, 160]) r (by kernel_rfl) (by decide) rfl (by simp) (by simp) (by kernel_rfl)
theorem esc_back (attr q : Bool) : ∀ (n : Nat) (s : List UInt8), s.length ≤ n → unr attr (escL q s) = s
  | _, [], _ => by rw [escL]; rfl
  | 0, c :: r, h => by simp at h
  | n + 1, c :: r, h => by
    simp only [List.length_cons] at h
    rw [escL]
    split
    · rename_i h1
      obtain ⟨rfl, h2⟩ := h1
      cases r with
      | nil => cases h2
      | cons d t =>
        simp only [List.head?_cons, Option.some.injEq] at h2
        subst h2
        rw [back_nbsp, esc_back attr q n _ (by simp at h ⊢; omega)]
        rfl
    · have ih := esc_back attr q n r (by omega)
      unfold esc1
      split
      · rename_i e; rw [back_amp, ih, e]
      · split
        · rename_i e; rw [back_lt, ih, e]
        · split
          · rename_i e; rw [back_gt, ih, e]
          · split
            · rename_i e; rw [back_quot, ih, e.2]
            · rename_i h1 _ _ _
              show unr attr (c :: escL q r) = _
              rw [unr_other attr c _ h1, ih]
theorem esc_signs (q : Bool) : ∀ (n : Nat) (s : List UInt8), s.length ≤ n → ∀ c ∈ escL q s, c ≠ 60 ∧ c ≠ 62 ∧ (q = true → c ≠ 34)
  | _, [], _ => by rw [escL]; intro c hc; cases hc
  | 0, c :: r, h => by simp at h
  | n + 1, c :: r, h => by
    simp only [List.length_cons] at h
    rw [escL]
    intro d hd
    split at hd
    · rcases List.mem_append.1 hd with h1 | h1
      · revert h1
        simp only [nbspE, List.mem_cons, List.not_mem_nil, or_false]
        rintro (rfl | rfl | rfl | rfl | rfl | rfl) <;> simp
      · exact esc_signs q n _ (by simp; omega) d h1
    · rcases List.mem_append.1 hd with h1 | h1
      · revert h1
        unfold esc1
        split
        · simp only [ampE, List.mem_cons, List.not_mem_nil, or_false]
          rintro (rfl | rfl | rfl | rfl | rfl) <;> simp
        · split
          · simp only [ltE, List.mem_cons, List.not_mem_nil, or_false]
            rintro (rfl | rfl | rfl | rfl) <;> simp
          · split
            · simp only [gtE, List.mem_cons, List.not_mem_nil, or_false]
              rintro (rfl | rfl | rfl | rfl) <;> simp
            · split
              · simp only [quotE, List.mem_cons, List.not_mem_nil, or_false]
                rintro (rfl | rfl | rfl | rfl | rfl | rfl) <;> simp
              · rename_i h2 h3 h4 h5
                rw [List.mem_singleton]
                rintro rfl
                exact ⟨h3, h4, fun hq e => h5 ⟨hq, e⟩⟩
      · exact esc_signs q n _ (by omega) d h1
end Go.Proofs.YtkcgmimldjeaiaaDoor

/-
  Package written: Text, EndTag, and a value as a start tag has it: their walks.
-/
namespace Go.Proofs.YtkcgmimldjeaiaaDoor
open Go.RowKit Go.Lib Own

theorem rep_len {x : UInt8} {new : List UInt8} (hn : ([x] == new) = false) (h1 : 1 ≤ new.length) (s : List UInt8) : s.length ≤ (replaceAll s [x] new).length := by
  rw [rep_one hn]
  induction s with
  | nil => simp
  | cons c r ih =>
    rw [List.flatMap_cons, List.length_append, List.length_cons]
    split
    · omega
    · rw [List.length_singleton]; omega
theorem three_len (s : List UInt8) : (replaceAll (replaceAll (replaceAll s [38] ampE) [60] ltE) [62] gtE).length ≤ 5 * s.length := by
  rw [three]
  induction s with
  | nil => simp
  | cons c r ih =>
    rw [List.flatMap_cons, List.length_append, List.length_cons]
    have : (esc1 false c).length ≤ 5 := by
      unfold esc1
      repeat' split
      all_goals try simp [ampE, ltE, gtE]
      rename_i h
      exact absurd h.1 (by decide)
    omega
theorem esc_len (q : Bool) : ∀ (n : Nat) (s : List UInt8), s.length ≤ n → (escL q s).length ≤ 6 * s.length
  | _, [], _ => by rw [escL]; simp
  | 0, c :: r, h => by simp at h
  | n + 1, c :: r, h => by
    simp only [List.length_cons] at h
    rw [escL]
    split
    · have := esc_len q n (r.drop 1) (by simp; omega)
      rw [List.length_append, List.length_cons]
      simp [nbspE] at this ⊢
      omega
    · have := esc_len q n r (by omega)
      have h2 : (esc1 q c).length ≤ 6 := by
        unfold esc1
        repeat' split
        all_goals simp [ampE, ltE, gtE, quotE]
      rw [List.length_append, List.length_cons]
      omega
theorem count_le (s old : ByteArray) (h1 : 1 ≤ old.size) : countB s old ≤ s.size := Nat.le_trans (Nat.le_mul_of_pos_right _ h1) (countB_mul_le old h1 s.size s (Nat.le_refl _))
/-- one replacing of a text that is not too long -/
theorem repl_any (s : ByteArray) (old new : List UInt8) (m : Int) (w : World) (hs : s.size ≤ 1000000000) (hm : w.cell? ⟨10, 0, none⟩ = some (.int .i64 m)) (h1 : 1 ≤ old.length) (h2 : new.length ≤ 6) :
    Calls Tryd.prog 130 #[.string s, .string (bs old), .string (bs new)] w fun e w' => e = .returned (.string (bs (replaceAll s.data.toList old new))) ∧ Below w.heap.size w w' := by
  have hc := count_le s (bs old) (by rw [bs_size]; exact h1)
  have h3 : countB s (bs old) * (bs new).size ≤ s.size * 6 := Nat.mul_le_mul hc (by rw [bs_size]; exact h2)
  exact Tryd.strings_ReplaceAll s (bs old) (bs new) m w (by omega) hm (by rw [bs_size]; exact h1) (by omega)

set_option maxHeartbeats 1000000 in
theorem wrText_any (s : ByteArray) (m : Int) (w : World) (hs : s.size ≤ 100000000) (hm : w.cell? ⟨10, 0, none⟩ = some (.int .i64 m)) :
    Calls Tryd.prog 131 #[.string s] w fun e w' => e = .returned (.string (bs (escL false s.data.toList))) ∧ Below w.heap.size w w' := by
  have hz := size_eq s
  have l1 := rep_len (x := 60) (new := ltE) (by decide) (by decide) (replaceAll s.data.toList [38] ampE)
  have l2 := rep_len (x := 62) (new := gtE) (by decide) (by decide) (replaceAll (replaceAll s.data.toList [38] ampE) [60] ltE)
  have l3 := three_len s.data.toList
  have ht := textE_eq _ s.data.toList (Nat.le_refl _)
  unfold textE at ht
  obtain ⟨r1, hr1⟩ : ∃ r1, replaceAll s.data.toList [38] ampE = r1 := ⟨_, rfl⟩
  have c1 := repl_any s [38] ampE m w (by omega) hm (by decide) (by decide)
  rw [hr1] at l1 l2 l3 ht c1
  obtain ⟨r2, hr2⟩ : ∃ r2, replaceAll r1 [60] ltE = r2 := ⟨_, rfl⟩
  have c2 := fun W hW => repl_any (bs r1) [60] ltE m W (by rw [bs_size]; omega) hW (by decide) (by decide)
  rw [bs_data] at c2
  rw [hr2] at l1 l2 l3 ht c2
  obtain ⟨r3, hr3⟩ : ∃ r3, replaceAll r2 [62] gtE = r3 := ⟨_, rfl⟩
  have c3 := fun W hW => repl_any (bs r2) [62] gtE m W (by rw [bs_size]; omega) hW (by decide) (by decide)
  rw [bs_data] at c3
  rw [hr3] at l2 l3 ht c3
  have c4 := fun W hW => repl_any (bs r3) [194, 160] nbspE m W (by rw [bs_size]; omega) hW (by decide) (by decide)
  rw [bs_data, ht] at c4
  have C1 := hid c1
  have C2 := hid c2
  have C3 := hid c3
  have C4 := hid c4
  have HM := hid hm
  clear c1 c2 c3 c4 l1 l2 l3 ht hr1 hr2 hr3 hz hm
  obtain ⟨R, hR⟩ : ∃ R, bs (escL false s.data.toList) = R := ⟨_, rfl⟩
  obtain ⟨R1, hR1⟩ : ∃ R, bs r1 = R := ⟨_, rfl⟩
  obtain ⟨R2, hR2⟩ : ∃ R, bs r2 = R := ⟨_, rfl⟩
  obtain ⟨R3, hR3⟩ : ∃ R, bs r3 = R := ⟨_, rfl⟩
  rw [hR] at C4 ⊢
  rw [hR1] at C1 C2
  rw [hR2] at C2 C3
  rw [hR3] at C3 C4
  clear hR hR1 hR2 hR3
  unfold bs ampE ltE gtE nbspE at *
  go_enter Tryd.func131, Tryd.ntmps131
  go_wp2_with fail
  refine C1.out.mono ?_
  rintro e w1 ⟨rfl, b1⟩
  have m1 := cell_low HM.out b1 (cell_block HM.out)
  go_wp2_with fail
  refine (C2.out w1 m1).mono ?_
  rintro e w2 ⟨rfl, b2⟩
  have m2 := cell_low m1 b2 (cell_block m1)
  go_wp2_with fail
  refine (C3.out w2 m2).mono ?_
  rintro e w3 ⟨rfl, b3⟩
  have m3 := cell_low m2 b3 (cell_block m2)
  go_wp2_with fail
  refine (C4.out w3 m3).mono ?_
  rintro e w4 ⟨rfl, b4⟩
  have hb := ((b1.trans (b2.mono b1.size)).trans (b3.mono (b1.trans (b2.mono b1.size)).size)).trans (b4.mono ((b1.trans (b2.mono b1.size)).trans (b3.mono (b1.trans (b2.mono b1.size)).size)).size)
  clear b1 b2 b3 b4 m1 m2 m3
  go_wp2
  go_ret
  exact ⟨rfl, hb⟩

/-- an end tag -/
def etagL (n : List UInt8) : List UInt8 := [60, 47] ++ n ++ [62]
theorem wrEnd_any (n : ByteArray) (w : World) (hs : n.size ≤ 100000000) :
    Calls Tryd.prog 114 #[.string n] w fun e w' => e = .returned (.string (bs (etagL n.data.toList))) ∧ w' = w := by
  have hr : (⟨#[60, 47]⟩ : ByteArray) ++ n ++ ⟨#[62]⟩ = bs (etagL n.data.toList) := by
    rw [show (⟨#[60, 47]⟩ : ByteArray) = bs [60, 47] from rfl, show (⟨#[62]⟩ : ByteArray) = bs [62] from rfl, cat_bs, bs_cat]
    rfl
  rw [← hr]
  go_enter Tryd.func114, Tryd.ntmps114
  go_wp2
  go_ret
  exact ⟨rfl, rfl⟩
end Go.Proofs.YtkcgmimldjeaiaaDoor

/-
  Package written: a start tag: its walk.
-/
namespace Go.Proofs.YtkcgmimldjeaiaaDoor
open Go.RowKit Go.Lib Own

def attrL (a : AttrP) : List UInt8 := [32] ++ a.1 ++ [61, 34] ++ escL true a.2 ++ [34]
def openL (n : List UInt8) (al : List AttrP) : List UInt8 := [60] ++ n ++ al.flatMap attrL ++ [62]
theorem attrs_len : ∀ al : List AttrP, (al.flatMap attrL).length ≤ 6 * bulkA al
  | [] => by simp
  | a :: r => by
    have := attrs_len r
    have h2 := esc_len true _ a.2 (Nat.le_refl _)
    rw [List.flatMap_cons, List.length_append, bulkA_cons]
    have h3 : (attrL a).length = 4 + a.1.length + (escL true a.2).length := by
      unfold attrL
      simp only [List.length_append, List.length_cons, List.length_nil]
      omega
    omega
theorem attr_str (a : AttrP) (b : ByteArray) : (⟨#[32]⟩ : ByteArray) ++ b ++ ⟨#[61, 34]⟩ ++ bs (escL true a.2) ++ ⟨#[34]⟩ = bs ([32] ++ b.data.toList ++ [61, 34] ++ escL true a.2 ++ [34]) := by
  rw [show (⟨#[32]⟩ : ByteArray) = bs [32] from rfl, show (⟨#[61, 34]⟩ : ByteArray) = bs [61, 34] from rfl, show (⟨#[34]⟩ : ByteArray) = bs [34] from rfl, cat_bs, bs_cat, bs_cat, bs_cat]
theorem value_eq (s : List UInt8) : replaceAll (escL false s) [34] quotE = escL true s := by
  rw [← valueE_eq]
  unfold valueE
  rw [textE_eq _ s (Nat.le_refl _)]

set_option maxHeartbeats 4000000 in
set_option maxRecDepth 100000 in
theorem startTag_any (n : ByteArray) (u : Value) (al : List AttrP) (m : Int) (w : World) (hn : n.size ≤ 100000000) (h : AttrsR w u al) (hb : bulkA al ≤ 100000000) (hm : w.cell? ⟨10, 0, none⟩ = some (.int .i64 m)) :
    Calls Tryd.prog 110 #[.string n, u] w fun e w' => e = .returned (.string (bs (openL n.data.toList al))) ∧ Below w.heap.size w w' := by
  obtain ⟨p, c, rfl, hl, hcm, hcell, _⟩ := h
  have hnz := size_eq n
  have hlen := attrs_len al
  have hal := bulkA_len al
  obtain ⟨R, hR⟩ : ∃ R, [60] ++ n.data.toList ++ al.flatMap attrL = R := ⟨_, rfl⟩
  have hRl : R.length ≤ 700000001 := by rw [← hR]; simp only [List.length_append, List.length_cons, List.length_nil]; omega
  have ho : openL n.data.toList al = R ++ [62] := by unfold openL; rw [hR]
  rw [ho]
  have HR := hid (fun (_ : True) => hR)
  have HC := hid hcell
  have HM := hid hm
  have HB := hid hb
  have hstr : (⟨#[60]⟩ : ByteArray) ++ n = bs ([60] ++ n.data.toList) := cat_bs [60] n
  have HS := hid (fun (_ : True) => hstr)
  have HRL := hid hRl
  clear hcell hR ho hm hb hlen hstr hnz hal hRl
  go_enter Tryd.func110, Tryd.ntmps110
  go_wp2_with fail
  rw [HS.out trivial]
  refine (Tryd.Builder_WriteString_k w.heap.size w.heap.size (Lib.byteCells []) (bs ([60] ++ n.data.toList)) _ (builder_new w _ _) (by rw [bs_size]; simp only [List.length_append, List.length_cons, List.length_nil, Lib.byteCells_length]; rw [← size_eq]; omega) (by simp)).mono ?_
  rintro e W1 ⟨rfl, g1, g2, g3⟩
  have H1 : Hid (Lib.IsBuilderF 59 5 w.heap.size w.heap.size (Lib.byteCells ([60] ++ n.data.toList)) W1 ∧ Below w.heap.size w W1 ∧ w.heap.size < W1.heap.size) :=
    ⟨by rw [← List.nil_append ([60] ++ n.data.toList), Lib.byteCells_append, ← bs_data ([60] ++ n.data.toList), ← strCells_byte]; exact Or.inr g1, Below.trans (b := w.alloc (.cells #[.pointer none, .slice none 0 0] 59)) ((Below.refl _ w).alloc (Nat.le_refl _) _) g2, by have := g2.size; simp at this; omega⟩
  clear g1 g2 g3 HS
  go_wp2_with fail
  go_loopw [14] (fun iv wr => ∃ (k : Nat) (acc : List UInt8), iv = .int .i64 k ∧ k ≤ al.length ∧ Hid (Lib.IsBuilderF 59 5 w.heap.size w.heap.size (Lib.byteCells acc) wr ∧ Below w.heap.size w wr ∧ w.heap.size < wr.heap.size) ∧ Hid (True → acc ++ (al.drop k).flatMap attrL = R)) (fun iv _ => al.length - (RowKit.intOf iv).toNat)
  case atStart => exact ⟨0, [60] ++ n.data.toList, rfl, Nat.zero_le _, H1, HR⟩
  case round =>
    obtain ⟨k, acc, rfl, hk, HX, HK⟩ := hrel
    by_cases hkl : k < al.length
    · obtain ⟨a, ha⟩ : ∃ a, al[k]? = some a := ⟨_, List.getElem?_eq_getElem hkl⟩
      obtain ⟨b, o, rfl, hc1, hc2⟩ := HC.out k a ha
      replace hc1 := cell_low hc1 HX.out.2.1 (cell_block hc1)
      replace hc2 := cell_low hc2 HX.out.2.1 (cell_block hc2)
      have hab := bulkA_get ha
      have hd := HK.out trivial
      rw [drop_at ha, List.flatMap_cons] at hd
      have hdl := congrArg List.length hd
      have hRl := HRL.out
      have hBl := HB.out
      simp only [List.length_append] at hdl
      have hp : (attrL a).length = 4 + a.1.length + (escL true a.2).length := by
        unfold attrL
        simp only [List.length_append, List.length_cons, List.length_nil]
        omega
      have hal : acc.length + (attrL a).length ≤ 700000001 := by omega
      have ct := fun W hW => wrText_any (bs a.2) m W (by rw [bs_size]; omega) hW
      have cq := fun W hW => repl_any (bs (escL false a.2)) [34] quotE m W (by rw [bs_size]; have := esc_len false _ a.2 (Nat.le_refl _); omega) hW (by decide) (by decide)
      rw [bs_data] at ct cq
      rw [value_eq] at cq
      obtain ⟨E1, hE1⟩ : ∃ E1, bs (escL false a.2) = E1 := ⟨_, rfl⟩
      obtain ⟨E2, hE2⟩ : ∃ E2, bs (escL true a.2) = E2 := ⟨_, rfl⟩
      obtain ⟨S1, hS1⟩ : ∃ S, bs a.1 = S := ⟨_, rfl⟩
      obtain ⟨S2, hS2⟩ : ∃ S, bs a.2 = S := ⟨_, rfl⟩
      have hst := attr_str a S1
      rw [hE1] at ct cq
      rw [hE2] at cq hst
      rw [hS2] at ct hc2
      rw [hS1] at hc1
      have hs1 : S1.data.toList = a.1 := by rw [← hS1]; rfl
      rw [hs1] at hst
      have hz1 : S1.size ≤ 100000000 := by rw [size_eq, hs1]; omega
      have hz2 : E2.size ≤ 1000000000 := by rw [← hE2, bs_size]; omega
      have HST := hid (fun (_ : True) => hst)
      have CT := hid ct
      have CQ := hid cq
      unfold bs quotE at CQ
      have HAL := hid hal
      have HD := hid (fun (_ : True) => hd)
      have HM1 := hid (cell_low HM.out HX.out.2.1 (cell_block HM.out))
      clear ct cq hst hE1 hE2 hS1 hS2 hs1 hd hdl hRl hBl hp hal hab ha HK HC
      have hB1 := (Below.refl wr.heap.size wr).alloc (Nat.le_refl _) (.cells #[.string S1, .string S2] 101)
      have HB1 := hid (And.intro hB1 (heap_alloc_new wr (.cells #[.string S1, .string S2] 101)))
      clear hB1
      go_wp2_with fail
      refine (CT.out _ (cell_low HM1.out HB1.out.1 (cell_block HM1.out))).mono ?_
      rintro e W2 ⟨rfl, b2⟩
      have hat2 := (b2.block _ (block_lt HB1.out.2)).trans HB1.out.2
      have m2 := cell_low (cell_low HM1.out HB1.out.1 (cell_block HM1.out)) b2 (by have := cell_block HM1.out; simp; omega)
      have hbw2 := HB1.out.1.trans (b2.mono HB1.out.1.size)
      clear b2
      go_wp2_with fail
      refine (CQ.out _ m2).mono ?_
      rintro e W3 ⟨rfl, b3⟩
      have hat3 := (b3.block _ (block_lt hat2)).trans hat2
      have c3 := cell_at hat3 (j := 0) rfl
      have hbw3 := hbw2.trans (b3.mono hbw2.size)
      have I3 := hid (And.intro (builder_below HX.out.1 hbw3) (And.intro (HX.out.2.1.trans (hbw3.mono HX.out.2.1.size)) (Nat.lt_of_lt_of_le HX.out.2.2 hbw3.size)))
      clear b3 hat2 m2 hbw2 hat3 hbw3 HX HB1
      go_wp2_with fail
      rw [HST.out trivial]
      refine (Tryd.Builder_WriteString_k w.heap.size w.heap.size (Lib.byteCells acc) (bs (attrL a)) _ I3.out.1 (by rw [Lib.byteCells_length, bs_size]; have := HAL.out; omega) (by have := I3.out.2.2; omega)).mono ?_
      rintro e W4 ⟨rfl, g1, g2, g3⟩
      have HZ : Hid (Lib.IsBuilderF 59 5 w.heap.size w.heap.size (Lib.byteCells (acc ++ attrL a)) W4 ∧ Below w.heap.size w W4 ∧ w.heap.size < W4.heap.size) :=
        ⟨by rw [Lib.byteCells_append, ← bs_data (attrL a), ← strCells_byte]; exact Or.inr g1, I3.out.2.1.trans g2, by have := g2.size; have := I3.out.2.2; omega⟩
      have HE := hid (fun (_ : True) => (by have := HD.out trivial; rwa [← List.append_assoc] at this : (acc ++ attrL a) ++ (al.drop (k + 1)).flatMap attrL = R))
      clear g1 g2 g3 I3 HST HD HAL c3 CT CQ
      go_wp2_with fail
      go_roundw
      case rel => first | exact ⟨k + 1, _, rfl, by omega, HZ, HE⟩ | ((repeat apply Exists.intro); exact ⟨⟨k + 1, _, rfl, by omega, HZ, HE⟩, rfl⟩)
      case measure => simp [RowKit.intOf]; omega
    · obtain rfl : acc = R := by
        have := HK.out trivial
        rwa [List.drop_of_length_le (by omega), List.flatMap_nil, List.append_nil] at this
      have HRL2 := HRL
      clear HK HC H1
      go_wp2_with fail
      refine (Tryd.Builder_WriteString_k w.heap.size w.heap.size (Lib.byteCells acc) (bs [62]) _ HX.out.1 (by rw [Lib.byteCells_length, bs_size]; have := HRL.out; simp; omega) (by have := HX.out.2.2; omega)).mono ?_
      rintro e W4 ⟨rfl, g1, g2, g3⟩
      have HZ : Hid (Lib.IsBuilderF 59 5 w.heap.size w.heap.size (Lib.byteCells (acc ++ [62])) W4 ∧ Below w.heap.size w W4 ∧ w.heap.size < W4.heap.size) :=
        ⟨by rw [Lib.byteCells_append, ← bs_data [62], ← strCells_byte]; exact Or.inr g1, HX.out.2.1.trans g2, by have := g2.size; have := HX.out.2.2; omega⟩
      clear g1 g2 g3 HX
      go_wp2_with fail
      refine (Tryd.Builder_String_any_k w.heap.size w.heap.size (acc ++ [62]) _ HZ.out.1 (by have := HZ.out.2.2; omega)).mono ?_
      rintro e W5 ⟨rfl, _, g2, _⟩
      have HY := hid (HZ.out.2.1.trans g2)
      clear g2 HZ
      go_wp2_with fail
      go_ret
      exact ⟨rfl, HY.out⟩
end Go.Proofs.YtkcgmimldjeaiaaDoor

/-
  Package written: the Writer: its walks.
-/
namespace Go.Proofs.YtkcgmimldjeaiaaDoor
open Go.RowKit Go.Lib Own

theorem ret_txt {a b : ByteArray} (h : a = b) : Ending.returned (.string a) = .returned (.string b) := by rw [h]
theorem eatsNl_any (x : ByteArray) (w : World) : Calls Tryd.prog 113 #[.string x] w fun e w' => e = .returned (.bool (eatsL x.toList)) ∧ w' = w := by
  unfold eatsL
  by_cases h1 : (x.toList == [112, 114, 101]) = true
  · rw [h1, Bool.true_or]
    go_enter Tryd.func113, Tryd.ntmps113
    go_wp2
    go_ret
    exact ⟨rfl, rfl⟩
  · rw [Bool.not_eq_true] at h1
    rw [h1, Bool.false_or]
    obtain ⟨R, hR⟩ : ∃ R, (x.toList == [116, 101, 120, 116, 97, 114, 101, 97]) = R := ⟨_, rfl⟩
    rw [hR]
    go_enter Tryd.func113, Tryd.ntmps113
    go_wp2
    go_ret
    exact ⟨rfl, rfl⟩

/-- a text as it is written, and whether a newline is still to be guarded -/
def textW (eat : Bool) (t : List UInt8) : Bool × List UInt8 :=
  if t = [] then (eat, []) else (false, (if eat = true ∧ t.head? = some 10 then [10] else []) ++ escL false t)
def takeW (eat : Bool) (e : EvP) : Bool × List UInt8 :=
  if e.k = 1 then (eatsL e.n, openL e.n e.a) else if e.k = 2 then (false, etagL e.n) else if e.k = 3 then textW eat e.t else (eat, [])
def writeW (eat : Bool) : List EvP → List UInt8
  | [] => []
  | e :: r => (takeW eat e).2 ++ writeW (takeW eat e).1 r

theorem grown_below {w w' : World} (h : Below w.heap.size w w') (row : Option Nat) : w.grownBy w' row := ⟨h.os, h.tape, h.output, h.size, fun k hk _ => h.block k hk⟩
theorem just_grown {w w' : World} {b : Nat} {cs : Array Value} {T : TypeId} (h : Just w w' b cs T) : w.grownBy w' (some b) := ⟨h.os, h.tape, h.output, by rw [h.size]; exact Nat.le_refl _, fun k _ hk => h.other k (fun e => hk (by rw [e]))⟩
theorem cell_grown {w w' : World} {b o k : Nat} {v : Value} (h : w.cell? ⟨b, o, none⟩ = some v) (hg : w.grownBy w' (some k)) (hb : b ≠ k) : w'.cell? ⟨b, o, none⟩ = some v := by
  have := hg.block b (cell_block h) (fun e => hb (Option.some.inj e))
  unfold World.cell? at h ⊢
  rw [this]
  exact h

/-- the flag of a Writer that lies at cell o of block b -/
structure EatAt (w : World) (b o : Nat) (cs : Array Value) (T : TypeId) (eat : Bool) : Prop where
  at_ : w.heap[b]? = some (.cells cs T (0, 0))
  c : cs[o]? = some (.bool eat)

set_option maxHeartbeats 2000000 in
set_option maxRecDepth 100000 in
theorem wText_any (b o : Nat) (cs : Array Value) (T : TypeId) (eat : Bool) (t : ByteArray) (m : Int) (w : World) (h : EatAt w b o cs T eat) (ht : t.size ≤ 100000000) (hm : w.cell? ⟨10, 0, none⟩ = some (.int .i64 m)) (hmb : 10 ≠ b) :
    Calls Tryd.prog 115 #[.pointer (some ⟨b, o, none⟩), .string t] w fun e w' => e = .returned (.string (bs (textW eat t.data.toList).2)) ∧ w'.heap[b]? = some (.cells (cs.setIfInBounds o (.bool (textW eat t.data.toList).1)) T (0, 0)) ∧ w.grownBy w' (some b) := by
  have hc := cell_at h.at_ h.c
  have hz := size_eq t
  by_cases h0 : t.data.toList = []
  · have q : (t.toList == []) = true := by rw [Lib.toList_data, h0]; rfl
    have hcs : cs.setIfInBounds o (.bool eat) = cs := set_same h.c
    unfold textW
    rw [if_pos h0]
    simp only
    rw [hcs]
    clear hz hm ht
    go_enter Tryd.func115, Tryd.ntmps115
    go_wp2
    go_ret
    exact ⟨rfl, h.at_, World.grownBy.refl _ _⟩
  · have q : (t.toList == []) = false := by rw [Lib.toList_data]; exact beq_eq_false_iff_ne.2 h0
    have hp : 0 < t.size := by rw [hz]; exact List.length_pos_iff.2 h0
    obtain ⟨c, hcc⟩ : ∃ c, t[0]'hp = c := ⟨_, rfl⟩
    have hl := getElem_list hp hcc
    have hhd : t.data.toList.head? = some c := by rw [List.head?_eq_getElem?]; exact hl
    have j1 := just_set (j := o) h.at_ (.bool false)
    have hm1 := cell_grown hm (just_grown j1) hmb
    have ct := wrText_any t m _ ht hm1
    have e1 : (textW eat t.data.toList).1 = false := by unfold textW; rw [if_neg h0]
    have e2 : (textW eat t.data.toList).2 = (if eat = true ∧ c = 10 then [10] else []) ++ escL false t.data.toList := by
      unfold textW
      rw [if_neg h0, hhd]
      simp only [Option.some.injEq]
    rw [e1, e2]
    obtain ⟨E, hE⟩ : ∃ E, escL false t.data.toList = E := ⟨_, rfl⟩
    have hEl : (bs E).size ≤ 1000000000 := by rw [bs_size, ← hE]; have := esc_len false _ t.data.toList (Nat.le_refl _); omega
    rw [hE] at ct ⊢
    obtain ⟨S, hS⟩ : ∃ S, bs E = S := ⟨_, rfl⟩
    have HS := hid (fun (_ : True) => hS)
    rw [hS] at ct hEl
    have CT := hid ct
    have HJ := hid j1
    have hfz := free_at h.at_ o
    clear ct j1 hm1 hm hz hl hhd e1 e2 hE hS h h0 ht
    have fin : ∀ W3, Below (w.setCell ⟨b, o, none⟩ (.bool false)).heap.size (w.setCell ⟨b, o, none⟩ (.bool false)) W3 → W3.heap[b]? = some (.cells (cs.setIfInBounds o (.bool false)) T (0, 0)) ∧ w.grownBy W3 (some b) := fun W3 hb3 =>
      ⟨(hb3.block b (block_lt HJ.out.at_)).trans HJ.out.at_, (just_grown HJ.out).trans (grown_below hb3 _)⟩
    have FIN := hid fin
    clear fin
    by_cases hg : eat = true ∧ c = 10
    · rw [if_pos hg]
      obtain ⟨rfl, rfl⟩ := hg
      obtain ⟨R, hR⟩ : ∃ R, bs ([10] ++ E) = R := ⟨_, rfl⟩
      have hR2 : (⟨#[10]⟩ : ByteArray) ++ S = R := by
        rw [← hR, ← bs_cat, HS.out trivial]
        rfl
      rw [hR]
      have HR := hid (fun (_ : True) => hR2)
      clear hR hR2 HS
      go_enter Tryd.func115, Tryd.ntmps115
      go_wp2_with (go_at_call 131; refine CT.out.mono ?_; rintro e W3 ⟨rfl, b3⟩)
      go_ret
      exact ⟨ret_txt (HR.out trivial), FIN.out W3 b3⟩
    · rw [if_neg hg]
      obtain ⟨R, hR⟩ : ∃ R, bs ([] ++ E) = R := ⟨_, rfl⟩
      have hR2 : (⟨#[]⟩ : ByteArray) ++ S = R := by
        rw [← hR, ← bs_cat, HS.out trivial]
        rfl
      rw [hR]
      have HR := hid (fun (_ : True) => hR2)
      clear hR hR2 HS
      cases eat
      · clear hg
        go_enter Tryd.func115, Tryd.ntmps115
        go_wp2_with (go_at_call 131; refine CT.out.mono ?_; rintro e W3 ⟨rfl, b3⟩)
        go_ret
        exact ⟨ret_txt (HR.out trivial), FIN.out W3 b3⟩
      · have hc10 : c ≠ 10 := fun e => hg ⟨rfl, e⟩
        have hn10 : c.toNat ≠ 10 := fun e => hc10 (UInt8.toNat_inj.1 (e.trans rfl))
        have q11 : ((c.toNat : Int) == 10) = false := beq_eq_false_iff_ne.2 (by omega)
        clear hg hc10 hn10
        go_enter Tryd.func115, Tryd.ntmps115
        go_wp2_with (go_at_call 131; refine CT.out.mono ?_; rintro e W3 ⟨rfl, b3⟩)
        go_ret
        exact ⟨ret_txt (HR.out trivial), FIN.out W3 b3⟩

set_option maxHeartbeats 4000000 in
set_option maxRecDepth 100000 in
theorem wTake_any (b o : Nat) (cs : Array Value) (T : TypeId) (eat : Bool) (e : EvP) (u : Value) (m : Int) (w0 w : World) (h : EatAt w b o cs T eat) (hu0 : AttrsR w0 u e.a) (hb0 : Below w0.heap.size w0 w) (hlo : w0.heap.size ≤ b) (hs : e.n.length + e.t.length + bulkA e.a ≤ 100000000)
    (hm0 : w0.cell? ⟨10, 0, none⟩ = some (.int .i64 m)) :
    Calls Tryd.prog 77 #[.pointer (some ⟨b, o, none⟩), .agg (evC e u)] w fun r w' => r = .returned (.string (bs (takeW eat e).2)) ∧ w'.heap[b]? = some (.cells (cs.setIfInBounds o (.bool (takeW eat e).1)) T (0, 0)) ∧ w.grownBy w' (some b) := by
  obtain ⟨p, c, rfl⟩ := hu0.len
  have hmb : 10 ≠ b := by have := cell_block hm0; omega
  have hm := cell_low hm0 hb0 (cell_block hm0)
  have hu := hu0.below hb0
  have hbs := block_lt h.at_
  have hB := (Below.refl w.heap.size w).alloc (Nat.le_refl _) (.cells (evC e (.slice p e.a.length c)) 39)
  have hn := heap_alloc_new w (.cells (evC e (.slice p e.a.length c)) 39)
  obtain ⟨W1, hW1⟩ : ∃ W1, w.alloc (.cells (evC e (.slice p e.a.length c)) 39) = W1 := ⟨_, rfl⟩
  have hsz1 : W1.heap.size = w.heap.size + 1 := by rw [← hW1]; simp
  rw [hW1] at hB hn
  have h1 : EatAt W1 b o cs T eat := ⟨(hB.block b hbs).trans h.at_, h.c⟩
  have hm1 := cell_low hm hB (cell_block hm)
  have hu1 := hu.below hB
  obtain ⟨c0, c1, c2, c3⟩ := evC_at hn
  have hg1 := grown_below hB (some b)
  have hbe := cell_at h1.at_ h1.c
  have hfz := free_at h1.at_ o
  unfold evC at hW1 ⊢
  have HG := hid hg1
  have HB1 := hid (hb0.trans (hB.mono hb0.size))
  clear hB hg1 hu hm h
  have hj : ∀ v, Hid (Just W1 (W1.setCell ⟨b, o, none⟩ (.bool v)) b (cs.setIfInBounds o (.bool v)) T) := fun v => just_set (j := o) h1.at_ (.bool v)
  have fin : ∀ v W3, Below (W1.setCell ⟨b, o, none⟩ (.bool v)).heap.size (W1.setCell ⟨b, o, none⟩ (.bool v)) W3 → W3.heap[b]? = some (.cells (cs.setIfInBounds o (.bool v)) T (0, 0)) ∧ w.grownBy W3 (some b) := fun v W3 hb3 =>
    ⟨(hb3.block b (block_lt (hj v).out.at_)).trans (hj v).out.at_, (HG.out.trans (just_grown (hj v).out)).trans (grown_below hb3 _)⟩
  have FIN := hid fin
  have hm2 : ∀ v, (W1.setCell ⟨b, o, none⟩ (.bool v)).cell? ⟨10, 0, none⟩ = some (.int .i64 m) := fun v => cell_grown hm1 (just_grown (hj v).out) hmb
  clear fin
  by_cases k1 : e.k = 1
  · have e1 : takeW eat e = (eatsL e.n, openL e.n e.a) := by unfold takeW; rw [if_pos k1]
    rw [e1, k1]
    simp only
    rw [k1] at c0 hW1
    have hst := startTag_any (bs e.n) (.slice p e.a.length c) e.a m (W1.setCell ⟨b, o, none⟩ (.bool (eatsL e.n))) (by rw [bs_size]; omega) (hu0.below (HB1.out.setCell hlo _)) (by omega) (hm2 _)
    have het := fun W => eatsNl_any (bs e.n) W
    rw [bs_data] at hst
    rw [bs_toList] at het
    have fin2 := FIN.out (eatsL e.n)
    obtain ⟨v, hv⟩ : ∃ v, eatsL e.n = v := ⟨_, rfl⟩
    rw [hv] at het hst fin2 ⊢
    have HST := hid hst
    have HET := hid het
    have HF := hid fin2
    clear hst het fin2 hv hm2 hj FIN e1 k1 hs hn
    go_enter Tryd.func77, Tryd.ntmps77
    go_wp2_with (go_at_call 113; refine (HET.out _).mono ?_; rintro r W2 ⟨rfl, rfl⟩)
    refine HST.out.mono ?_
    rintro r W3 ⟨rfl, b3⟩
    go_wp2_with fail
    go_ret
    exact ⟨rfl, HF.out _ b3⟩
  · have q1 : (e.k == 1) = false := beq_eq_false_iff_ne.2 k1
    by_cases k2 : e.k = 2
    · have e1 : takeW eat e = (false, etagL e.n) := by unfold takeW; rw [if_neg k1, if_pos k2]
      rw [e1, k2]
      simp only
      rw [k2] at c0 hW1 q1
      have hen := fun W => wrEnd_any (bs e.n) W (by rw [bs_size]; omega)
      rw [bs_data] at hen
      have HEN := hid hen
      have HF := hid (FIN.out false)
      clear hen FIN hm2 hj e1 k1 k2 hs hn
      go_enter Tryd.func77, Tryd.ntmps77
      go_wp2_with (go_at_call 114; refine (HEN.out _).mono ?_; rintro r W3 ⟨rfl, rfl⟩)
      go_ret
      exact ⟨rfl, HF.out _ (Below.refl _ _)⟩
    · have q2 : (e.k == 2) = false := beq_eq_false_iff_ne.2 k2
      by_cases k3 : e.k = 3
      · have e1 : takeW eat e = textW eat e.t := by unfold takeW; rw [if_neg k1, if_neg k2, if_pos k3]
        rw [e1, k3]
        rw [k3] at c0 hW1 q1 q2
        have htx := wText_any b o cs T eat (bs e.t) m W1 h1 (by rw [bs_size]; omega) hm1 hmb
        rw [bs_data] at htx
        generalize textW eat e.t = tw at htx ⊢
        obtain ⟨t1, t2⟩ := tw
        simp only at htx ⊢
        have HTX := hid htx
        clear htx FIN hm2 hj e1 k1 k2 k3 hs hn
        go_enter Tryd.func77, Tryd.ntmps77
        go_wp2_with (go_at_call 115; refine HTX.out.mono ?_; rintro r W3 ⟨rfl, a3, g3⟩)
        go_ret
        exact ⟨rfl, a3, HG.out.trans g3⟩
      · have q3 : (e.k == 3) = false := beq_eq_false_iff_ne.2 k3
        have e1 : takeW eat e = (eat, []) := by unfold takeW; rw [if_neg k1, if_neg k2, if_neg k3]
        have hcs : cs.setIfInBounds o (.bool eat) = cs := set_same h1.c
        rw [e1]
        simp only
        rw [hcs]
        have h1a := hid h1.at_
        clear FIN hm2 hj e1 k1 k2 k3 hs hn hcs
        go_enter Tryd.func77, Tryd.ntmps77
        go_wp2
        go_ret
        exact ⟨rfl, h1a.out, HG.out⟩
end Go.Proofs.YtkcgmimldjeaiaaDoor

/-
  The reference's written, escaped: their walks.
-/
namespace Go.Proofs.YtkcgmimldjeaiaaDoor
open Go.RowKit Go.Lib Own

/-- one sign as it is written, and how many bytes it has -/
def wr1 (q : Bool) : List UInt8 → List UInt8 × Nat
  | [] => ([], 1)
  | c :: r => if c = 38 then (ampE, 1) else if c = 60 then (ltE, 1) else if c = 62 then (gtE, 1) else if c = 34 ∧ q = true then (quotE, 1) else if c = 194 ∧ r.head? = some 160 then (nbspE, 2) else ([c], 1)
theorem wr1_cons (q : Bool) (c : UInt8) (r : List UInt8) : wr1 q (c :: r) = if c = 38 then (ampE, 1) else if c = 60 then (ltE, 1) else if c = 62 then (gtE, 1) else if c = 34 ∧ q = true then (quotE, 1) else if c = 194 ∧ r.head? = some 160 then (nbspE, 2) else ([c], 1) := rfl
theorem esc_wr (q : Bool) (c : UInt8) (r : List UInt8) : escL q (c :: r) = (wr1 q (c :: r)).1 ++ escL q ((c :: r).drop (wr1 q (c :: r)).2) ∧ 1 ≤ (wr1 q (c :: r)).2 ∧ (wr1 q (c :: r)).2 ≤ (c :: r).length ∧ (wr1 q (c :: r)).1.length ≤ 6 := by
  rw [escL, wr1_cons]
  unfold esc1
  by_cases h1 : c = 38
  · subst h1
    rw [if_neg (fun h => absurd h.1 (by decide)), if_pos rfl, if_pos rfl]
    exact ⟨rfl, Nat.le_refl _, by simp, by decide⟩
  by_cases h2 : c = 60
  · subst h2
    rw [if_neg (fun h => absurd h.1 (by decide)), if_neg (by decide), if_pos rfl, if_neg (by decide), if_pos rfl]
    exact ⟨rfl, Nat.le_refl _, by simp, by decide⟩
  by_cases h3 : c = 62
  · subst h3
    rw [if_neg (fun h => absurd h.1 (by decide)), if_neg (by decide), if_neg (by decide), if_pos rfl, if_neg (by decide), if_neg (by decide), if_pos rfl]
    exact ⟨rfl, Nat.le_refl _, by simp, by decide⟩
  rw [if_neg h1, if_neg h1, if_neg h2, if_neg h2, if_neg h3, if_neg h3]
  by_cases h4 : c = 34 ∧ q = true
  · obtain ⟨rfl, rfl⟩ := h4
    rw [if_neg (fun h => absurd h.1 (by decide)), if_pos ⟨rfl, rfl⟩, if_pos ⟨rfl, rfl⟩]
    exact ⟨rfl, Nat.le_refl _, by simp, by decide⟩
  rw [if_neg h4, if_neg (show ¬ (q = true ∧ c = 34) from fun h => h4 ⟨h.2, h.1⟩)]
  by_cases h5 : c = 194 ∧ r.head? = some 160
  · rw [if_pos h5, if_pos h5]
    refine ⟨rfl, by simp, ?_, by decide⟩
    cases r with
    | nil => cases h5.2
    | cons d t => simp
  · rw [if_neg h5, if_neg h5]
    exact ⟨rfl, Nat.le_refl _, by simp, by simp⟩
theorem ret_pair {a b : ByteArray} {n m : Int} (h : a = b) (k : n = m) : Ending.returned (.tuple #[.string a, .int .i64 n]) = .returned (.tuple #[.string b, .int .i64 m]) := by rw [h, k]
theorem byte_ne {c : UInt8} (d : UInt8) (h : c ≠ d) : ((c.toNat : Int) == (d.toNat : Int)) = false := by
  refine beq_eq_false_iff_ne.2 (fun e => h (UInt8.toNat_inj.1 ?_))
  omega
theorem extract_one (s : ByteArray) (i : Nat) (c : UInt8) (h : s.data.toList[i]? = some c) : s.extract i (i + 1) = bs [c] := by
  apply ByteArray.ext
  apply Array.ext'
  rw [ByteArray.data_extract, Array.toList_extract]
  obtain ⟨h1, h2⟩ := List.getElem?_eq_some_iff.1 h
  show (s.data.toList.drop i).take (i + 1 - i) = [c]
  rw [show i + 1 - i = 1 by omega, List.drop_eq_getElem_cons h1, h2]
  rfl

set_option maxHeartbeats 4000000 in
set_option maxRecDepth 100000 in
theorem refWritten_any (s : ByteArray) (i : Nat) (q : Bool) (w : World) (hi : i < s.size) (hs : s.size ≤ 4000000) :
    Calls Tryd.prog 75 #[.string s, .int .i64 i, .bool q] w fun e w' => e = .returned (.tuple #[.string (bs (wr1 q (s.data.toList.drop i)).1), .int .i64 ((wr1 q (s.data.toList.drop i)).2 : Nat)]) ∧ w' = w := by
  obtain ⟨c, hc⟩ : ∃ c, s[i] = c := ⟨_, rfl⟩
  have hl := getElem_list hi hc
  have hd := drop_at hl
  rw [hd, wr1_cons]
  by_cases h1 : c = 38
  · subst h1
    rw [if_pos rfl]
    clear hl hd
    go_enter Tryd.func75, Tryd.ntmps75
    go_wp2
    go_ret2
    exact ⟨rfl, rfl⟩
  by_cases h2 : c = 60
  · subst h2
    rw [if_neg (by decide), if_pos rfl]
    clear hl hd h1
    go_enter Tryd.func75, Tryd.ntmps75
    go_wp2
    go_ret2
    exact ⟨rfl, rfl⟩
  by_cases h3 : c = 62
  · subst h3
    rw [if_neg (by decide), if_neg (by decide), if_pos rfl]
    clear hl hd h1 h2
    go_enter Tryd.func75, Tryd.ntmps75
    go_wp2
    go_ret2
    exact ⟨rfl, rfl⟩
  have q1 : ((c.toNat : Int) == 38) = false := byte_ne 38 h1
  have q2 : ((c.toNat : Int) == 60) = false := byte_ne 60 h2
  have q3 : ((c.toNat : Int) == 62) = false := byte_ne 62 h3
  rw [if_neg h1, if_neg h2, if_neg h3]
  by_cases h4 : c = 34
  · subst h4
    cases q
    · rw [if_neg (fun h => by cases h.2), if_neg (fun h => absurd h.1 (by decide))]
      have hx := extract_one s i 34 hl
      have HX := hid hx
      clear hl hd h1 h2 h3 hx
      go_enter Tryd.func75, Tryd.ntmps75
      go_wp2
      go_ret2
      exact ⟨ret_pair HX.out rfl, rfl⟩
    · rw [if_pos ⟨rfl, rfl⟩]
      clear hl hd h1 h2 h3
      go_enter Tryd.func75, Tryd.ntmps75
      go_wp2
      go_ret2
      exact ⟨rfl, rfl⟩
  have q4 : ((c.toNat : Int) == 34) = false := byte_ne 34 h4
  rw [if_neg (fun h => h4 h.1)]
  have hx := extract_one s i c hl
  have HX := hid hx
  clear hx
  by_cases h5 : c = 194
  · by_cases h6 : i + 1 < s.size
    · obtain ⟨d, hd2⟩ : ∃ d, s[i + 1] = d := ⟨_, rfl⟩
      have hl2 := getElem_list h6 hd2
      have hh : (s.data.toList.drop (i + 1)).head? = some d := by rw [List.head?_drop]; exact hl2
      rw [hh]
      by_cases h7 : d = 160
      · rw [if_pos ⟨h5, by rw [h7]⟩]
        subst h5
        subst h7
        clear hl hd hl2 hh h1 h2 h3 h4
        go_enter Tryd.func75, Tryd.ntmps75
        go_wp2
        go_ret2
        exact ⟨rfl, rfl⟩
      · rw [if_neg (fun h => h7 (Option.some.inj h.2))]
        have q7 : ((d.toNat : Int) == 160) = false := byte_ne 160 h7
        subst h5
        clear hl hd hl2 hh h1 h2 h3 h4 h7
        go_enter Tryd.func75, Tryd.ntmps75
        go_wp2
        go_ret2
        exact ⟨ret_pair HX.out rfl, rfl⟩
    · have hh : (s.data.toList.drop (i + 1)).head? = none := by rw [List.head?_drop]; exact List.getElem?_eq_none (by rw [← size_eq]; omega)
      rw [hh, if_neg (fun h => by cases h.2)]
      subst h5
      clear hl hd hh h1 h2 h3 h4
      go_enter Tryd.func75, Tryd.ntmps75
      go_wp2
      go_ret2
      exact ⟨ret_pair HX.out rfl, rfl⟩
  · have q5 : ((c.toNat : Int) == 194) = false := byte_ne 194 h5
    rw [if_neg (fun h => h5 h.1)]
    clear hl hd h1 h2 h3 h4 h5
    go_enter Tryd.func75, Tryd.ntmps75
    go_wp2
    go_ret2
    exact ⟨ret_pair HX.out rfl, rfl⟩

/-- the text of bytes that the call owns, marked or not -/
theorem own_textF (W : World) (base : Nat) (v : Value) (l : List UInt8) (h : W.ownsRowF base 5 1 v l.length (byteCells l)) :
    (convert 50 9 v).run Tryd.prog W = .ok (.string (bs l)) W := by
  obtain ⟨hl, h2⟩ := h
  rcases h2 with ⟨rfl, h0⟩ | ⟨g, cap, cur, fz, rfl, _, hg, _, hc, hm, hz, ht⟩
  · have : l = [] := List.eq_nil_of_length_eq_zero h0
    subst this
    exact nil_text W
  · refine run_convert_bytes_back W 50 9 5 ⟨g, 0, none⟩ cap l Tryd.underlying50 Tryd.underlying5 Tryd.underlying9 (fun j hj => ?_)
    have hadd : (⟨g, 0, none⟩ : Addr).add j = ⟨g, j, none⟩ := by unfold Addr.add; split <;> simp_all
    rw [hadd]
    have h3 : cur[j]? = (byteCells l)[j]? := by
      rw [← ht, List.getElem?_take, if_pos (by omega), Array.getElem?_toList]
    simp [World.cell?, hg, h3, byteCells, hj]

theorem row_shapeF {W : World} {base : Nat} {e : TypeId} {size n : Nat} {v : Value} {xs : List Value} (h : W.ownsRowF base e size v n xs) : ∃ p c, v = .slice p n c := by
  rcases h.2 with ⟨rfl, rfl⟩ | ⟨g, cap, cur, fz, rfl, _⟩
  · exact ⟨_, _, rfl⟩
  · exact ⟨_, _, rfl⟩
set_option maxHeartbeats 4000000 in
set_option maxRecDepth 100000 in
theorem refEscaped_any (s : ByteArray) (q : Bool) (w : World) (hs : s.size ≤ 4000000) :
    Calls Tryd.prog 43 #[.string s, .bool q] w fun e w' => e = .returned (.string (bs (escL q s.data.toList))) ∧ Below w.heap.size w w' := by
  obtain ⟨R, hR⟩ : ∃ R, escL q s.data.toList = R := ⟨_, rfl⟩
  rw [hR]
  have hRl : R.length ≤ 24000000 := by rw [← hR]; have := esc_len q _ s.data.toList (Nat.le_refl _); rw [← size_eq] at this; omega
  have HR : Hid (True → [] ++ escL q (s.data.toList.drop 0) = R) := fun _ => hR
  have hw := fun i hi W => refWritten_any s i q W hi hs
  have HW := hid hw
  obtain ⟨i0, hi, hz0, hz1, hz2⟩ := info_parts info_u8
  clear hw hR
  go_enter Tryd.func43, Tryd.ntmps43
  go_wp2
  go_loopw [5, 6] (fun bv iv wr => ∃ (k : Nat) (acc : List UInt8), iv = .int .i64 k ∧ k ≤ s.size ∧ Hid (wr.ownsRowF w.heap.size 5 1 bv acc.length (byteCells acc) ∧ Below w.heap.size w wr) ∧ Hid (True → acc ++ escL q (s.data.toList.drop k) = R)) (fun _ iv _ => s.size - (RowKit.intOf iv).toNat)
  case atStart => exact ⟨0, [], rfl, Nat.zero_le _, hid ⟨World.ownsRowF_of (World.ownsRow_nil _ _ _ _), Below.refl _ _⟩, HR⟩
  case round =>
    obtain ⟨k, acc, rfl, hk, HX, HK⟩ := hrel
    obtain ⟨bp, bc, rfl⟩ := row_shapeF HX.out.1
    by_cases hkl : k < s.size
    · obtain ⟨c, hc⟩ : ∃ c, s.data.toList[k]? = some c := ⟨_, List.getElem?_eq_getElem (by rw [← size_eq]; exact hkl)⟩
      have hd := drop_at hc
      have hst := HK.out trivial
      have hcall := HW.out k hkl
      have hsz := size_eq s
      have hdl : (s.data.toList.drop k).length = s.size - k := by rw [List.length_drop, ← hsz]
      rw [hd] at hst hcall hdl
      obtain ⟨e1, e2, e3, e4⟩ := esc_wr q c (s.data.toList.drop (k + 1))
      rw [e1, ← hd] at hst
      rw [← hd] at e2 e3 e4 hcall hdl
      generalize wr1 q (s.data.toList.drop k) = p at hst hcall e2 e3 e4
      obtain ⟨p1, p2⟩ := p
      simp only at hst hcall e2 e3 e4
      rw [List.drop_drop] at hst
      have hal : acc.length ≤ 24000000 := by have := congrArg List.length hst; simp only [List.length_append] at this; omega
      have HS := hid (fun (_ : True) => (by rw [List.append_assoc]; exact hst : (acc ++ p1) ++ escL q (s.data.toList.drop (k + p2)) = R))
      have HC := hid hcall
      have hkp : k + p2 ≤ s.size := by rw [hdl] at e3; omega
      obtain ⟨S, hS⟩ : ∃ S, bs p1 = S := ⟨_, rfl⟩
      have hSz : S.size = p1.length := by rw [← hS, bs_size]
      rw [hS] at HC
      have HSS := hid hS
      clear hst hcall hd hc e1 e3 hdl hS HR HW HK hsz
      go_wp2_with fail
      refine (HC.out _).mono ?_
      rintro e w' ⟨rfl, rfl⟩
      have hown := HX.out.1
      have hbw := HX.out.2
      have hbs := hbw.size
      go_wp2_with (at_builtin; refine Lib.wpList_append_own_stringF _ rfl _ _ 50 9 rfl w.heap.size 5 i0 Tryd.underlying50 Tryd.underlying9 hi hz0 hz1 hz2 _ _ _ rfl hown S rfl (by unfold maxLen; omega) (by omega) hbs ?_)
      intro v' w2 hown2 hgrow _
      have hZ : w2.ownsRowF w.heap.size 5 1 v' (acc ++ p1).length (byteCells (acc ++ p1)) := by
        rw [List.length_append, Lib.byteCells_append]
        have : strCells S = byteCells p1 := by rw [← HSS.out]; exact strCells_byte _
        rw [← this]
        exact hown2
      have hbw2 := hbw.grown hgrow hbs (fun k hk => (hown.lt k hk).1)
      have HZ := hid (And.intro hZ hbw2)
      clear hZ hbw2 hown2 hgrow hown hbw HX
      go_wp2
      go_roundw
      case rel => exact ⟨k + p2, acc ++ p1, by go_num, hkp, HZ, HS⟩
      case measure => simp [RowKit.intOf]; omega
    · obtain rfl : acc = R := by
        have := HK.out trivial
        rw [List.drop_of_length_le (by rw [← size_eq]; omega)] at this
        rwa [show escL q [] = [] by rw [escL], List.append_nil] at this
      have ht := own_textF wr _ _ acc HX.out.1
      clear HK HR HW
      go_wp2
      go_ret
      exact ⟨rfl, HX.out.2⟩
end Go.Proofs.YtkcgmimldjeaiaaDoor

/-
  The reference's opener, eats, feedAhead, Write, tagFits: their walks.
-/
namespace Go.Proofs.YtkcgmimldjeaiaaDoor
open Go.RowKit Go.Lib Own

theorem refEatsW_any (x : ByteArray) (w : World) : Calls Tryd.prog 41 #[.string x] w fun e w' => e = .returned (.bool (eatsL x.toList)) ∧ w' = w := by
  unfold eatsL
  by_cases h1 : (x.toList == [112, 114, 101]) = true
  · rw [h1, Bool.true_or]
    go_enter Tryd.func41, Tryd.ntmps41
    go_wp2
    go_ret
    exact ⟨rfl, rfl⟩
  · rw [Bool.not_eq_true] at h1
    rw [h1, Bool.false_or]
    obtain ⟨R, hR⟩ : ∃ R, (x.toList == [116, 101, 120, 116, 97, 114, 101, 97]) = R := ⟨_, rfl⟩
    rw [hR]
    go_enter Tryd.func41, Tryd.ntmps41
    go_wp2
    go_ret
    exact ⟨rfl, rfl⟩
theorem attr_eq (a : AttrP) : (⟨#[32]⟩ : ByteArray) ++ bs a.1 ++ ⟨#[61, 34]⟩ ++ bs (escL true a.2) ++ ⟨#[34]⟩ = bs (attrL a) := by
  rw [show (⟨#[32]⟩ : ByteArray) = bs [32] from rfl, show (⟨#[61, 34]⟩ : ByteArray) = bs [61, 34] from rfl, show (⟨#[34]⟩ : ByteArray) = bs [34] from rfl, bs_cat, bs_cat, bs_cat, bs_cat]
  rfl
/-- the text of bytes in a row that may be marked -/
theorem own_textN (W : World) (g cap : Nat) (l : List UInt8) (h : ownsN W 5 g l.length cap (byteCells l)) :
    (convert 50 9 (.slice (some ⟨g, 0, none⟩) l.length cap)).run Tryd.prog W = .ok (.string (bs l)) W := by
  refine run_convert_bytes_back W 50 9 5 ⟨g, 0, none⟩ cap l Tryd.underlying50 Tryd.underlying5 Tryd.underlying9 (fun j hj => ?_)
  have hadd : (⟨g, 0, none⟩ : Addr).add j = ⟨g, j, none⟩ := by unfold Addr.add; split <;> simp_all
  rw [hadd, h.cell j hj]
  simp [byteCells, hj]
theorem ownsN_cat {W : World} {g cap : Nat} {a L : List UInt8} {S : ByteArray} (hS : bs L = S) (h : ownsN W 5 g (a.length + S.size) cap (byteCells a ++ strCells S)) : ownsN W 5 g (a ++ L).length cap (byteCells (a ++ L)) := by
  subst hS
  rw [List.length_append, Lib.byteCells_append]
  rw [bs_size, show strCells (bs L) = byteCells L from strCells_byte _] at h
  exact h

set_option maxHeartbeats 4000000 in
set_option maxRecDepth 100000 in
theorem refOpener_any (e : EvP) (u : Value) (w : World) (hu : AttrsR w u e.a) (hs : e.n.length + bulkA e.a ≤ 3000000) :
    Calls Tryd.prog 40 #[.agg (evC e u)] w fun r w' => r = .returned (.string (bs (openL e.n e.a))) ∧ Below w.heap.size w w' := by
  obtain ⟨p, c, rfl, hl, hcm, hcell, _⟩ := hu
  have hlen := attrs_len e.a
  have hal := bulkA_len e.a
  obtain ⟨R, hR⟩ : ∃ R, [60] ++ e.n ++ e.a.flatMap attrL = R := ⟨_, rfl⟩
  have hRl : R.length ≤ 20000000 := by rw [← hR]; simp only [List.length_append, List.length_cons, List.length_nil]; omega
  have ho : openL e.n e.a = R ++ [62] := by unfold openL; rw [hR]
  rw [ho]
  have HR := hid (fun (_ : True) => hR)
  have HC := hid hcell
  have HB := hid hs
  have HRL := hid hRl
  have hb1 := (Below.refl w.heap.size w).alloc (Nat.le_refl _) (.cells (evC e (.slice p e.a.length c)) 39)
  have hn1 := heap_alloc_new w (.cells (evC e (.slice p e.a.length c)) 39)
  obtain ⟨W1, hW1⟩ : ∃ W1, w.alloc (.cells (evC e (.slice p e.a.length c)) 39) = W1 := ⟨_, rfl⟩
  have hsz1 : W1.heap.size = w.heap.size + 1 := by rw [← hW1]; simp
  rw [hW1] at hb1 hn1
  obtain ⟨c0, c1, c2, c3⟩ := evC_at hn1
  have hbc : ∀ S, Below w.heap.size W1 (bytesWorld W1 5 S) := fun S => ⟨rfl, rfl, rfl, by rw [bytesWorld_size]; omega, fun k hk => bytesWorld_at_old W1 5 S k (by omega)⟩
  have hold := fun S => bytesWorld_at_old W1 5 S w.heap.size (by omega)
  have hN := fun S hS => ownsN_bytes W1 5 S hS
  have hst : (⟨#[60]⟩ : ByteArray) ++ bs e.n = bs ([60] ++ e.n) := by rw [show (⟨#[60]⟩ : ByteArray) = bs [60] from rfl, bs_cat]
  obtain ⟨S0, hS0⟩ : ∃ S0, bs ([60] ++ e.n) = S0 := ⟨_, rfl⟩
  have hS0l : S0.size = ([60] ++ e.n).length := by rw [← hS0, bs_size]
  rw [hS0] at hst
  have hS0m : S0.size ≤ maxLen := by rw [hS0l]; simp only [List.length_append, List.length_cons, List.length_nil]; unfold maxLen; omega
  have hconv := Go.Lib.run_convert_string_bytes (P := Tryd.prog) W1 9 50 5 S0 Tryd.underlying9 Tryd.underlying50 Tryd.underlying5
  have hN0 := hN S0 hS0m
  have hbw0 := hb1.trans (hbc S0)
  have hev0 := (hold S0).trans hn1
  have hzz := bytesWorld_size W1 5 S0
  generalize bytesWorld W1 5 S0 = W2 at hconv hN0 hbw0 hev0 hzz
  generalize grownCap W1 S0.size 0 5 = cap at hconv hN0
  have hN1 : ownsN W2 5 W1.heap.size ([60] ++ e.n).length cap (byteCells ([60] ++ e.n)) := by
    rw [← hS0l, show byteCells ([60] ++ e.n) = strCells S0 by rw [← hS0]; exact (strCells_byte (bs ([60] ++ e.n))).symm]
    exact hN0
  have hX0 := hid (And.intro hN1 (And.intro (show w.heap.size < W1.heap.size by omega) (And.intro hbw0 hev0)))
  have HST := hid hst
  rw [hS0l] at hconv
  obtain ⟨n0, hn0⟩ : ∃ n0, ([60] ++ e.n).length = n0 := ⟨_, rfl⟩
  rw [hn0] at hconv
  have HN0 := hid (fun (_ : True) => hn0)
  obtain ⟨i0, hi, hz0, hz1, hz2⟩ := info_parts info_u8
  unfold evC at hW1 ⊢
  clear hcell hs hlen hR ho hRl hb1 hn1 hbc hold hN hst hS0 hS0l hS0m hN0 hbw0 hev0 hN1 hn0
  go_enter Tryd.func40, Tryd.ntmps40
  have hst := HST.out
  obtain ⟨Sn, hSn⟩ : ∃ Sn, bs e.n = Sn := ⟨_, rfl⟩
  have hSz : Sn.size ≤ 3000000 := by have := HB.out; rw [← hSn, bs_size]; omega
  unfold evC at hX0
  simp only [hSn] at hX0 hst c1 hW1 ⊢
  clear hSn
  go_wp2_with fail
  clear hst hconv hzz c0 c1 c3
  go_loopw [3, 4] (fun bv iv wr => ∃ (k g cap : Nat) (acc : List UInt8), iv = .int .i64 k ∧ k ≤ e.a.length ∧ bv = .slice (some ⟨g, 0, none⟩) acc.length cap ∧ Hid (ownsN wr 5 g acc.length cap (byteCells acc) ∧ w.heap.size < g ∧ Below w.heap.size w wr ∧ wr.heap[w.heap.size]? = some (.cells #[.int .i64 e.k, .string Sn, .slice p e.a.length c, .string (bs e.t)] 39 (0, 0))) ∧ Hid (True → acc ++ (e.a.drop k).flatMap attrL = R)) (fun _ iv _ => e.a.length - (RowKit.intOf iv).toNat)
  case atStart => exact ⟨0, w.heap.size + 1, cap, [60] ++ e.n, rfl, Nat.zero_le _, by rw [HN0.out trivial], by rw [← hsz1]; exact hX0, HR⟩
  case round =>
    obtain ⟨k, g, cap2, acc, rfl, hk, rfl, HX, HK⟩ := hrel
    clear hX0 HN0 HST hW1 hsz1 c2
    have c2 := cell_at HX.out.2.2.2 (j := 2) rfl
    by_cases hkl : k < e.a.length
    · obtain ⟨a, ha⟩ : ∃ a, e.a[k]? = some a := ⟨_, List.getElem?_eq_getElem hkl⟩
      obtain ⟨b, o, rfl, hc1, hc2⟩ := HC.out k a ha
      replace hc1 := cell_low hc1 HX.out.2.2.1 (cell_block hc1)
      replace hc2 := cell_low hc2 HX.out.2.2.1 (cell_block hc2)
      have hab := bulkA_get ha
      have hd := HK.out trivial
      rw [drop_at ha, List.flatMap_cons] at hd
      have hdl := congrArg List.length hd
      have hRl := HRL.out
      have hBl := HB.out
      simp only [List.length_append] at hdl
      have hal2 : acc.length + (attrL a).length ≤ 20000000 := by omega
      have hes := fun W => refEscaped_any (bs a.2) true W (by rw [bs_size]; omega)
      rw [bs_data] at hes
      have hst := attr_eq a
      obtain ⟨E, hE⟩ : ∃ E, bs (escL true a.2) = E := ⟨_, rfl⟩
      obtain ⟨S1, hS1⟩ : ∃ S, bs a.1 = S := ⟨_, rfl⟩
      obtain ⟨S2, hS2⟩ : ∃ S, bs a.2 = S := ⟨_, rfl⟩
      obtain ⟨S3, hS3⟩ : ∃ S, bs (attrL a) = S := ⟨_, rfl⟩
      have hS3l : S3.size = (attrL a).length := by rw [← hS3, bs_size]
      have hEz : E.size ≤ 20000000 := by rw [← hE, bs_size]; have := esc_len true _ a.2 (Nat.le_refl _); omega
      have hS1z : S1.size ≤ 3000000 := by rw [← hS1, bs_size]; omega
      rw [hE, hS1, hS3] at hst
      rw [hS2, hE] at hes
      rw [hS1] at hc1
      rw [hS2] at hc2
      have HS3 := hid hS3
      have HES := hid hes
      have HST := hid hst
      have HD := hid (fun (_ : True) => (by rw [List.append_assoc]; exact hd : (acc ++ attrL a) ++ (e.a.drop (k + 1)).flatMap attrL = R))
      have HAL := hid (show acc.length + S3.size ≤ 140737488355328 by omega)
      clear hes hst hE hS1 hS2 hS3 hS3l hd hdl hRl hBl hal2 hab ha HK HR
      go_wp2_with fail
      refine (HES.out _).mono ?_
      rintro r W3 ⟨rfl, b3⟩
      have hn3 := (b3.block _ (block_lt HX.out.2.2.2)).trans HX.out.2.2.2
      have hN3 := HX.out.1.kept (b3.block g HX.out.1.lt)
      have hb3 := HX.out.2.2.1.trans (b3.mono HX.out.2.2.1.size)
      have hlt3 := HX.out.2.1
      replace c2 := cell_at hn3 (j := 2) rfl
      replace hc1 := cell_low hc1 b3 (cell_block hc1)
      have HX3 := hid (And.intro hN3 (And.intro hlt3 (And.intro hb3 hn3)))
      have hst := HST.out
      clear hn3 hb3 hlt3 HX b3 hc2
      go_wp2_with (at_builtin; refine wpList_append_marked _ rfl (.tmp 24) (.tmp 35) 50 9 rfl 5 i0 Tryd.underlying50 Tryd.underlying9 hi hz0 hz1 hz2 g acc.length cap2 (byteCells acc) rfl (by exact hN3) S3 rfl HAL.out ?_)
      intro g' cap' w' ho4 hg4 hor
      have ho5 := ownsN_cat HS3.out ho4
      have hl4 : acc.length + S3.size = (acc ++ attrL a).length := by rw [List.length_append, ← HS3.out, bs_size]
      obtain ⟨m1, m2, m3, m4⟩ := HX3.out
      have hb5 : Below w.heap.size w w' := m3.trans ⟨hg4.os, hg4.tape, hg4.output, hg4.size, fun k hk => hg4.block k (Nat.lt_of_lt_of_le hk m3.size) (fun h => by cases h; omega)⟩
      have hn5 := (hg4.block w.heap.size (block_lt m4) (fun h => by cases h; omega)).trans m4
      have hlt5 : w.heap.size < g' := by have := block_lt m4; rcases hor with h | h <;> omega
      have HZ := hid (And.intro ho5 (And.intro hlt5 (And.intro hb5 hn5)))
      have HL4 := hid (fun (_ : True) => hl4)
      clear ho4 ho5 hg4 hor m1 m2 m3 m4 hb5 hn5 hlt5 hl4 hN3 hst HX3 c2 hc1
      go_wp2
      go_roundw
      case rel => exact ⟨k + 1, g', cap', acc ++ attrL a, rfl, by omega, by rw [← HL4.out trivial], HZ, HD⟩
      case measure => simp [RowKit.intOf]; omega
    · obtain rfl : acc = R := by
        have := HK.out trivial
        rw [List.drop_of_length_le (by omega)] at this
        rwa [List.flatMap_nil, List.append_nil] at this
      have ht := own_textN wr g cap2 acc HX.out.1
      have hz : bs acc ++ (⟨#[62]⟩ : ByteArray) = bs (acc ++ [62]) := by rw [show (⟨#[62]⟩ : ByteArray) = bs [62] from rfl, bs_cat]
      obtain ⟨Z, hZ⟩ : ∃ Z, bs (acc ++ [62]) = Z := ⟨_, rfl⟩
      have hYz : (bs acc).size ≤ 20000000 := by rw [bs_size]; exact HRL.out
      obtain ⟨Y, hY⟩ : ∃ Y, bs acc = Y := ⟨_, rfl⟩
      rw [hZ, hY] at hz
      rw [hY] at ht hYz
      have HZZ := hid hZ
      clear hY hZ
      clear HK HR HC HB HRL
      go_wp2
      go_ret
      exact ⟨ret_txt HZZ.out.symm, HX.out.2.2.1⟩

/-! ## what comes next -/

/-- is the next thing a text that begins with a newline? -/
def nlAhead : List EvP → Bool
  | [] => false
  | e :: r => if e.k = 1 ∨ e.k = 2 then false else if e.k = 3 ∧ e.t ≠ [] then e.t.head? == some 10 else nlAhead r
/-- one event, written with an eye on what comes next -/
def pieceR (e : EvP) (r : List EvP) : List UInt8 :=
  if e.k = 1 then openL e.n e.a ++ (if eatsL e.n = true ∧ nlAhead r = true then [10] else []) else if e.k = 2 then etagL e.n else if e.k = 3 then escL false e.t else []
def writeR : List EvP → List UInt8
  | [] => []
  | e :: r => pieceR e r ++ writeR r
theorem esc_nil (q : Bool) : escL q [] = [] := by rw [escL]
theorem nl_cons (e : EvP) (r : List EvP) : nlAhead (e :: r) = if e.k = 1 ∨ e.k = 2 then false else if e.k = 3 ∧ e.t ≠ [] then e.t.head? == some 10 else nlAhead r := rfl
theorem nl_tag (e : EvP) (r : List EvP) (h : e.k = 1 ∨ e.k = 2) : nlAhead (e :: r) = false := by rw [nl_cons, if_pos h]
theorem nl_text (e : EvP) (r : List EvP) (h : e.k = 3) (h4 : e.t ≠ []) : nlAhead (e :: r) = (e.t.head? == some 10) := by rw [nl_cons, if_neg (by omega), if_pos ⟨h, h4⟩]
theorem nl_pass (e : EvP) (r : List EvP) (h1 : e.k ≠ 1) (h2 : e.k ≠ 2) (h3 : ¬ (e.k = 3 ∧ e.t ≠ [])) : nlAhead (e :: r) = nlAhead r := by rw [nl_cons, if_neg (fun h => h.elim h1 h2), if_neg h3]
theorem writeW_R : ∀ (es : List EvP) (eat : Bool), writeW eat es = (if eat = true ∧ nlAhead es = true then [10] else []) ++ writeR es
  | [], eat => by
    rw [if_neg (fun h => by cases h.2)]
    rfl
  | e :: r, eat => by
    have ih := writeW_R r
    show (takeW eat e).2 ++ writeW (takeW eat e).1 r = (if eat = true ∧ nlAhead (e :: r) = true then [10] else []) ++ (pieceR e r ++ writeR r)
    unfold takeW pieceR
    by_cases h1 : e.k = 1
    · rw [if_pos h1, if_pos h1, nl_tag e r (.inl h1), if_neg (show ¬ (eat = true ∧ false = true) from fun h => by cases h.2), List.nil_append, List.append_assoc]
      simp only
      rw [ih]
    rw [if_neg h1, if_neg h1]
    by_cases h2 : e.k = 2
    · rw [if_pos h2, if_pos h2, nl_tag e r (.inr h2), if_neg (show ¬ (eat = true ∧ false = true) from fun h => by cases h.2), List.nil_append]
      simp only
      rw [ih, if_neg (show ¬ (false = true ∧ nlAhead r = true) from fun h => by cases h.1), List.nil_append]
    rw [if_neg h2, if_neg h2]
    by_cases h3 : e.k = 3
    · rw [if_pos h3, if_pos h3]
      unfold textW
      by_cases h4 : e.t = []
      · rw [if_pos h4, nl_pass e r h1 h2 (fun h => h.2 h4), h4, esc_nil]
        simp only [List.nil_append]
        exact ih eat
      · rw [if_neg h4, nl_text e r h3 h4]
        simp only
        rw [ih, if_neg (show ¬ (false = true ∧ nlAhead r = true) from fun h => by cases h.1), List.nil_append, List.append_assoc]
        congr 1
        simp only [beq_iff_eq]
    · rw [if_neg h3, if_neg h3, nl_pass e r h1 h2 (fun h => h3 h.1)]
      simp only [List.nil_append]
      exact ih eat
theorem writeW_false (es : List EvP) : writeW false es = writeR es := by rw [writeW_R, if_neg (fun h => by cases h.1), List.nil_append]
theorem int_ne {a b : Int} (h : a ≠ b) : (a == b) = false := beq_eq_false_iff_ne.2 h

set_option maxHeartbeats 4000000 in
set_option maxRecDepth 100000 in
theorem feedAhead_any (ev : Value) (es : List EvP) (i : Nat) (w : World) (h : EvsR w ev es) (hi : i < es.length) (ht : ∀ e ∈ es, e.t.length ≤ 100000000) :
    Calls Tryd.prog 42 #[ev, .int .i64 i] w fun r w' => r = .returned (.bool (nlAhead (es.drop (i + 1)))) ∧ w' = w := by
  obtain ⟨p, c, rfl, _, _, hcell⟩ := h
  have HC := hid hcell
  have HT := hid ht
  obtain ⟨R, hR⟩ : ∃ R, nlAhead (es.drop (i + 1)) = R := ⟨_, rfl⟩
  have HR := hid (fun (_ : True) => hR)
  rw [hR]
  clear hcell hR ht
  go_enter Tryd.func42, Tryd.ntmps42
  go_wp2
  go_loopw [5] (fun iv wr => ∃ k : Nat, iv = .int .i64 k ∧ k ≤ es.length ∧ wr = w ∧ Hid (True → nlAhead (es.drop k) = R)) (fun iv _ => es.length - (RowKit.intOf iv).toNat)
  case atStart => exact ⟨i + 1, rfl, by omega, rfl, HR⟩
  case round =>
    obtain ⟨k, rfl, hk, rfl, HK⟩ := hrel
    by_cases hkl : k < es.length
    · obtain ⟨e, he⟩ : ∃ e, es[k]? = some e := ⟨_, List.getElem?_eq_getElem hkl⟩
      obtain ⟨b, o, u, rfl, q0, q1, q2, q3, q4⟩ := HC.out k e he
      have hd := HK.out trivial
      have htl := HT.out e (List.mem_of_getElem? he)
      rw [drop_at he, nl_cons] at hd
      clear q1 q2 q4 he HR HK HC HT
      by_cases h1 : e.k = 1
      · rw [if_pos (.inl h1)] at hd
        rw [h1] at q0
        subst hd
        go_wp2
        go_ret
        exact ⟨rfl, rfl⟩
      by_cases h2 : e.k = 2
      · rw [if_pos (.inr h2)] at hd
        rw [h2] at q0
        subst hd
        go_wp2
        go_ret
        exact ⟨rfl, rfl⟩
      rw [if_neg (fun h => h.elim h1 h2)] at hd
      have n1 := int_ne h1
      have n2 := int_ne h2
      obtain ⟨T, hT⟩ : ∃ T, bs e.t = T := ⟨_, rfl⟩
      have hTz : T.size = e.t.length := by rw [← hT, bs_size]
      have hTL : T.toList = e.t := by rw [← hT, bs_toList]
      rw [hT] at q3
      by_cases h3 : e.k = 3
      · rw [h3] at q0
        by_cases h4 : e.t = []
        · rw [if_neg (fun h => h.2 h4)] at hd
          have q : (T.toList != []) = false := by rw [hTL, h4]; rfl
          have qe : T.toList.isEmpty = true := by rw [hTL, h4]; rfl
          have HD := hid (fun (_ : True) => hd)
          clear hd hT hTz hTL h1 h2 h3 h4 n1 n2 htl
          go_wp2
          go_roundw
          case rel => exact ⟨k + 1, rfl, by omega, by first | rfl | trivial, HD⟩
          case measure => simp [RowKit.intOf]; omega
        · rw [if_pos ⟨h3, h4⟩] at hd
          have q : (T.toList != []) = true := by rw [hTL]; exact bne_iff_ne.2 h4
          have qe : T.toList.isEmpty = false := by rw [hTL]; cases hh : e.t with | nil => exact absurd hh h4 | cons x y => rfl
          have hp : 0 < T.size := by rw [hTz]; exact List.length_pos_iff.2 h4
          obtain ⟨x, hx⟩ : ∃ x, T[0]'hp = x := ⟨_, rfl⟩
          have hxl := getElem_list hp hx
          rw [← Lib.toList_data, hTL] at hxl
          rw [List.head?_eq_getElem?, hxl] at hd
          have hTb : T.size ≤ 100000000 := by omega
          by_cases h5 : x = 10
          · subst h5
            have : R = true := by rw [← hd]; rfl
            subst this
            clear hd hT hTz hTL h1 h2 h3 h4 n1 n2 htl hxl
            go_wp2
            go_ret
            exact ⟨rfl, rfl⟩
          · have : R = false := by rw [← hd]; simpa using h5
            subst this
            have q5 : ((x.toNat : Int) == 10) = false := byte_ne 10 h5
            clear hd hT hTz hTL h1 h2 h3 h4 n1 n2 htl hxl h5
            go_wp2
            go_ret
            exact ⟨rfl, rfl⟩
      · rw [if_neg (fun h => h3 h.1)] at hd
        have n3 := int_ne h3
        have HD := hid (fun (_ : True) => hd)
        clear hd hT hTz hTL h1 h2 h3 htl q3
        go_wp2
        go_roundw
        case rel => exact ⟨k + 1, rfl, by omega, by first | rfl | trivial, HD⟩
        case measure => simp [RowKit.intOf]; omega
    · have hd := HK.out trivial
      rw [List.drop_of_length_le (by omega)] at hd
      obtain rfl : false = R := hd
      clear HK HC HR HT
      go_wp2
      go_ret
      exact ⟨rfl, rfl⟩
end Go.Proofs.YtkcgmimldjeaiaaDoor

/-
  Words that can be read, as apartLists wants them.
-/
namespace Go.Proofs.YtkcgmimldjeaiaaDoor
open Go.RowKit Go.Lib Own

/-- words that can be read, as apartLists wants them -/
theorem words_at {W : World} {p : Option Addr} {n c : Nat} {ss : List (List UInt8)} (h : Words W (.slice p n c) ss) : n = ss.length ∧ WordsAt W W.heap.size p (ss.map bs) := by
  obtain ⟨p', c', e, _, _, hc, _⟩ := h
  cases e
  refine ⟨rfl, ⟨fun j hj => ?_⟩⟩
  rw [List.length_map] at hj
  obtain ⟨b, o, hp, hcell⟩ := hc j ss[j] (List.getElem?_eq_getElem hj)
  refine ⟨b, o, hp, cell_block hcell, ?_⟩
  rw [hcell]
  simp [List.getD, hj]
theorem Words.low {W W' : World} {v : Value} {ss : List (List UInt8)} {B : Nat} (h : Words W v ss) (hB : W.heap.size ≤ B) (hb : Below B W W') : Words W' v ss := h.below (hb.mono hB)

theorem PowB.up {base base2 : Nat} {w : World} (h : PowB base w) (hb : base ≤ base2) : PowB base2 w := ⟨h.1, Nat.lt_of_lt_of_le h.2 hb⟩
end Go.Proofs.YtkcgmimldjeaiaaDoor
