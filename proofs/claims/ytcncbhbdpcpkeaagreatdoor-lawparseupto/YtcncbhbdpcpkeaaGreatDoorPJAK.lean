/-
  Parts of the walk, joined: AppendTwo, ApartA, ApartB, RefWrB.
-/
import Derived.Maps.AppendAt
import Derived.Laws.AppendOwnNone
import Derived.Laws.Tables
import Derived.BigQuiet
import Derived.Lib.Index
import Derived.Lib.Strings
import Derived.Test.YtcncbhbdpcpkeaaGreatDoorShelf
import Derived.Test.YtcncbhbdpcpkeaaGreatDoorPJAG
import Derived.Test.YtcncbhbdpcpkeaaGreatDoorPJAI
import Derived.Test.YtcncbhbdpcpkeaaGreatDoorPJAA
import Derived.Test.YtcncbhbdpcpkeaaGreatDoorPJAF
import Derived.Test.YtcncbhbdpcpkeaaGreatDoorPJAB
import Derived.Test.YtcncbhbdpcpkeaaGreatDoorPJAJ
/-
  Appending to a row that a call owns: where it grows into a new block, the old blocks stay as they were.
-/
namespace Go.Proofs.YtcncbhbdpcpkeaaGreatDoor
open Go.RowKit Go.Lib

theorem ok_inj {P : Program} {m : Sem Value} {w : World} {v v' : Value} {w1 w2 : World} (h : m.run P w = .ok v w1) (h' : m.run P w = .ok v' w2) : v = v' ∧ w1 = w2 := by
  rw [h] at h'
  cases h'
  exact ⟨rfl, rfl⟩
theorem run_append_two {P : Program} (w : World) (t ty : TypeId) (base : Nat) (e : TypeId) (i : TypeInfo) (z : Value) (size bytes : Nat) (ht : P.underlying t = some (.slice e)) (hi : P.info? e = some i) (hz : i.zero = some z)
    (hsize : i.size = size) (hby : i.bytes = bytes) (hzs : z.cells.size = size) (hsz : 0 < size)
    (v : Value) (n : Nat) (xs : List Value) (hown : w.ownsRow base e size v n xs)
    (ad : Addr) (m c : Nat) (news : List Value) (hl : news.length = m * size) (hnews : ∀ j u, news[j]? = some u → w.cell? (ad.add j) = some u) (h1 : ∀ u ∈ news, u.oneCell' = true)
    (hm : 0 < m) (h63 : n + m ≤ maxLen) (hbytes : (n + m) * bytes ≤ 140737488355328) (hbase : base ≤ w.heap.size) :
    ∃ g cap w', (Builtin.append_ #[t, t] ty #[v, .slice (some ad) m c]).run P w = .ok (.slice (some ⟨g, 0, none⟩) (n + m) cap) w' ∧ w'.ownsRow base e size (.slice (some ⟨g, 0, none⟩) (n + m) cap) (n + m) (xs ++ news) ∧ w.grownBy w' v.ownBlock ∧
      (v.ownBlock = some g ∨ g = w.heap.size ∧ ∀ k, k < w.heap.size → w'.heap[k]? = w.heap[k]?) := by
  obtain ⟨v', w', hr, h2, h3, _, _⟩ := run_append_own_at (P := P) w base t ty e i z size bytes ht hi hz hsize hby hzs hsz v n xs hown ad m c news hl hnews h1 h63 hbytes hbase
  have hsmall : n + m ≤ 9223372036854775807 := by simp only [maxLen] at h63; omega
  have hold : ∀ (o : Obj) (k : Nat), k < w.heap.size → (w.drew.alloc o).heap[k]? = w.heap[k]? := fun o k hk => Go.Lib.alloc_old w.drew o k hk
  subst hsize hby
  rcases hown.2 with ⟨rfl, rfl⟩ | ⟨g, cap, cur, rfl, hbg, hg, hnc, hcm, hcs, htake⟩
  · have hr2 := run_append_nil (P := P) w t ty e i z ht hi hz ad m c news hl hnews (by omega) (by omega) (by have hb := hbytes; simp only [Nat.zero_add] at hb; omega)
    obtain ⟨rfl, rfl⟩ := ok_inj hr hr2
    rw [Nat.zero_add] at h2 ⊢
    exact ⟨_, _, _, hr2, h2, h3, .inr ⟨rfl, hold _⟩⟩
  · by_cases hroom : n + m ≤ cap
    · obtain ⟨w2, hr2, _⟩ := run_append_fits (P := P) w base t ty e i i.size ht hi rfl g n cap xs hown ad m c news hl hnews h1 hroom
      obtain ⟨rfl, rfl⟩ := ok_inj hr hr2
      exact ⟨_, _, _, hr2, h2, h3, .inl rfl⟩
    · have holds : ∀ j u, xs[j]? = some u → w.cell? ((⟨g, 0, none⟩ : Addr).add j) = some u := hown.cells (g := g) rfl
      have hr2 := run_append_grow (P := P) w t ty e i z ht hi hz ⟨g, 0, none⟩ n cap xs hown.1 holds ad m c news hl hnews (by omega) (by omega) (growslice_fits (by omega) hbytes)
      obtain ⟨rfl, rfl⟩ := ok_inj hr hr2
      exact ⟨_, _, _, hr2, h2, h3, .inr ⟨rfl, hold _⟩⟩
theorem wpList_append_two {P : Program} (w : World) {ops : Array Oper} {rest : List Oper} {o : Oper} {a : Act} {Q : Exit → Act → World → Prop} (hgd : o.guard = none) (s x : Operand) (t : TypeId)
    (ho : o.op = .call { callee := .builtin .append, args := #[s, x], argTypes := #[t, t] })
    (base : Nat) (e : TypeId) (i : TypeInfo) (z : Value) (size bytes : Nat) (ht : P.underlying t = some (.slice e)) (hi : P.info? e = some i) (hz : i.zero = some z)
    (hsize : i.size = size) (hby : i.bytes = bytes) (hzs : z.cells.size = size) (hsz : 0 < size)
    (v : Value) (n : Nat) (xs : List Value) (hs : a.eval s = v) (hown : w.ownsRow base e size v n xs)
    (ad : Addr) (m c : Nat) (news : List Value) (hx : a.eval x = .slice (some ad) m c) (hl : news.length = m * size) (hnews : ∀ j u, news[j]? = some u → w.cell? (ad.add j) = some u) (h1 : ∀ u ∈ news, u.oneCell' = true)
    (hm : 0 < m) (h63 : n + m ≤ maxLen) (hbytes : (n + m) * bytes ≤ 140737488355328) (hbase : base ≤ w.heap.size)
    (h : ∀ g cap w', w'.ownsRow base e size (.slice (some ⟨g, 0, none⟩) (n + m) cap) (n + m) (xs ++ news) → w.grownBy w' v.ownBlock → (v.ownBlock = some g ∨ g = w.heap.size ∧ ∀ k, k < w.heap.size → w'.heap[k]? = w.heap[k]?) → wpList P ops Q rest (a.put o.dst (.slice (some ⟨g, 0, none⟩) (n + m) cap)) w') :
    wpList P ops Q (o :: rest) a w := by
  refine wpList_plain hgd fun K hK => ?_
  obtain ⟨g, cap, w', hr, h2, h3, h4⟩ := run_append_two (P := P) w t o.type base e i z size bytes ht hi hz hsize hby hzs hsz v n xs hown ad m c news hl hnews h1 hm h63 hbytes hbase
  unfold Oper.wp execOp
  simp only [ho, resolve, invoke, builtin, Sem.run_bind, Sem.run_pure, Result.andThen_ok, List.map_toArray, List.map_cons, List.map_nil, hs, hx, hr]
  exact hK _ _ (h g cap w' h2 h3 h4)
end Go.Proofs.YtcncbhbdpcpkeaaGreatDoor

/-
  The statements' appended and allNamed: their walks.
-/
namespace Go.Proofs.YtcncbhbdpcpkeaaGreatDoor
open Go.RowKit Go.Lib Own

/-- attributes of one name -/
def namedV (nm : ByteArray) (ws : List ByteArray) : List Value := ws.flatMap fun x => [.string nm, .string x]
theorem namedV_len (nm : ByteArray) : ∀ ws : List ByteArray, (namedV nm ws).length = ws.length * 2
  | [] => rfl
  | x :: ws => by
    have := namedV_len nm ws
    unfold namedV at this ⊢
    simp only [List.flatMap_cons, List.length_append, List.length_cons, List.length_nil, this]
    omega
theorem namedV_app (nm : ByteArray) (a b : List ByteArray) : namedV nm (a ++ b) = namedV nm a ++ namedV nm b := by
  unfold namedV
  rw [List.flatMap_append]
theorem namedV_at (nm : ByteArray) : ∀ (ws : List ByteArray) (j : Nat), j < ws.length → (namedV nm ws)[j * 2]? = some (.string nm)
  | [], j, h => by simp at h
  | x :: ws, 0, _ => rfl
  | x :: ws, j + 1, h => by
    have := namedV_at nm ws j (by simpa using h)
    rw [show (j + 1) * 2 = j * 2 + 1 + 1 by omega]
    exact this
/-- a list of attributes that can be read, all of one name -/
def NamedR (W : World) (v : Value) (n : Nat) (nm : ByteArray) : Prop := n ≤ 9223372036854775807 ∧ ∃ p c, v = .slice p n c ∧ ∀ j, j < n → ∃ g, p = some ⟨g, 0, none⟩ ∧ W.cell? ⟨g, j * 2, none⟩ = some (.string nm) ∧ ∃ cs, W.heap[g]? = some (.cells cs 122 (0, 0))
theorem NamedR.of {W : World} {base n : Nat} {v : Value} {nm : ByteArray} {ws : List ByteArray} (h : W.ownsRow base 122 2 v n (namedV nm ws)) : NamedR W v n nm := by
  have hl : ws.length = n := by have := h.1; rw [namedV_len] at this; omega
  refine ⟨row_max h, ?_⟩
  obtain ⟨p, c, rfl⟩ := row_shape h
  refine ⟨p, c, rfl, fun j hj => ?_⟩
  obtain ⟨g, cap, e, _, _, hc⟩ := row_at h (by omega)
  cases e
  refine ⟨g, rfl, (hc _ (by omega)).trans (namedV_at nm ws j (by omega)), ?_⟩
  rcases h.2 with ⟨e2, _⟩ | ⟨g2, cap2, cur, e2, _, hh, _⟩
  · cases e2
  · cases e2
    exact ⟨cur, hh⟩
theorem NamedR.kept {W W' : World} {n : Nat} {v : Value} {nm : ByteArray} (h : NamedR W v n nm) (hk : 0 < n → ∀ k, v.ownBlock = some k → W'.heap[k]? = W.heap[k]?) : NamedR W' v n nm := by
  obtain ⟨h0, p, c, rfl, h1⟩ := h
  refine ⟨h0, p, c, rfl, fun j hj => ?_⟩
  obtain ⟨g, rfl, h2, cs, h3⟩ := h1 j hj
  have := hk (by omega) g rfl
  refine ⟨g, rfl, ?_, cs, by rw [this]; exact h3⟩
  unfold World.cell? at h2 ⊢
  rw [this]
  exact h2
theorem NamedR.own {W : World} {n : Nat} {v : Value} {nm : ByteArray} (h : NamedR W v n nm) (hn : 0 < n) : ∃ g, v.ownBlock = some g ∧ g < W.heap.size := by
  obtain ⟨h0, p, c, rfl, h1⟩ := h
  obtain ⟨g, rfl, h2, _⟩ := h1 0 hn
  exact ⟨g, rfl, cell_block h2⟩

set_option maxHeartbeats 2000000 in
set_option maxRecDepth 10000 in
theorem allNamed_any (v : Value) (n : Nat) (nm : ByteArray) (w : World) (h : NamedR w v n nm) :
    Calls Tryz.prog 120 #[v, .string nm] w fun e w' => e = .returned (.bool true) ∧ w' = w := by
  obtain ⟨h0, p, c, rfl, h1⟩ := h
  have H1 := hid h1
  clear h1
  go_enter Tryz.func120, Tryz.ntmps120
  go_wp2
  go_loopw [8] (fun iv wr => ∃ k : Nat, iv = .int .i64 k ∧ k ≤ n ∧ wr = w) (fun iv _ => n - (RowKit.intOf iv).toNat)
  case atStart => exact ⟨0, rfl, Nat.zero_le _, rfl⟩
  case round =>
    obtain ⟨k, rfl, hk, rfl⟩ := hrel
    by_cases hkl : k < n
    · obtain ⟨g, rfl, hc, _⟩ := H1.out k hkl
      clear H1
      go_wp2
      go_roundw
      case rel => exact ⟨k + 1, rfl, by omega, by first | rfl | trivial⟩
      case measure => simp [RowKit.intOf]; omega
    · go_wp2
      go_ret
      exact ⟨rfl, by first | rfl | trivial⟩

/-- a list of words that came in -/
structure WordsAt (W : World) (base : Nat) (a : Option Addr) (ss : List ByteArray) : Prop where
  at_ : ∀ j, j < ss.length → ∃ b o, a = some ⟨b, o, none⟩ ∧ b < base ∧ W.cell? ⟨b, o + j, none⟩ = some (.string (ss.getD j ByteArray.empty))
theorem WordsAt.below {W W' : World} {base : Nat} {a : Option Addr} {ss : List ByteArray} (h : WordsAt W base a ss) (hb : Below base W W') : WordsAt W' base a ss :=
  ⟨fun j hj => by
    obtain ⟨b, o, h1, h2, h3⟩ := h.at_ j hj
    exact ⟨b, o, h1, h2, cell_low h3 hb h2⟩⟩
theorem WordsAt.up {W : World} {base base2 : Nat} {a : Option Addr} {ss : List ByteArray} (h : WordsAt W base a ss) (hb : base ≤ base2) : WordsAt W base2 a ss :=
  ⟨fun j hj => by
    obtain ⟨b, o, h1, h2, h3⟩ := h.at_ j hj
    exact ⟨b, o, h1, by omega, h3⟩⟩

/-- a list that grows out of another one -/
structure Grows (w wr : World) (base : Nat) (v : Value) (n : Nat) (nm : ByteArray) (cv : Value) (K : Nat) (ws : List ByteArray) : Prop where
  own : wr.ownsRow base 122 2 cv K (namedV nm ws)
  le : n ≤ K
  low : base ≤ w.heap.size
  size : w.heap.size ≤ wr.heap.size
  fr : ∀ k, k < w.heap.size → v.ownBlock ≠ some k → wr.heap[k]? = w.heap[k]?
  bl : cv.ownBlock = v.ownBlock ∨ ∀ g, cv.ownBlock = some g → w.heap.size ≤ g
  be : Below base w wr
  nr : NamedR wr v n nm
theorem Grows.next {w wr w2 : World} {base : Nat} {v cv : Value} {n K g cap : Nat} {nm x : ByteArray} {ws : List ByteArray} {X : Obj} (h : Grows w wr base v n nm cv K ws)
    (h2 : w2.ownsRow base 122 2 (.slice (some ⟨g, 0, none⟩) (K + 1) cap) (K + 1) (namedV nm ws ++ [.string nm, .string x])) (h3 : (wr.alloc X).grownBy w2 cv.ownBlock)
    (h4 : cv.ownBlock = some g ∨ g = wr.heap.size + 1 ∧ ∀ k, k < wr.heap.size + 1 → w2.heap[k]? = (wr.alloc X).heap[k]?) : Grows w w2 base v n nm (.slice (some ⟨g, 0, none⟩) (K + 1) cap) (K + 1) (ws ++ [x]) := by
  have hown2 : w2.ownsRow base 122 2 (.slice (some ⟨g, 0, none⟩) (K + 1) cap) (K + 1) (namedV nm (ws ++ [x])) := by rw [namedV_app]; exact h2
  have hsz1 : (wr.alloc X).heap.size = wr.heap.size + 1 := by simp
  have hold : ∀ k, k < wr.heap.size → (wr.alloc X).heap[k]? = wr.heap[k]? := fun k hk => Go.Lib.alloc_old wr X k hk
  have hbs := h.size
  have hb3 : Below base wr w2 := ((Below.refl base wr).alloc (Nat.le_trans h.low hbs) X).grown h3 (by rw [hsz1]; have := h.low; omega) (fun k hk => (h.own.lt k hk).1)
  refine ⟨hown2, by have := h.le; omega, h.low, Nat.le_trans hbs hb3.size, fun k hk hv => ?_, ?_, h.be.trans hb3, ?_⟩
  · have hcv : cv.ownBlock ≠ some k := by
      rcases h.bl with e | e
      · rw [e]; exact hv
      · intro e2
        have := e k e2
        omega
    rw [h3.block k (by omega) (fun e => hcv e.symm), hold k (by omega)]
    exact h.fr k hk hv
  · rcases h4 with e | ⟨e, _⟩
    · rcases h.bl with e2 | e2
      · left
        show some g = _
        rw [← e2, e]
      · right
        intro g' hg'
        exact e2 g' (by rw [e]; exact hg')
    · right
      intro g' hg'
      have : g = g' := Option.some.inj hg'
      omega
  · -- what stood there can be read still
    by_cases hn : n = 0
    · obtain ⟨h0, p, c, rfl, h1⟩ := h.nr
      exact ⟨h0, p, c, rfl, fun j hj => by omega⟩
    · obtain ⟨g0, hg0, hlt⟩ := h.nr.own (by omega)
      by_cases hc : cv.ownBlock = some g0
      · rcases h4 with e | ⟨e, hk⟩
        · have hgg : g = g0 := by rw [hc] at e; exact (Option.some.inj e).symm
          subst hgg
          obtain ⟨h0, p, c, rfl, h1⟩ := h.nr
          obtain ⟨_, p2, c2, e2, h5⟩ := NamedR.of hown2
          cases e2
          refine ⟨h0, p, c, rfl, fun j hj => ?_⟩
          obtain ⟨g1, rfl, _⟩ := h1 j hj
          obtain ⟨g2, e3, h6, cs, h7⟩ := h5 j (by have := h.le; omega)
          have e4 : g2 = g := by cases e3; rfl
          have e5 : g1 = g := Option.some.inj hg0
          exact ⟨g1, rfl, by rw [e5]; rw [e4] at h6; exact h6, cs, by rw [e5]; rw [e4] at h7; exact h7⟩
        · exact h.nr.kept (fun _ k hk2 => by
            have : k = g0 := by rw [hg0] at hk2; exact (Option.some.inj hk2).symm
            subst this
            rw [hk k (by omega), hold k hlt])
      · exact h.nr.kept (fun _ k hk2 => by
          have : k = g0 := by rw [hg0] at hk2; exact (Option.some.inj hk2).symm
          subst this
          rw [h3.block k (by omega) (fun e => hc e.symm), hold k hlt])
theorem Grows.start {w : World} {base : Nat} {v : Value} {n : Nat} {nm : ByteArray} {ws : List ByteArray} (h : w.ownsRow base 122 2 v n (namedV nm ws)) (hb : base ≤ w.heap.size) : Grows w w base v n nm v n ws :=
  ⟨h, Nat.le_refl _, hb, Nat.le_refl _, fun _ _ _ => rfl, .inl rfl, Below.refl _ _, NamedR.of h⟩

set_option maxHeartbeats 4000000 in
set_option maxRecDepth 100000 in
theorem appended_any (base : Nat) (v : Value) (n : Nat) (nm : ByteArray) (ws : List ByteArray) (a : Option Addr) (mc : Nat) (ss : List ByteArray) (w : World) (h : w.ownsRow base 122 2 v n (namedV nm ws)) (hb : base ≤ w.heap.size) (hn : n ≤ 100000000) (hs : ss.length ≤ 100000000) (hw : WordsAt w base a ss) :
    Calls Tryz.prog 119 #[v, .string nm, .slice a ss.length mc] w fun e w' => ∃ u ws2, e = .returned u ∧ Grows w w' base v n nm u (n + 1 + ss.length) ws2 := by
  obtain ⟨i0, hii, hz0, hz1, hz2⟩ := info_parts info_attr
  obtain ⟨p, c, rfl⟩ := row_shape h
  have HG0 := hid (Grows.start h hb)
  have HW := hid hw
  clear hw
  go_enter Tryz.func119, Tryz.ntmps119
  go_wp2_with (at_builtin; refine wpList_append_two _ rfl (.tmp 8) (.tmp 11) 36 rfl base 122 i0 (.agg #[.string ⟨#[]⟩, .string ⟨#[]⟩]) 2 32 Tryz.underlying36 hii hz0 hz1 hz2 rfl (by decide) _ _ _ rfl (h.alloc _) ⟨_, 0, none⟩ 1 1 [.string nm, .string ⟨#[]⟩] rfl rfl (cells_newV _ _ _) (by simp [Value.oneCell']) (by decide) (by unfold maxLen; omega) (by omega) (by simp; omega) ?_)
  intro g cap w2 hown2 hgrow htwo
  have HG1 := hid (HG0.out.next hown2 hgrow htwo)
  clear hown2 hgrow htwo HG0 h
  go_wp2
  go_loopw [0, 15] (fun cv iv wr => ∃ (k : Nat) (ws2 : List ByteArray), iv = .int .i64 k ∧ k ≤ ss.length ∧ Grows w wr base (.slice p n c) n nm cv (n + 1 + k) ws2) (fun _ iv _ => ss.length - (RowKit.intOf iv).toNat)
  case atStart => exact ⟨0, _, rfl, Nat.zero_le _, HG1.out⟩
  case round =>
    obtain ⟨k, ws2, rfl, hk, hG⟩ := hrel
    by_cases hkl : k < ss.length
    · obtain ⟨b, o, rfl, hb2, hc⟩ := HW.out.at_ k hkl
      have hc2 := cell_low hc hG.be hb2
      obtain ⟨x, hx⟩ : ∃ x, ss.getD k ByteArray.empty = x := ⟨_, rfl⟩
      rw [hx] at hc2
      clear hc hx
      have hsz := hG.size
      have HG2 := hid hG
      obtain ⟨cp, cc, rfl⟩ := row_shape hG.own
      go_wp2_with (at_builtin; refine wpList_append_two _ rfl (.tmp 18) (.tmp 25) 36 rfl base 122 i0 (.agg #[.string ⟨#[]⟩, .string ⟨#[]⟩]) 2 32 Tryz.underlying36 hii hz0 hz1 hz2 rfl (by decide) _ _ _ rfl (HG2.out.own.alloc _) ⟨_, 0, none⟩ 1 1 [.string nm, .string x] rfl rfl (cells_newV _ _ _) (by simp [Value.oneCell']) (by decide) (by unfold maxLen; omega) (by omega) (by simp; omega) ?_)
      intro g3 cap3 w3 hown3 hgrow3 htwo3
      have HG3 := hid (HG2.out.next hown3 hgrow3 htwo3)
      clear hown3 hgrow3 htwo3 HG2 hG
      go_wp2
      go_roundw
      case rel => first | exact ⟨k + 1, _, rfl, by omega, HG3.out⟩ | ((repeat apply Exists.intro); exact ⟨⟨k + 1, _, rfl, by omega, HG3.out⟩, rfl⟩)
      case measure => simp [RowKit.intOf]; omega
    · obtain rfl : k = ss.length := by omega
      go_wp2
      go_ret
      exact ⟨_, ws2, rfl, hG⟩
end Go.Proofs.YtcncbhbdpcpkeaaGreatDoor

/-
  The statements' apartLists: its walk.
-/
namespace Go.Proofs.YtcncbhbdpcpkeaaGreatDoor
open Go.RowKit Go.Lib Own

/-- every block that is no list of events, of attributes or of such lists stays -/
def KeepT (w W : World) : Prop := ∀ (b : Nat) (cs : Array Value) (T : TypeId), w.heap[b]? = some (.cells cs T (0, 0)) → T ≠ 60 → T ≠ 122 → T ≠ 36 → W.heap[b]? = some (.cells cs T (0, 0))
theorem KeepT.refl (w : World) : KeepT w w := fun _ _ _ h _ _ _ => h
theorem KeepT.trans {w1 w2 w3 : World} (h : KeepT w1 w2) (h2 : KeepT w2 w3) : KeepT w1 w3 := fun b cs T hb e1 e2 e3 => h2 b cs T (h b cs T hb e1 e2 e3) e1 e2 e3
theorem KeepT.below {w W : World} (h : Below w.heap.size w W) : KeepT w W := fun b _ _ hb _ _ _ => (h.block b (Array.getElem?_eq_some_iff.1 hb).1).trans hb
theorem KeepT.row {W W' : World} {base : Nat} {e : TypeId} {size n : Nat} {v : Value} {xs : List Value} (h : W.ownsRow base e size v n xs) (he : e = 60 ∨ e = 122 ∨ e = 36) (hk : ∀ k, k < W.heap.size → v.ownBlock ≠ some k → W'.heap[k]? = W.heap[k]?) : KeepT W W' :=
  fun b cs T hb e1 e2 e3 => (hk b (Array.getElem?_eq_some_iff.1 hb).1 (row_ne h hb (by
    rcases he with rfl | rfl | rfl
    · exact e1
    · exact e2
    · exact e3))).trans hb
theorem info_list : (Tryz.prog.info? 36).map (fun i => (i.zero, i.size, i.bytes)) = some (some (.slice none 0 0), 1, 24) := by kernel_rfl
/-- the name that the statement gives list k -/
def nmOf (k : Nat) : ByteArray := ⟨(Go.Lib.itoa (k : Int)).toArray⟩
/-- the library's table of powers, ahead of block 'base' -/
structure PowB (base : Nat) (w : World) : Prop where
  tab : Go.Lib.TabIs Tryz.prog w "internal/strconv.uint64pow10" .u64 Go.Lib.pow10Tab
  lt : 6 < base
theorem PowB.below {base : Nat} {w w' : World} (h : PowB base w) (hb : Below base w w') : PowB base w' := by
  refine ⟨?_, h.lt⟩
  have h1 := h.tab
  have hg : Tryz.prog.globalNamed "internal/strconv.uint64pow10" = some 6 := by kernel_rfl
  unfold Go.Lib.TabIs World.var? at h1 ⊢
  rw [hg] at h1 ⊢
  simp only [Option.bind_some] at h1 ⊢
  rw [hb.block _ h.lt]
  exact h1
theorem itoa_any (k : Nat) (hk : k ≤ 10000000) (base : Nat) (w : World) (h : PowB base w) :
    Calls Tryz.prog 118 #[.int .i64 k] w fun e w' => e = .returned (.string (nmOf k)) ∧ Below w.heap.size w w' := by
  refine (Tryz.strconv_Itoa (k : Int) (by omega) (by omega) w h.tab).mono ?_
  rintro e w' ⟨rfl, n, os, rfl⟩
  refine ⟨rfl, rfl, rfl, rfl, ?_, fun k hk => ?_⟩
  · show w.heap.size ≤ (w.heap ++ os).size
    rw [Array.size_append]; omega
  · show (w.heap ++ os)[k]? = w.heap[k]?
    rw [Array.getElem?_append_left hk]

theorem named_step {nm : ByteArray} {ws : List ByteArray} {y0 y1 : Value} {ys : List Value} : ((namedV nm ws ++ y0 :: y1 :: ys).set (ws.length * 2) (.string nm)).set (ws.length * 2 + 1) (.string ⟨#[]⟩) = namedV nm (ws ++ [⟨#[]⟩]) ++ ys := by
  have hl := namedV_len nm ws
  rw [List.set_append, if_neg (by omega), hl, Nat.sub_self, List.set_cons_zero, List.set_append, if_neg (by omega), hl, Nat.add_sub_cancel_left]
  show namedV nm ws ++ (.string nm :: .string ⟨#[]⟩ :: ys) = _
  rw [namedV_app]
  simp [namedV]
/-- the lists that are written over and appended to -/
structure Fam (W : World) (base : Nat) (vs : List Value) (ns : Nat → Nat) (i : Nat) : Prop where
  row : ∀ (k : Nat) (v : Value), vs[k]? = some v → (k < i → ∃ ws, W.ownsRow base 122 2 v (ns k) (namedV (nmOf k) ws)) ∧ ∃ ys, W.ownsRow base 122 2 v (ns k) ys
def Dist (vs : List Value) : Prop := ∀ (j k : Nat) (v u : Value), vs[j]? = some v → vs[k]? = some u → j ≠ k → ∀ g, v.ownBlock = some g → u.ownBlock ≠ some g

theorem NamedR.ne {W : World} {base n k : Nat} {v lgv : Value} {nm : ByteArray} {us : List Value} (h : NamedR W v n nm) (hn : 0 < n) (hl : W.ownsRow base 36 1 lgv k us) : ∀ g, v.ownBlock = some g → lgv.ownBlock ≠ some g := by
  obtain ⟨_, p, c, rfl, h1⟩ := h
  obtain ⟨g0, rfl, _, cs, h3⟩ := h1 0 hn
  intro g hg
  have : g0 = g := Option.some.inj hg
  subst this
  exact row_ne hl h3 (by decide)
theorem NamedR.below {W W' : World} {n : Nat} {v : Value} {nm : ByteArray} (h : NamedR W v n nm) (hb : Below W.heap.size W W') : NamedR W' v n nm :=
  h.kept (fun hn k hk => by
    obtain ⟨g, hg, hlt⟩ := h.own hn
    rw [hg] at hk
    cases hk
    exact hb.block _ hlt)
end Go.Proofs.YtcncbhbdpcpkeaaGreatDoor

/-
  The reference's opener, eats, feedAhead, Write, tagFits: their walks.
-/
namespace Go.Proofs.YtcncbhbdpcpkeaaGreatDoor
open Go.RowKit Go.Lib Own

theorem refEatsW_any (x : ByteArray) (w : World) : Calls Tryz.prog 94 #[.string x] w fun e w' => e = .returned (.bool (eatsL x.toList)) ∧ w' = w := by
  unfold eatsL
  by_cases h1 : (x.toList == [112, 114, 101]) = true
  · rw [h1, Bool.true_or]
    go_enter Tryz.func94, Tryz.ntmps94
    go_wp2
    go_ret
    exact ⟨rfl, rfl⟩
  · rw [Bool.not_eq_true] at h1
    rw [h1, Bool.false_or]
    obtain ⟨R, hR⟩ : ∃ R, (x.toList == [116, 101, 120, 116, 97, 114, 101, 97]) = R := ⟨_, rfl⟩
    rw [hR]
    go_enter Tryz.func94, Tryz.ntmps94
    go_wp2
    go_ret
    exact ⟨rfl, rfl⟩
/-! ## what comes next -/

end Go.Proofs.YtcncbhbdpcpkeaaGreatDoor
