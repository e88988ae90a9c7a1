/-
  Parts of the walk, joined: EndText, PutEv, EvGet, AppendTwo.
-/
import Derived.Deep.RegionLaw
import Derived.Deep.AppendLies
import Derived.Maps.AppendAt
import Derived.Laws.AppendOwnNone
import Derived.Test.YtcncbhbdpcpkeaaGreatDoorPJAA
import Derived.Test.YtcncbhbdpcpkeaaGreatDoorPJAG
import Derived.Test.YtcncbhbdpcpkeaaGreatDoorPJAF
/-
  The stream's endText where there is text: its walk.
-/
namespace Go.Proofs.YtcncbhbdpcpkeaaGreatDoor
open Go.RowKit Go.Lib Own

theorem info_event : (Tryz.prog.info? 60).map (fun i => (i.zero, i.size, i.bytes)) = some (some (.agg #[.int .i64 0, .string ⟨#[]⟩, .slice none 0 0, .string ⟨#[]⟩]), 4, 64) := by kernel_rfl
theorem evs_mono {W W' : World} {base : Nat} (hr : ∀ a n xs, W.ownsRow base 122 2 a n xs → W'.ownsRow base 122 2 a n xs) : ∀ (xs : List Value) (l : List Ev), EvsAt W base xs l → EvsAt W' base xs l
  | [], [], _ => trivial
  | k :: n :: a :: t :: r, e :: l, ⟨h1, h2⟩ => by
    refine ⟨?_, evs_mono hr r l h2⟩
    cases e with
    | text b => exact h1
    | start m at_ => exact ⟨h1.1, h1.2.1, hr _ _ _ h1.2.2.1, h1.2.2.2⟩
    | stop m => exact h1
  | [], _ :: _, h => h.elim
  | [_], _, h => by cases ‹List Ev› <;> exact h.elim
  | [_, _], _, h => by cases ‹List Ev› <;> exact h.elim
  | [_, _, _], _, h => by cases ‹List Ev› <;> exact h.elim
  | _ :: _ :: _ :: _ :: _, [], h => h.elim
theorem evs_snoc {W : World} {base : Nat} {b : List UInt8} : ∀ (xs : List Value) (l : List Ev), EvsAt W base xs l → EvsAt W base (xs ++ [.int .i64 3, .string ⟨#[]⟩, .slice none 0 0, strV b]) (l ++ [.text b])
  | [], [], _ => ⟨⟨rfl, rfl, rfl, rfl⟩, trivial⟩
  | k :: n :: a :: t :: r, e :: l, ⟨h1, h2⟩ => ⟨h1, evs_snoc r l h2⟩
  | [], _ :: _, h => h.elim
  | [_], _, h => by cases ‹List Ev› <;> exact h.elim
  | [_, _], _, h => by cases ‹List Ev› <;> exact h.elim
  | [_, _, _], _, h => by cases ‹List Ev› <;> exact h.elim
  | _ :: _ :: _ :: _ :: _, [], h => h.elim
/-- blocks that are not the stream's stay what they are -/
def KeepF (w w' : World) (b o : Nat) (cs : Array Value) : Prop := ∀ ev v, cs[o]? = some ev → cs[o + 2]? = some v → ∀ k, k < w.heap.size → k ≠ b → ev.ownBlock ≠ some k → v.ownBlock ≠ some k → w'.heap[k]? = w.heap[k]?
set_option maxHeartbeats 1000000 in
theorem endText_none (base b o : Nat) (cs : Array Value) (T : TypeId) (evs : List Ev) (w : World) (h : StreamAt w base b o cs T evs []) :
    Calls Tryz.prog 64 #[.pointer (some ⟨b, o, none⟩)] w fun e w' => e = .returned (.tuple #[]) ∧ w' = w := by
  obtain ⟨ev, p, v, xs, hev, hin, hrow, hevs, _⟩ := h.it
  have hlen0 : Calls Tryz.prog 83 #[.pointer (some ⟨b, o + 1, none⟩)] w fun e w' => e = .returned (.int .i64 0) ∧ w' = w := len_in base b (o + 1) cs T p v [] w hin
  have HL := hid hlen0
  clear hlen0 hin hrow hevs h
  go_enter Tryz.func64, Tryz.ntmps64
  go_wp2_with (go_at_call 83; refine HL.out.mono ?_; rintro e w1 ⟨rfl, rfl⟩)
  refine bodyPost_ret (v := .tuple #[]) ?_ rfl ⟨rfl, rfl⟩
  simp [results, Tryz.results64]
end Go.Proofs.YtcncbhbdpcpkeaaGreatDoor

/-
  The stream's Put: its walk.
-/
namespace Go.Proofs.YtcncbhbdpcpkeaaGreatDoor
open Go.RowKit Go.Lib Own

theorem evs_snoc2 {W : World} {base : Nat} {k n a t : Value} {e : Ev} : ∀ (xs : List Value) (l : List Ev), EvsAt W base xs l → EvsAt W base [k, n, a, t] [e] → EvsAt W base (xs ++ [k, n, a, t]) (l ++ [e])
  | [], [], _, h => h
  | k' :: n' :: a' :: t' :: r, e' :: l, ⟨h1, h2⟩, h => ⟨h1, evs_snoc2 r l h2 h⟩
  | [], _ :: _, h, _ => h.elim
  | [_], _, h, _ => by cases ‹List Ev› <;> exact h.elim
  | [_, _], _, h, _ => by cases ‹List Ev› <;> exact h.elim
  | [_, _, _], _, h, _ => by cases ‹List Ev› <;> exact h.elim
  | _ :: _ :: _ :: _ :: _, [], h, _ => h.elim
theorem StreamX.below {W W' : World} {base b o : Nat} {cs : Array Value} {T : TypeId} {evs : List Ev} {pend : List UInt8} {xs : List Value} (h : StreamX W base b o cs T evs pend xs) (hb : Below W.heap.size W W') : StreamX W' base b o cs T evs pend xs := by
  obtain ⟨ev, p, v, hev, hin, hrow, hevs, hap⟩ := h.itx
  have hg : W.grownBy W' none := ⟨hb.os, hb.tape, hb.output, hb.size, fun k hk _ => hb.block k hk⟩
  exact ⟨ev, p, v, hev, ⟨(hb.block b (Array.getElem?_eq_some_iff.1 hin.at_).1).trans hin.at_, hin.lo, hin.cp, hin.cv, hin.hp, hin.own.kept hg (by cases hv : v.ownBlock <;> simp), hin.ne⟩, hrow.kept hg (Classical.em _), evs_mono (fun a n ys hr => hr.kept hg (Classical.em _)) xs evs hevs, hap⟩
theorem StreamX.new {W : World} {base b o g : Nat} {cs : Array Value} {T : TypeId} {evs : List Ev} {pend : List UInt8} {xs : List Value} (h : StreamX W base b o cs T evs pend xs) (hg : W.heap.size ≤ g) : NotIn g xs := by
  obtain ⟨ev, p, v, hev, hin, hrow, hevs, hap⟩ := h.itx
  exact notIn_new hg xs evs hevs
theorem StreamAt.alloc {W : World} {base b o : Nat} {cs : Array Value} {T : TypeId} {evs : List Ev} {pend : List UInt8} (h : StreamAt W base b o cs T evs pend) (X : Obj) : StreamAt (W.alloc X) base b o cs T evs pend := by
  obtain ⟨ev, p, v, xs, hev, hin, hrow, hevs, hap⟩ := h.it
  refine ⟨ev, p, v, xs, hev, ⟨(alloc_old _ _ b (Array.getElem?_eq_some_iff.1 hin.at_).1).trans hin.at_, hin.lo, hin.cp, hin.cv, hin.hp, ?_, hin.ne⟩, hrow.alloc _, evs_mono (fun a n ys hr => hr.alloc _) xs evs hevs, hap⟩
  exact hin.own.kept (World.grownBy_alloc W X none) (by cases hv : v.ownBlock <;> simp)

theorem rowF_ne {W : World} {base : Nat} {e2 : TypeId} {z2 n1 n2 : Nat} {v1 v2 : Value} {xs1 xs2 : List Value} (h1 : W.ownsRowF base 5 1 v1 n1 xs1) (h2 : W.ownsRow base e2 z2 v2 n2 xs2) (hne : e2 ≠ 5) : v1.ownBlock = none ∨ v1.ownBlock ≠ v2.ownBlock := by
  rcases h1.2 with ⟨rfl, _⟩ | ⟨g, cap, cur, fz, rfl, _, hg, _⟩
  · exact .inl rfl
  · refine .inr (fun h3 => ?_)
    rcases h2.2 with ⟨rfl, _⟩ | ⟨g2, cap2, cur2, rfl, _, hg2, _⟩
    · cases h3
    · simp only [Value.ownBlock, Option.some.injEq] at h3
      subst h3
      rw [hg] at hg2
      simp only [Option.some.injEq, Obj.cells.injEq] at hg2
      exact hne hg2.2.1.symm
end Go.Proofs.YtcncbhbdpcpkeaaGreatDoor

/-
  The cells of one event among a list's.
-/
namespace Go.Proofs.YtcncbhbdpcpkeaaGreatDoor
open Go.RowKit Go.Lib Own

def evK : Ev → Nat
  | .text _ => 3
  | .start _ _ => 1
  | .stop _ => 2
def evN : Ev → List UInt8
  | .text _ => []
  | .start n _ => n
  | .stop n => n
def evA : Ev → List (List UInt8 × List UInt8)
  | .start _ a => a
  | _ => []
def evT : Ev → List UInt8
  | .text b => b
  | _ => []
theorem evs_get {W : World} {base : Nat} : ∀ (xs : List Value) (l : List Ev) (k : Nat) (e : Ev), EvsAt W base xs l → l[k]? = some e →
    ∃ a, xs[k * 4]? = some (.int .i64 (evK e : Nat)) ∧ xs[k * 4 + 1]? = some (strV (evN e)) ∧ xs[k * 4 + 2]? = some a ∧ xs[k * 4 + 3]? = some (strV (evT e)) ∧ W.ownsRow base 122 2 a (evA e).length (attrsV (evA e)) ∧ EvsAt W base [.int .i64 (evK e : Nat), strV (evN e), a, strV (evT e)] [e]
  | [], [], k, e, _, h => by simp at h
  | k' :: n :: a :: t :: r, e' :: l, 0, e, ⟨h1, h2⟩, h => by
    simp only [List.getElem?_cons_zero, Option.some.injEq] at h
    subst h
    cases e' with
    | text b =>
      obtain ⟨rfl, rfl, rfl, rfl⟩ := h1
      exact ⟨_, rfl, rfl, rfl, rfl, World.ownsRow_nil _ _ _ _, ⟨⟨rfl, rfl, rfl, rfl⟩, trivial⟩⟩
    | start m at_ =>
      obtain ⟨rfl, rfl, h3, rfl⟩ := h1
      exact ⟨_, rfl, rfl, rfl, rfl, h3, ⟨⟨rfl, rfl, h3, rfl⟩, trivial⟩⟩
    | stop m =>
      obtain ⟨rfl, rfl, rfl, rfl⟩ := h1
      exact ⟨_, rfl, rfl, rfl, rfl, World.ownsRow_nil _ _ _ _, ⟨⟨rfl, rfl, rfl, rfl⟩, trivial⟩⟩
  | k' :: n :: a :: t :: r, e' :: l, k + 1, e, ⟨h1, h2⟩, h => by
    rw [List.getElem?_cons_succ] at h
    obtain ⟨a', g1, g2, g3, g4, g5⟩ := evs_get r l k e h2 h
    refine ⟨a', ?_, ?_, ?_, ?_, g5⟩
    · rw [show (k + 1) * 4 = k * 4 + 4 by omega]; exact g1
    · rw [show (k + 1) * 4 + 1 = k * 4 + 1 + 4 by omega]; exact g2
    · rw [show (k + 1) * 4 + 2 = k * 4 + 2 + 4 by omega]; exact g3
    · rw [show (k + 1) * 4 + 3 = k * 4 + 3 + 4 by omega]; exact g4
  | [], _ :: _, _, _, h, _ => h.elim
  | [_], _, _, _, h, _ => by cases ‹List Ev› <;> exact h.elim
  | [_, _], _, _, _, h, _ => by cases ‹List Ev› <;> exact h.elim
  | [_, _, _], _, _, _, h, _ => by cases ‹List Ev› <;> exact h.elim
  | _ :: _ :: _ :: _ :: _, [], _, _, h, _ => h.elim
theorem evs_len {W : World} {base : Nat} : ∀ (xs : List Value) (l : List Ev), EvsAt W base xs l → xs.length = l.length * 4
  | [], [], _ => rfl
  | k' :: n :: a :: t :: r, e' :: l, ⟨h1, h2⟩ => by
    have := evs_len r l h2
    simp only [List.length_cons]
    omega
  | [], _ :: _, h => h.elim
  | [_], _, h => by cases ‹List Ev› <;> exact h.elim
  | [_, _], _, h => by cases ‹List Ev› <;> exact h.elim
  | [_, _, _], _, h => by cases ‹List Ev› <;> exact h.elim
  | _ :: _ :: _ :: _ :: _, [], h => h.elim
end Go.Proofs.YtcncbhbdpcpkeaaGreatDoor

/-
  Appending to a row that a call owns: where it grows into a new block, the old blocks stay as they were.
-/
namespace Go.Proofs.YtcncbhbdpcpkeaaGreatDoor
open Go.RowKit Go.Lib

theorem ok_inj {P : Program} {m : Sem Value} {w : World} {v v' : Value} {w1 w2 : World} (h : m.run P w = .ok v w1) (h' : m.run P w = .ok v' w2) : v = v' ∧ w1 = w2 := by
  rw [h] at h'
  cases h'
  exact ⟨rfl, rfl⟩
theorem run_append_two {P : Program} (w : World) (t ty : TypeId) (base : Nat) (e : TypeId) (i : TypeInfo) (z : Value) (size bytes : Nat) (ht : P.underlying t = some (.slice e)) (hi : P.info? e = some i) (hz : i.zero = some z)
    (hsize : i.size = size) (hby : i.bytes = bytes) (hzs : z.cells.size = size) (hsz : 0 < size)
    (v : Value) (n : Nat) (xs : List Value) (hown : w.ownsRow base e size v n xs)
    (ad : Addr) (m c : Nat) (news : List Value) (hl : news.length = m * size) (hnews : ∀ j u, news[j]? = some u → w.cell? (ad.add j) = some u) (h1 : ∀ u ∈ news, u.oneCell' = true)
    (hm : 0 < m) (h63 : n + m ≤ maxLen) (hbytes : (n + m) * bytes ≤ 140737488355328) (hbase : base ≤ w.heap.size) :
    ∃ g cap w', (Builtin.append_ #[t, t] ty #[v, .slice (some ad) m c]).run P w = .ok (.slice (some ⟨g, 0, none⟩) (n + m) cap) w' ∧ w'.ownsRow base e size (.slice (some ⟨g, 0, none⟩) (n + m) cap) (n + m) (xs ++ news) ∧ w.grownBy w' v.ownBlock ∧
      (v.ownBlock = some g ∨ g = w.heap.size ∧ ∀ k, k < w.heap.size → w'.heap[k]? = w.heap[k]?) := by
  obtain ⟨v', w', hr, h2, h3, _, _⟩ := run_append_own_at (P := P) w base t ty e i z size bytes ht hi hz hsize hby hzs hsz v n xs hown ad m c news hl hnews h1 h63 hbytes hbase
  have hsmall : n + m ≤ 9223372036854775807 := by simp only [maxLen] at h63; omega
  have hold : ∀ (o : Obj) (k : Nat), k < w.heap.size → (w.drew.alloc o).heap[k]? = w.heap[k]? := fun o k hk => Go.Lib.alloc_old w.drew o k hk
  subst hsize hby
  rcases hown.2 with ⟨rfl, rfl⟩ | ⟨g, cap, cur, rfl, hbg, hg, hnc, hcm, hcs, htake⟩
  · have hr2 := run_append_nil (P := P) w t ty e i z ht hi hz ad m c news hl hnews (by omega) (by omega) (by have hb := hbytes; simp only [Nat.zero_add] at hb; omega)
    obtain ⟨rfl, rfl⟩ := ok_inj hr hr2
    rw [Nat.zero_add] at h2 ⊢
    exact ⟨_, _, _, hr2, h2, h3, .inr ⟨rfl, hold _⟩⟩
  · by_cases hroom : n + m ≤ cap
    · obtain ⟨w2, hr2, _⟩ := run_append_fits (P := P) w base t ty e i i.size ht hi rfl g n cap xs hown ad m c news hl hnews h1 hroom
      obtain ⟨rfl, rfl⟩ := ok_inj hr hr2
      exact ⟨_, _, _, hr2, h2, h3, .inl rfl⟩
    · have holds : ∀ j u, xs[j]? = some u → w.cell? ((⟨g, 0, none⟩ : Addr).add j) = some u := hown.cells (g := g) rfl
      have hr2 := run_append_grow (P := P) w t ty e i z ht hi hz ⟨g, 0, none⟩ n cap xs hown.1 holds ad m c news hl hnews (by omega) (by omega) (growslice_fits (by omega) hbytes)
      obtain ⟨rfl, rfl⟩ := ok_inj hr hr2
      exact ⟨_, _, _, hr2, h2, h3, .inr ⟨rfl, hold _⟩⟩
theorem wpList_append_two {P : Program} (w : World) {ops : Array Oper} {rest : List Oper} {o : Oper} {a : Act} {Q : Exit → Act → World → Prop} (hgd : o.guard = none) (s x : Operand) (t : TypeId)
    (ho : o.op = .call { callee := .builtin .append, args := #[s, x], argTypes := #[t, t] })
    (base : Nat) (e : TypeId) (i : TypeInfo) (z : Value) (size bytes : Nat) (ht : P.underlying t = some (.slice e)) (hi : P.info? e = some i) (hz : i.zero = some z)
    (hsize : i.size = size) (hby : i.bytes = bytes) (hzs : z.cells.size = size) (hsz : 0 < size)
    (v : Value) (n : Nat) (xs : List Value) (hs : a.eval s = v) (hown : w.ownsRow base e size v n xs)
    (ad : Addr) (m c : Nat) (news : List Value) (hx : a.eval x = .slice (some ad) m c) (hl : news.length = m * size) (hnews : ∀ j u, news[j]? = some u → w.cell? (ad.add j) = some u) (h1 : ∀ u ∈ news, u.oneCell' = true)
    (hm : 0 < m) (h63 : n + m ≤ maxLen) (hbytes : (n + m) * bytes ≤ 140737488355328) (hbase : base ≤ w.heap.size)
    (h : ∀ g cap w', w'.ownsRow base e size (.slice (some ⟨g, 0, none⟩) (n + m) cap) (n + m) (xs ++ news) → w.grownBy w' v.ownBlock → (v.ownBlock = some g ∨ g = w.heap.size ∧ ∀ k, k < w.heap.size → w'.heap[k]? = w.heap[k]?) → wpList P ops Q rest (a.put o.dst (.slice (some ⟨g, 0, none⟩) (n + m) cap)) w') :
    wpList P ops Q (o :: rest) a w := by
  refine wpList_plain hgd fun K hK => ?_
  obtain ⟨g, cap, w', hr, h2, h3, h4⟩ := run_append_two (P := P) w t o.type base e i z size bytes ht hi hz hsize hby hzs hsz v n xs hown ad m c news hl hnews h1 hm h63 hbytes hbase
  unfold Oper.wp execOp
  simp only [ho, resolve, invoke, builtin, Sem.run_bind, Sem.run_pure, Result.andThen_ok, List.map_toArray, List.map_cons, List.map_nil, hs, hx, hr]
  exact hK _ _ (h g cap w' h2 h3 h4)
end Go.Proofs.YtcncbhbdpcpkeaaGreatDoor
