/-
  Parts of the walk, joined: Own, Lex, LexEv, Lower.
-/
import Derived.Lib.BufferWrite
import Derived.Lib.ConvBytes
import Derived.BigQuiet
import Derived.Test.YtcncbhbdpcpkeaaGreatDoorShelf
import Derived.Deep.Cut
import Derived.Laws.Tables
import Derived.Test.YtcncbhbdpcpkeaaGreatDoorPJAF
import Derived.Test.YtcncbhbdpcpkeaaGreatDoorPJAB
import Derived.Test.YtcncbhbdpcpkeaaGreatDoorPJAA
/-
  Rows of bytes that a call owns: what appending and converting them takes.
-/
namespace Go.Proofs.YtcncbhbdpcpkeaaGreatDoor.Own
open Go.RowKit Go.Lib

theorem info_u8 : (Tryz.prog.info? 5).map (fun i => (i.zero, i.size, i.bytes)) = some (some (.int .u8 0), 1, 1) := by kernel_rfl
theorem nil_text (W : World) : (convert 65 9 (.slice none 0 0)).run Tryz.prog W = .ok (.string ⟨#[]⟩) W := by
  rw [run_convert_bytes_string W 65 9 5 none 0 0 Tryz.underlying65 Tryz.underlying5 Tryz.underlying9]
  rfl
/-- the text of bytes that the call owns -/
theorem own_text (W : World) (base : Nat) (v : Value) (l : List UInt8) (h : W.ownsRow base 5 1 v l.length (byteCells l)) :
    (convert 65 9 v).run Tryz.prog W = .ok (.string ⟨l.toArray⟩) W := by
  rcases h.2 with ⟨rfl, h0⟩ | ⟨g, cap, cur, rfl, _⟩
  · have : l = [] := List.eq_nil_of_length_eq_zero h0
    subst this
    exact nil_text W
  · exact run_convert_bytes_back W 65 9 5 ⟨g, 0, none⟩ cap l Tryz.underlying65 Tryz.underlying5 Tryz.underlying9 (fun j hj => by
      have hadd : (⟨g, 0, none⟩ : Addr).add j = ⟨g, j, none⟩ := by unfold Addr.add; split <;> simp_all
      rw [hadd, h.cellAt j (by omega)]
      simp [byteCells, hj])
theorem cells_len (L : List UInt8) : (byteCells L).length = L.length * 1 := by simp [byteCells]
theorem cells_new (L : List UInt8) (W : World) : ∀ j u, (byteCells L)[j]? = some u → (W.alloc (.cells (byteCells L).toArray 5)).cell? ((⟨W.heap.size, 0, none⟩ : Addr).add j) = some u := by
  intro j u hj
  have hadd : (⟨W.heap.size, 0, none⟩ : Addr).add j = ⟨W.heap.size, j, none⟩ := by unfold Addr.add; split <;> simp_all
  rw [hadd]
  have hb := heap_alloc_new W (.cells (byteCells L).toArray 5)
  unfold World.cell?
  rw [hb]
  simp [hj]
theorem own_cat {W : World} {base : Nat} {v : Value} {a L : List UInt8} (h : W.ownsRow base 5 1 v (a.length + L.length) (byteCells a ++ byteCells L)) : W.ownsRow base 5 1 v (a ++ L).length (byteCells (a ++ L)) := by
  rw [byteCells_append, List.length_append]; exact h
end Go.Proofs.YtcncbhbdpcpkeaaGreatDoor.Own

/-
  The lexer as a plain function on lists of bytes: a step, a run, and that a text may be cut anywhere. No program is named here.
-/
namespace Go.Proofs.YtcncbhbdpcpkeaaGreatDoor

def lowC (c : UInt8) : UInt8 := if 65 ≤ c.toNat ∧ c.toNat ≤ 90 then c + 32 else c
def eatsL (name : List UInt8) : Bool := name == [112, 114, 101] || name == [116, 101, 120, 116, 97, 114, 101, 97]

end Go.Proofs.YtcncbhbdpcpkeaaGreatDoor

/-
  The lexer's events as a plain list: texts that meet, joined; and what is told at the end of a text.
-/
namespace Go.Proofs.YtcncbhbdpcpkeaaGreatDoor

inductive Ev where
  | text (b : List UInt8)
  | start (name : List UInt8) (attrs : List (List UInt8 × List UInt8))
  | stop (name : List UInt8)
/-! ## the stream: events, and the text that was put behind the last of them -/

/-! ## what a run puts out is full -/

/-! ## the end of a text -/

end Go.Proofs.YtcncbhbdpcpkeaaGreatDoor

/-
  ascii.Lower: its walk.
-/
namespace Go.Proofs.YtcncbhbdpcpkeaaGreatDoor
open Go.RowKit Go.Lib Own

theorem ownsN_free {w : World} {e : TypeId} {g n cap : Nat} {xs : List Value} (h : ownsN w e g n cap xs) (j : Nat) (hj : j < n) : w.frozen? ⟨g, j, none⟩ = false := by
  obtain ⟨cur, fz, hg, hf, hn, _⟩ := h
  obtain ⟨lo, hi⟩ := fz
  unfold World.frozen?
  rw [hg]
  simp only
  rcases hf with hf | hf
  · have : ¬ lo ≤ j := by simp only at hf; omega
    simp [this]
  · cases hf
    simp
theorem ownsN_set {w : World} {e : TypeId} {g n cap : Nat} {xs : List Value} (h : ownsN w e g n cap xs) (j : Nat) (v : Value) : ownsN (w.setCell ⟨g, j, none⟩ v) e g n cap (xs.set j v) := by
  obtain ⟨cur, fz, hg, hf, hn, hm, hc, hl, ht⟩ := h
  refine ⟨cur.setIfInBounds j v, fz, ?_, hf, hn, hm, by simp [hc], by simp [hl], ?_⟩
  · rw [setCell_eq_setRow w g j cur e fz v hg]
    exact setRow_heap w g cur _ e fz hg
  · rw [Array.toList_setIfInBounds, List.take_set, ht]
theorem ownsN_text {W : World} {g n cap : Nat} {l : List UInt8} (h : ownsN W 5 g n cap (byteCells l)) : (convert 65 9 (.slice (some ⟨g, 0, none⟩) n cap)).run Tryz.prog W = .ok (.string ⟨l.toArray⟩) W := by
  have hl : l.length = n := by
    obtain ⟨cur, fz, _, _, _, _, _, hl, _⟩ := h
    rwa [byteCells_length] at hl
  subst hl
  exact run_convert_bytes_back W 65 9 5 ⟨g, 0, none⟩ cap l Tryz.underlying65 Tryz.underlying5 Tryz.underlying9 (fun j hj => by
    have hadd : (⟨g, 0, none⟩ : Addr).add j = ⟨g, j, none⟩ := by unfold Addr.add; split <;> simp_all
    rw [hadd, h.cell j (by omega)]
    simp [byteCells, hj])
theorem lowZ_C (c : UInt8) : lowZ (c.toNat : Int) = ((lowC c).toNat : Int) := by
  have := u8_all (p := fun c => decide (lowZ (c.toNat : Int) = ((lowC c).toNat : Int))) (by decide +kernel) c
  exact of_decide_eq_true this
theorem low_set (L : List UInt8) (k : Nat) (x : UInt8) (h : L[k]? = some x) : (byteCells ((L.take k).map lowC ++ L.drop k)).set k (.int .u8 ((lowC x).toNat : Int)) = byteCells ((L.take (k + 1)).map lowC ++ L.drop (k + 1)) := by
  obtain ⟨h1, h2⟩ := List.getElem?_eq_some_iff.1 h
  have hd := List.drop_eq_getElem_cons h1
  rw [h2] at hd
  have hk : ((L.take k).map lowC).length = k := by rw [List.length_map, List.length_take]; omega
  have hset : ((L.take k).map lowC ++ x :: L.drop (k + 1)).set k (lowC x) = (L.take (k + 1)).map lowC ++ L.drop (k + 1) := by
    rw [List.set_append, if_neg (by omega), hk, Nat.sub_self, List.set_cons_zero, List.take_add_one, h, List.map_append]
    simp
  unfold byteCells
  rw [hd, ← hset, List.map_set]
theorem low_get (L : List UInt8) (k : Nat) (x : UInt8) (h : L[k]? = some x) : (byteCells ((L.take k).map lowC ++ L.drop k))[k]? = some (.int .u8 (x.toNat : Int)) := by
  obtain ⟨h1, h2⟩ := List.getElem?_eq_some_iff.1 h
  have hk : ((L.take k).map lowC).length = k := by rw [List.length_map, List.length_take]; omega
  unfold byteCells
  rw [List.getElem?_map, List.getElem?_append_right (by omega), hk, Nat.sub_self, List.getElem?_drop, Nat.add_zero, h]
  rfl

set_option maxHeartbeats 1000000 in
set_option maxRecDepth 10000 in
theorem lower_any (s : ByteArray) (w : World) (hs : s.size ≤ 10000000) :
    Calls Tryz.prog 293 #[.string s] w fun e w' => e = .returned (.string ⟨(s.data.toList.map lowC).toArray⟩) ∧ Below w.heap.size w w' := by
  have hconv := Go.Lib.run_convert_string_bytes (P := Tryz.prog) w 9 65 5 s Tryz.underlying9 Tryz.underlying65 Tryz.underlying5
  have hown := ownsN_bytes w 5 s (by unfold maxLen; omega)
  have hbel : Below w.heap.size w (bytesWorld w 5 s) := ⟨rfl, rfl, rfl, by rw [bytesWorld_size]; omega, fun k hk => bytesWorld_at_old w _ s k hk⟩
  have hz := bytesWorld_size w 5 s
  generalize bytesWorld w 5 s = W0 at hconv hown hbel hz
  generalize grownCap w s.size 0 5 = cap at hconv hown
  change ownsN W0 5 w.heap.size s.size cap (byteCells s.data.toList) at hown
  have HO := hid hown
  clear hown
  go_enter Tryz.func293, Tryz.ntmps293
  go_wp2
  go_loopw [10] (fun iv wr => ∃ k : Nat, iv = .int .i64 k ∧ k ≤ s.size ∧ Below w.heap.size w wr ∧ Hid (ownsN wr 5 w.heap.size s.size cap (byteCells ((s.data.toList.take k).map lowC ++ s.data.toList.drop k)))) (fun iv _ => s.size - (RowKit.intOf iv).toNat)
  case atStart => exact ⟨0, rfl, Nat.zero_le _, hbel, HO.out⟩
  case round =>
    obtain ⟨k, rfl, hk, hbw, HA⟩ := hrel
    by_cases hp : k < s.size
    · obtain ⟨x, hx⟩ : ∃ x, s[k]'hp = x := ⟨_, rfl⟩
      have hl := getElem_list hp hx
      have hc := (HA.out.cell k hp).trans (low_get _ _ _ hl)
      have hfz := ownsN_free HA.out k hp
      have hset := ownsN_set HA.out k (.int .u8 ((lowC x).toNat : Int))
      rw [low_set _ _ _ hl] at hset
      have hlt := x.toNat_lt
      have hlow := fun W => low_any (x.toNat : Int) (by omega) (by omega) W
      rw [lowZ_C] at hlow
      have HL := hid hlow
      have HS := hid hset
      clear hlow hset hl hx HA
      go_wp2_with (go_at_call 295; refine (HL.out _).mono ?_; rintro e w' ⟨rfl, rfl⟩)
      go_roundw
      case rel => exact ⟨k + 1, rfl, by omega, hbw.setCell (Nat.le_refl _) _, HS.out⟩
      case measure => simp [RowKit.intOf]; omega
    · have hk1 : k = s.size := by omega
      subst hk1
      have ht := HA.out
      rw [size_eq, List.take_length, List.drop_length, List.append_nil, ← size_eq] at ht
      have hcv := ownsN_text ht
      clear ht HA
      go_wp2
      go_ret
      exact ⟨rfl, hbw⟩
end Go.Proofs.YtcncbhbdpcpkeaaGreatDoor
