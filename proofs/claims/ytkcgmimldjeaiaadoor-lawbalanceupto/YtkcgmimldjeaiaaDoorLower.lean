/-
  ascii.Lower: its walk.
-/
import Derived.Test.YtkcgmimldjeaiaaDoorLexName
import Derived.Test.YtkcgmimldjeaiaaDoorOwn
import Derived.Laws.Tables
namespace Go.Proofs.YtkcgmimldjeaiaaDoor
open Go.RowKit Go.Lib Own

theorem ownsN_free {w : World} {e : TypeId} {g n cap : Nat} {xs : List Value} (h : ownsN w e g n cap xs) (j : Nat) (hj : j < n) : w.frozen? ⟨g, j, none⟩ = false := by
  obtain ⟨cur, fz, hg, hf, hn, _⟩ := h
  obtain ⟨lo, hi⟩ := fz
  unfold World.frozen?
  rw [hg]
  simp only
  rcases hf with hf | hf
  · have : ¬ lo ≤ j := by simp only at hf; omega
    simp [this]
  · cases hf
    simp
theorem ownsN_set {w : World} {e : TypeId} {g n cap : Nat} {xs : List Value} (h : ownsN w e g n cap xs) (j : Nat) (v : Value) : ownsN (w.setCell ⟨g, j, none⟩ v) e g n cap (xs.set j v) := by
  obtain ⟨cur, fz, hg, hf, hn, hm, hc, hl, ht⟩ := h
  refine ⟨cur.setIfInBounds j v, fz, ?_, hf, hn, hm, by simp [hc], by simp [hl], ?_⟩
  · rw [setCell_eq_setRow w g j cur e fz v hg]
    exact setRow_heap w g cur _ e fz hg
  · rw [Array.toList_setIfInBounds, List.take_set, ht]
theorem ownsN_text {W : World} {g n cap : Nat} {l : List UInt8} (h : ownsN W 5 g n cap (byteCells l)) : (convert 50 9 (.slice (some ⟨g, 0, none⟩) n cap)).run Tryd.prog W = .ok (.string ⟨l.toArray⟩) W := by
  have hl : l.length = n := by
    obtain ⟨cur, fz, _, _, _, _, _, hl, _⟩ := h
    rwa [byteCells_length] at hl
  subst hl
  exact run_convert_bytes_back W 50 9 5 ⟨g, 0, none⟩ cap l Tryd.underlying50 Tryd.underlying5 Tryd.underlying9 (fun j hj => by
    have hadd : (⟨g, 0, none⟩ : Addr).add j = ⟨g, j, none⟩ := by unfold Addr.add; split <;> simp_all
    rw [hadd, h.cell j (by omega)]
    simp [byteCells, hj])
theorem lowZ_C (c : UInt8) : lowZ (c.toNat : Int) = ((lowC c).toNat : Int) := by
  have := u8_all (p := fun c => decide (lowZ (c.toNat : Int) = ((lowC c).toNat : Int))) (by decide +kernel) c
  exact of_decide_eq_true this
theorem low_set (L : List UInt8) (k : Nat) (x : UInt8) (h : L[k]? = some x) : (byteCells ((L.take k).map lowC ++ L.drop k)).set k (.int .u8 ((lowC x).toNat : Int)) = byteCells ((L.take (k + 1)).map lowC ++ L.drop (k + 1)) := by
  obtain ⟨h1, h2⟩ := List.getElem?_eq_some_iff.1 h
  have hd := List.drop_eq_getElem_cons h1
  rw [h2] at hd
  have hk : ((L.take k).map lowC).length = k := by rw [List.length_map, List.length_take]; omega
  have hset : ((L.take k).map lowC ++ x :: L.drop (k + 1)).set k (lowC x) = (L.take (k + 1)).map lowC ++ L.drop (k + 1) := by
    rw [List.set_append, if_neg (by omega), hk, Nat.sub_self, List.set_cons_zero, List.take_add_one, h, List.map_append]
    simp
  unfold byteCells
  rw [hd, ← hset, List.map_set]
theorem low_get (L : List UInt8) (k : Nat) (x : UInt8) (h : L[k]? = some x) : (byteCells ((L.take k).map lowC ++ L.drop k))[k]? = some (.int .u8 (x.toNat : Int)) := by
  obtain ⟨h1, h2⟩ := List.getElem?_eq_some_iff.1 h
  have hk : ((L.take k).map lowC).length = k := by rw [List.length_map, List.length_take]; omega
  unfold byteCells
  rw [List.getElem?_map, List.getElem?_append_right (by omega), hk, Nat.sub_self, List.getElem?_drop, Nat.add_zero, h]
  rfl

set_option maxHeartbeats 1000000 in
set_option maxRecDepth 10000 in
theorem lower_any (s : ByteArray) (w : World) (hs : s.size ≤ 10000000) :
    Calls Tryd.prog 160 #[.string s] w fun e w' => e = .returned (.string ⟨(s.data.toList.map lowC).toArray⟩) ∧ Below w.heap.size w w' := by
  have hconv := Go.Lib.run_convert_string_bytes (P := Tryd.prog) w 9 50 5 s Tryd.underlying9 Tryd.underlying50 Tryd.underlying5
  have hown := ownsN_bytes w 5 s (by unfold maxLen; omega)
  have hbel : Below w.heap.size w (bytesWorld w 5 s) := ⟨rfl, rfl, rfl, by rw [bytesWorld_size]; omega, fun k hk => bytesWorld_at_old w _ s k hk⟩
  have hz := bytesWorld_size w 5 s
  generalize bytesWorld w 5 s = W0 at hconv hown hbel hz
  generalize grownCap w s.size 0 5 = cap at hconv hown
  change ownsN W0 5 w.heap.size s.size cap (byteCells s.data.toList) at hown
  have HO := hid hown
  clear hown
  go_enter Tryd.func160, Tryd.ntmps160
  go_wp2
  go_loopw [10] (fun iv wr => ∃ k : Nat, iv = .int .i64 k ∧ k ≤ s.size ∧ Below w.heap.size w wr ∧ Hid (ownsN wr 5 w.heap.size s.size cap (byteCells ((s.data.toList.take k).map lowC ++ s.data.toList.drop k)))) (fun iv _ => s.size - (RowKit.intOf iv).toNat)
  case atStart => exact ⟨0, rfl, Nat.zero_le _, hbel, HO.out⟩
  case round =>
    obtain ⟨k, rfl, hk, hbw, HA⟩ := hrel
    by_cases hp : k < s.size
    · obtain ⟨x, hx⟩ : ∃ x, s[k]'hp = x := ⟨_, rfl⟩
      have hl := getElem_list hp hx
      have hc := (HA.out.cell k hp).trans (low_get _ _ _ hl)
      have hfz := ownsN_free HA.out k hp
      have hset := ownsN_set HA.out k (.int .u8 ((lowC x).toNat : Int))
      rw [low_set _ _ _ hl] at hset
      have hlt := x.toNat_lt
      have hlow := fun W => low_any (x.toNat : Int) (by omega) (by omega) W
      rw [lowZ_C] at hlow
      have HL := hid hlow
      have HS := hid hset
      clear hlow hset hl hx HA
      go_wp2_with (go_at_call 176; refine (HL.out _).mono ?_; rintro e w' ⟨rfl, rfl⟩)
      go_roundw
      case rel => exact ⟨k + 1, rfl, by omega, hbw.setCell (Nat.le_refl _) _, HS.out⟩
      case measure => simp [RowKit.intOf]; omega
    · have hk1 : k = s.size := by omega
      subst hk1
      have ht := HA.out
      rw [size_eq, List.take_length, List.drop_length, List.append_nil, ← size_eq] at ht
      have hcv := ownsN_text ht
      clear ht HA
      go_wp2
      go_ret
      exact ⟨rfl, hbw⟩
end Go.Proofs.YtkcgmimldjeaiaaDoor
