/-
  lexer.tagAttrs: its walk.
-/
import Derived.Test.YtolbahmihkdmiaaDoorGen
import Derived.Test.YtolbahmihkdmiaaDoorTagName
import Derived.Test.YtolbahmihkdmiaaDoorUnref
namespace Go.Proofs.YtolbahmihkdmiaaDoor
open Go.RowKit Go.Lib Own

def attrsV (l : List (List UInt8 × List UInt8)) : List Value := l.flatMap fun a => [strV a.1, strV a.2]
theorem attrsV_len : ∀ l : List (List UInt8 × List UInt8), (attrsV l).length = l.length * 2
  | [] => rfl
  | a :: l => by
    have := attrsV_len l
    unfold attrsV at this ⊢
    simp only [List.flatMap_cons, List.length_append, List.length_cons, List.length_nil, this]
    omega
theorem attrsV_app (a b : List (List UInt8 × List UInt8)) : attrsV (a ++ b) = attrsV a ++ attrsV b := by
  unfold attrsV
  rw [List.flatMap_append]
theorem attrsV_set (ini : List (List UInt8 × List UInt8)) (a : List UInt8 × List UInt8) (u : List UInt8) : (attrsV (ini ++ [a])).set (ini.length * 2 + 1) (strV u) = attrsV (ini ++ [(a.1, u)]) := by
  rw [attrsV_app, attrsV_app, List.set_append, attrsV_len, if_neg (by omega), Nat.add_sub_cancel_left]
  rfl
theorem info_attr : (Tryd.prog.info? 59).map (fun i => (i.zero, i.size, i.bytes)) = some (some (.agg #[.string ⟨#[]⟩, .string ⟨#[]⟩]), 2, 32) := by kernel_rfl
theorem part_more (L : List UInt8) (f k : Nat) (x : UInt8) (hf : f ≤ k) (h : L[k]? = some x) : (L.take (k + 1)).drop f = (L.take k).drop f ++ [x] := by
  have h1 := (List.getElem?_eq_some_iff.1 h).1
  rw [List.take_add_one, h, List.drop_append_of_le_length (by rw [List.length_take]; omega)]
  rfl
theorem part_slice (s : ByteArray) (f k : Nat) : (s.extract f k).data.toList = (s.data.toList.take k).drop f := by
  simp [List.drop_take]
theorem next_table (s : Nat) (h0 : 3 ≤ s) (h1 : s ≤ 10) (c : UInt8) : ((s = 5 ∨ s = 8 ∨ s = 9 ∨ s = 10) → nextT s c = s ∨ nextT s c ≠ 8 ∧ nextT s c ≠ 9) ∧
    ((nextT s c = 6 ∨ nextT s c = 7 ∨ nextT s c = 8 ∨ nextT s c = 9 ∨ nextT s c = 10) → s = 5 ∨ 6 ≤ s) := by
  have hc := colC_lt c
  have hall : ∀ (i : Fin 8) (k : Fin 7), ((i.val + 3 = 5 ∨ i.val + 3 = 8 ∨ i.val + 3 = 9 ∨ i.val + 3 = 10) → (tagTab.getD i.val []).getD k.val 0 = i.val + 3 ∨ (tagTab.getD i.val []).getD k.val 0 ≠ 8 ∧ (tagTab.getD i.val []).getD k.val 0 ≠ 9) ∧
    (((tagTab.getD i.val []).getD k.val 0 = 6 ∨ (tagTab.getD i.val []).getD k.val 0 = 7 ∨ (tagTab.getD i.val []).getD k.val 0 = 8 ∨ (tagTab.getD i.val []).getD k.val 0 = 9 ∨ (tagTab.getD i.val []).getD k.val 0 = 10) → i.val + 3 = 5 ∨ 6 ≤ i.val + 3) := by decide +kernel
  obtain ⟨i, rfl⟩ : ∃ i, s = i + 3 := ⟨s - 3, by omega⟩
  exact hall ⟨i, by omega⟩ ⟨colC c, hc⟩
/-- the attributes, from byte k on -/
def AttrsAt (L : List UInt8) (k s f : Nat) (acc R : List (List UInt8 × List UInt8)) : Prop := attrsL s ((L.take k).drop f) acc (L.drop k) = R ∧ (passL s (L.drop k)).1 = L.length - k
theorem attrs_same {L : List UInt8} {k s f : Nat} {acc R : List (List UInt8 × List UInt8)} {x : UInt8} (h : AttrsAt L k s f acc R) (hf : f ≤ k) (hx : L[k]? = some x) (hs : s ≠ 0) (hv : nextT s x = s) : AttrsAt L (k + 1) s f acc R := by
  obtain ⟨h1, h2⟩ := h
  obtain ⟨hl, hg⟩ := List.getElem?_eq_some_iff.1 hx
  rw [List.drop_eq_getElem_cons hl, hg] at h1 h2
  rw [attrsL, if_pos hv] at h1
  rw [passL, if_neg hs, hv] at h2
  exact ⟨by rw [part_more L f k x hf hx]; exact h1, by simp only at h2; omega⟩
theorem attrs_next {L : List UInt8} {k s f : Nat} {acc R : List (List UInt8 × List UInt8)} {x : UInt8} (h : AttrsAt L k s f acc R) (hx : L[k]? = some x) (hs : s ≠ 0) (hv : nextT s x ≠ s) :
    AttrsAt L (k + 1) (nextT s x) (if nextT s x = 8 ∨ nextT s x = 9 then k + 1 else k)
      (if s = 5 then acc ++ [(((L.take k).drop f).map lowC, [])] else if s = 8 ∨ s = 9 ∨ s = 10 then acc.dropLast ++ [((acc.getLast?.getD ([], [])).1, unr true ((L.take k).drop f))] else acc) R := by
  obtain ⟨h1, h2⟩ := h
  obtain ⟨hl, hg⟩ := List.getElem?_eq_some_iff.1 hx
  rw [List.drop_eq_getElem_cons hl, hg] at h1 h2
  rw [attrsL, if_neg hv] at h1
  rw [passL, if_neg hs] at h2
  refine ⟨?_, by simp only at h2; omega⟩
  have hpart : (L.take (k + 1)).drop (if nextT s x = 8 ∨ nextT s x = 9 then k + 1 else k) = if nextT s x = 8 ∨ nextT s x = 9 then [] else [x] := by
    split
    · rw [List.drop_of_length_le (by rw [List.length_take]; omega)]
    · rw [part_more L k k x (Nat.le_refl _) hx, List.drop_of_length_le (by rw [List.length_take]; omega)]
      rfl
  rw [hpart]
  exact h1
theorem attrs_live {L : List UInt8} {k s f : Nat} {acc R : List (List UInt8 × List UInt8)} (h : AttrsAt L k s f acc R) (hk : k < L.length) : s ≠ 0 := by
  rintro rfl
  obtain ⟨_, h2⟩ := h
  rw [List.drop_eq_getElem_cons hk] at h2
  simp only [passL, if_true] at h2
  omega
theorem attrs_over {L : List UInt8} {k s f : Nat} {acc R : List (List UInt8 × List UInt8)} (h : AttrsAt L k s f acc R) (hk : L.length ≤ k) : acc = R := by
  obtain ⟨h1, _⟩ := h
  rw [List.drop_of_length_le hk] at h1
  exact h1
set_option maxHeartbeats 8000000 in
set_option maxRecDepth 100000 in
theorem attrs_any (s : ByteArray) (m : Int) (w : World) (hs : s.size ≤ 1000000) (hp : (passL 3 s.data.toList).1 = s.data.toList.length) (hT : TagTabs w) (hR : ChTabs w) (hm : w.cell? ⟨1, 0, none⟩ = some (.int .i64 m)) :
    Calls Tryd.prog 68 #[.string s] w fun e w' => ∃ v, e = .returned v ∧ w'.ownsRow w.heap.size 59 2 v (attrsL 3 [] [] s.data.toList).length (attrsV (attrsL 3 [] [] s.data.toList)) ∧ Below w.heap.size w w' := by
  obtain ⟨i0, hi, hz0, hz1, hz2⟩ := info_parts info_attr
  obtain ⟨R, hRR⟩ : ∃ R, attrsL 3 [] [] s.data.toList = R := ⟨_, rfl⟩
  rw [hRR]
  have H0 : AttrsAt s.data.toList 0 3 0 [] R := ⟨hRR, by rw [List.drop_zero, hp, Nat.sub_zero]⟩
  have HT := hid hT
  have HRT := hid hR
  have HM := hid hm
  clear hRR hp hT hR hm
  go_enter Tryd.func68, Tryd.ntmps68
  go_wp2
  go_loopw [3, 4, 5, 10] (fun av sv fv iv wr => ∃ (k st f : Nat) (acc : List (List UInt8 × List UInt8)), iv = .int .i64 k ∧ sv = .int .i64 st ∧ fv = .int .i64 f ∧ k ≤ s.size ∧ f ≤ k ∧ (st = 0 ∨ 3 ≤ st ∧ st ≤ 10) ∧ acc.length ≤ k ∧ (6 ≤ st → acc ≠ []) ∧ wr.ownsRow w.heap.size 59 2 av acc.length (attrsV acc) ∧ Below w.heap.size w wr ∧ AttrsAt s.data.toList k st f acc R) (fun _ _ _ iv _ => s.size - (RowKit.intOf iv).toNat)
  case atStart => exact ⟨0, 3, 0, [], rfl, rfl, rfl, Nat.zero_le _, Nat.le_refl _, .inr ⟨by omega, by omega⟩, by simp, fun h => absurd h (by omega), World.ownsRow_nil _ _ _ _, Below.refl _ _, H0⟩
  case round =>
    obtain ⟨k, st, f, acc, rfl, rfl, rfl, hk, hf, hst, hal, hne, hown, hbw, HA⟩ := hrel
    clear H0
    by_cases hkp : k < s.size
    · have hst0 := attrs_live HA (by rw [← size_eq]; exact hkp)
      obtain ⟨hst1, hst2⟩ : 3 ≤ st ∧ st ≤ 10 := hst.resolve_left hst0
      obtain ⟨x, hx⟩ : ∃ x, s[k]'hkp = x := ⟨_, rfl⟩
      have hl := getElem_list hkp hx
      have hTr : TagTabs wr := rangeAt_below HT.out hbw
      have hcall := behind_any st x hst1 hst2 wr hTr
      have hnx := next_range st hst1 hst2 x
      obtain ⟨t1, t2⟩ := next_table st hst1 hst2 x
      have hlt := hown.lt
      have hbs := hbw.size
      by_cases hsame : nextT st x = st
      · have HB := attrs_same HA hf hl hst0 hsame
        rw [hsame] at hcall
        have HC := hid (fun (_ : True) => hcall)
        clear hcall hnx t1 t2 hsame hl HA hTr
        go_wp2_with (go_at_call 62; refine (HC.out trivial).mono ?_; rintro e w' ⟨rfl, nd, rfl⟩)
        go_roundw
        case rel => exact ⟨k + 1, st, f, acc, rfl, rfl, rfl, by omega, by omega, .inr ⟨hst1, hst2⟩, by omega, hne, hown, below_drewN hbw _, HB⟩
        case measure => simp [RowKit.intOf]; omega
      · have HB := attrs_next HA hl hst0 hsame
        have qs : ((nextT st x : Int) == (st : Int)) = false := beq_eq_false_iff_ne.2 (by omega)
        obtain ⟨v, hv⟩ : ∃ v, nextT st x = v := ⟨_, rfl⟩
        rw [hv] at hcall hnx t1 t2 HB qs hsame
        have hsl : (s.extract f k).data.toList = (s.data.toList.take k).drop f := part_slice s f k
        have hszx : (s.extract f k).size ≤ 1000000 := by rw [ByteArray.size_extract]; omega
        obtain ⟨px, hpx⟩ : ∃ px, s.extract f k = px := ⟨_, rfl⟩
        rw [hpx] at hsl hszx
        rw [← hsl] at HB
        have HC := hid (fun (_ : True) => hcall)
        have HX := hid (fun (_ : True) => HB)
        clear hcall hl HA hTr hv HB hsl
        by_cases h5 : st = 5
        · subst h5
          have hv89 : v ≠ 8 ∧ v ≠ 9 := by rcases t1 (.inl rfl) with h | h; exact absurd h hsame; exact h
          have q8 : ((v : Int) == 8) = false := beq_eq_false_iff_ne.2 (by omega)
          have q9 : ((v : Int) == 9) = false := beq_eq_false_iff_ne.2 (by omega)
          have hlow := fun W => lower_any px W (by omega)
          obtain ⟨nb, hnb⟩ : ∃ nb : ByteArray, (⟨(px.data.toList.map lowC).toArray⟩ : ByteArray) = nb := ⟨_, rfl⟩
          rw [hnb] at hlow
          have HL := hid hlow
          have hA4 := hid (show acc.length + 1 ≤ maxLen by unfold maxLen; omega)
          have hA5 := hid (show (acc.length + 1) * 32 ≤ 140737488355328 by omega)
          clear hlow t1 t2
          go_wp2_with (first | (go_at_call 62; refine (HC.out trivial).mono ?_; rintro e w' ⟨rfl, nd, rfl⟩) | (go_at_call 81; fail))
          refine (HL.out _).mono ?_
          rintro e W1 ⟨rfl, b1⟩
          have hown9 := hown.kept (row := none) (w' := W1) ⟨b1.os, b1.tape, b1.output, b1.size, fun j hj _ => b1.block j hj⟩ (Classical.em _)
          have hbw9 : Below w.heap.size w W1 := hbw.trans (Below.mono (B := wr.heap.size) ⟨b1.os, b1.tape, b1.output, b1.size, b1.block⟩ hbs)
          clear b1 hown hbw hlt hbs
          have hlt := hown9.lt
          have hbs := hbw9.size
          go_wp2_with (at_builtin; refine wpList_append_own _ rfl (.tmp 24) (.tmp 31) 34 rfl w.heap.size 59 i0 (.agg #[.string ⟨#[]⟩, .string ⟨#[]⟩]) 2 32 Tryd.underlying34 hi hz0 hz1 hz2 rfl (by decide) _ _ _ rfl (hown9.alloc _) ⟨_, 0, none⟩ 1 1 [.string nb, .string ⟨#[]⟩] rfl rfl (cells_newV _ _ _) (by simp [Value.oneCell']) hA4.out hA5.out ?_ ?_)
          · simp; omega
          · intro v' w2 hown2 hgrow _
            have hbw2 := (hbw9.alloc hbs _).grown hgrow (by simp; omega) (fun j hj => (hlt j hj).1)
            clear hgrow hbw9 hown9 hlt hbs
            go_wp2
            go_roundw
            case rel =>
              refine ⟨k + 1, v, k, acc ++ [(px.data.toList.map lowC, [])], rfl, rfl, rfl, by omega, by omega, hnx, by simp; omega, fun _ => by simp, ?_, hbw2, ?_⟩
              · rw [attrsV_app, List.length_append]
                have e : attrsV [(px.data.toList.map lowC, [])] = [.string nb, .string ⟨#[]⟩] := by rw [← hnb]; rfl
                rw [e]
                exact hown2
              · have := HX.out trivial
                rw [if_neg (fun h => h.elim hv89.1 hv89.2), if_pos trivial] at this
                exact this
            case measure => simp [RowKit.intOf]; omega
        · have q5 : ((st : Int) == 5) = false := beq_eq_false_iff_ne.2 (by omega)
          by_cases h8 : st = 8 ∨ st = 9 ∨ st = 10
          · have hv89 : v ≠ 8 ∧ v ≠ 9 := by rcases t1 (.inr h8) with h | h; exact absurd h hsame; exact h
            have q8 : ((v : Int) == 8) = false := beq_eq_false_iff_ne.2 (by omega)
            have q9 : ((v : Int) == 9) = false := beq_eq_false_iff_ne.2 (by omega)
            obtain ⟨ini, a, rfl⟩ : ∃ ini a, acc = ini ++ [a] := by
              have h := hne (by omega)
              exact ⟨acc.dropLast, acc.getLast h, (List.dropLast_concat_getLast h).symm⟩
            have hln : (ini ++ [a]).length = ini.length + 1 := by simp
            rw [hln] at hown hal
            have HX2 : Hid (True → AttrsAt s.data.toList (k + 1) v k (ini ++ [(a.1, unr true px.data.toList)]) R) := by
              have := HX.out trivial
              rw [if_neg (fun h => h.elim hv89.1 hv89.2), if_neg h5, if_pos h8] at this
              rw [List.dropLast_concat, List.getLast?_concat] at this
              exact hid (fun _ => this)
            have hrr : ChTabs wr := HRT.out.below hbw
            have hmr : wr.cell? ⟨1, 0, none⟩ = some (.int .i64 m) := by
              have hc := HM.out
              have := hbw.block _ (cell_block hc)
              unfold World.cell? at hc ⊢
              rw [this]
              exact hc
            have HU := hid (fun nd => unref_any px true m (wr.drewN nd) (by omega) ⟨hrr.names, hrr.repl⟩ hmr)
            generalize unr true px.data.toList = U at HU HX2
            obtain ⟨ub, hub⟩ : ∃ ub : ByteArray, (⟨U.toArray⟩ : ByteArray) = ub := ⟨_, rfl⟩
            rw [hub] at HU
            clear HX hne hln hrr hmr
            rcases hown.2 with ⟨_, h0⟩ | ⟨g, cap, cur, rfl, _⟩
            · exact absurd h0 (by omega)
            · rcases h8 with rfl | rfl | rfl
              all_goals
                go_wp2_with (first | (go_at_call 62; refine (HC.out trivial).mono ?_; rintro e w' ⟨rfl, nd, rfl⟩) | (go_at_call 22; fail))
                refine (HU.out _).mono ?_
                rintro e W1 ⟨rfl, b1⟩
                have hown9 := hown.kept (row := none) (w' := W1) ⟨b1.os, b1.tape, b1.output, b1.size, fun j hj _ => b1.block j hj⟩ (Classical.em _)
                have hbw9 : Below w.heap.size w W1 := hbw.trans (Below.mono (B := wr.heap.size) ⟨b1.os, b1.tape, b1.output, b1.size, b1.block⟩ hbs)
                have hg : w.heap.size ≤ g := by
                  rcases hown9.2 with ⟨h, _⟩ | ⟨g', c', cu, h, hb, _⟩
                  · cases h
                  · cases h; exact hb
                have hc := hown9.cellAt (ini.length * 2 + 1) (by omega)
                have hfz := hown9.frozenAt (ini.length * 2 + 1)
                have hc2 : (attrsV (ini ++ [a]))[ini.length * 2 + 1]? = some (strV a.2) := by
                  rw [attrsV_app, List.getElem?_append_right (by rw [attrsV_len]; omega), attrsV_len, Nat.add_sub_cancel_left]
                  rfl
                rw [hc2] at hc
                have hst9 := (hown9.stored (ini.length * 2 + 1) (strV U)).1
                rw [attrsV_set] at hst9
                have hsV : strV U = .string ub := by unfold strV; rw [hub]
                rw [hsV] at hst9
                have HS := hid hst9
                clear b1 hown hbw hlt hbs hst9 hown9 hc2
                go_wp2
                go_roundw
                case rel => exact ⟨k + 1, v, k, ini ++ [(a.1, U)], rfl, rfl, rfl, by omega, by omega, hnx, by simp; omega, fun _ => by simp, by have := HS.out; simpa using this, hbw9.setCell hg _, HX2.out trivial⟩
                case measure => simp [RowKit.intOf]; omega
          · have r8 : ((st : Int) == 8) = false := beq_eq_false_iff_ne.2 (by omega)
            have r9 : ((st : Int) == 9) = false := beq_eq_false_iff_ne.2 (by omega)
            have r10 : ((st : Int) == 10) = false := beq_eq_false_iff_ne.2 (by omega)
            have HX2 : Hid (True → AttrsAt s.data.toList (k + 1) v (if v = 8 ∨ v = 9 then k + 1 else k) acc R) := by
              have := HX.out trivial
              rw [if_neg h5, if_neg h8] at this
              exact hid (fun _ => this)
            have hne2 : 6 ≤ v → acc ≠ [] := fun h => hne (by rcases t2 (by omega) with e | e; exact absurd e h5; exact e)
            clear HX t1 t2 hpx
            by_cases hv8 : v = 8
            · subst hv8
              go_wp2_with (go_at_call 62; refine (HC.out trivial).mono ?_; rintro e w' ⟨rfl, nd, rfl⟩)
              go_roundw
              case rel => exact ⟨k + 1, 8, k + 1, acc, rfl, rfl, rfl, by omega, by omega, hnx, by omega, hne2, hown, below_drewN hbw _, HX2.out trivial⟩
              case measure => simp [RowKit.intOf]; omega
            · have q8 : ((v : Int) == 8) = false := beq_eq_false_iff_ne.2 (by omega)
              by_cases hv9 : v = 9
              · subst hv9
                go_wp2_with (go_at_call 62; refine (HC.out trivial).mono ?_; rintro e w' ⟨rfl, nd, rfl⟩)
                go_roundw
                case rel => exact ⟨k + 1, 9, k + 1, acc, rfl, rfl, rfl, by omega, by omega, hnx, by omega, hne2, hown, below_drewN hbw _, HX2.out trivial⟩
                case measure => simp [RowKit.intOf]; omega
              · have q9 : ((v : Int) == 9) = false := beq_eq_false_iff_ne.2 (by omega)
                go_wp2_with (go_at_call 62; refine (HC.out trivial).mono ?_; rintro e w' ⟨rfl, nd, rfl⟩)
                go_roundw
                case rel =>
                  refine ⟨k + 1, v, k, acc, rfl, rfl, rfl, by omega, by omega, hnx, by omega, hne2, hown, below_drewN hbw _, ?_⟩
                  have := HX2.out trivial
                  rw [if_neg (fun h => h.elim hv8 hv9)] at this
                  exact this
                case measure => simp [RowKit.intOf]; omega
    · have he := attrs_over HA (by rw [← size_eq]; omega)
      subst he
      go_wp2
      go_ret
      exact ⟨_, rfl, hown, hbw⟩
end Go.Proofs.YtolbahmihkdmiaaDoor
