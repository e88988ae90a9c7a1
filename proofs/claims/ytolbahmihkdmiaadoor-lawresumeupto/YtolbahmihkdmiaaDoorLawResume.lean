/-
  Into whatever pieces a text is cut, the lexer's events, texts that meet joined, are those of the whole text, and never more than the window is held; proved for every window and every list of pieces that is, with the tables that are read, of bulk at most 1048576, the tables being what the program lays.
-/
import Derived.Test.YtolbahmihkdmiaaDoorCards
import Derived.Test.YtolbahmihkdmiaaDoorTie
import Derived.Test.YtolbahmihkdmiaaDoorUpper
import Derived.SliceStrings
import Derived.Lib.LaidIn
import Derived.Lib.LaidU8T
import Derived.Deep.DeepHandedRow
import Derived.Deep.DeepWitnessRowRef
import Derived.ProofKit
import Derived.OpenShut
import Derived.SevenTiedAt
namespace Go.Proofs.YtolbahmihkdmiaaDoor
namespace resumeLaw
open Go.ChangeShapes Go.WideShapes Go.ChangeAt Go.RowKit Go.Lib

theorem own : ownKnob Tryd.prog.godebug = none := by kernel_rfl
theorem laidOut : laidOutB Tryd.prog = true := by kernel_rfl
theorem cells9 : Tryd.prog.cellsOf 9 = 1 := by kernel_rfl

theorem flat_bulk {H : Type} : ∀ l : List ByteArray, (l.flatMap (·.data.toList)).length + l.length ≤ Rows.uptoBulkAll (strs (H := H) l)
  | [] => by simp [strs, Rows.uptoBulkAll]
  | s :: r => by
    have ih := flat_bulk (H := H) r
    simp only [strs, List.map_cons, Rows.uptoBulkAll, Rows.uptoBulk, List.flatMap_cons, List.length_append, List.length_cons] at ih ⊢
    omega
theorem bulk {H : Type} {n : Int} {l r : List ByteArray} (hk : Rows.uptoSmall H [.lit (.int .i64 n), .slice (strs l) (strs r)] = true) : (l.flatMap (·.data.toList)).length ≤ 1048576 ∧ l.length ≤ 1048576 := by
  have h : Rows.uptoBulkAll [DataW.lit (H := H) (.int .i64 n), DataW.slice (H := H) (strs l) (strs r)] ≤ 1048576 := of_decide_eq_true hk
  simp only [Rows.uptoBulkAll, Rows.uptoBulk] at h
  have := flat_bulk (H := H) l
  omega

/-- what the row lists -/
def listed : List (String × DataW Unit) :=
  [("scrub/chars.names", .agg (allT.map fun x => .agg [.lit (.string x.1), .lit (.int .i32 x.2)])), ("scrub/chars.replaced", tabData .i32 replT), ("scrub/lexer.tagStates", .agg (tagTab.map fun r => tabData .u8 (r.map fun (z : Nat) => (z : Int))))]
theorem listed_eq : Rows.lawResumeUptoRow.laid = listed := by kernel_rfl

theorem tag_of {w : World} (h : VarReads Tryd.prog w "scrub/lexer.tagStates" (.agg (tagTab.map fun r => tabData .u8 (r.map fun (z : Nat) => (z : Int))))) : TagTabs w := by
  obtain ⟨g', t', cs, fuel, p, hg', hty, hvar, hd⟩ := h
  obtain rfl := Option.some.inj ((show Tryd.prog.globalNamed "scrub/lexer.tagStates" = some 2 by kernel_rfl).symm.trans hg')
  obtain rfl := Option.some.inj ((show (Tryd.prog.globals[2]?).map (·.type) = some 99 by kernel_rfl).symm.trans hty)
  have hall : ∀ (i : Fin 8) (c : Fin 7), tagTab.flatten[i.val * 7 + c.val]? = some ((tagTab.getD i.val []).getD c.val 0) ∧ ((tagTab.getD i.val []).map fun (z : Nat) => (z : Int))[c.val]? = some (((tagTab.getD i.val []).getD c.val 0 : Nat) : Int) ∧ tagTab[i.val]? = some (tagTab.getD i.val []) := by decide +kernel
  refine range_of (L := tagV) (by kernel_rfl) hvar (fun j v hv => ?_)
  unfold tagV at hv
  rw [List.getElem?_map] at hv
  obtain ⟨z, hz, rfl⟩ := Option.map_eq_some_iff.1 hv
  have hj : j < 56 := (List.getElem?_eq_some_iff.1 hz).1
  obtain ⟨a1, a2, a3⟩ := hall ⟨j / 7, by omega⟩ ⟨j % 7, by omega⟩
  simp only at a1 a2 a3
  rw [show j / 7 * 7 + j % 7 = j by omega, hz] at a1
  obtain ⟨fuel', d, q, hdi, hel⟩ := array_elem Tryd.underlying99 hd (j / 7) (by omega)
  rw [List.getElem?_map, a3] at hdi
  simp only [Option.map_some, Option.some.injEq] at hdi
  subst hdi
  have hcs := cells_of_tab Tryd.underlying98 Tryd.underlying5 (by kernel_rfl) (by kernel_rfl) hel
  have h7 : Tryd.prog.cellsOf 98 = 7 := by kernel_rfl
  rw [h7] at hcs
  rw [List.ext_getElem?_iff] at hcs
  have hg := hcs (j % 7)
  rw [List.getElem?_take_of_lt (by omega), List.getElem?_drop, List.getElem?_map, a2, show j / 7 * 7 + j % 7 = j by omega] at hg
  rw [hg]
  simp only [Option.some.injEq] at a1
  rw [← a1]
  rfl
theorem tabs_of {W : World} {m : Int} (hL : laidMet Tryd.prog listed W) (hm : W.cell? ⟨1, 0, none⟩ = some (.int .i64 m)) : LexTabs W.heap.size W m := by
  have h1 := pairs_of (g := 0) (t := 94) (ts := 9) (ti := 21) (by kernel_rfl) (by kernel_rfl) Tryd.underlying94 Tryd.underlying93 (by kernel_rfl) (by kernel_rfl) ⟨rfl, rfl⟩ ⟨rfl, rfl⟩ Tryd.underlying9 (by kernel_rfl) Tryd.underlying21 (by kernel_rfl) (Lib.laidMet.reads (l := listed) hL (.head _))
  have h2 := ints_of (g := 3) (t := 100) (by kernel_rfl) (by kernel_rfl) Tryd.underlying100 Tryd.underlying21 (by kernel_rfl) (by kernel_rfl) (Lib.laidMet.reads (l := listed) hL (.tail _ (.head _)))
  have h3 := tag_of (Lib.laidMet.reads (l := listed) hL (.tail _ (.tail _ (.head _))))
  refine ⟨h3, ⟨h1, h2⟩, hm, cell_block (tag_at h3 0 0 (by omega) (by omega)), ?_, ?_, cell_block hm⟩
  · have := h1 0 _ (show namesV[0]? = some (strV [65, 77, 80]) from rfl)
    exact cell_block this
  · have := h2 0 _ (show replV[0]? = some (.int .i32 8364) from rfl)
    exact cell_block this

/-- the settled world, the three variables holding what their initialisers lay -/
noncomputable def laidWorld (os : Os) : World :=
  let w0 := World.holding Tryd.prog os ⟨#[], #[], []⟩
  let put (h : Array Obj) (g : Nat) (cs : Array Value) : Array Obj := h.modify g fun
    | .cells _ t frozen => .cells cs t frozen
    | o => o
  let h1 := put w0.heap 0 namesV.toArray
  let h2 := put h1 3 replV.toArray
  let h3 := put h2 2 tagV.toArray
  { w0 with heap := h3 }
theorem laid_met (os : Os) (args : Array Value) : laidMet Tryd.prog Rows.lawResumeUptoRow.laid ((laidWorld os).forCall (fun _ _ => 0) ⟨#[], args, []⟩).memory :=
  (LaidIn.of_run (l := Rows.lawResumeUptoRow.laid) [0, 3, 2] 8 (by kernel_rfl) (by kernel_rfl) (by kernel_rfl) (by kernel_rfl)).met

theorem witness_row (os : Os) {H : Type} (enc : TypeId × Value → H) :
    (Rows.OpenSpec.upto Rows.lawResumeSpec).preRow enc Tryd.prog Tryd.f3 Rows.lawResumeUptoRow.domain false Rows.lawResumeUptoRow.laid ((laidWorld os).forCall (fun _ _ => 0) ⟨#[], #[.int .i64 0, .slice none 0 0], []⟩).memory #[.int .i64 0, .slice none 0 0] := by
  have hw : (DataW.whole enc Tryd.prog ((laidWorld os).forCall (fun _ _ => 0) ⟨#[], #[.int .i64 0, .slice none 0 0], []⟩).memory Tryd.f3.params.toList Rows.lawResumeSpec.vars false #[Value.int .i64 0, .slice none 0 0].toList 8).map (fun x => (x.1, x.2.1)) =
      some ([.lit (.int .i64 0), .nil], []) := by kernel_rfl
  obtain ⟨⟨x1, x2, x3⟩, hx, hx1⟩ := Option.map_eq_some_iff.1 hw
  simp only [Prod.mk.injEq] at hx1
  obtain ⟨rfl, rfl⟩ := hx1
  exact OpenSpec.preRow_of_cond 8 hx (by kernel_rfl) (fun k hk => by cases hk; kernel_rfl) (by kernel_rfl) (laid_met os _)

set_option maxRecDepth 100000 in
set_option maxHeartbeats 2000000 in
theorem lifted (os : Os) (started : os.Started) (H : Type) (enc : TypeId × Value → H) (F : Stop.Interp) :
    ReturnsInHanded {} Tryd.checked os 3 .any ((Rows.OpenSpec.upto Rows.lawResumeSpec).preRow enc Tryd.prog Tryd.f3 Rows.lawResumeUptoRow.domain false Rows.lawResumeUptoRow.laid) (((Rows.OpenSpec.upto Rows.lawResumeSpec).at F).post enc Tryd.prog Tryd.f3 false true false false) := by
  refine returnsInHanded_of_row (C := Tryd.checked) (s := Rows.OpenSpec.upto Rows.lawResumeSpec) own started (by kernel_rfl) Tryd.func3
    (witness_row_atRef (enc := enc) (C := Tryd.checked) false (laidWorld os) #[.int .i64 0, .slice none 0 0] rfl (by kernel_rfl) (by kernel_rfl) (by kernel_rfl) (witness_row os enc)) ?_
  intro W base args ds gs before hval0 hW _ hcond _ hL hsh _
  have hval : ∀ (j : Nat) t v, Tryd.f3.params[j]? = some t → args[j]? = some v → Value.okWide Tryd.prog W .any base t v := hval0
  have hW' := hW
  have hk := hcond _ rfl
  obtain ⟨p, q, hA0, hV0, rfl, _, _⟩ := hW
  have hA : DataW.TrodAll enc Tryd.prog W 0 (fun _ => true) true Tryd.f3.params.toList args.toList ds p := hA0
  rw [Tryd.params3] at hA hval
  obtain ⟨v0, v1, d0, d1, p0, p1, rfl, rfl, rfl, h0, h1⟩ := trodAll_two hA
  obtain ⟨rfl, rfl⟩ := trodVars_none hV0
  obtain ⟨m, hm⟩ := Tryd.laysM145.s1_3 W hsh
  have hT : LexTabs W.heap.size W m := tabs_of (by rw [← listed_eq]; exact hL) hm
  have h0k := h0
  have h1k := h1
  have hlt : ∀ x ∈ p0 ++ p1, x.block < W.heap.size := fun x hx => by simpa using hW'.lt x (by simpa using hx)
  obtain ⟨n, rfl, rfl, rfl, hwf⟩ := open_int Tryd.underlying3 (hval 0 3 v0 rfl rfl) h0
  have hn : -9223372036854775808 ≤ n ∧ n ≤ 9223372036854775807 := by
    simp only [Lit.wf, Bool.and_eq_true, decide_eq_true_eq] at hwf
    first | exact hwf | simpa [IntKind.min, IntKind.max] using hwf
  obtain ⟨a0, len, cap, rfl⟩ := okWide_slice Tryd.underlying22 (hval 1 22 v1 rfl rfl)
  have fin : ∀ (e : Ending) (W' : World), e = .returned (.bool true) ∧ Below W.heap.size W W' → ∃ v, e = .returned v ∧ ((Rows.OpenSpec.upto Rows.lawResumeSpec).at F).post enc Tryd.prog Tryd.f3 false true false false W #[.int .i64 n, .slice a0 len cap] v W' := by
    rintro e W' ⟨rfl, bel⟩
    have e1 : ((Rows.OpenSpec.upto Rows.lawResumeSpec).at F).fn H ([.lit (.int .i64 n), d1] ++ []) = { results := [.lit (.bool true)], args := [.lit (.int .i64 n), d1] } := rfl
    refine ⟨_, rfl, _, _, _, [], [] ++ p1, [], hW', ?_, ?_, ?_, bel.frame _, fun h => by cases h⟩
    · rw [e1]; exact trodAll_mk1 (shut_bool Tryd.underlying4 _)
    · rw [e1]
      exact trodAll_mk2 (Below.trod laidOut (by kernel_rfl) (of_decide_eq_true (by kernel_rfl)) h0k bel (fun x hx => hlt x (List.mem_append_left _ hx))) (Below.trod laidOut (by kernel_rfl) (of_decide_eq_true (by kernel_rfl)) h1k bel (fun x hx => hlt x (List.mem_append_right _ hx)))
    · rw [e1]; rfl
  obtain ⟨fuel, hf⟩ := h1
  rcases open_strings Tryd.underlying22 Tryd.underlying9 cells9 hf with ⟨hcs, hx⟩ | ⟨a, len', cap', ss, hcs, _, hl, hm9, hz, hx, hcell, hsz⟩
  · simp [Value.cells] at hcs
    obtain ⟨rfl, rfl, rfl⟩ := hcs
    refine (resume_walk n hn.1 hn.2 none 0 0 [] m W (by simp) (by omega) rfl (fun j hj => absurd hj (by omega)) hT).mono ?_
    exact fin
  · simp [Value.cells] at hcs
    obtain ⟨rfl, rfl, rfl⟩ := hcs
    simp only [Prod.mk.injEq] at hx
    obtain ⟨hd, _⟩ := hx
    subst hd
    simp only [if_true] at hz
    have hb := bulk (by simpa using hk)
    have hlen : (ss.take len).length = len := by rw [List.length_take]; omega
    refine (resume_walk n hn.1 hn.2 (some a) len cap (ss.take len) m W hb.1 (by omega) hlen (fun j hj => ?_) hT).mono ?_
    · have hc := hcell j (by omega)
      have hg : (ss.take len).getD j ByteArray.empty = ss.getD j ByteArray.empty := by simp [List.getD, hj]
      rw [hg]
      have hc0 := hcell 0 (by omega)
      obtain ⟨b, o, sp⟩ := a
      have hsp : sp = none := by
        have hadd0 : (⟨b, o, sp⟩ : Addr).add 0 = ⟨b, o, sp⟩ := by simp [Addr.add]
        rw [hadd0] at hc0
        exact cell_spot hc0
      subst hsp
      have hadd : (⟨b, o, none⟩ : Addr).add j = ⟨b, o + j, none⟩ := by unfold Addr.add; split <;> simp_all
      rw [hadd] at hc
      exact ⟨b, o, rfl, hc⟩
    · exact fin

theorem said : Rows.LawResumeUptoSaid :=
  OpenClaim.holds_of_cond 3 Tryd.f3 rfl rfl rfl rfl rfl rfl rfl ⟨rfl, rfl, rfl, rfl, rfl⟩ rfl rfl rfl rfl rfl (by kernel_rfl) Tryd.func3 (by kernel_rfl)
    (of_decide_eq_true (by kernel_rfl)) (by unfold Func.isWrapper; first | (rw [if_pos (by decide +kernel)]; kernel_rfl) | (rw [if_neg (by decide +kernel)]; exact ⟨rfl, rfl⟩))
    (fun os started H enc _ F => by rw [OpenClaim.pre_eq_preRow]; exact lifted os started H enc F)

theorem plain (f : FuncId) (fn : Func) (hf : Tryd.pinned.checked.prog.funcNamed "scrub/scrublaw.LawResume" = some f) (hfn : Tryd.pinned.checked.prog.funcs[f]? = some fn) :
    false = Tryd.pinned.checked.prog.looks [] ∧ ∀ (j : Nat) t, fn.params[j]? = some t → Tryd.pinned.checked.prog.wantsStandIn t = false := by
  obtain rfl : f = 3 := Option.some.inj ((show Tryd.prog.funcNamed "scrub/scrublaw.LawResume" = some 3 by kernel_rfl).symm.trans hf) |>.symm
  obtain rfl : fn = Tryd.f3 := (Option.some.inj (Tryd.func3.symm.trans hfn)).symm
  refine ⟨by kernel_rfl, fun j t ht => ?_⟩
  rw [Tryd.params3] at ht
  have hm : t = 3 ∨ t = 22 := by simpa using Array.mem_of_getElem? ht
  rcases hm with rfl | rfl
  · exact (show Tryd.prog.wantsStandIn 3 = false by kernel_rfl)
  · exact (show Tryd.prog.wantsStandIn 22 = false by kernel_rfl)
end resumeLaw

theorem lawResume_card : Rows.LawResumeUptoCardSaid :=
  Claim7.holds_tied_plain_at .later [] _ _ _ _ resumeLaw.said (fun _ h => by cases h) (by kernel_rfl) (fun _ h => by cases h) lawResumeUpto_row_tie rfl ⟨rfl, rfl⟩ (by kernel_rfl) rfl resumeLaw.plain (by kernel_rfl)
end Go.Proofs.YtolbahmihkdmiaaDoor
