/-
  Character references are decoded as the document's own words decode them, in a text and in a value: proved for every text that is, with the six tables that are read, of bulk at most 1048576, the tables being what the program lays.
-/
import Derived.Test.YtehlcnnoaonjkaaDoorCards
import Derived.Test.YtehlcnnoaonjkaaDoorTie
import Derived.Test.YtehlcnnoaonjkaaDoorRefUnref
import Derived.Test.YtehlcnnoaonjkaaDoorTabsOf
import Derived.Lib.LaidIn
import Derived.Lib.LaidU8T
import Derived.Deep.DeepHandedRow
import Derived.Deep.DeepWitnessRowRef
import Derived.ProofKit
import Derived.OpenShut
import Derived.SevenTiedAt
import Derived.ChangeMaps5
namespace Go.Proofs.YtehlcnnoaonjkaaDoor
namespace unrefLaw
open Go.ChangeShapes Go.WideShapes Go.ChangeAt Go.RowKit Go.Lib

set_option maxHeartbeats 1000000 in
theorem unref_walk (s : ByteArray) (attr : Bool) (m : Int) (w : World) (hs : s.size ≤ 10000000) (hT : RefTabs w) (hm : w.cell? ⟨5, 0, none⟩ = some (.int .i64 m)) :
    Calls Tryd.prog 3 #[.string s, .bool attr] w fun e w' => e = .returned (.bool true) ∧ Below w.heap.size w w' := by
  have h1 := unref_any s attr m w hs hT.ch hm
  have h2 := fun W hTW => refUnref_any s attr W hs hTW
  generalize unr attr s.data.toList = R at h1 h2
  have H1 := hid h1
  have H2 := hid h2
  have HT := hid hT
  clear h1 h2 hT hm
  go_enter Tryd.func3, Tryd.ntmps3
  go_wp2_with fail
  refine H1.out.mono ?_
  rintro e W1 ⟨rfl, b1⟩
  have HT1 := HT.out.below b1
  go_wp2_with fail
  refine (H2.out _ HT1).mono ?_
  rintro e W2 ⟨rfl, b2⟩
  have hb := b1.trans (b2.mono b1.size)
  clear b1 b2 HT1
  go_wp2
  go_ret
  exact ⟨rfl, hb⟩

theorem own : ownKnob Tryd.prog.godebug = none := by kernel_rfl
theorem laidOut : laidOutB Tryd.prog = true := by kernel_rfl

theorem bulk {H : Type} {a : ByteArray} {c : Bool} (hk : Rows.uptoSmall H [.lit (.string a.data.toList), .lit (.bool c)] = true) : a.size ≤ 10000000 := by
  have h : Rows.uptoBulkAll [DataW.lit (H := H) (.string a.data.toList), .lit (.bool c)] ≤ 1048576 := of_decide_eq_true hk
  simp only [Rows.uptoBulkAll, Rows.uptoBulk] at h
  rw [size_eq]
  omega

/-- what the row lists -/
def listed : List (String × DataW Unit) :=
  [("scrub/scrubref.eitherNames", .agg ((eitherT.map (·.1)).map fun x => .lit (.string x))), ("scrub/scrubref.eitherCodes", tabData .i64 (eitherT.map (·.2))),
   ("scrub/scrubref.closedNames", .agg ((closedT.map (·.1)).map fun x => .lit (.string x))), ("scrub/scrubref.closedCodes", tabData .i64 (closedT.map (·.2))),
   ("scrub/chars.names", .agg (allT.map fun x => .agg [.lit (.string x.1), .lit (.int .i32 x.2)])), ("scrub/chars.replaced", tabData .i32 replT)]
theorem listed_eq : Rows.lawUnrefUptoRow.laid = listed := by kernel_rfl

theorem tabs_of {W : World} (hL : laidMet Tryd.prog listed W) : RefTabs W where
  ch := ⟨pairs_of (t := 59) (ts := 9) (ti := 21) (by kernel_rfl) (by kernel_rfl) Tryd.underlying59 Tryd.underlying58 (by kernel_rfl) (by kernel_rfl) ⟨rfl, rfl⟩ ⟨rfl, rfl⟩ Tryd.underlying9 (by kernel_rfl) Tryd.underlying21 (by kernel_rfl) (Lib.laidMet.reads (l := listed) hL (.tail _ (.tail _ (.tail _ (.tail _ (.head _)))))),
    ints_of (t := 70) (by kernel_rfl) (by kernel_rfl) Tryd.underlying70 Tryd.underlying21 (by kernel_rfl) (by kernel_rfl) (Lib.laidMet.reads (l := listed) hL (.tail _ (.tail _ (.tail _ (.tail _ (.tail _ (.head _)))))))⟩
  eitherN := by
    have := strs_of (g := 1) (t := 64) (by kernel_rfl) (by kernel_rfl) Tryd.underlying64 Tryd.underlying9 (by kernel_rfl) (by kernel_rfl) (Lib.laidMet.reads (l := listed) hL (.head _))
    rw [List.map_map] at this
    exact this
  eitherC := by
    have := ints_of (g := 2) (t := 65) (by kernel_rfl) (by kernel_rfl) Tryd.underlying65 Tryd.underlying3 (by kernel_rfl) (by kernel_rfl) (Lib.laidMet.reads (l := listed) hL (.tail _ (.head _)))
    rw [List.map_map] at this
    exact this
  closedN := by
    have := strs_of (g := 3) (t := 66) (by kernel_rfl) (by kernel_rfl) Tryd.underlying66 Tryd.underlying9 (by kernel_rfl) (by kernel_rfl) (Lib.laidMet.reads (l := listed) hL (.tail _ (.tail _ (.head _))))
    rw [List.map_map] at this
    exact this
  closedC := by
    have := ints_of (g := 4) (t := 67) (by kernel_rfl) (by kernel_rfl) Tryd.underlying67 Tryd.underlying3 (by kernel_rfl) (by kernel_rfl) (Lib.laidMet.reads (l := listed) hL (.tail _ (.tail _ (.tail _ (.head _)))))
    rw [List.map_map] at this
    exact this

/-- the settled world, the six variables holding what their initialisers lay -/
noncomputable def laidWorld (os : Os) : World :=
  let w0 := World.holding Tryd.prog os ⟨#[], #[], []⟩
  let put (h : Array Obj) (g : Nat) (cs : Array Value) : Array Obj := h.modify g fun
    | .cells _ t frozen => .cells cs t frozen
    | o => o
  let h1 := put w0.heap 0 namesV.toArray
  let h2 := put h1 6 replV.toArray
  let h3 := put h2 1 eitherNV.toArray
  let h4 := put h3 2 eitherCV.toArray
  let h5 := put h4 3 closedNV.toArray
  let h6 := put h5 4 closedCV.toArray
  { w0 with heap := h6 }
theorem laid_met (os : Os) (args : Array Value) : laidMet Tryd.prog Rows.lawUnrefUptoRow.laid ((laidWorld os).forCall (fun _ _ => 0) ⟨#[], args, []⟩).memory :=
  (LaidIn.of_run (l := Rows.lawUnrefUptoRow.laid) [1, 2, 3, 4, 0, 6] 8 (by kernel_rfl) (by kernel_rfl) (by kernel_rfl) (by kernel_rfl)).met

theorem witness_row (os : Os) {H : Type} (enc : TypeId × Value → H) :
    (Rows.OpenSpec.upto Rows.lawUnrefSpec).preRow enc Tryd.prog Tryd.f3 Rows.lawUnrefUptoRow.domain false Rows.lawUnrefUptoRow.laid ((laidWorld os).forCall (fun _ _ => 0) ⟨#[], #[.string ⟨#[]⟩, .bool false], []⟩).memory #[.string ⟨#[]⟩, .bool false] := by
  have hw : (DataW.whole enc Tryd.prog ((laidWorld os).forCall (fun _ _ => 0) ⟨#[], #[.string ⟨#[]⟩, .bool false], []⟩).memory Tryd.f3.params.toList Rows.lawUnrefSpec.vars false #[Value.string ⟨#[]⟩, .bool false].toList 8).map (fun x => (x.1, x.2.1)) =
      some ([.lit (.string []), .lit (.bool false)], []) := by kernel_rfl
  obtain ⟨⟨x1, x2, x3⟩, hx, hx1⟩ := Option.map_eq_some_iff.1 hw
  simp only [Prod.mk.injEq] at hx1
  obtain ⟨rfl, rfl⟩ := hx1
  exact OpenSpec.preRow_of_cond 8 hx (by kernel_rfl) (fun k hk => by cases hk; kernel_rfl) (by kernel_rfl) (laid_met os _)

set_option maxRecDepth 100000 in
set_option maxHeartbeats 1000000 in
theorem lifted (os : Os) (started : os.Started) (H : Type) (enc : TypeId × Value → H) (F : Stop.Interp) :
    ReturnsInHanded {} Tryd.checked os 3 .any ((Rows.OpenSpec.upto Rows.lawUnrefSpec).preRow enc Tryd.prog Tryd.f3 Rows.lawUnrefUptoRow.domain false Rows.lawUnrefUptoRow.laid) (((Rows.OpenSpec.upto Rows.lawUnrefSpec).at F).post enc Tryd.prog Tryd.f3 false true false false) := by
  refine returnsInHanded_of_row (C := Tryd.checked) (s := Rows.OpenSpec.upto Rows.lawUnrefSpec) own started (by kernel_rfl) Tryd.func3
    (witness_row_atRef (enc := enc) (C := Tryd.checked) false (laidWorld os) #[.string ⟨#[]⟩, .bool false] rfl (by kernel_rfl) (by kernel_rfl) (by kernel_rfl) (witness_row os enc)) ?_
  intro W base args ds gs before hval0 hW _ hcond _ hL hsh _
  have hval : ∀ (j : Nat) t v, Tryd.f3.params[j]? = some t → args[j]? = some v → Value.okWide Tryd.prog W .any base t v := hval0
  have hW' := hW
  have hk := hcond _ rfl
  obtain ⟨p, q, hA0, hV0, rfl, _, _⟩ := hW
  have hA : DataW.TrodAll enc Tryd.prog W 0 (fun _ => true) true Tryd.f3.params.toList args.toList ds p := hA0
  rw [Tryd.params3] at hA hval
  obtain ⟨v0, v1, d0, d1, p0, p1, rfl, rfl, rfl, h0, h1⟩ := trodAll_two hA
  obtain ⟨rfl, rfl⟩ := trodVars_none hV0
  obtain ⟨m, hm⟩ := Tryd.laysM145.s1_3 W hsh
  have hT : RefTabs W := tabs_of (by rw [← listed_eq]; exact hL)
  have h0k := h0
  have h1k := h1
  have hlt : ∀ x ∈ p0 ++ p1, x.block < W.heap.size := fun x hx => by simpa using hW'.lt x (by simpa using hx)
  obtain ⟨s, rfl, rfl, rfl, _⟩ := Go.ChangeMaps.open_string Tryd.underlying9 (hval 0 9 v0 rfl rfl) h0
  obtain ⟨attr, rfl, rfl, rfl⟩ := open_bool Tryd.underlying4 (hval 1 4 v1 rfl rfl) h1
  have hb := bulk hk
  refine (unref_walk s attr m W hb hT hm).mono ?_
  rintro e W' ⟨rfl, bel⟩
  have e1 : ((Rows.OpenSpec.upto Rows.lawUnrefSpec).at F).fn H ([.lit (.string s.data.toList), .lit (.bool attr)] ++ []) = { results := [.lit (.bool true)], args := [.lit (.string s.data.toList), .lit (.bool attr)] } := rfl
  refine ⟨_, rfl, _, _, _, [], [] ++ [], [], hW', ?_, ?_, ?_, bel.frame _, fun h => by cases h⟩
  · rw [e1]; exact trodAll_mk1 (shut_bool Tryd.underlying4 _)
  · rw [e1]
    exact trodAll_mk2 (Below.trod laidOut (by kernel_rfl) (of_decide_eq_true (by kernel_rfl)) h0k bel (fun x hx => hlt x (List.mem_append_left _ hx))) (Below.trod laidOut (by kernel_rfl) (of_decide_eq_true (by kernel_rfl)) h1k bel (fun x hx => hlt x (List.mem_append_right _ hx)))
  · rw [e1]; rfl

theorem said : Rows.LawUnrefUptoSaid :=
  OpenClaim.holds_of_cond 3 Tryd.f3 rfl rfl rfl rfl rfl rfl rfl ⟨rfl, rfl, rfl, rfl, rfl⟩ rfl rfl rfl rfl rfl (by kernel_rfl) Tryd.func3 (by kernel_rfl)
    (of_decide_eq_true (by kernel_rfl)) (by unfold Func.isWrapper; first | (rw [if_pos (by decide +kernel)]; kernel_rfl) | (rw [if_neg (by decide +kernel)]; exact ⟨rfl, rfl⟩))
    (fun os started H enc _ F => by rw [OpenClaim.pre_eq_preRow]; exact lifted os started H enc F)

theorem plain (f : FuncId) (fn : Func) (hf : Tryd.pinned.checked.prog.funcNamed "scrub/scrublaw.LawUnref" = some f) (hfn : Tryd.pinned.checked.prog.funcs[f]? = some fn) :
    false = Tryd.pinned.checked.prog.looks [] ∧ ∀ (j : Nat) t, fn.params[j]? = some t → Tryd.pinned.checked.prog.wantsStandIn t = false := by
  obtain rfl : f = 3 := Option.some.inj ((show Tryd.prog.funcNamed "scrub/scrublaw.LawUnref" = some 3 by kernel_rfl).symm.trans hf) |>.symm
  obtain rfl : fn = Tryd.f3 := (Option.some.inj (Tryd.func3.symm.trans hfn)).symm
  refine ⟨by kernel_rfl, fun j t ht => ?_⟩
  rw [Tryd.params3] at ht
  have hm : t = 9 ∨ t = 4 := by simpa using Array.mem_of_getElem? ht
  rcases hm with rfl | rfl
  · exact (show Tryd.prog.wantsStandIn 9 = false by kernel_rfl)
  · exact (show Tryd.prog.wantsStandIn 4 = false by kernel_rfl)
end unrefLaw

theorem lawUnref_card : Rows.LawUnrefUptoCardSaid :=
  Claim7.holds_tied_plain_at .later [] _ _ _ _ unrefLaw.said (fun _ h => by cases h) (by kernel_rfl) (fun _ h => by cases h) lawUnrefUpto_row_tie rfl ⟨rfl, rfl⟩ (by kernel_rfl) rfl unrefLaw.plain (by kernel_rfl)
end Go.Proofs.YtehlcnnoaonjkaaDoor
