/-
  What the writer escapes, the decoder gives back, in a text and in an attribute's value, and no sign that means something is left in either: proved for every text that is, with the four tables that are read, of bulk at most 1048576, the tables being what the program lays.
-/
import Derived.Test.YthhdhlehcblghaaDoorCards
import Derived.Test.YthhdhlehcblghaaDoorTie
import Derived.Test.YthhdhlehcblghaaDoorEscW
import Derived.Test.YthhdhlehcblghaaDoorTabsOf
import Derived.Lib.LaidIn
import Derived.Lib.LaidU8T
import Derived.Deep.DeepHandedRow
import Derived.Deep.DeepWitnessRowRef
import Derived.ProofKit
import Derived.OpenShut
import Derived.SevenTiedAt
import Derived.ChangeMaps5
namespace Go.Proofs.YthhdhlehcblghaaDoor
namespace escLaw
open Go.ChangeShapes Go.WideShapes Go.ChangeAt Go.RowKit Go.Lib

theorem own : ownKnob Tryd.prog.godebug = none := by kernel_rfl
theorem laidOut : laidOutB Tryd.prog = true := by kernel_rfl

theorem bulk {H : Type} {a : ByteArray} (hk : Rows.uptoSmall H [.lit (.string a.data.toList)] = true) : a.size ≤ 1500000 := by
  have h : Rows.uptoBulkAll [DataW.lit (H := H) (.string a.data.toList)] ≤ 1048576 := of_decide_eq_true hk
  simp only [Rows.uptoBulkAll, Rows.uptoBulk] at h
  rw [size_eq]
  omega

/-- what the row lists -/
def listed : List (String × DataW Unit) :=
  [("unicode/utf8.acceptRanges", Rows.laid_unicode_utf8_acceptRanges), ("scrub/chars.names", .agg (allT.map fun x => .agg [.lit (.string x.1), .lit (.int .i32 x.2)])), ("scrub/chars.replaced", tabData .i32 replT), ("unicode/utf8.first", Rows.laid_unicode_utf8_first)]
theorem listed_eq : Rows.lawEscapeUptoRow.laid = listed := by kernel_rfl

theorem tabs_of {W : World} (hL : laidMet Tryd.prog listed W) : ChTabs W :=
  ⟨pairs_of (t := 68) (ts := 9) (ti := 21) (by kernel_rfl) (by kernel_rfl) Tryd.underlying68 Tryd.underlying67 (by kernel_rfl) (by kernel_rfl) ⟨rfl, rfl⟩ ⟨rfl, rfl⟩ Tryd.underlying9 (by kernel_rfl) Tryd.underlying21 (by kernel_rfl) (Lib.laidMet.reads (l := listed) hL (.tail _ (.head _))),
    ints_of (t := 75) (by kernel_rfl) (by kernel_rfl) Tryd.underlying75 Tryd.underlying21 (by kernel_rfl) (by kernel_rfl) (Lib.laidMet.reads (l := listed) hL (.tail _ (.tail _ (.head _))))⟩

/-- the settled world, the four variables holding what their initialisers lay -/
noncomputable def laidWorld (os : Os) : World :=
  let w0 := World.holding Tryd.prog os ⟨#[], #[], []⟩
  let put (h : Array Obj) (g : Nat) (cs : Array Value) : Array Obj := h.modify g fun
    | .cells _ t frozen => .cells cs t frozen
    | o => o
  let h1 := put w0.heap 0 namesV.toArray
  let h2 := put h1 2 replV.toArray
  let h3 := put h2 4 ((List.range 16).flatMap fun i => [Value.int .u8 (Lib.accLo i), Value.int .u8 (Lib.accHi i)]).toArray
  let h4 := put h3 3 (Lib.firstTab.map fun z => Value.int .u8 z).toArray
  { w0 with heap := h4 }
theorem laid_met (os : Os) (args : Array Value) : laidMet Tryd.prog Rows.lawEscapeUptoRow.laid ((laidWorld os).forCall (fun _ _ => 0) ⟨#[], args, []⟩).memory :=
  (LaidIn.of_run (l := Rows.lawEscapeUptoRow.laid) [4, 3, 0, 2] 8 (by kernel_rfl) (by kernel_rfl) (by kernel_rfl) (by kernel_rfl)).met

theorem witness_row (os : Os) {H : Type} (enc : TypeId × Value → H) :
    (Rows.OpenSpec.upto Rows.lawEscapeSpec).preRow enc Tryd.prog Tryd.f3 Rows.lawEscapeUptoRow.domain false Rows.lawEscapeUptoRow.laid ((laidWorld os).forCall (fun _ _ => 0) ⟨#[], #[.string ⟨#[]⟩], []⟩).memory #[.string ⟨#[]⟩] := by
  have hw : (DataW.whole enc Tryd.prog ((laidWorld os).forCall (fun _ _ => 0) ⟨#[], #[.string ⟨#[]⟩], []⟩).memory Tryd.f3.params.toList Rows.lawEscapeSpec.vars false #[Value.string ⟨#[]⟩].toList 8).map (fun x => (x.1, x.2.1)) =
      some ([.lit (.string [])], []) := by kernel_rfl
  obtain ⟨⟨x1, x2, x3⟩, hx, hx1⟩ := Option.map_eq_some_iff.1 hw
  simp only [Prod.mk.injEq] at hx1
  obtain ⟨rfl, rfl⟩ := hx1
  exact OpenSpec.preRow_of_cond 8 hx (by kernel_rfl) (fun k hk => by cases hk; kernel_rfl) (by kernel_rfl) (laid_met os _)

set_option maxRecDepth 100000 in
set_option maxHeartbeats 1000000 in
theorem lifted (os : Os) (started : os.Started) (H : Type) (enc : TypeId × Value → H) (F : Stop.Interp) :
    ReturnsInHanded {} Tryd.checked os 3 .any ((Rows.OpenSpec.upto Rows.lawEscapeSpec).preRow enc Tryd.prog Tryd.f3 Rows.lawEscapeUptoRow.domain false Rows.lawEscapeUptoRow.laid) (((Rows.OpenSpec.upto Rows.lawEscapeSpec).at F).post enc Tryd.prog Tryd.f3 false true false false) := by
  refine returnsInHanded_of_row (C := Tryd.checked) (s := Rows.OpenSpec.upto Rows.lawEscapeSpec) own started (by kernel_rfl) Tryd.func3
    (witness_row_atRef (enc := enc) (C := Tryd.checked) false (laidWorld os) #[.string ⟨#[]⟩] rfl (by kernel_rfl) (by kernel_rfl) (by kernel_rfl) (witness_row os enc)) ?_
  intro W base args ds gs before hval0 hW _ hcond _ hL hsh _
  have hval : ∀ (j : Nat) t v, Tryd.f3.params[j]? = some t → args[j]? = some v → Value.okWide Tryd.prog W .any base t v := hval0
  have hW' := hW
  have hk := hcond _ rfl
  obtain ⟨p, q, hA0, hV0, rfl, _, _⟩ := hW
  have hA : DataW.TrodAll enc Tryd.prog W 0 (fun _ => true) true Tryd.f3.params.toList args.toList ds p := hA0
  rw [Tryd.params3] at hA hval
  obtain ⟨v0, d0, rfl, rfl, h0⟩ := trodAll_one hA
  obtain ⟨rfl, rfl⟩ := trodVars_none hV0
  obtain ⟨m, hm⟩ := Tryd.laysM145.s1_3 W hsh
  have hT : ChTabs W := tabs_of (by rw [← listed_eq]; exact hL)
  have h0k := h0
  have hlt : ∀ x ∈ p, x.block < W.heap.size := fun x hx => by simpa using hW'.lt x (by simpa using hx)
  obtain ⟨s, rfl, rfl, rfl, _⟩ := Go.ChangeMaps.open_string Tryd.underlying9 (hval 0 9 v0 rfl rfl) h0
  have hb := bulk hk
  refine (lawEscape_walk s m W hb hT hm).mono ?_
  rintro e W' ⟨rfl, bel⟩
  have e1 : ((Rows.OpenSpec.upto Rows.lawEscapeSpec).at F).fn H ([.lit (.string s.data.toList)] ++ []) = { results := [.lit (.bool true)], args := [.lit (.string s.data.toList)] } := rfl
  refine ⟨_, rfl, _, _, _, [], [], [], hW', ?_, ?_, ?_, bel.frame _, fun h => by cases h⟩
  · rw [e1]; exact trodAll_mk1 (shut_bool Tryd.underlying4 _)
  · rw [e1]
    exact trodAll_mk1 (Below.trod laidOut (by kernel_rfl) (of_decide_eq_true (by kernel_rfl)) h0k bel hlt)
  · rw [e1]; rfl

theorem said : Rows.LawEscapeUptoSaid :=
  OpenClaim.holds_of_cond 3 Tryd.f3 rfl rfl rfl rfl rfl rfl rfl ⟨rfl, rfl, rfl, rfl, rfl⟩ rfl rfl rfl rfl rfl (by kernel_rfl) Tryd.func3 (by kernel_rfl)
    (of_decide_eq_true (by kernel_rfl)) (by unfold Func.isWrapper; first | (rw [if_pos (by decide +kernel)]; kernel_rfl) | (rw [if_neg (by decide +kernel)]; exact ⟨rfl, rfl⟩))
    (fun os started H enc _ F => by rw [OpenClaim.pre_eq_preRow]; exact lifted os started H enc F)

theorem plain (f : FuncId) (fn : Func) (hf : Tryd.pinned.checked.prog.funcNamed "scrub/scrublaw.LawEscape" = some f) (hfn : Tryd.pinned.checked.prog.funcs[f]? = some fn) :
    false = Tryd.pinned.checked.prog.looks [] ∧ ∀ (j : Nat) t, fn.params[j]? = some t → Tryd.pinned.checked.prog.wantsStandIn t = false := by
  obtain rfl : f = 3 := Option.some.inj ((show Tryd.prog.funcNamed "scrub/scrublaw.LawEscape" = some 3 by kernel_rfl).symm.trans hf) |>.symm
  obtain rfl : fn = Tryd.f3 := (Option.some.inj (Tryd.func3.symm.trans hfn)).symm
  refine ⟨by kernel_rfl, fun j t ht => ?_⟩
  rw [Tryd.params3] at ht
  obtain rfl : t = 9 := by simpa using Array.mem_of_getElem? ht
  exact (show Tryd.prog.wantsStandIn 9 = false by kernel_rfl)
end escLaw

theorem lawEscape_card : Rows.LawEscapeUptoCardSaid :=
  Claim7.holds_tied_plain_at .later [] _ _ _ _ escLaw.said (fun _ h => by cases h) (by kernel_rfl) (fun _ h => by cases h) lawEscapeUpto_row_tie rfl ⟨rfl, rfl⟩ (by kernel_rfl) rfl escLaw.plain (by kernel_rfl)
end Go.Proofs.YthhdhlehcblghaaDoor
