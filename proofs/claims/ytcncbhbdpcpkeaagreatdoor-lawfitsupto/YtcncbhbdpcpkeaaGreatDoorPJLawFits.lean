/-
  Fits and Serialize answer as the document's own words do, whatever the policy, the nodes and the words that stand behind the lists; nothing that was handed in is written into: proved for every policy, list of nodes and list of words that are, with the six tables that are read, of bulk at most 1048576, the tables being what the program lays.
-/
import Derived.Test.YtcncbhbdpcpkeaaGreatDoorCards
import Derived.Test.YtcncbhbdpcpkeaaGreatDoorTie
import Derived.Lib.LaidIn
import Derived.Lib.LaidU8T
import Derived.Deep.DeepHandedRow
import Derived.Deep.DeepWitnessRowRef
import Derived.ProofKit
import Derived.OpenShut
import Derived.SevenTiedAt
import Derived.ChangeMaps5
import Derived.Carry
import Derived.Test.YtcncbhbdpcpkeaaGreatDoorPJBX
import Derived.Test.YtcncbhbdpcpkeaaGreatDoorPJAV
import Derived.Test.YtcncbhbdpcpkeaaGreatDoorPJBF
import Derived.Test.YtcncbhbdpcpkeaaGreatDoorPJBB
namespace Go.Proofs.YtcncbhbdpcpkeaaGreatDoor
namespace fitsLaw
open Go.ChangeShapes Go.WideShapes Go.ChangeAt Go.RowKit Go.Lib Go.Joins

theorem own : ownKnob Tryz.prog.godebug = none := by kernel_rfl
theorem laidOut : laidOutB Tryz.prog = true := by kernel_rfl

theorem bulk3 {H : Type} {a b c : DataW H} (hk : Rows.uptoSmall H [a, b, c] = true) : Rows.uptoBulk a ≤ 1048576 ∧ Rows.uptoBulk b ≤ 1048576 ∧ Rows.uptoBulk c ≤ 1048576 := by
  have h : Rows.uptoBulkAll [a, b, c] ≤ 1048576 := of_decide_eq_true hk
  simp only [Rows.uptoBulkAll] at h
  omega

/-- what the row lists -/
def listed : List (String × DataW Unit) :=
  [("scrub/scrubref.attributeNames", .agg (attrT.map fun x => .lit (.string x))), ("scrub/vocabulary.nesting", .agg (nestT.map fun r => .agg (r.map fun n : Nat => .lit (.int .i64 (n : Int))))), ("scrub/vocabulary.kinds", .agg (kindT.map fun x => .agg [.slice (x.1.map fun s => .lit (.string s)) [], .lit (.int .i64 x.2.1), .lit (.int .i64 x.2.2)])), ("scrub/vocabulary.attributes", .agg (vattrT.map fun x => .lit (.string x))), ("unicode/utf8.acceptRanges", Rows.laid_unicode_utf8_acceptRanges), ("unicode/utf8.first", Rows.laid_unicode_utf8_first)]
theorem listed_eq : Rows.lawFitsUptoRow.laid = listed := by kernel_rfl

theorem attr_of {W : World} (hL : laidMet Tryz.prog listed W) : AttrTab W :=
  strs_ofK (t := 265) (e := 9) (m := 15) (by kernel_rfl) (by kernel_rfl) Tryz.underlying265 Tryz.underlying9 (by kernel_rfl) (by kernel_rfl) (Lib.laidMet.reads (l := listed) hL (.head _))
theorem nesting_of {W : World} (hL : laidMet Tryz.prog listed W) : NestTab W :=
  nest_of (Lib.laidMet.reads (l := listed) hL (.tail _ (.head _)))
theorem kind_of {W : World} (hL : laidMet Tryz.prog listed W) : KindsTab W :=
  kinds_of (Lib.laidMet.reads (l := listed) hL (.tail _ (.tail _ (.head _))))
theorem vattr_of {W : World} (hL : laidMet Tryz.prog listed W) : VAttrTab W :=
  strs_ofK (t := 265) (e := 9) (m := 15) (by kernel_rfl) (by kernel_rfl) Tryz.underlying265 Tryz.underlying9 (by kernel_rfl) (by kernel_rfl) (Lib.laidMet.reads (l := listed) hL (.tail _ (.tail _ (.tail _ (.head _)))))

/-- the settled world, the six variables holding what their initialisers lay; the lists of names lie in blocks of their own -/
noncomputable def laidWorld (os : Os) : World :=
  let w0 := World.holding Tryz.prog os ⟨#[], #[], []⟩
  let put (h : Array Obj) (g : Nat) (cs : Array Value) : Array Obj := h.modify g fun
    | .cells _ t frozen => .cells cs t frozen
    | o => o
  let n0 := w0.heap.size
  let h0 := kindT.foldl (fun h x => h.push (.cells (x.1.map fun s => Value.string (bs s)).toArray 9 (0, 0))) w0.heap
  let h1 := put h0 5 (attrT.map fun s => Value.string (bs s)).toArray
  let h2 := put h1 0 (kindT.zipIdx.flatMap fun x => [Value.slice (some ⟨n0 + x.2, 0, none⟩) x.1.1.length x.1.1.length, .int .i64 x.1.2.1, .int .i64 x.1.2.2]).toArray
  let h3 := put h2 3 (vattrT.map fun s => Value.string (bs s)).toArray
  let h4 := put h3 8 ((List.range 16).flatMap fun i => [Value.int .u8 (Lib.accLo i), Value.int .u8 (Lib.accHi i)]).toArray
  let h5 := put h4 7 (Lib.firstTab.map fun z => Value.int .u8 z).toArray
  let h6 := put h5 1 ((nestT.flatMap id).map fun n : Nat => Value.int .i64 (n : Int)).toArray
  { w0 with heap := h6 }
theorem laid_met (os : Os) (args : Array Value) : laidMet Tryz.prog Rows.lawFitsUptoRow.laid ((laidWorld os).forCall (fun _ _ => 0) ⟨#[], args, []⟩).memory :=
  (LaidIn.of_run (l := Rows.lawFitsUptoRow.laid) ([5, 1, 0, 3, 8, 7] ++ (List.range 12).map fun i => (World.holding Tryz.prog os ⟨#[], #[], []⟩).heap.size + i) 8 (by kernel_rfl) (by kernel_rfl) (by kernel_rfl) (by kernel_rfl)).met

theorem witness_row (os : Os) {H : Type} (enc : TypeId × Value → H) :
    (Rows.OpenSpec.upto Rows.lawFitsSpec).preRow enc Tryz.prog Tryz.f4 Rows.lawFitsUptoRow.domain false Rows.lawFitsUptoRow.laid ((laidWorld os).forCall (fun _ _ => 0) ⟨#[], #[.agg #[.slice none 0 0, .slice none 0 0, .slice none 0 0, .int .i64 0, .int .i64 0], .slice none 0 0, .slice none 0 0], []⟩).memory #[.agg #[.slice none 0 0, .slice none 0 0, .slice none 0 0, .int .i64 0, .int .i64 0], .slice none 0 0, .slice none 0 0] := by
  have hw : (DataW.whole enc Tryz.prog ((laidWorld os).forCall (fun _ _ => 0) ⟨#[], #[.agg #[.slice none 0 0, .slice none 0 0, .slice none 0 0, .int .i64 0, .int .i64 0], .slice none 0 0, .slice none 0 0], []⟩).memory Tryz.f4.params.toList Rows.lawFitsSpec.vars false #[Value.agg #[.slice none 0 0, .slice none 0 0, .slice none 0 0, .int .i64 0, .int .i64 0], .slice none 0 0, .slice none 0 0].toList 8).map (fun x => (x.1, x.2.1)) =
      some ([.agg [.nil, .nil, .nil, .lit (.int .i64 0), .lit (.int .i64 0)], .nil, .nil], []) := by kernel_rfl
  obtain ⟨⟨x1, x2, x3⟩, hx, hx1⟩ := Option.map_eq_some_iff.1 hw
  simp only [Prod.mk.injEq] at hx1
  obtain ⟨rfl, rfl⟩ := hx1
  exact OpenSpec.preRow_of_cond 8 hx (by kernel_rfl) (fun k hk => by cases hk; kernel_rfl) (by kernel_rfl) (laid_met os _)

set_option maxRecDepth 100000 in
set_option maxHeartbeats 1000000 in
theorem lifted (os : Os) (started : os.Started) (H : Type) (enc : TypeId × Value → H) (F : Stop.Interp) :
    ReturnsInHanded {} Tryz.checked os 4 .any ((Rows.OpenSpec.upto Rows.lawFitsSpec).preRow enc Tryz.prog Tryz.f4 Rows.lawFitsUptoRow.domain false Rows.lawFitsUptoRow.laid) (((Rows.OpenSpec.upto Rows.lawFitsSpec).at F).post enc Tryz.prog Tryz.f4 false true false false) := by
  refine returnsInHanded_of_row (C := Tryz.checked) (s := Rows.OpenSpec.upto Rows.lawFitsSpec) own started (by kernel_rfl) Tryz.func4
    (witness_row_atRef (enc := enc) (C := Tryz.checked) false (laidWorld os) #[.agg #[.slice none 0 0, .slice none 0 0, .slice none 0 0, .int .i64 0, .int .i64 0], .slice none 0 0, .slice none 0 0] rfl (by kernel_rfl) (by kernel_rfl) (by kernel_rfl) (witness_row os enc)) ?_
  intro W base args ds gs before hval0 hW _ hcond _ hL hsh _
  have hval : ∀ (j : Nat) t v, Tryz.f4.params[j]? = some t → args[j]? = some v → Value.okWide Tryz.prog W .any base t v := hval0
  have hW' := hW
  have hk := hcond _ rfl
  obtain ⟨p, q, hA0, hV0, rfl, _, _⟩ := hW
  have hA : DataW.TrodAll enc Tryz.prog W 0 (fun _ => true) true Tryz.f4.params.toList args.toList ds p := hA0
  rw [Tryz.params4] at hA hval
  obtain ⟨v0, v1, v2, d0, d1, d2, p0, p1, p2, rfl, rfl, rfl, h0, h1, h2⟩ := trodAll_three hA
  obtain ⟨rfl, rfl⟩ := trodVars_none hV0
  have hL' : laidMet Tryz.prog listed W := by rw [← listed_eq]; exact hL
  have hTA := attr_of hL'
  have hTV := vattr_of hL'
  have hTK := kind_of hL'
  have hTN := nesting_of hL'
  obtain ⟨m, hmx⟩ := Tryz.laysM143.s1_3 W hsh
  have h0k := h0
  have h1k := h1
  have h2k := h2
  have hlt : ∀ x ∈ p0 ++ p1 ++ p2, x.block < W.heap.size := fun x hx => by simpa using hW'.lt x (by simpa using hx)
  have hlt0 : ∀ x ∈ p0, x.block < W.heap.size := fun x hx => hlt x (by simp [hx])
  have hlt1 : ∀ x ∈ p1, x.block < W.heap.size := fun x hx => hlt x (by simp [hx])
  have hlt2 : ∀ x ∈ p2, x.block < W.heap.size := fun x hx => hlt x (by simp [hx])
  clear hlt
  obtain ⟨k0, k1, k2⟩ := bulk3 hk
  obtain ⟨vr, vs, vd, P, rfl, hP, hF⟩ := policy_of (hval 0 43 v0 rfl rfl) h0 k0
  obtain ⟨ea, elen, ecap, rfl⟩ := okWide_slice Tryz.underlying29 (hval 1 29 v1 rfl rfl)
  obtain ⟨a0, len, cap, rfl⟩ := okWide_slice Tryz.underlying41 (hval 2 41 v2 rfl rfl)
  obtain ⟨fuel1, hf1⟩ := h1
  obtain ⟨es, hE, hEb, _⟩ := nodes_of (v := .slice ea elen ecap) hf1
  have hEb' : bulkE es ≤ Rows.uptoBulk d1 := hEb
  obtain ⟨fuel, hf⟩ := h2
  obtain ⟨ms, hM, hm1, _⟩ := words_of (v := .slice a0 len cap) hf k2
  refine (lawFits_walk vr vs vd _ P _ es ms m W hP hF hE (by omega) hM (by omega) hTA hTK hTN hTV hmx).mono ?_
  rintro e W' ⟨rfl, bel⟩
  have e1 : ((Rows.OpenSpec.upto Rows.lawFitsSpec).at F).fn H ([d0, d1, d2] ++ []) = { results := [.lit (.bool true)], args := [d0, d1, d2] } := rfl
  refine ⟨_, rfl, _, _, _, [], p0 ++ (p1 ++ p2), [], hW', ?_, ?_, ?_, bel.frame _, fun h => by cases h⟩
  · rw [e1]; exact trodAll_mk1 (shut_bool Tryz.underlying4 _)
  · rw [e1]
    exact trodAll_mk3 (Below.trod laidOut (by kernel_rfl) (of_decide_eq_true (by kernel_rfl)) h0k bel hlt0) (Below.trod laidOut (by kernel_rfl) (of_decide_eq_true (by kernel_rfl)) h1k bel hlt1) (Below.trod laidOut (by kernel_rfl) (of_decide_eq_true (by kernel_rfl)) h2k bel hlt2)
  · rw [e1]; rfl

theorem said : Rows.LawFitsUptoSaid :=
  OpenClaim.holds_of_cond 4 Tryz.f4 rfl rfl rfl rfl rfl rfl rfl ⟨rfl, rfl, rfl, rfl, rfl⟩ rfl rfl rfl rfl rfl (by kernel_rfl) Tryz.func4 (by kernel_rfl)
    (of_decide_eq_true (by kernel_rfl)) (by unfold Func.isWrapper; first | (rw [if_pos (by decide +kernel)]; kernel_rfl) | (rw [if_neg (by decide +kernel)]; exact ⟨rfl, rfl⟩))
    (fun os started H enc _ F => by rw [OpenClaim.pre_eq_preRow]; exact lifted os started H enc F)

theorem plain (f : FuncId) (fn : Func) (hf : Tryz.pinned.checked.prog.funcNamed "scrub/scrublaw.LawFits" = some f) (hfn : Tryz.pinned.checked.prog.funcs[f]? = some fn) :
    false = Tryz.pinned.checked.prog.looks [] ∧ ∀ (j : Nat) t, fn.params[j]? = some t → Tryz.pinned.checked.prog.wantsStandIn t = false := by
  obtain rfl : f = 4 := Option.some.inj ((show Tryz.prog.funcNamed "scrub/scrublaw.LawFits" = some 4 by kernel_rfl).symm.trans hf) |>.symm
  obtain rfl : fn = Tryz.f4 := (Option.some.inj (Tryz.func4.symm.trans hfn)).symm
  refine ⟨by kernel_rfl, fun j t ht => ?_⟩
  rw [Tryz.params4] at ht
  have hm : t = 43 ∨ t = 29 ∨ t = 41 := by simpa using Array.mem_of_getElem? ht
  rcases hm with rfl | rfl | rfl
  · exact (show Tryz.prog.wantsStandIn 43 = false by kernel_rfl)
  · exact (show Tryz.prog.wantsStandIn 29 = false by kernel_rfl)
  · exact (show Tryz.prog.wantsStandIn 41 = false by kernel_rfl)
end fitsLaw

theorem lawFits_card : Rows.LawFitsUptoCardSaid :=
  Claim7.holds_tied_plain_at .later [] _ _ _ _ fitsLaw.said (fun _ h => by cases h) (by kernel_rfl) (fun _ h => by cases h) lawFitsUpto_row_tie rfl ⟨rfl, rfl⟩ (by kernel_rfl) rfl fitsLaw.plain (by kernel_rfl)
end Go.Proofs.YtcncbhbdpcpkeaaGreatDoor
