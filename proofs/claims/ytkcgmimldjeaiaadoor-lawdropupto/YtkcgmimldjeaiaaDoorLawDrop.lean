/-
  An element in Drop goes with all that it holds, nested ones too, and nothing else goes; of one that has no rule the content stays; whatever policy it was that was brought in order and whatever events stand ahead, within and behind: proved for every policy and three lists of events that are of bulk at most 1048576 together, the tables being what the program lays.
-/
import Derived.Test.YtkcgmimldjeaiaaDoorCards
import Derived.Test.YtkcgmimldjeaiaaDoorTie
import Derived.Test.YtkcgmimldjeaiaaDoorJoinF
import Derived.Test.YtkcgmimldjeaiaaDoorJoinB
import Derived.Lib.LaidIn
import Derived.Lib.LaidU8T
import Derived.Deep.DeepHandedRow
import Derived.Deep.DeepWitnessRowRef
import Derived.ProofKit
import Derived.OpenShut
import Derived.SevenTiedAt
import Derived.ChangeMaps5
import Derived.Carry
namespace Go.Proofs.YtkcgmimldjeaiaaDoor
namespace dropLaw
open Go.ChangeShapes Go.WideShapes Go.ChangeAt Go.RowKit Go.Lib Go.Joins

theorem own : ownKnob Tryd.prog.godebug = none := by kernel_rfl
theorem laidOut : laidOutB Tryd.prog = true := by kernel_rfl

theorem bulk4 {H : Type} {a b c d : DataW H} (hk : Rows.uptoSmall H [a, b, c, d] = true) : Rows.uptoBulk a ≤ 1048576 ∧ Rows.uptoBulk b + Rows.uptoBulk c + Rows.uptoBulk d ≤ 1048576 := by
  have h : Rows.uptoBulkAll [a, b, c, d] ≤ 1048576 := of_decide_eq_true hk
  simp only [Rows.uptoBulkAll] at h
  omega

/-- what the row lists -/
def listed : List (String × DataW Unit) :=
  [("scrub/vocabulary.kinds", .agg (kindT.map fun x => .agg [.slice (x.1.map fun s => .lit (.string s)) [], .lit (.int .i64 x.2.1), .lit (.int .i64 x.2.2)])), ("scrub/vocabulary.attributes", .agg (vattrT.map fun x => .lit (.string x))), ("unicode/utf8.acceptRanges", Rows.laid_unicode_utf8_acceptRanges), ("scrub/scrublaw.allElements", .agg (ordE.map fun x => .lit (.string x))), ("scrub/scrublaw.allAttributes", .agg (ordA.map fun x => .lit (.string x))), ("scrub/scrublaw.someSchemes", .agg (ordS.map fun x => .lit (.string x))), ("scrub/scrublaw.someDrops", .agg (ordD.map fun x => .lit (.string x))), ("unicode/utf8.first", Rows.laid_unicode_utf8_first)]
theorem listed_eq : Rows.lawDropUptoRow.laid = listed := by kernel_rfl

theorem vattr_of {W : World} (hL : laidMet Tryd.prog listed W) : VAttrTab W :=
  strs_ofK (t := 74) (e := 9) (m := 15) (by kernel_rfl) (by kernel_rfl) Tryd.underlying74 Tryd.underlying9 (by kernel_rfl) (by kernel_rfl) (Lib.laidMet.reads (l := listed) hL (.tail _ (.head _)))
theorem kind_of {W : World} (hL : laidMet Tryd.prog listed W) : KindsTab W :=
  kinds_of (Lib.laidMet.reads (l := listed) hL (.head _))
theorem ord_of {W : World} (hL : laidMet Tryd.prog listed W) : OrdTabs W :=
  ⟨strs_ofK (t := 71) (e := 9) (m := 37) (by kernel_rfl) (by kernel_rfl) Tryd.underlying71 Tryd.underlying9 (by kernel_rfl) (by kernel_rfl) (Lib.laidMet.reads (l := listed) hL (.tail _ (.tail _ (.tail _ (.head _))))),
  strs_ofK (t := 74) (e := 9) (m := 15) (by kernel_rfl) (by kernel_rfl) Tryd.underlying74 Tryd.underlying9 (by kernel_rfl) (by kernel_rfl) (Lib.laidMet.reads (l := listed) hL (.tail _ (.tail _ (.tail _ (.tail _ (.head _)))))),
  strs_ofK (t := 76) (e := 9) (m := 6) (by kernel_rfl) (by kernel_rfl) Tryd.underlying76 Tryd.underlying9 (by kernel_rfl) (by kernel_rfl) (Lib.laidMet.reads (l := listed) hL (.tail _ (.tail _ (.tail _ (.tail _ (.tail _ (.head _))))))),
  strs_ofK (t := 77) (e := 9) (m := 8) (by kernel_rfl) (by kernel_rfl) Tryd.underlying77 Tryd.underlying9 (by kernel_rfl) (by kernel_rfl) (Lib.laidMet.reads (l := listed) hL (.tail _ (.tail _ (.tail _ (.tail _ (.tail _ (.tail _ (.head _))))))))⟩

/-- the settled world, the eight variables holding what their initialisers lay; the lists of names lie in blocks of their own -/
noncomputable def laidWorld (os : Os) : World :=
  let w0 := World.holding Tryd.prog os ⟨#[], #[], []⟩
  let put (h : Array Obj) (g : Nat) (cs : Array Value) : Array Obj := h.modify g fun
    | .cells _ t frozen => .cells cs t frozen
    | o => o
  let n0 := w0.heap.size
  let h0 := kindT.foldl (fun h x => h.push (.cells (x.1.map fun s => Value.string (bs s)).toArray 9 (0, 0))) w0.heap
  let h2 := put h0 4 (kindT.zipIdx.flatMap fun x => [Value.slice (some ⟨n0 + x.2, 0, none⟩) x.1.1.length x.1.1.length, .int .i64 x.1.2.1, .int .i64 x.1.2.2]).toArray
  let h3 := put h2 6 (vattrT.map fun s => Value.string (bs s)).toArray
  let h4 := put h3 12 ((List.range 16).flatMap fun i => [Value.int .u8 (Lib.accLo i), Value.int .u8 (Lib.accHi i)]).toArray
  let h5 := put h4 0 (ordE.map fun s => Value.string (bs s)).toArray
  let h6 := put h5 1 (ordA.map fun s => Value.string (bs s)).toArray
  let h7 := put h6 2 (ordS.map fun s => Value.string (bs s)).toArray
  let h7a := put h7 3 (ordD.map fun s => Value.string (bs s)).toArray
  let h8 := put h7a 11 (Lib.firstTab.map fun z => Value.int .u8 z).toArray
  { w0 with heap := h8 }
theorem laid_met (os : Os) (args : Array Value) : laidMet Tryd.prog Rows.lawDropUptoRow.laid ((laidWorld os).forCall (fun _ _ => 0) ⟨#[], args, []⟩).memory :=
  (LaidIn.of_run (l := Rows.lawDropUptoRow.laid) ([4, 6, 12, 0, 1, 2, 3, 11] ++ (List.range 12).map fun i => (World.holding Tryd.prog os ⟨#[], #[], []⟩).heap.size + i) 8 (by kernel_rfl) (by kernel_rfl) (by kernel_rfl) (by kernel_rfl)).met

theorem witness_row (os : Os) {H : Type} (enc : TypeId × Value → H) :
    (Rows.OpenSpec.upto Rows.lawDropSpec).preRow enc Tryd.prog Tryd.f4 Rows.lawDropUptoRow.domain false Rows.lawDropUptoRow.laid ((laidWorld os).forCall (fun _ _ => 0) ⟨#[], #[.agg #[.slice none 0 0, .slice none 0 0, .slice none 0 0, .int .i64 0, .int .i64 0], .slice none 0 0, .slice none 0 0, .slice none 0 0], []⟩).memory #[.agg #[.slice none 0 0, .slice none 0 0, .slice none 0 0, .int .i64 0, .int .i64 0], .slice none 0 0, .slice none 0 0, .slice none 0 0] := by
  have hw : (DataW.whole enc Tryd.prog ((laidWorld os).forCall (fun _ _ => 0) ⟨#[], #[.agg #[.slice none 0 0, .slice none 0 0, .slice none 0 0, .int .i64 0, .int .i64 0], .slice none 0 0, .slice none 0 0, .slice none 0 0], []⟩).memory Tryd.f4.params.toList Rows.lawDropSpec.vars false #[Value.agg #[.slice none 0 0, .slice none 0 0, .slice none 0 0, .int .i64 0, .int .i64 0], .slice none 0 0, .slice none 0 0, .slice none 0 0].toList 8).map (fun x => (x.1, x.2.1)) =
      some ([.agg [.nil, .nil, .nil, .lit (.int .i64 0), .lit (.int .i64 0)], .nil, .nil, .nil], []) := by kernel_rfl
  obtain ⟨⟨x1, x2, x3⟩, hx, hx1⟩ := Option.map_eq_some_iff.1 hw
  simp only [Prod.mk.injEq] at hx1
  obtain ⟨rfl, rfl⟩ := hx1
  exact OpenSpec.preRow_of_cond 8 hx (by kernel_rfl) (fun k hk => by cases hk; kernel_rfl) (by kernel_rfl) (laid_met os _)

set_option maxRecDepth 100000 in
set_option maxHeartbeats 1000000 in
theorem lifted (os : Os) (started : os.Started) (H : Type) (enc : TypeId × Value → H) (F : Stop.Interp) :
    ReturnsInHanded {} Tryd.checked os 4 .any ((Rows.OpenSpec.upto Rows.lawDropSpec).preRow enc Tryd.prog Tryd.f4 Rows.lawDropUptoRow.domain false Rows.lawDropUptoRow.laid) (((Rows.OpenSpec.upto Rows.lawDropSpec).at F).post enc Tryd.prog Tryd.f4 false true false false) := by
  refine returnsInHanded_of_row (C := Tryd.checked) (s := Rows.OpenSpec.upto Rows.lawDropSpec) own started (by kernel_rfl) Tryd.func4
    (witness_row_atRef (enc := enc) (C := Tryd.checked) false (laidWorld os) #[.agg #[.slice none 0 0, .slice none 0 0, .slice none 0 0, .int .i64 0, .int .i64 0], .slice none 0 0, .slice none 0 0, .slice none 0 0] rfl (by kernel_rfl) (by kernel_rfl) (by kernel_rfl) (witness_row os enc)) ?_
  intro W base args ds gs before hval0 hW _ hcond _ hL hsh _
  have hval : ∀ (j : Nat) t v, Tryd.f4.params[j]? = some t → args[j]? = some v → Value.okWide Tryd.prog W .any base t v := hval0
  have hW' := hW
  have hk := hcond _ rfl
  obtain ⟨p, q, hA0, hV0, rfl, _, _⟩ := hW
  have hA : DataW.TrodAll enc Tryd.prog W 0 (fun _ => true) true Tryd.f4.params.toList args.toList ds p := hA0
  rw [Tryd.params4] at hA hval
  obtain ⟨v0, v1, v2, v3, d0, d1, d2, d3, p0, p1, p2, p3, rfl, rfl, rfl, h0, h1, h2, h3⟩ := trodAll_four hA
  obtain ⟨rfl, rfl⟩ := trodVars_none hV0
  have hL' : laidMet Tryd.prog listed W := by rw [← listed_eq]; exact hL
  have hTV := vattr_of hL'
  have hTK := kind_of hL'
  have hTO := ord_of hL'
  obtain ⟨m, hmx⟩ := Tryd.laysM143.s1_3 W hsh
  have h0k := h0
  have h1k := h1
  have h2k := h2
  have h3k := h3
  have hlt : ∀ x ∈ p0 ++ p1 ++ p2 ++ p3, x.block < W.heap.size := fun x hx => by simpa using hW'.lt x (by simpa using hx)
  have hlt0 : ∀ x ∈ p0, x.block < W.heap.size := fun x hx => hlt x (by simp [hx])
  have hlt1 : ∀ x ∈ p1, x.block < W.heap.size := fun x hx => hlt x (by simp [hx])
  have hlt2 : ∀ x ∈ p2, x.block < W.heap.size := fun x hx => hlt x (by simp [hx])
  have hlt3 : ∀ x ∈ p3, x.block < W.heap.size := fun x hx => hlt x (by simp [hx])
  clear hlt
  obtain ⟨k0, k1⟩ := bulk4 hk
  obtain ⟨vr, vs, vd, P, rfl, hP, hF, hSN⟩ := policy_ofS (hval 0 35 v0 rfl rfl) h0 k0
  obtain ⟨ea, elen, ecap, rfl⟩ := okWide_slice Tryd.underlying22 (hval 1 22 v1 rfl rfl)
  obtain ⟨ha, hlen, hcap, rfl⟩ := okWide_slice Tryd.underlying22 (hval 2 22 v2 rfl rfl)
  obtain ⟨ka, klen, kcap, rfl⟩ := okWide_slice Tryd.underlying22 (hval 3 22 v3 rfl rfl)
  obtain ⟨fuel1, hf1⟩ := h1
  obtain ⟨es, hE, hEb, _⟩ := events_of (v := .slice ea elen ecap) hf1
  obtain ⟨fuel2, hf2⟩ := h2
  obtain ⟨hs, hH, hHb, _⟩ := events_of (v := .slice ha hlen hcap) hf2
  obtain ⟨fuel3, hf3⟩ := h3
  obtain ⟨ks, hK, hKb, _⟩ := events_of (v := .slice ka klen kcap) hf3
  have hEb' : bulkE es ≤ Rows.uptoBulk d1 := hEb
  have hHb' : bulkE hs ≤ Rows.uptoBulk d2 := hHb
  have hKb' : bulkE ks ≤ Rows.uptoBulk d3 := hKb
  have hSM : attrsM P.rules ≤ 1048576 := hSN
  refine (lawDrop_walk vr vs vd _ _ _ P es hs ks m W hP hF (Nat.le_trans hSM (by omega)) hE hH hK (by omega) hTO hTK hTV hmx).mono ?_
  rintro e W' ⟨rfl, bel⟩
  have e1 : ((Rows.OpenSpec.upto Rows.lawDropSpec).at F).fn H ([d0, d1, d2, d3] ++ []) = { results := [.lit (.bool true)], args := [d0, d1, d2, d3] } := rfl
  refine ⟨_, rfl, _, _, _, [], p0 ++ (p1 ++ (p2 ++ p3)), [], hW', ?_, ?_, ?_, bel.frame _, fun h => by cases h⟩
  · rw [e1]; exact trodAll_mk1 (shut_bool Tryd.underlying4 _)
  · rw [e1]
    exact trodAll_mk4 (Below.trod laidOut (by kernel_rfl) (of_decide_eq_true (by kernel_rfl)) h0k bel hlt0) (Below.trod laidOut (by kernel_rfl) (of_decide_eq_true (by kernel_rfl)) h1k bel hlt1) (Below.trod laidOut (by kernel_rfl) (of_decide_eq_true (by kernel_rfl)) h2k bel hlt2) (Below.trod laidOut (by kernel_rfl) (of_decide_eq_true (by kernel_rfl)) h3k bel hlt3)
  · rw [e1]; rfl

theorem said : Rows.LawDropUptoSaid :=
  OpenClaim.holds_of_cond 4 Tryd.f4 rfl rfl rfl rfl rfl rfl rfl ⟨rfl, rfl, rfl, rfl, rfl⟩ rfl rfl rfl rfl rfl (by kernel_rfl) Tryd.func4 (by kernel_rfl)
    (of_decide_eq_true (by kernel_rfl)) (by unfold Func.isWrapper; first | (rw [if_pos (by decide +kernel)]; kernel_rfl) | (rw [if_neg (by decide +kernel)]; exact ⟨rfl, rfl⟩))
    (fun os started H enc _ F => by rw [OpenClaim.pre_eq_preRow]; exact lifted os started H enc F)

theorem plain (f : FuncId) (fn : Func) (hf : Tryd.pinned.checked.prog.funcNamed "scrub/scrublaw.LawDrop" = some f) (hfn : Tryd.pinned.checked.prog.funcs[f]? = some fn) :
    false = Tryd.pinned.checked.prog.looks [] ∧ ∀ (j : Nat) t, fn.params[j]? = some t → Tryd.pinned.checked.prog.wantsStandIn t = false := by
  obtain rfl : f = 4 := Option.some.inj ((show Tryd.prog.funcNamed "scrub/scrublaw.LawDrop" = some 4 by kernel_rfl).symm.trans hf) |>.symm
  obtain rfl : fn = Tryd.f4 := (Option.some.inj (Tryd.func4.symm.trans hfn)).symm
  refine ⟨by kernel_rfl, fun j t ht => ?_⟩
  rw [Tryd.params4] at ht
  have hm : t = 35 ∨ t = 22 := by simpa using Array.mem_of_getElem? ht
  rcases hm with rfl | rfl
  · exact (show Tryd.prog.wantsStandIn 35 = false by kernel_rfl)
  · exact (show Tryd.prog.wantsStandIn 22 = false by kernel_rfl)
end dropLaw

theorem lawDrop_card : Rows.LawDropUptoCardSaid :=
  Claim7.holds_tied_plain_at .later [] _ _ _ _ dropLaw.said (fun _ h => by cases h) (by kernel_rfl) (fun _ h => by cases h) lawDropUpto_row_tie rfl ⟨rfl, rfl⟩ (by kernel_rfl) rfl dropLaw.plain (by kernel_rfl)
end Go.Proofs.YtkcgmimldjeaiaaDoor
