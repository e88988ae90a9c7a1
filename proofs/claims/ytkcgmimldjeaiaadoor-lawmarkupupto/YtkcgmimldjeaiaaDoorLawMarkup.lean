/-
  Write and Fold answer as the document's own words do, whatever the events and the words that stand behind the lists; the tree lies in memory of its own, its lists of attributes too, and nothing that was handed in is written into: proved for every list of events of bulk at most 1048576, at every run.
-/
import Derived.Test.YtkcgmimldjeaiaaDoorCards
import Derived.Test.YtkcgmimldjeaiaaDoorTie
import Derived.Test.YtkcgmimldjeaiaaDoorJoinF
import Derived.Test.YtkcgmimldjeaiaaDoorJoinB
import Derived.Test.YtkcgmimldjeaiaaDoorJoinE
import Derived.Lib.LaidIn
import Derived.Lib.LaidU8T
import Derived.Deep.DeepHandedRow
import Derived.Deep.DeepWitnessRowRef
import Derived.ProofKit
import Derived.OpenShut
import Derived.SevenTiedAt
import Derived.ChangeMaps5
import Derived.Carry
namespace Go.Proofs.YtkcgmimldjeaiaaDoor
namespace markupLaw
open Go.ChangeShapes Go.WideShapes Go.ChangeAt Go.RowKit Go.Lib Go.Joins

theorem own : ownKnob Tryd.prog.godebug = none := by kernel_rfl
theorem laidOut : laidOutB Tryd.prog = true := by kernel_rfl

theorem bulk2 {H : Type} {a b : DataW H} (hk : Rows.uptoSmall H [a, b] = true) : Rows.uptoBulk a ≤ 1048576 ∧ Rows.uptoBulk b ≤ 1048576 := by
  have h : Rows.uptoBulkAll [a, b] ≤ 1048576 := of_decide_eq_true hk
  simp only [Rows.uptoBulkAll] at h
  omega

def deB32 : List Int := [0, 1, 28, 2, 29, 14, 24, 3, 30, 22, 20, 15, 25, 17, 4, 8, 31, 27, 13, 23, 21, 19, 16, 7, 26, 12, 18, 6, 11, 5, 10, 9]
def deB64 : List Int := [0, 1, 56, 2, 57, 49, 28, 3, 61, 58, 42, 50, 38, 29, 17, 4, 62, 47, 59, 36, 45, 43, 51, 22, 53, 39, 33, 30, 24, 18, 12, 5, 63, 55, 48, 27, 60, 41, 37, 16, 46, 35, 44, 21, 52, 32, 23, 11, 54, 26, 40, 15, 34, 20, 31, 10, 25, 14, 19, 9, 13, 8, 7, 6]
theorem pow_of {w : World} (h : VarReads Tryd.prog w "internal/strconv.uint64pow10" (tabData .u64 Go.Lib.pow10Tab)) : Go.Lib.TabIs Tryd.prog w "internal/strconv.uint64pow10" .u64 Go.Lib.pow10Tab := by
  obtain ⟨g', t', cs, fuel, p, hg', hty, hvar, hd⟩ := h
  obtain rfl := Option.some.inj ((show Tryd.prog.globalNamed "internal/strconv.uint64pow10" = some 7 by kernel_rfl).symm.trans hg')
  obtain rfl := Option.some.inj ((show (Tryd.prog.globals[7]?).map (·.type) = some 186 by kernel_rfl).symm.trans hty)
  unfold Go.Lib.TabIs
  rw [hvar, ← cells_of_tab Tryd.underlying186 Tryd.underlying176 (by kernel_rfl) (by kernel_rfl) hd]
/-- what the row lists -/
def listed : List (String × DataW Unit) :=
  [("math/bits.deBruijn32tab", tabData .u8 deB32), ("math/bits.deBruijn64tab", tabData .u8 deB64), ("internal/strconv.uint64pow10", tabData .u64 Go.Lib.pow10Tab), ("scrub/vocabulary.kinds", .agg (kindT.map fun x => .agg [.slice (x.1.map fun s => .lit (.string s)) [], .lit (.int .i64 x.2.1), .lit (.int .i64 x.2.2)])), ("unicode/utf8.acceptRanges", Rows.laid_unicode_utf8_acceptRanges), ("unicode/utf8.first", Rows.laid_unicode_utf8_first)]
theorem listed_eq : Rows.lawMarkupUptoRow.laid = listed := by kernel_rfl

theorem kind_of {W : World} (hL : laidMet Tryd.prog listed W) : KindsTab W :=
  kinds_of (Lib.laidMet.reads (l := listed) hL (.tail _ (.tail _ (.tail _ (.head _)))))
theorem powB_of {W : World} (hL : laidMet Tryd.prog listed W) : PowB W.heap.size W := by
  have c8 := pow_of (Lib.laidMet.reads (l := listed) hL (.tail _ (.tail _ (.head _))))
  exact ⟨c8, cell_block (c8.cell (show Tryd.prog.globalNamed "internal/strconv.uint64pow10" = some 7 by kernel_rfl) 0 (by decide))⟩

/-- the settled world, the six variables holding what their initialisers lay; the lists of names lie in blocks of their own -/
noncomputable def laidWorld (os : Os) : World :=
  let w0 := World.holding Tryd.prog os ⟨#[], #[], []⟩
  let put (h : Array Obj) (g : Nat) (cs : Array Value) : Array Obj := h.modify g fun
    | .cells _ t frozen => .cells cs t frozen
    | o => o
  let n0 := w0.heap.size
  let h0 := kindT.foldl (fun h x => h.push (.cells (x.1.map fun s => Value.string (bs s)).toArray 9 (0, 0))) w0.heap
  let h2 := put h0 4 (kindT.zipIdx.flatMap fun x => [Value.slice (some ⟨n0 + x.2, 0, none⟩) x.1.1.length x.1.1.length, .int .i64 x.1.2.1, .int .i64 x.1.2.2]).toArray
  let h4 := put h2 12 ((List.range 16).flatMap fun i => [Value.int .u8 (Lib.accLo i), Value.int .u8 (Lib.accHi i)]).toArray
  let h5 := put h4 11 (Lib.firstTab.map fun z => Value.int .u8 z).toArray
  let h6 := put h5 7 (Go.Lib.pow10Tab.map fun z => Value.int .u64 z).toArray
  let h7 := put h6 8 (deB32.map fun z => Value.int .u8 z).toArray
  let h8 := put h7 9 (deB64.map fun z => Value.int .u8 z).toArray
  { w0 with heap := h8 }
theorem laid_met (os : Os) (args : Array Value) : laidMet Tryd.prog Rows.lawMarkupUptoRow.laid ((laidWorld os).forCall (fun _ _ => 0) ⟨#[], args, []⟩).memory :=
  (LaidIn.of_run (l := Rows.lawMarkupUptoRow.laid) ([8, 9, 7, 4, 12, 11] ++ (List.range 12).map fun i => (World.holding Tryd.prog os ⟨#[], #[], []⟩).heap.size + i) 6 (by kernel_rfl) (by kernel_rfl) (by kernel_rfl) (by kernel_rfl)).met

theorem witness_row (os : Os) {H : Type} (enc : TypeId × Value → H) :
    (Rows.OpenSpec.upto Rows.lawMarkupSpec).preRow enc Tryd.prog Tryd.f5 Rows.lawMarkupUptoRow.domain false Rows.lawMarkupUptoRow.laid ((laidWorld os).forCall (fun _ _ => 0) ⟨#[], #[.slice none 0 0, .slice none 0 0], []⟩).memory #[.slice none 0 0, .slice none 0 0] := by
  have hw : (DataW.whole enc Tryd.prog ((laidWorld os).forCall (fun _ _ => 0) ⟨#[], #[.slice none 0 0, .slice none 0 0], []⟩).memory Tryd.f5.params.toList Rows.lawMarkupSpec.vars false #[Value.slice none 0 0, .slice none 0 0].toList 8).map (fun x => (x.1, x.2.1)) =
      some ([.nil, .nil], []) := by kernel_rfl
  obtain ⟨⟨x1, x2, x3⟩, hx, hx1⟩ := Option.map_eq_some_iff.1 hw
  simp only [Prod.mk.injEq] at hx1
  obtain ⟨rfl, rfl⟩ := hx1
  exact OpenSpec.preRow_of_cond 8 hx (by kernel_rfl) (fun k hk => by cases hk; kernel_rfl) (by kernel_rfl) (laid_met os _)

set_option maxRecDepth 100000 in
set_option maxHeartbeats 1000000 in
theorem lifted (os : Os) (started : os.Started) (H : Type) (enc : TypeId × Value → H) (F : Stop.Interp) :
    ReturnsInHanded {} Tryd.checked os 5 .any ((Rows.OpenSpec.upto Rows.lawMarkupSpec).preRow enc Tryd.prog Tryd.f5 Rows.lawMarkupUptoRow.domain false Rows.lawMarkupUptoRow.laid) (((Rows.OpenSpec.upto Rows.lawMarkupSpec).at F).post enc Tryd.prog Tryd.f5 false true false false) := by
  refine returnsInHanded_of_row (C := Tryd.checked) (s := Rows.OpenSpec.upto Rows.lawMarkupSpec) own started (by kernel_rfl) Tryd.func5
    (witness_row_atRef (enc := enc) (C := Tryd.checked) false (laidWorld os) #[.slice none 0 0, .slice none 0 0] rfl (by kernel_rfl) (by kernel_rfl) (by kernel_rfl) (witness_row os enc)) ?_
  intro W base args ds gs before hval0 hW _ hcond _ hL hsh _
  have hval : ∀ (j : Nat) t v, Tryd.f5.params[j]? = some t → args[j]? = some v → Value.okWide Tryd.prog W .any base t v := hval0
  have hW' := hW
  have hk := hcond _ rfl
  obtain ⟨p, q, hA0, hV0, rfl, _, _⟩ := hW
  have hA : DataW.TrodAll enc Tryd.prog W 0 (fun _ => true) true Tryd.f5.params.toList args.toList ds p := hA0
  rw [Tryd.params5] at hA hval
  obtain ⟨v1, v2, d1, d2, p1, p2, rfl, rfl, rfl, h1, h2⟩ := trodAll_two hA
  obtain ⟨rfl, rfl⟩ := trodVars_none hV0
  have hL' : laidMet Tryd.prog listed W := by rw [← listed_eq]; exact hL
  have hTK := kind_of hL'
  have hTP := powB_of hL'
  obtain ⟨m, hmx⟩ := Tryd.laysM143.s1_3 W hsh
  have h1k := h1
  have h2k := h2
  have hlt : ∀ x ∈ p1 ++ p2, x.block < W.heap.size := fun x hx => by simpa using hW'.lt x (by simpa using hx)
  have hlt1 : ∀ x ∈ p1, x.block < W.heap.size := fun x hx => hlt x (by simp [hx])
  have hlt2 : ∀ x ∈ p2, x.block < W.heap.size := fun x hx => hlt x (by simp [hx])
  clear hlt
  obtain ⟨k1, k2⟩ := bulk2 hk
  obtain ⟨ea, elen, ecap, rfl⟩ := okWide_slice Tryd.underlying22 (hval 0 22 v1 rfl rfl)
  obtain ⟨a0, len, cap, rfl⟩ := okWide_slice Tryd.underlying23 (hval 1 23 v2 rfl rfl)
  obtain ⟨fuel1, hf1⟩ := h1
  obtain ⟨es, hE, hEb, _⟩ := events_of (v := .slice ea elen ecap) hf1
  have hEb' : bulkE es ≤ Rows.uptoBulk d1 := hEb
  obtain ⟨fuel, hf⟩ := h2
  obtain ⟨ms, hM, hm1, _⟩ := words_of (v := .slice a0 len cap) hf k2
  refine (lawMarkup_walk _ _ es ms m W hE (by omega) hM (by omega) hTK hTP hmx).mono ?_
  rintro e W' ⟨rfl, bel⟩
  have e1 : ((Rows.OpenSpec.upto Rows.lawMarkupSpec).at F).fn H ([d1, d2] ++ []) = { results := [.lit (.bool true)], args := [d1, d2] } := rfl
  refine ⟨_, rfl, _, _, _, [], p1 ++ p2, [], hW', ?_, ?_, ?_, bel.frame _, fun h => by cases h⟩
  · rw [e1]; exact trodAll_mk1 (shut_bool Tryd.underlying4 _)
  · rw [e1]
    exact trodAll_mk2 (Below.trod laidOut (by kernel_rfl) (of_decide_eq_true (by kernel_rfl)) h1k bel hlt1) (Below.trod laidOut (by kernel_rfl) (of_decide_eq_true (by kernel_rfl)) h2k bel hlt2)
  · rw [e1]; rfl

theorem said : Rows.LawMarkupUptoSaid :=
  OpenClaim.holds_of_cond 5 Tryd.f5 rfl rfl rfl rfl rfl rfl rfl ⟨rfl, rfl, rfl, rfl, rfl⟩ rfl rfl rfl rfl rfl (by kernel_rfl) Tryd.func5 (by kernel_rfl)
    (of_decide_eq_true (by kernel_rfl)) (by unfold Func.isWrapper; first | (rw [if_pos (by decide +kernel)]; kernel_rfl) | (rw [if_neg (by decide +kernel)]; exact ⟨rfl, rfl⟩))
    (fun os started H enc _ F => by rw [OpenClaim.pre_eq_preRow]; exact lifted os started H enc F)

theorem plain (f : FuncId) (fn : Func) (hf : Tryd.pinned.checked.prog.funcNamed "scrub/scrublaw.LawMarkup" = some f) (hfn : Tryd.pinned.checked.prog.funcs[f]? = some fn) :
    false = Tryd.pinned.checked.prog.looks [] ∧ ∀ (j : Nat) t, fn.params[j]? = some t → Tryd.pinned.checked.prog.wantsStandIn t = false := by
  obtain rfl : f = 5 := Option.some.inj ((show Tryd.prog.funcNamed "scrub/scrublaw.LawMarkup" = some 5 by kernel_rfl).symm.trans hf) |>.symm
  obtain rfl : fn = Tryd.f5 := (Option.some.inj (Tryd.func5.symm.trans hfn)).symm
  refine ⟨by kernel_rfl, fun j t ht => ?_⟩
  rw [Tryd.params5] at ht
  have hm : t = 22 ∨ t = 23 := by simpa using Array.mem_of_getElem? ht
  rcases hm with rfl | rfl
  · exact (show Tryd.prog.wantsStandIn 22 = false by kernel_rfl)
  · exact (show Tryd.prog.wantsStandIn 23 = false by kernel_rfl)
end markupLaw

theorem lawMarkup_card : Rows.LawMarkupUptoCardSaid :=
  Claim7.holds_tied_plain_at .later [] _ _ _ _ markupLaw.said (fun _ h => by cases h) (by kernel_rfl) (fun _ h => by cases h) lawMarkupUpto_row_tie rfl ⟨rfl, rfl⟩ (by kernel_rfl) rfl markupLaw.plain (by kernel_rfl)
end Go.Proofs.YtkcgmimldjeaiaaDoor
