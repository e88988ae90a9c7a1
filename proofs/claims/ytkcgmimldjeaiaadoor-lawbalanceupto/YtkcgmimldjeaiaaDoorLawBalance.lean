/-
  Balance answers as the document's own words do, whatever the depth, the events and the words that stand behind the lists; its answer lies in memory of its own, its lists of attributes too, and nothing that was handed in is written into: proved for every depth, list of events and list of words that are, with the five tables that are read, of bulk at most 1048576, the tables being what the program lays.
-/
import Derived.Test.YtkcgmimldjeaiaaDoorCards
import Derived.Test.YtkcgmimldjeaiaaDoorTie
import Derived.Test.YtkcgmimldjeaiaaDoorJoinF
import Derived.Test.YtkcgmimldjeaiaaDoorJoinC
import Derived.Lib.LaidIn
import Derived.Lib.LaidU8T
import Derived.Deep.DeepHandedRow
import Derived.Deep.DeepWitnessRowRef
import Derived.ProofKit
import Derived.OpenShut
import Derived.SevenTiedAt
import Derived.ChangeMaps5
import Derived.Carry
namespace Go.Proofs.YtkcgmimldjeaiaaDoor
namespace balanceLaw
open Go.ChangeShapes Go.WideShapes Go.ChangeAt Go.RowKit Go.Lib Go.Joins

theorem own : ownKnob Tryd.prog.godebug = none := by kernel_rfl
theorem laidOut : laidOutB Tryd.prog = true := by kernel_rfl

theorem bulk3 {H : Type} {a b c : DataW H} (hk : Rows.uptoSmall H [a, b, c] = true) : Rows.uptoBulk a ≤ 1048576 ∧ Rows.uptoBulk b ≤ 1048576 ∧ Rows.uptoBulk c ≤ 1048576 := by
  have h : Rows.uptoBulkAll [a, b, c] ≤ 1048576 := of_decide_eq_true hk
  simp only [Rows.uptoBulkAll] at h
  omega

def deB32 : List Int := [0, 1, 28, 2, 29, 14, 24, 3, 30, 22, 20, 15, 25, 17, 4, 8, 31, 27, 13, 23, 21, 19, 16, 7, 26, 12, 18, 6, 11, 5, 10, 9]
def deB64 : List Int := [0, 1, 56, 2, 57, 49, 28, 3, 61, 58, 42, 50, 38, 29, 17, 4, 62, 47, 59, 36, 45, 43, 51, 22, 53, 39, 33, 30, 24, 18, 12, 5, 63, 55, 48, 27, 60, 41, 37, 16, 46, 35, 44, 21, 52, 32, 23, 11, 54, 26, 40, 15, 34, 20, 31, 10, 25, 14, 19, 9, 13, 8, 7, 6]
theorem pow_of {w : World} (h : VarReads Tryd.prog w "internal/strconv.uint64pow10" (tabData .u64 Go.Lib.pow10Tab)) : Go.Lib.TabIs Tryd.prog w "internal/strconv.uint64pow10" .u64 Go.Lib.pow10Tab := by
  obtain ⟨g', t', cs, fuel, p, hg', hty, hvar, hd⟩ := h
  obtain rfl := Option.some.inj ((show Tryd.prog.globalNamed "internal/strconv.uint64pow10" = some 7 by kernel_rfl).symm.trans hg')
  obtain rfl := Option.some.inj ((show (Tryd.prog.globals[7]?).map (·.type) = some 186 by kernel_rfl).symm.trans hty)
  unfold Go.Lib.TabIs
  rw [hvar, ← cells_of_tab Tryd.underlying186 Tryd.underlying176 (by kernel_rfl) (by kernel_rfl) hd]
/-- what the row lists -/
def listed : List (String × DataW Unit) :=
  [("math/bits.deBruijn32tab", tabData .u8 deB32), ("math/bits.deBruijn64tab", tabData .u8 deB64), ("internal/strconv.uint64pow10", tabData .u64 Go.Lib.pow10Tab), ("scrub/vocabulary.nesting", .agg (nestT.map fun r => .agg (r.map fun n : Nat => .lit (.int .i64 (n : Int))))), ("scrub/vocabulary.kinds", .agg (kindT.map fun x => .agg [.slice (x.1.map fun s => .lit (.string s)) [], .lit (.int .i64 x.2.1), .lit (.int .i64 x.2.2)]))]
theorem listed_eq : Rows.lawBalanceUptoRow.laid = listed := by kernel_rfl

theorem kind_of {W : World} (hL : laidMet Tryd.prog listed W) : KindsTab W :=
  kinds_of (Lib.laidMet.reads (l := listed) hL (.tail _ (.tail _ (.tail _ (.tail _ (.head _))))))
theorem nesting_of {W : World} (hL : laidMet Tryd.prog listed W) : NestTab W :=
  nest_of (Lib.laidMet.reads (l := listed) hL (.tail _ (.tail _ (.tail _ (.head _)))))
theorem powB_of {W : World} (hL : laidMet Tryd.prog listed W) : PowB W.heap.size W := by
  have c8 := pow_of (Lib.laidMet.reads (l := listed) hL (.tail _ (.tail _ (.head _))))
  exact ⟨c8, cell_block (c8.cell (show Tryd.prog.globalNamed "internal/strconv.uint64pow10" = some 7 by kernel_rfl) 0 (by decide))⟩

/-- the settled world, the five variables holding what their initialisers lay; the lists of names lie in blocks of their own -/
noncomputable def laidWorld (os : Os) : World :=
  let w0 := World.holding Tryd.prog os ⟨#[], #[], []⟩
  let put (h : Array Obj) (g : Nat) (cs : Array Value) : Array Obj := h.modify g fun
    | .cells _ t frozen => .cells cs t frozen
    | o => o
  let n0 := w0.heap.size
  let h0 := kindT.foldl (fun h x => h.push (.cells (x.1.map fun s => Value.string (bs s)).toArray 9 (0, 0))) w0.heap
  let h2 := put h0 4 (kindT.zipIdx.flatMap fun x => [Value.slice (some ⟨n0 + x.2, 0, none⟩) x.1.1.length x.1.1.length, .int .i64 x.1.2.1, .int .i64 x.1.2.2]).toArray
  let h3 := put h2 5 ((nestT.flatMap id).map fun n : Nat => Value.int .i64 (n : Int)).toArray
  let h6 := put h3 7 (Go.Lib.pow10Tab.map fun z => Value.int .u64 z).toArray
  let h7 := put h6 8 (deB32.map fun z => Value.int .u8 z).toArray
  let h8 := put h7 9 (deB64.map fun z => Value.int .u8 z).toArray
  { w0 with heap := h8 }
theorem laid_met (os : Os) (args : Array Value) : laidMet Tryd.prog Rows.lawBalanceUptoRow.laid ((laidWorld os).forCall (fun _ _ => 0) ⟨#[], args, []⟩).memory :=
  (LaidIn.of_run (l := Rows.lawBalanceUptoRow.laid) ([8, 9, 7, 5, 4] ++ (List.range 12).map fun i => (World.holding Tryd.prog os ⟨#[], #[], []⟩).heap.size + i) 8 (by kernel_rfl) (by kernel_rfl) (by kernel_rfl) (by kernel_rfl)).met

theorem witness_row (os : Os) {H : Type} (enc : TypeId × Value → H) :
    (Rows.OpenSpec.upto Rows.lawBalanceSpec).preRow enc Tryd.prog Tryd.f3 Rows.lawBalanceUptoRow.domain false Rows.lawBalanceUptoRow.laid ((laidWorld os).forCall (fun _ _ => 0) ⟨#[], #[.int .i64 0, .slice none 0 0, .slice none 0 0], []⟩).memory #[.int .i64 0, .slice none 0 0, .slice none 0 0] := by
  have hw : (DataW.whole enc Tryd.prog ((laidWorld os).forCall (fun _ _ => 0) ⟨#[], #[.int .i64 0, .slice none 0 0, .slice none 0 0], []⟩).memory Tryd.f3.params.toList Rows.lawBalanceSpec.vars false #[Value.int .i64 0, .slice none 0 0, .slice none 0 0].toList 8).map (fun x => (x.1, x.2.1)) =
      some ([.lit (.int .i64 0), .nil, .nil], []) := by kernel_rfl
  obtain ⟨⟨x1, x2, x3⟩, hx, hx1⟩ := Option.map_eq_some_iff.1 hw
  simp only [Prod.mk.injEq] at hx1
  obtain ⟨rfl, rfl⟩ := hx1
  exact OpenSpec.preRow_of_cond 8 hx (by kernel_rfl) (fun k hk => by cases hk; kernel_rfl) (by kernel_rfl) (laid_met os _)

set_option maxRecDepth 100000 in
set_option maxHeartbeats 1000000 in
theorem lifted (os : Os) (started : os.Started) (H : Type) (enc : TypeId × Value → H) (F : Stop.Interp) :
    ReturnsInHanded {} Tryd.checked os 3 .any ((Rows.OpenSpec.upto Rows.lawBalanceSpec).preRow enc Tryd.prog Tryd.f3 Rows.lawBalanceUptoRow.domain false Rows.lawBalanceUptoRow.laid) (((Rows.OpenSpec.upto Rows.lawBalanceSpec).at F).post enc Tryd.prog Tryd.f3 false true false false) := by
  refine returnsInHanded_of_row (C := Tryd.checked) (s := Rows.OpenSpec.upto Rows.lawBalanceSpec) own started (by kernel_rfl) Tryd.func3
    (witness_row_atRef (enc := enc) (C := Tryd.checked) false (laidWorld os) #[.int .i64 0, .slice none 0 0, .slice none 0 0] rfl (by kernel_rfl) (by kernel_rfl) (by kernel_rfl) (witness_row os enc)) ?_
  intro W base args ds gs before hval0 hW _ hcond _ hL hsh _
  have hval : ∀ (j : Nat) t v, Tryd.f3.params[j]? = some t → args[j]? = some v → Value.okWide Tryd.prog W .any base t v := hval0
  have hW' := hW
  have hk := hcond _ rfl
  obtain ⟨p, q, hA0, hV0, rfl, _, _⟩ := hW
  have hA : DataW.TrodAll enc Tryd.prog W 0 (fun _ => true) true Tryd.f3.params.toList args.toList ds p := hA0
  rw [Tryd.params3] at hA hval
  obtain ⟨v0, v1, v2, d0, d1, d2, p0, p1, p2, rfl, rfl, rfl, h0, h1, h2⟩ := trodAll_three hA
  obtain ⟨rfl, rfl⟩ := trodVars_none hV0
  have hL' : laidMet Tryd.prog listed W := by rw [← listed_eq]; exact hL
  have hTK := kind_of hL'
  have hTN := nesting_of hL'
  have hTP := powB_of hL'
  have h0k := h0
  have h1k := h1
  have h2k := h2
  have hlt : ∀ x ∈ p0 ++ p1 ++ p2, x.block < W.heap.size := fun x hx => by simpa using hW'.lt x (by simpa using hx)
  have hlt0 : ∀ x ∈ p0, x.block < W.heap.size := fun x hx => hlt x (by simp [hx])
  have hlt1 : ∀ x ∈ p1, x.block < W.heap.size := fun x hx => hlt x (by simp [hx])
  have hlt2 : ∀ x ∈ p2, x.block < W.heap.size := fun x hx => hlt x (by simp [hx])
  clear hlt
  obtain ⟨k0, k1, k2⟩ := bulk3 hk
  obtain ⟨n, rfl, rfl, rfl, _⟩ := open_int Tryd.underlying3 (hval 0 3 v0 rfl rfl) h0
  obtain ⟨ea, elen, ecap, rfl⟩ := okWide_slice Tryd.underlying22 (hval 1 22 v1 rfl rfl)
  obtain ⟨a0, len, cap, rfl⟩ := okWide_slice Tryd.underlying23 (hval 2 23 v2 rfl rfl)
  obtain ⟨fuel1, hf1⟩ := h1
  obtain ⟨es, hE, hEb, _⟩ := events_of (v := .slice ea elen ecap) hf1
  have hEb' : bulkE es ≤ Rows.uptoBulk d1 := hEb
  obtain ⟨fuel, hf⟩ := h2
  obtain ⟨ms, hM, hm1, _⟩ := words_of (v := .slice a0 len cap) hf k2
  refine (lawBalance_walk n _ _ es ms W hE (by omega) hM (by omega) hTK hTN hTP).mono ?_
  rintro e W' ⟨rfl, bel⟩
  have e1 : ((Rows.OpenSpec.upto Rows.lawBalanceSpec).at F).fn H ([.lit (.int .i64 n), d1, d2] ++ []) = { results := [.lit (.bool true)], args := [.lit (.int .i64 n), d1, d2] } := rfl
  refine ⟨_, rfl, _, _, _, [], [] ++ (p1 ++ p2), [], hW', ?_, ?_, ?_, bel.frame _, fun h => by cases h⟩
  · rw [e1]; exact trodAll_mk1 (shut_bool Tryd.underlying4 _)
  · rw [e1]
    exact trodAll_mk3 (Below.trod laidOut (by kernel_rfl) (of_decide_eq_true (by kernel_rfl)) h0k bel hlt0) (Below.trod laidOut (by kernel_rfl) (of_decide_eq_true (by kernel_rfl)) h1k bel hlt1) (Below.trod laidOut (by kernel_rfl) (of_decide_eq_true (by kernel_rfl)) h2k bel hlt2)
  · rw [e1]; rfl

theorem said : Rows.LawBalanceUptoSaid :=
  OpenClaim.holds_of_cond 3 Tryd.f3 rfl rfl rfl rfl rfl rfl rfl ⟨rfl, rfl, rfl, rfl, rfl⟩ rfl rfl rfl rfl rfl (by kernel_rfl) Tryd.func3 (by kernel_rfl)
    (of_decide_eq_true (by kernel_rfl)) (by unfold Func.isWrapper; first | (rw [if_pos (by decide +kernel)]; kernel_rfl) | (rw [if_neg (by decide +kernel)]; exact ⟨rfl, rfl⟩))
    (fun os started H enc _ F => by rw [OpenClaim.pre_eq_preRow]; exact lifted os started H enc F)

theorem plain (f : FuncId) (fn : Func) (hf : Tryd.pinned.checked.prog.funcNamed "scrub/scrublaw.LawBalance" = some f) (hfn : Tryd.pinned.checked.prog.funcs[f]? = some fn) :
    false = Tryd.pinned.checked.prog.looks [] ∧ ∀ (j : Nat) t, fn.params[j]? = some t → Tryd.pinned.checked.prog.wantsStandIn t = false := by
  obtain rfl : f = 3 := Option.some.inj ((show Tryd.prog.funcNamed "scrub/scrublaw.LawBalance" = some 3 by kernel_rfl).symm.trans hf) |>.symm
  obtain rfl : fn = Tryd.f3 := (Option.some.inj (Tryd.func3.symm.trans hfn)).symm
  refine ⟨by kernel_rfl, fun j t ht => ?_⟩
  rw [Tryd.params3] at ht
  have hm : t = 3 ∨ t = 22 ∨ t = 23 := by simpa using Array.mem_of_getElem? ht
  rcases hm with rfl | rfl | rfl
  · exact (show Tryd.prog.wantsStandIn 3 = false by kernel_rfl)
  · exact (show Tryd.prog.wantsStandIn 22 = false by kernel_rfl)
  · exact (show Tryd.prog.wantsStandIn 23 = false by kernel_rfl)
end balanceLaw

theorem lawBalance_card : Rows.LawBalanceUptoCardSaid :=
  Claim7.holds_tied_plain_at .later [] _ _ _ _ balanceLaw.said (fun _ h => by cases h) (by kernel_rfl) (fun _ h => by cases h) lawBalanceUpto_row_tie rfl ⟨rfl, rfl⟩ (by kernel_rfl) rfl balanceLaw.plain (by kernel_rfl)
end Go.Proofs.YtkcgmimldjeaiaaDoor
