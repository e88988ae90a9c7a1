/-
  Parse answers every text as the document's own words do, with its verdict and its tree, in memory of its own; and a tree that was accepted is read again from its own writing: proved for every text and every list of words of bulk at most 1048576 together, at every run.
-/
import Derived.Test.YtcncbhbdpcpkeaaGreatDoorCards
import Derived.Test.YtcncbhbdpcpkeaaGreatDoorTie
import Derived.Lib.LaidIn
import Derived.Lib.LaidU8T
import Derived.Deep.DeepHandedRow
import Derived.Deep.DeepWitnessRowRef
import Derived.ProofKit
import Derived.OpenShut
import Derived.SevenTiedAt
import Derived.ChangeMaps5
import Derived.Carry
import Derived.Test.YtcncbhbdpcpkeaaGreatDoorPJBX
import Derived.Test.YtcncbhbdpcpkeaaGreatDoorPJAU
import Derived.Test.YtcncbhbdpcpkeaaGreatDoorPJBL
import Derived.Test.YtcncbhbdpcpkeaaGreatDoorPJBK
namespace Go.Proofs.YtcncbhbdpcpkeaaGreatDoor
namespace parseLaw
open Go.ChangeShapes Go.WideShapes Go.ChangeAt Go.RowKit Go.Lib Go.Joins

theorem own : ownKnob Tryz.prog.godebug = none := by kernel_rfl
theorem laidOut : laidOutB Tryz.prog = true := by kernel_rfl

theorem bulk2 {H : Type} {a b : DataW H} (hk : Rows.uptoSmall H [a, b] = true) : Rows.uptoBulk a ≤ 1048576 ∧ Rows.uptoBulk b ≤ 1048576 := by
  have h : Rows.uptoBulkAll [a, b] ≤ 1048576 := of_decide_eq_true hk
  simp only [Rows.uptoBulkAll] at h
  omega

def deB32 : List Int := [0, 1, 28, 2, 29, 14, 24, 3, 30, 22, 20, 15, 25, 17, 4, 8, 31, 27, 13, 23, 21, 19, 16, 7, 26, 12, 18, 6, 11, 5, 10, 9]
def deB64 : List Int := [0, 1, 56, 2, 57, 49, 28, 3, 61, 58, 42, 50, 38, 29, 17, 4, 62, 47, 59, 36, 45, 43, 51, 22, 53, 39, 33, 30, 24, 18, 12, 5, 63, 55, 48, 27, 60, 41, 37, 16, 46, 35, 44, 21, 52, 32, 23, 11, 54, 26, 40, 15, 34, 20, 31, 10, 25, 14, 19, 9, 13, 8, 7, 6]
theorem pow_of {w : World} (h : VarReads Tryz.prog w "internal/strconv.uint64pow10" (tabData .u64 Go.Lib.pow10Tab)) : Go.Lib.TabIs Tryz.prog w "internal/strconv.uint64pow10" .u64 Go.Lib.pow10Tab := by
  obtain ⟨g', t', cs, fuel, p, hg', hty, hvar, hd⟩ := h
  obtain rfl := Option.some.inj ((show Tryz.prog.globalNamed "internal/strconv.uint64pow10" = some 6 by kernel_rfl).symm.trans hg')
  obtain rfl := Option.some.inj ((show (Tryz.prog.globals[6]?).map (·.type) = some 284 by kernel_rfl).symm.trans hty)
  unfold Go.Lib.TabIs
  rw [hvar, ← cells_of_tab Tryz.underlying284 Tryz.underlying261 (by kernel_rfl) (by kernel_rfl) hd]
/-- what the row lists -/
def listed : List (String × DataW Unit) :=
  [("math/bits.deBruijn32tab", tabData .u8 deB32), ("math/bits.deBruijn64tab", tabData .u8 deB64), ("internal/strconv.uint64pow10", tabData .u64 Go.Lib.pow10Tab), ("scrub/vocabulary.kinds", .agg (kindT.map fun x => .agg [.slice (x.1.map fun s => .lit (.string s)) [], .lit (.int .i64 x.2.1), .lit (.int .i64 x.2.2)])), ("unicode/utf8.acceptRanges", Rows.laid_unicode_utf8_acceptRanges), ("scrub/markup.references", .agg (mrefT.map fun x => .agg [.lit (.string x.1), .lit (.int .i32 x.2)])), ("unicode/utf8.first", Rows.laid_unicode_utf8_first)]
theorem listed_eq : Rows.lawParseUptoRow.laid = listed := by kernel_rfl

theorem kind_of {W : World} (hL : laidMet Tryz.prog listed W) : KindsTab W :=
  kinds_of (Lib.laidMet.reads (l := listed) hL (.tail _ (.tail _ (.tail _ (.head _)))))
theorem powB_of {W : World} (hL : laidMet Tryz.prog listed W) : PowB W.heap.size W := by
  have c8 := pow_of (Lib.laidMet.reads (l := listed) hL (.tail _ (.tail _ (.head _))))
  exact ⟨c8, cell_block (c8.cell (show Tryz.prog.globalNamed "internal/strconv.uint64pow10" = some 6 by kernel_rfl) 0 (by decide))⟩

theorem mref_of {W : World} (hL : laidMet Tryz.prog listed W) : MRefTab W :=
  pairs_of (T := mrefT) (t := 248) (ts := 9) (ti := 21) (by kernel_rfl) (by kernel_rfl) Tryz.underlying248 Tryz.underlying224 (by kernel_rfl) (by kernel_rfl) ⟨rfl, rfl⟩ ⟨rfl, rfl⟩ Tryz.underlying9 (by kernel_rfl) Tryz.underlying21 (by kernel_rfl) (Lib.laidMet.reads (l := listed) hL (.tail _ (.tail _ (.tail _ (.tail _ (.tail _ (.head _)))))))

/-- the settled world, the seven variables holding what their initialisers lay; the lists of names lie in blocks of their own -/
noncomputable def laidWorld (os : Os) : World :=
  let w0 := World.holding Tryz.prog os ⟨#[], #[], []⟩
  let put (h : Array Obj) (g : Nat) (cs : Array Value) : Array Obj := h.modify g fun
    | .cells _ t frozen => .cells cs t frozen
    | o => o
  let n0 := w0.heap.size
  let h0 := kindT.foldl (fun h x => h.push (.cells (x.1.map fun s => Value.string (bs s)).toArray 9 (0, 0))) w0.heap
  let h2 := put h0 0 (kindT.zipIdx.flatMap fun x => [Value.slice (some ⟨n0 + x.2, 0, none⟩) x.1.1.length x.1.1.length, .int .i64 x.1.2.1, .int .i64 x.1.2.2]).toArray
  let h4 := put h2 8 ((List.range 16).flatMap fun i => [Value.int .u8 (Lib.accLo i), Value.int .u8 (Lib.accHi i)]).toArray
  let h5 := put h4 7 (Lib.firstTab.map fun z => Value.int .u8 z).toArray
  let h6 := put h5 6 (Go.Lib.pow10Tab.map fun z => Value.int .u64 z).toArray
  let h7 := put h6 9 (deB32.map fun z => Value.int .u8 z).toArray
  let h8 := put h7 10 (deB64.map fun z => Value.int .u8 z).toArray
  let h9 := put h8 2 mrefV.toArray
  { w0 with heap := h9 }
theorem laid_met (os : Os) (args : Array Value) : laidMet Tryz.prog Rows.lawParseUptoRow.laid ((laidWorld os).forCall (fun _ _ => 0) ⟨#[], args, []⟩).memory :=
  (LaidIn.of_run (l := Rows.lawParseUptoRow.laid) ([9, 10, 6, 0, 8, 7, 2] ++ (List.range 12).map fun i => (World.holding Tryz.prog os ⟨#[], #[], []⟩).heap.size + i) 6 (by kernel_rfl) (by kernel_rfl) (by kernel_rfl) (by kernel_rfl)).met

theorem witness_row (os : Os) {H : Type} (enc : TypeId × Value → H) :
    (Rows.OpenSpec.upto Rows.lawParseSpec).preRow enc Tryz.prog Tryz.f5 Rows.lawParseUptoRow.domain false Rows.lawParseUptoRow.laid ((laidWorld os).forCall (fun _ _ => 0) ⟨#[], #[.string ⟨#[]⟩, .slice none 0 0], []⟩).memory #[.string ⟨#[]⟩, .slice none 0 0] := by
  have hw : (DataW.whole enc Tryz.prog ((laidWorld os).forCall (fun _ _ => 0) ⟨#[], #[.string ⟨#[]⟩, .slice none 0 0], []⟩).memory Tryz.f5.params.toList Rows.lawParseSpec.vars false #[Value.string ⟨#[]⟩, .slice none 0 0].toList 8).map (fun x => (x.1, x.2.1)) =
      some ([.lit (.string []), .nil], []) := by kernel_rfl
  obtain ⟨⟨x1, x2, x3⟩, hx, hx1⟩ := Option.map_eq_some_iff.1 hw
  simp only [Prod.mk.injEq] at hx1
  obtain ⟨rfl, rfl⟩ := hx1
  exact OpenSpec.preRow_of_cond 8 hx (by kernel_rfl) (fun k hk => by cases hk; kernel_rfl) (by kernel_rfl) (laid_met os _)

set_option maxRecDepth 100000 in
set_option maxHeartbeats 1000000 in
theorem lifted (os : Os) (started : os.Started) (H : Type) (enc : TypeId × Value → H) (F : Stop.Interp) :
    ReturnsInHanded {} Tryz.checked os 5 .any ((Rows.OpenSpec.upto Rows.lawParseSpec).preRow enc Tryz.prog Tryz.f5 Rows.lawParseUptoRow.domain false Rows.lawParseUptoRow.laid) (((Rows.OpenSpec.upto Rows.lawParseSpec).at F).post enc Tryz.prog Tryz.f5 false true false false) := by
  refine returnsInHanded_of_row (C := Tryz.checked) (s := Rows.OpenSpec.upto Rows.lawParseSpec) own started (by kernel_rfl) Tryz.func5
    (witness_row_atRef (enc := enc) (C := Tryz.checked) false (laidWorld os) #[.string ⟨#[]⟩, .slice none 0 0] rfl (by kernel_rfl) (by kernel_rfl) (by kernel_rfl) (witness_row os enc)) ?_
  intro W base args ds gs before hval0 hW _ hcond _ hL hsh _
  have hval : ∀ (j : Nat) t v, Tryz.f5.params[j]? = some t → args[j]? = some v → Value.okWide Tryz.prog W .any base t v := hval0
  have hW' := hW
  have hk := hcond _ rfl
  obtain ⟨p, q, hA0, hV0, rfl, _, _⟩ := hW
  have hA : DataW.TrodAll enc Tryz.prog W 0 (fun _ => true) true Tryz.f5.params.toList args.toList ds p := hA0
  rw [Tryz.params5] at hA hval
  obtain ⟨v1, v2, d1, d2, p1, p2, rfl, rfl, rfl, h1, h2⟩ := trodAll_two hA
  obtain ⟨rfl, rfl⟩ := trodVars_none hV0
  have hL' : laidMet Tryz.prog listed W := by rw [← listed_eq]; exact hL
  have hTK := kind_of hL'
  have hTP := powB_of hL'
  have hTM := mref_of hL'
  obtain ⟨m, hmx⟩ := Tryz.laysM143.s1_3 W hsh
  have h1k := h1
  have h2k := h2
  have hlt : ∀ x ∈ p1 ++ p2, x.block < W.heap.size := fun x hx => by simpa using hW'.lt x (by simpa using hx)
  have hlt1 : ∀ x ∈ p1, x.block < W.heap.size := fun x hx => hlt x (by simp [hx])
  have hlt2 : ∀ x ∈ p2, x.block < W.heap.size := fun x hx => hlt x (by simp [hx])
  clear hlt
  obtain ⟨k1, k2⟩ := bulk2 hk
  obtain ⟨s, rfl, rfl, rfl, _⟩ := Go.ChangeMaps.open_string Tryz.underlying9 (hval 0 9 v1 rfl rfl) h1
  obtain ⟨a0, len, cap, rfl⟩ := okWide_slice Tryz.underlying41 (hval 1 41 v2 rfl rfl)
  obtain ⟨fuel, hf⟩ := h2
  obtain ⟨ms, hM, hm1, _⟩ := words_of (v := .slice a0 len cap) hf k2
  have hsz : s.data.toList.length ≤ 1100000 := by
    simp only [Rows.uptoBulk] at k1
    omega
  refine (lawParse_walk s.data.toList _ ms m W hsz hM (by omega) hTK hTP hTM hmx).mono ?_
  rintro e W' ⟨rfl, bel⟩
  have e1 : ((Rows.OpenSpec.upto Rows.lawParseSpec).at F).fn H ([.lit (.string s.data.toList), d2] ++ []) = { results := [.lit (.bool true)], args := [.lit (.string s.data.toList), d2] } := rfl
  refine ⟨_, rfl, _, _, _, [], [] ++ p2, [], hW', ?_, ?_, ?_, bel.frame _, fun h => by cases h⟩
  · rw [e1]; exact trodAll_mk1 (shut_bool Tryz.underlying4 _)
  · rw [e1]
    exact trodAll_mk2 (Below.trod laidOut (by kernel_rfl) (of_decide_eq_true (by kernel_rfl)) h1k bel hlt1) (Below.trod laidOut (by kernel_rfl) (of_decide_eq_true (by kernel_rfl)) h2k bel hlt2)
  · rw [e1]; rfl

theorem said : Rows.LawParseUptoSaid :=
  OpenClaim.holds_of_cond 5 Tryz.f5 rfl rfl rfl rfl rfl rfl rfl ⟨rfl, rfl, rfl, rfl, rfl⟩ rfl rfl rfl rfl rfl (by kernel_rfl) Tryz.func5 (by kernel_rfl)
    (of_decide_eq_true (by kernel_rfl)) (by unfold Func.isWrapper; first | (rw [if_pos (by decide +kernel)]; kernel_rfl) | (rw [if_neg (by decide +kernel)]; exact ⟨rfl, rfl⟩))
    (fun os started H enc _ F => by rw [OpenClaim.pre_eq_preRow]; exact lifted os started H enc F)

theorem plain (f : FuncId) (fn : Func) (hf : Tryz.pinned.checked.prog.funcNamed "scrub/scrublaw.LawParse" = some f) (hfn : Tryz.pinned.checked.prog.funcs[f]? = some fn) :
    false = Tryz.pinned.checked.prog.looks [] ∧ ∀ (j : Nat) t, fn.params[j]? = some t → Tryz.pinned.checked.prog.wantsStandIn t = false := by
  obtain rfl : f = 5 := Option.some.inj ((show Tryz.prog.funcNamed "scrub/scrublaw.LawParse" = some 5 by kernel_rfl).symm.trans hf) |>.symm
  obtain rfl : fn = Tryz.f5 := (Option.some.inj (Tryz.func5.symm.trans hfn)).symm
  refine ⟨by kernel_rfl, fun j t ht => ?_⟩
  rw [Tryz.params5] at ht
  have hm : t = 9 ∨ t = 41 := by simpa using Array.mem_of_getElem? ht
  rcases hm with rfl | rfl
  · exact (show Tryz.prog.wantsStandIn 9 = false by kernel_rfl)
  · exact (show Tryz.prog.wantsStandIn 41 = false by kernel_rfl)
end parseLaw

theorem lawParse_card : Rows.LawParseUptoCardSaid :=
  Claim7.holds_tied_plain_at .later [] _ _ _ _ parseLaw.said (fun _ h => by cases h) (by kernel_rfl) (fun _ h => by cases h) lawParseUpto_row_tie rfl ⟨rfl, rfl⟩ (by kernel_rfl) rfl parseLaw.plain (by kernel_rfl)
end Go.Proofs.YtcncbhbdpcpkeaaGreatDoor
