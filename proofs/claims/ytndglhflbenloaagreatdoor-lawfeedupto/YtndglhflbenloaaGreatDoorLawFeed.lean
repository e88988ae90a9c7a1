/-
  The lexer, from every state, gives the events and the next state that the document's own words give; so does Finish, of a text that ends and of one that is broken off, and so does Lex of a text at once; each list of events lies in memory of its own, its lists of attributes too: proved for every window, state, text and list of words that are, with the tables that are read, of bulk at most 1048576, the tables being what the program lays.
-/
import Derived.Test.YtndglhflbenloaaGreatDoorCards
import Derived.Test.YtndglhflbenloaaGreatDoorTie
import Derived.Test.YtndglhflbenloaaGreatDoorUpperE
import Derived.SliceStrings
import Derived.Carry
import Derived.Lib.SmallJoins
import Derived.ChangeMaps5
import Derived.Lib.LaidIn
import Derived.Lib.LaidU8T
import Derived.Deep.DeepHandedRow
import Derived.Deep.DeepWitnessRowRef
import Derived.ProofKit
import Derived.OpenShut
import Derived.SevenTiedAt
namespace Go.Proofs.YtndglhflbenloaaGreatDoor
namespace feedLaw
open Go.ChangeShapes Go.WideShapes Go.ChangeAt Go.RowKit Go.Lib Go.Joins

theorem own : ownKnob Tryz.prog.godebug = none := by kernel_rfl
theorem laidOut : laidOutB Tryz.prog = true := by kernel_rfl
theorem cells9 : Tryz.prog.cellsOf 9 = 1 := by kernel_rfl
theorem cellsL : Tryz.prog.cellsOf 23 = 4 := by kernel_rfl

theorem flat_bulk {H : Type} : ∀ l : List ByteArray, l.length ≤ Rows.uptoBulkAll (strs (H := H) l)
  | [] => by simp
  | s :: r => by
    have ih := flat_bulk (H := H) r
    simp only [strs, List.map_cons, Rows.uptoBulkAll, Rows.uptoBulk, List.length_cons] at ih ⊢
    omega
theorem bulk {H : Type} {n m s : Int} {e : Bool} {a b : ByteArray} {d : DataW H} (hk : Rows.uptoSmall H [.lit (.int .i64 n), .agg [.lit (.int .i64 m), .lit (.int .i64 s), .lit (.bool e), .lit (.string a.data.toList)], .lit (.string b.data.toList), d] = true) : a.size + b.size ≤ 2000000 ∧ Rows.uptoBulk d ≤ 1048576 := by
  have h : Rows.uptoBulkAll [DataW.lit (H := H) (.int .i64 n), .agg [.lit (.int .i64 m), .lit (.int .i64 s), .lit (.bool e), .lit (.string a.data.toList)], .lit (.string b.data.toList), d] ≤ 1048576 := of_decide_eq_true hk
  simp only [Rows.uptoBulkAll, Rows.uptoBulk] at h
  rw [size_eq, size_eq]
  omega
theorem bulk_slice {H : Type} {l r : List ByteArray} (h : Rows.uptoBulk (DataW.slice (H := H) (strs l) (strs r)) ≤ 1048576) : l.length ≤ 5000000 := by
  simp only [Rows.uptoBulk] at h
  have := flat_bulk (H := H) l
  omega

def deB32 : List Int := [0, 1, 28, 2, 29, 14, 24, 3, 30, 22, 20, 15, 25, 17, 4, 8, 31, 27, 13, 23, 21, 19, 16, 7, 26, 12, 18, 6, 11, 5, 10, 9]
def deB64 : List Int := [0, 1, 56, 2, 57, 49, 28, 3, 61, 58, 42, 50, 38, 29, 17, 4, 62, 47, 59, 36, 45, 43, 51, 22, 53, 39, 33, 30, 24, 18, 12, 5, 63, 55, 48, 27, 60, 41, 37, 16, 46, 35, 44, 21, 52, 32, 23, 11, 54, 26, 40, 15, 34, 20, 31, 10, 25, 14, 19, 9, 13, 8, 7, 6]
/-- what the row lists -/
def listed : List (String × DataW Unit) :=
  [("math/bits.deBruijn32tab", tabData .u8 deB32), ("math/bits.deBruijn64tab", tabData .u8 deB64), ("internal/strconv.uint64pow10", tabData .u64 Go.Lib.pow10Tab),
   ("scrub/scrubref.eitherNames", .agg ((eitherT.map (·.1)).map fun x => .lit (.string x))), ("scrub/scrubref.eitherCodes", tabData .i64 (eitherT.map (·.2))),
   ("scrub/scrubref.closedNames", .agg ((closedT.map (·.1)).map fun x => .lit (.string x))), ("scrub/scrubref.closedCodes", tabData .i64 (closedT.map (·.2))),
   ("scrub/chars.names", .agg (allT.map fun x => .agg [.lit (.string x.1), .lit (.int .i32 x.2)])), ("scrub/chars.replaced", tabData .i32 replT), ("scrub/lexer.tagStates", .agg (tagTab.map fun r => tabData .u8 (r.map fun (z : Nat) => (z : Int))))]
theorem listed_eq : Rows.lawFeedUptoRow.laid = listed := by kernel_rfl
theorem tag_of {w : World} (h : VarReads Tryz.prog w "scrub/lexer.tagStates" (.agg (tagTab.map fun r => tabData .u8 (r.map fun (z : Nat) => (z : Int))))) : TagTabs w := by
  obtain ⟨g', t', cs, fuel, p, hg', hty, hvar, hd⟩ := h
  obtain rfl := Option.some.inj ((show Tryz.prog.globalNamed "scrub/lexer.tagStates" = some 6 by kernel_rfl).symm.trans hg')
  obtain rfl := Option.some.inj ((show (Tryz.prog.globals[6]?).map (·.type) = some 133 by kernel_rfl).symm.trans hty)
  have hall : ∀ (i : Fin 8) (c : Fin 7), tagTab.flatten[i.val * 7 + c.val]? = some ((tagTab.getD i.val []).getD c.val 0) ∧ ((tagTab.getD i.val []).map fun (z : Nat) => (z : Int))[c.val]? = some (((tagTab.getD i.val []).getD c.val 0 : Nat) : Int) ∧ tagTab[i.val]? = some (tagTab.getD i.val []) := by decide +kernel
  refine range_of (L := tagV) (by kernel_rfl) hvar (fun j v hv => ?_)
  unfold tagV at hv
  rw [List.getElem?_map] at hv
  obtain ⟨z, hz, rfl⟩ := Option.map_eq_some_iff.1 hv
  have hj : j < 56 := (List.getElem?_eq_some_iff.1 hz).1
  obtain ⟨a1, a2, a3⟩ := hall ⟨j / 7, by omega⟩ ⟨j % 7, by omega⟩
  simp only at a1 a2 a3
  rw [show j / 7 * 7 + j % 7 = j by omega, hz] at a1
  obtain ⟨fuel', d, q, hdi, hel⟩ := array_elem Tryz.underlying133 hd (j / 7) (by omega)
  rw [List.getElem?_map, a3] at hdi
  simp only [Option.map_some, Option.some.injEq] at hdi
  subst hdi
  have hcs := cells_of_tab Tryz.underlying132 Tryz.underlying5 (by kernel_rfl) (by kernel_rfl) hel
  have h7 : Tryz.prog.cellsOf 132 = 7 := by kernel_rfl
  rw [h7] at hcs
  rw [List.ext_getElem?_iff] at hcs
  have hg := hcs (j % 7)
  rw [List.getElem?_take_of_lt (by omega), List.getElem?_drop, List.getElem?_map, a2, show j / 7 * 7 + j % 7 = j by omega] at hg
  rw [hg]
  simp only [Option.some.injEq] at a1
  rw [← a1]
  rfl
theorem pow_of {w : World} (h : VarReads Tryz.prog w "internal/strconv.uint64pow10" (tabData .u64 Go.Lib.pow10Tab)) : Go.Lib.TabIs Tryz.prog w "internal/strconv.uint64pow10" .u64 Go.Lib.pow10Tab := by
  obtain ⟨g', t', cs, fuel, p, hg', hty, hvar, hd⟩ := h
  obtain rfl := Option.some.inj ((show Tryz.prog.globalNamed "internal/strconv.uint64pow10" = some 7 by kernel_rfl).symm.trans hg')
  obtain rfl := Option.some.inj ((show (Tryz.prog.globals[7]?).map (·.type) = some 135 by kernel_rfl).symm.trans hty)
  unfold Go.Lib.TabIs
  rw [hvar, ← cells_of_tab Tryz.underlying135 Tryz.underlying113 (by kernel_rfl) (by kernel_rfl) hd]
theorem all_of {W : World} {m : Int} (hL : laidMet Tryz.prog listed W) (hm : W.cell? ⟨5, 0, none⟩ = some (.int .i64 m)) : LexTabs W.heap.size W m ∧ RefTabsB W.heap.size W ∧ PowB W.heap.size W := by
  have c1 := pairs_of (g := 0) (t := 124) (ts := 9) (ti := 21) (by kernel_rfl) (by kernel_rfl) Tryz.underlying124 Tryz.underlying123 (by kernel_rfl) (by kernel_rfl) ⟨rfl, rfl⟩ ⟨rfl, rfl⟩ Tryz.underlying9 (by kernel_rfl) Tryz.underlying21 (by kernel_rfl) (Lib.laidMet.reads (l := listed) hL (.tail _ (.tail _ (.tail _ (.tail _ (.tail _ (.tail _ (.tail _ (.head _)))))))))
  have c2 := ints_of (g := 8) (t := 138) (by kernel_rfl) (by kernel_rfl) Tryz.underlying138 Tryz.underlying21 (by kernel_rfl) (by kernel_rfl) (Lib.laidMet.reads (l := listed) hL (.tail _ (.tail _ (.tail _ (.tail _ (.tail _ (.tail _ (.tail _ (.tail _ (.head _))))))))))
  have c3 := tag_of (Lib.laidMet.reads (l := listed) hL (.tail _ (.tail _ (.tail _ (.tail _ (.tail _ (.tail _ (.tail _ (.tail _ (.tail _ (.head _)))))))))))
  have c4 := strs_of (g := 1) (t := 127) (by kernel_rfl) (by kernel_rfl) Tryz.underlying127 Tryz.underlying9 (by kernel_rfl) (by kernel_rfl) (Lib.laidMet.reads (l := listed) hL (.tail _ (.tail _ (.tail _ (.head _)))))
  have c5 := ints_of (g := 2) (t := 128) (by kernel_rfl) (by kernel_rfl) Tryz.underlying128 Tryz.underlying3 (by kernel_rfl) (by kernel_rfl) (Lib.laidMet.reads (l := listed) hL (.tail _ (.tail _ (.tail _ (.tail _ (.head _))))))
  have c6 := strs_of (g := 3) (t := 129) (by kernel_rfl) (by kernel_rfl) Tryz.underlying129 Tryz.underlying9 (by kernel_rfl) (by kernel_rfl) (Lib.laidMet.reads (l := listed) hL (.tail _ (.tail _ (.tail _ (.tail _ (.tail _ (.head _)))))))
  have c7 := ints_of (g := 4) (t := 130) (by kernel_rfl) (by kernel_rfl) Tryz.underlying130 Tryz.underlying3 (by kernel_rfl) (by kernel_rfl) (Lib.laidMet.reads (l := listed) hL (.tail _ (.tail _ (.tail _ (.tail _ (.tail _ (.tail _ (.head _))))))))
  have c8 := pow_of (Lib.laidMet.reads (l := listed) hL (.tail _ (.tail _ (.head _))))
  rw [List.map_map] at c4 c5 c6 c7
  have b1 := cell_block (c1 0 _ (show namesV[0]? = some (strV [65, 77, 80]) from rfl))
  have b2 := cell_block (c2 0 _ (show replV[0]? = some (.int .i32 8364) from rfl))
  have b3 := cell_block (tag_at c3 0 0 (by omega) (by omega))
  have b4 := cell_block (c4 0 _ (show eitherNV[0]? = some (strV [65, 77, 80]) from rfl))
  have b5 := cell_block (c5 0 _ (show eitherCV[0]? = some (.int .i64 38) from rfl))
  have b6 := cell_block (c6 0 _ (show closedNV[0]? = some (strV [97, 112, 111, 115, 59]) from rfl))
  have b7 := cell_block (c7 0 _ (show closedCV[0]? = some (.int .i64 39) from rfl))
  have b8 := cell_block (c8.cell (show Tryz.prog.globalNamed "internal/strconv.uint64pow10" = some 7 by kernel_rfl) 0 (by decide))
  exact ⟨⟨c3, ⟨c1, c2⟩, hm, b3, b1, b2, cell_block hm⟩, ⟨⟨⟨c1, c2⟩, c4, c5, c6, c7⟩, b1, b2, b4, b5, b6, b7⟩, ⟨c8, b8⟩⟩

/-- the settled world, the ten variables holding what their initialisers lay -/
noncomputable def laidWorld (os : Os) : World :=
  let w0 := World.holding Tryz.prog os ⟨#[], #[], []⟩
  let put (h : Array Obj) (g : Nat) (cs : Array Value) : Array Obj := h.modify g fun
    | .cells _ t frozen => .cells cs t frozen
    | o => o
  let h1 := put w0.heap 0 namesV.toArray
  let h2 := put h1 8 replV.toArray
  let h3 := put h2 6 tagV.toArray
  let h4 := put h3 1 eitherNV.toArray
  let h5 := put h4 2 eitherCV.toArray
  let h6 := put h5 3 closedNV.toArray
  let h7 := put h6 4 closedCV.toArray
  let h8 := put h7 7 (Go.Lib.pow10Tab.map fun z => Value.int .u64 z).toArray
  let h9 := put h8 9 (deB32.map fun z => Value.int .u8 z).toArray
  let h10 := put h9 10 (deB64.map fun z => Value.int .u8 z).toArray
  { w0 with heap := h10 }
theorem laid_met (os : Os) (args : Array Value) : laidMet Tryz.prog Rows.lawFeedUptoRow.laid ((laidWorld os).forCall (fun _ _ => 0) ⟨#[], args, []⟩).memory :=
  (LaidIn.of_run (l := Rows.lawFeedUptoRow.laid) [9, 10, 7, 1, 2, 3, 4, 0, 8, 6] 8 (by kernel_rfl) (by kernel_rfl) (by kernel_rfl) (by kernel_rfl)).met

theorem witness_row (os : Os) {H : Type} (enc : TypeId × Value → H) :
    (Rows.OpenSpec.upto Rows.lawFeedSpec).preRow enc Tryz.prog Tryz.f3 Rows.lawFeedUptoRow.domain false Rows.lawFeedUptoRow.laid ((laidWorld os).forCall (fun _ _ => 0) ⟨#[], #[.int .i64 0, .agg #[.int .i64 0, .int .i64 0, .bool false, .string ⟨#[]⟩], .string ⟨#[]⟩, .slice none 0 0], []⟩).memory #[.int .i64 0, .agg #[.int .i64 0, .int .i64 0, .bool false, .string ⟨#[]⟩], .string ⟨#[]⟩, .slice none 0 0] := by
  have hw : (DataW.whole enc Tryz.prog ((laidWorld os).forCall (fun _ _ => 0) ⟨#[], #[.int .i64 0, .agg #[.int .i64 0, .int .i64 0, .bool false, .string ⟨#[]⟩], .string ⟨#[]⟩, .slice none 0 0], []⟩).memory Tryz.f3.params.toList Rows.lawFeedSpec.vars false #[Value.int .i64 0, .agg #[.int .i64 0, .int .i64 0, .bool false, .string ⟨#[]⟩], .string ⟨#[]⟩, .slice none 0 0].toList 8).map (fun x => (x.1, x.2.1)) =
      some ([.lit (.int .i64 0), .agg [.lit (.int .i64 0), .lit (.int .i64 0), .lit (.bool false), .lit (.string [])], .lit (.string []), .nil], []) := by kernel_rfl
  obtain ⟨⟨x1, x2, x3⟩, hx, hx1⟩ := Option.map_eq_some_iff.1 hw
  simp only [Prod.mk.injEq] at hx1
  obtain ⟨rfl, rfl⟩ := hx1
  exact OpenSpec.preRow_of_cond 8 hx (by kernel_rfl) (fun k hk => by cases hk; kernel_rfl) (by kernel_rfl) (laid_met os _)

set_option maxRecDepth 100000 in
set_option maxHeartbeats 2000000 in
theorem lifted (os : Os) (started : os.Started) (H : Type) (enc : TypeId × Value → H) (F : Stop.Interp) :
    ReturnsInHanded {} Tryz.checked os 3 .any ((Rows.OpenSpec.upto Rows.lawFeedSpec).preRow enc Tryz.prog Tryz.f3 Rows.lawFeedUptoRow.domain false Rows.lawFeedUptoRow.laid) (((Rows.OpenSpec.upto Rows.lawFeedSpec).at F).post enc Tryz.prog Tryz.f3 false true false false) := by
  refine returnsInHanded_of_row (C := Tryz.checked) (s := Rows.OpenSpec.upto Rows.lawFeedSpec) own started (by kernel_rfl) Tryz.func3
    (witness_row_atRef (enc := enc) (C := Tryz.checked) false (laidWorld os) #[.int .i64 0, .agg #[.int .i64 0, .int .i64 0, .bool false, .string ⟨#[]⟩], .string ⟨#[]⟩, .slice none 0 0] rfl (by kernel_rfl) (by kernel_rfl) (by kernel_rfl) (witness_row os enc)) ?_
  intro W base args ds gs before hval0 hW _ hcond _ hL hsh _
  have hval : ∀ (j : Nat) t v, Tryz.f3.params[j]? = some t → args[j]? = some v → Value.okWide Tryz.prog W .any base t v := hval0
  have hW' := hW
  have hk := hcond _ rfl
  obtain ⟨p, q, hA0, hV0, rfl, _, _⟩ := hW
  have hA : DataW.TrodAll enc Tryz.prog W 0 (fun _ => true) true Tryz.f3.params.toList args.toList ds p := hA0
  rw [Tryz.params3] at hA hval
  obtain ⟨v0, v1, v2, v3, d0, d1, d2, d3, p0, p1, p2, p3, rfl, rfl, rfl, h0, h1, h2, h3⟩ := trodAll_four hA
  obtain ⟨rfl, rfl⟩ := trodVars_none hV0
  obtain ⟨m, hm⟩ := Tryz.laysM145.s1_3 W hsh
  obtain ⟨hT, hR, hP⟩ := all_of (W := W) (m := m) (by rw [← listed_eq]; exact hL) hm
  have h0k := h0
  have h1k := h1
  have h2k := h2
  have h3k := h3
  have hlt : ∀ x ∈ p0 ++ p1 ++ p2 ++ p3, x.block < W.heap.size := fun x hx => by simpa using hW'.lt x (by simpa using hx)
  have hlt0 : ∀ x ∈ p0, x.block < W.heap.size := fun x hx => hlt x (by simp [hx])
  have hlt1 : ∀ x ∈ p1, x.block < W.heap.size := fun x hx => hlt x (by simp [hx])
  have hlt2 : ∀ x ∈ p2, x.block < W.heap.size := fun x hx => hlt x (by simp [hx])
  have hlt3 : ∀ x ∈ p3, x.block < W.heap.size := fun x hx => hlt x (by simp [hx])
  clear hlt
  obtain ⟨n, rfl, rfl, rfl, hwf⟩ := open_int Tryz.underlying3 (hval 0 3 v0 rfl rfl) h0
  obtain ⟨c0, c1, c2, c3, y0, y1, y2, y3, mm, rfl, rfl, rfl, hy0, hy1, hy2, hy3⟩ := open_agg4 Tryz.underlying23 (by kernel_rfl) cellsL (hval 1 23 v1 rfl rfl) h1
  obtain ⟨mode, e0, rfl, _⟩ := DataW.trod_int Tryz.underlying3 hy0
  obtain ⟨scan, e1, rfl, _⟩ := DataW.trod_int Tryz.underlying3 hy1
  obtain ⟨eat, e2, rfl⟩ := DataW.trod_bool Tryz.underlying4 hy2
  obtain ⟨held, e3, rfl, _⟩ := DataW.trod_string Tryz.underlying9 hy3
  simp only [List.cons.injEq, and_true] at e0 e1 e2 e3
  subst e0 e1 e2 e3
  obtain ⟨text, rfl, rfl, rfl, _⟩ := Go.ChangeMaps.open_string Tryz.underlying9 (hval 2 9 v2 rfl rfl) h2
  obtain ⟨a0, len, cap, rfl⟩ := okWide_slice Tryz.underlying24 (hval 3 24 v3 rfl rfl)
  obtain ⟨hb, hb3⟩ := bulk hk
  have fin : ∀ (e : Ending) (W' : World), e = .returned (.bool true) ∧ Below W.heap.size W W' → ∃ v, e = .returned v ∧ ((Rows.OpenSpec.upto Rows.lawFeedSpec).at F).post enc Tryz.prog Tryz.f3 false true false false W #[.int .i64 n, .agg #[.int .i64 mode, .int .i64 scan, .bool eat, .string held], .string text, .slice a0 len cap] v W' := by
    rintro e W' ⟨rfl, bel⟩
    have e1 : ((Rows.OpenSpec.upto Rows.lawFeedSpec).at F).fn H ([.lit (.int .i64 n), .agg [.lit (.int .i64 mode), .lit (.int .i64 scan), .lit (.bool eat), .lit (.string held.data.toList)], .lit (.string text.data.toList), d3] ++ []) = { results := [.lit (.bool true)], args := [.lit (.int .i64 n), .agg [.lit (.int .i64 mode), .lit (.int .i64 scan), .lit (.bool eat), .lit (.string held.data.toList)], .lit (.string text.data.toList), d3] } := rfl
    refine ⟨_, rfl, _, _, _, [], [] ++ (([] ++ ([] ++ ([] ++ []))) ++ ([] ++ p3)), [], hW', ?_, ?_, ?_, bel.frame _, fun h => by cases h⟩
    · rw [e1]; exact trodAll_mk1 (shut_bool Tryz.underlying4 _)
    · rw [e1]
      exact trodAll_mk4 (Below.trod laidOut (by kernel_rfl) (of_decide_eq_true (by kernel_rfl)) h0k bel hlt0) (Below.trod laidOut (by kernel_rfl) (of_decide_eq_true (by kernel_rfl)) h1k bel hlt1) (Below.trod laidOut (by kernel_rfl) (of_decide_eq_true (by kernel_rfl)) h2k bel hlt2) (Below.trod laidOut (by kernel_rfl) (of_decide_eq_true (by kernel_rfl)) h3k bel hlt3)
    · rw [e1]; rfl
  obtain ⟨fuel, hf⟩ := h3
  rcases open_strings Tryz.underlying24 Tryz.underlying9 cells9 hf with ⟨hcs, hx⟩ | ⟨a, len', cap', ss, hcs, _, hl, hm9, hz, hx, hcell, hsz⟩
  · simp [Value.cells] at hcs
    obtain ⟨rfl, rfl, rfl⟩ := hcs
    exact (feed_walk n mode scan eat held text none 0 [] m W hb (by simp) hT hR ⟨fun j hj => absurd hj (by simp)⟩ hP).mono fin
  · simp [Value.cells] at hcs
    obtain ⟨rfl, rfl, rfl⟩ := hcs
    simp only [Prod.mk.injEq] at hx
    obtain ⟨hd, _⟩ := hx
    subst hd
    simp only [if_true] at hz
    have hb4 := bulk_slice hb3
    have hlen : (ss.take len).length = len := by rw [List.length_take]; omega
    have hwd : WordsAt W W.heap.size (some a) (ss.take len) := ⟨fun j hj => by
      rw [hlen] at hj
      have hc := hcell j (by omega)
      have hg : (ss.take len).getD j ByteArray.empty = ss.getD j ByteArray.empty := by simp [List.getD, hj]
      rw [hg]
      have hc0 := hcell 0 (by omega)
      obtain ⟨b, o, sp⟩ := a
      have hsp : sp = none := by
        have hadd0 : (⟨b, o, sp⟩ : Addr).add 0 = ⟨b, o, sp⟩ := by simp [Addr.add]
        rw [hadd0] at hc0
        exact cell_spot hc0
      subst hsp
      have hadd : (⟨b, o, none⟩ : Addr).add j = ⟨b, o + j, none⟩ := by unfold Addr.add; split <;> simp_all
      rw [hadd] at hc
      exact ⟨b, o, rfl, cell_block hc, hc⟩⟩
    have hwalk := feed_walk n mode scan eat held text (some a) cap (ss.take len) m W hb hb4 hT hR hwd hP
    rw [hlen] at hwalk
    exact hwalk.mono fin

theorem said : Rows.LawFeedUptoSaid :=
  OpenClaim.holds_of_cond 3 Tryz.f3 rfl rfl rfl rfl rfl rfl rfl ⟨rfl, rfl, rfl, rfl, rfl⟩ rfl rfl rfl rfl rfl (by kernel_rfl) Tryz.func3 (by kernel_rfl)
    (of_decide_eq_true (by kernel_rfl)) (by unfold Func.isWrapper; first | (rw [if_pos (by decide +kernel)]; kernel_rfl) | (rw [if_neg (by decide +kernel)]; exact ⟨rfl, rfl⟩))
    (fun os started H enc _ F => by rw [OpenClaim.pre_eq_preRow]; exact lifted os started H enc F)

theorem plain (f : FuncId) (fn : Func) (hf : Tryz.pinned.checked.prog.funcNamed "scrub/scrublaw.LawFeed" = some f) (hfn : Tryz.pinned.checked.prog.funcs[f]? = some fn) :
    false = Tryz.pinned.checked.prog.looks [] ∧ ∀ (j : Nat) t, fn.params[j]? = some t → Tryz.pinned.checked.prog.wantsStandIn t = false := by
  obtain rfl : f = 3 := Option.some.inj ((show Tryz.prog.funcNamed "scrub/scrublaw.LawFeed" = some 3 by kernel_rfl).symm.trans hf) |>.symm
  obtain rfl : fn = Tryz.f3 := (Option.some.inj (Tryz.func3.symm.trans hfn)).symm
  refine ⟨by kernel_rfl, fun j t ht => ?_⟩
  rw [Tryz.params3] at ht
  have hm : t = 3 ∨ t = 23 ∨ t = 9 ∨ t = 24 := by simpa using Array.mem_of_getElem? ht
  rcases hm with rfl | rfl | rfl | rfl
  · exact (show Tryz.prog.wantsStandIn 3 = false by kernel_rfl)
  · exact (show Tryz.prog.wantsStandIn 23 = false by kernel_rfl)
  · exact (show Tryz.prog.wantsStandIn 9 = false by kernel_rfl)
  · exact (show Tryz.prog.wantsStandIn 24 = false by kernel_rfl)
end feedLaw

theorem lawFeed_card : Rows.LawFeedUptoCardSaid :=
  Claim7.holds_tied_plain_at .later [] _ _ _ _ feedLaw.said (fun _ h => by cases h) (by kernel_rfl) (fun _ h => by cases h) lawFeedUpto_row_tie rfl ⟨rfl, rfl⟩ (by kernel_rfl) rfl feedLaw.plain (by kernel_rfl)
end Go.Proofs.YtndglhflbenloaaGreatDoor
