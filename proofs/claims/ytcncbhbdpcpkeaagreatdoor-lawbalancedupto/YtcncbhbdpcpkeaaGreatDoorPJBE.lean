/-
  Parts of the walk, joined: ParG, ParH, ParI, ParJ.
-/
import Derived.Shelf.Slices.In.SortNone
import Derived.Shelf.Sort.Plain
import Derived.Test.YtcncbhbdpcpkeaaGreatDoorPJBD
import Derived.Test.YtcncbhbdpcpkeaaGreatDoorPJAV
import Derived.Test.YtcncbhbdpcpkeaaGreatDoorPJAP
/-
  The token reader's start tag: its walk.
-/
namespace Go.Proofs.YtcncbhbdpcpkeaaGreatDoor
open Go.RowKit Go.Lib Own

/-- what lies before the reader: the tables, in a world that stays -/
structure TrW (w0 w : World) (b : Nat) (m : Int) : Prop where
  be : Below w0.heap.size w0 w
  lo : w0.heap.size ≤ b
  mr : MRefTab w0
  mx : w0.cell? ⟨4, 0, none⟩ = some (.int .i64 m)
theorem TrW.tab {w0 w : World} {b : Nat} {m : Int} (h : TrW w0 w b m) : MRefTab w := h.mr.below h.be
theorem TrW.max {w0 w : World} {b : Nat} {m : Int} (h : TrW w0 w b m) : w.cell? ⟨4, 0, none⟩ = some (.int .i64 m) := cell_low h.mx h.be (cell_block h.mx)
theorem TrW.ne {w0 w : World} {b : Nat} {m : Int} (h : TrW w0 w b m) : b ≠ 2 := by
  have h1 := h.mr 0 (.string (bs ampE)) rfl
  have h2 := cell_block h1
  have := h.lo
  omega
theorem grown_below_lo {w w' : World} {base b : Nat} (h : w.grownBy w' (some b)) (hb : base ≤ b) (hw : base ≤ w.heap.size) : Below base w w' :=
  ⟨h.os, h.tape, h.output, h.size, fun k hk => h.block k (by omega) (fun e => by have := Option.some.inj e; omega)⟩
theorem TrW.on {w0 w w' : World} {b : Nat} {m : Int} (h : TrW w0 w b m) (hg : w.grownBy w' (some b)) : TrW w0 w' b m := ⟨h.be.trans (grown_below_lo hg h.lo h.be.size), h.lo, h.mr, h.mx⟩
theorem TrW.below {w0 w w' : World} {b : Nat} {m : Int} (h : TrW w0 w b m) (hb : Below w.heap.size w w') : TrW w0 w' b m := ⟨h.be.trans (hb.mono h.be.size), h.lo, h.mr, h.mx⟩

/-- what startTag answers -/
structure TagOut (w w' : World) (b : Nat) (l : List UInt8) (e : Ending) : Prop where
  it : ∃ (av : Value) (al : List AttrP) (l' : List UInt8) (g : Bool), e = .returned (.agg #[.int .i64 1, .string (bs (l.take (wordN [] l))), av, .string ⟨#[]⟩]) ∧ TrOut w w' b l' g ∧ w'.ownsRow w.heap.size 122 2 av al.length (attrsV al) ∧
    (g = true → wordN [] l = 0 ∨ attrsQ (l.drop (wordN [] l)) = none) ∧ (g = false → wordN [] l ≠ 0 ∧ attrsQ (l.drop (wordN [] l)) = some (al, l')) ∧ al.length ≤ l.length ∧ l'.length ≤ l.length
/-- where the loop stands -/
structure TagLoop (w wr : World) (b r0 t0 : Nat) (N : ByteArray) (Q : Option (List AttrP × List UInt8)) (len : Nat) (lk : List UInt8) (g : Bool) (av : Value) (al : List AttrP) : Prop where
  at_ : TrAt wr b lk g
  gr : w.grownBy wr (some b)
  res : wr.heap[r0]? = some (.cells #[.int .i64 0, .string ⟨#[]⟩, .slice none 0 0, .string ⟨#[]⟩] 60 (0, 0))
  tag : wr.heap[t0]? = some (.cells #[.int .i64 1, .string N, av, .string ⟨#[]⟩] 60 (0, 0))
  row : wr.ownsRow w.heap.size 122 2 av al.length (attrsV al)
  inv : TagInv Q lk g al
  len : al.length + lk.length ≤ len
  lo : w.heap.size ≤ r0 ∧ r0 < t0 ∧ t0 < wr.heap.size
def rdSize (w : World) (b : Nat) : Nat := match w.cell? ⟨b, 0, none⟩ with
  | some (.string s) => s.size
  | _ => 0
theorem rdSize_at {w : World} {b : Nat} {l : List UInt8} {g : Bool} (h : TrAt w b l g) : rdSize w b = l.length := by
  unfold rdSize
  rw [(tr_cells h).1]
  exact bs_size l
theorem grownBy_alloc (w : World) (X : Obj) (r : Option Nat) : w.grownBy (w.alloc X) r := grown_below ((Below.refl _ _).alloc (Nat.le_refl _) X) r
theorem TagLoop.tag6 {w wr W4 w6 : World} {b r0 t0 : Nat} {N : ByteArray} {Q : Option (List AttrP × List UInt8)} {len : Nat} {lk l2 : List UInt8} {g g2 : Bool} {av : Value} {al : List AttrP} {X : Obj} (h : TagLoop w wr b r0 t0 N Q len lk g av al) (hb : b < w.heap.size)
    (ho : TrOut wr W4 b l2 g2) : (W4.alloc X).heap[t0]? = some (.cells #[.int .i64 1, .string N, av, .string ⟨#[]⟩] 60 (0, 0)) ∧ ((W4.alloc X).grownBy w6 av.ownBlock → w6.heap[t0]? = some (.cells #[.int .i64 1, .string N, av, .string ⟨#[]⟩] 60 (0, 0))) := by
  have l1 := h.lo
  have l2 := ho.gr.size
  have l4 : (W4.alloc X).heap.size = W4.heap.size + 1 := by simp
  have ht4 : (W4.alloc X).heap[t0]? = some (.cells #[.int .i64 1, .string N, av, .string ⟨#[]⟩] 60 (0, 0)) := (alloc_old W4 X t0 (by omega)).trans ((ho.gr.block t0 l1.2.2 (fun e => by have := Option.some.inj e; omega)).trans h.tag)
  have nt : av.ownBlock ≠ some t0 := row_ne h.row h.tag (by decide)
  exact ⟨ht4, fun hg6 => (hg6.block t0 (by omega) (fun e => nt e.symm)).trans ht4⟩
theorem TagLoop.next {w wr W4 w6 : World} {b r0 t0 : Nat} {N : ByteArray} {Q : Option (List AttrP × List UInt8)} {len : Nat} {lk : List UInt8} {av v' : Value} {al : List AttrP} {X : Obj} (h : TagLoop w wr b r0 t0 N Q len lk false av al) (hb : b < w.heap.size) (h32 : lk.head? = some 32)
    (ho : TrOut wr W4 b (rdL lk.tail) (rdW lk.tail)) (hr6 : w6.ownsRow w.heap.size 122 2 v' (al ++ [rdA lk.tail]).length (attrsV (al ++ [rdA lk.tail]))) (hg6 : (W4.alloc X).grownBy w6 av.ownBlock) :
    TagLoop w (w6.setCell ⟨t0, 2, none⟩ v') b r0 t0 N Q len (rdL lk.tail) (rdW lk.tail) v' (al ++ [rdA lk.tail]) := by
  have l1 := h.lo
  have l2 := ho.gr.size
  have l3 := hg6.size
  have l4 : (W4.alloc X).heap.size = W4.heap.size + 1 := by simp
  have hat : ∀ g, av.ownBlock = some g → w.heap.size ≤ g := fun g hg => (h.row.lt g hg).1
  have nb : ∀ k, k < w.heap.size → av.ownBlock ≠ some k := fun k hk e => by have := hat k e; omega
  have ht4 : (W4.alloc X).heap[t0]? = some (.cells #[.int .i64 1, .string N, av, .string ⟨#[]⟩] 60 (0, 0)) := (alloc_old W4 X t0 (by omega)).trans ((ho.gr.block t0 l1.2.2 (fun e => by have := Option.some.inj e; omega)).trans h.tag)
  have hr4 : (W4.alloc X).heap[r0]? = some (.cells #[.int .i64 0, .string ⟨#[]⟩, .slice none 0 0, .string ⟨#[]⟩] 60 (0, 0)) := (alloc_old W4 X r0 (by omega)).trans ((ho.gr.block r0 (by omega) (fun e => by have := Option.some.inj e; omega)).trans h.res)
  have nt : av.ownBlock ≠ some t0 := row_ne h.row h.tag (by decide)
  have nr : av.ownBlock ≠ some r0 := row_ne h.row h.res (by decide)
  have ht6 := (hg6.block t0 (by omega) (fun e => nt e.symm)).trans ht4
  have hr6' := (hg6.block r0 (by omega) (fun e => nr e.symm)).trans hr4
  have hb6 : TrAt w6 b (rdL lk.tail) (rdW lk.tail) := (hg6.block b (by omega) (fun e => nb b hb e.symm)).trans ((alloc_old W4 X b (by omega)).trans ho.at_)
  have hj := just_put (j := 2) ht6 v' rfl
  refine ⟨(hj.other b (by omega)).trans hb6, ?_, (hj.other r0 (by omega)).trans hr6', hj.at_, hr6.kept (just_grown hj) (.inr (row_ne hr6 ht6 (by decide))), h.inv.round h32, ?_, ⟨l1.1, l1.2.1, by rw [hj.size]; omega⟩⟩
  · have h1 := grown_trans h.gr (grown_trans ho.gr (grownBy_alloc W4 X (some b)))
    refine ⟨hj.os.trans (hg6.os.trans h1.os), hj.tape.trans (hg6.tape.trans h1.tape), hj.output.trans (hg6.output.trans h1.output), by rw [hj.size]; exact Nat.le_trans h1.size hg6.size, fun k hk hkb => ?_⟩
    exact (hj.other k (by omega)).trans ((hg6.block k (by have := h1.size; omega) (fun e => nb k hk e.symm)).trans (h1.block k hk hkb))
  · have h1 := h.len
    have h2 := rdL_len lk.tail
    rw [List.length_append, List.length_singleton]
    rw [List.length_tail] at h2
    have h3 : 1 ≤ lk.length := by
      cases lk with
      | nil => cases h32
      | cons c r => simp
    omega
theorem just4 {W : World} {b : Nat} {a0 a1 a2 a3 : Value} {T : TypeId} (h : W.heap[b]? = some (.cells #[a0, a1, a2, a3] T (0, 0))) (x0 x1 x2 x3 : Value) :
    Just W ((((W.setCell ⟨b, 0, none⟩ x0).setCell ⟨b, 1, none⟩ x1).setCell ⟨b, 2, none⟩ x2).setCell ⟨b, 3, none⟩ x3) b #[x0, x1, x2, x3] T := by
  have h1 := just_put (j := 0) h x0 rfl
  have h2 := just_put (j := 1) h1.at_ x1 rfl
  have h3 := just_put (j := 2) h2.at_ x2 rfl
  have h4 := just_put (j := 3) h3.at_ x3 rfl
  exact ((h1.andThen h2).andThen h3).andThen h4
/-- the end: the sign of the end is asked for, the tag is handed back -/
theorem TagLoop.fin {w wr W' : World} {b t0 n : Nat} {N : ByteArray} {Q : Option (List AttrP × List UInt8)} {l lk : List UInt8} {g : Bool} {av : Value} {al : List AttrP} (h : TagLoop w wr b w.heap.size t0 N Q l.length lk g av al) (hb : b < w.heap.size) (hc : g = true ∨ lk.head? ≠ some 32)
    (hn : wordN [] l = n) (hN : bs (l.take n) = N) (hQ : (if n = 0 then none else attrsQ (l.drop n)) = Q)
    (ho : TrOut wr W' b (if ([62] : List UInt8).isPrefixOf lk = true then lk.drop ([62] : List UInt8).length else lk) (g || !([62] : List UInt8).isPrefixOf lk)) :
    W'.heap[t0]? = some (.cells #[.int .i64 1, .string N, av, .string ⟨#[]⟩] 60 (0, 0)) ∧ W'.heap[w.heap.size]? = some (.cells #[.int .i64 0, .string ⟨#[]⟩, .slice none 0 0, .string ⟨#[]⟩] 60 (0, 0)) ∧
    ∀ W8, Just W' W8 w.heap.size #[.int .i64 1, .string N, av, .string ⟨#[]⟩] 60 → TagOut w W8 b l (.returned (.agg #[.int .i64 1, .string N, av, .string ⟨#[]⟩])) := by
  have l1 := h.lo
  have ht := (ho.gr.block t0 l1.2.2 (fun e => by have := Option.some.inj e; omega)).trans h.tag
  have hr := (ho.gr.block w.heap.size (by omega) (fun e => by have := Option.some.inj e; omega)).trans h.res
  refine ⟨ht, hr, fun W8 hj => ?_⟩
  have hrow := h.row.kept ho.gr (.inr (fun e => by have := (h.row.lt b e).1; omega))
  have hrow8 := hrow.kept (just_grown hj) (.inr (row_ne hrow hr (by decide)))
  have hgr : w.grownBy W8 (some b) := by
    have h1 := grown_trans h.gr ho.gr
    exact ⟨hj.os.trans h1.os, hj.tape.trans h1.tape, hj.output.trans h1.output, by rw [hj.size]; exact h1.size, fun k hk hkb => (hj.other k (by omega)).trans (h1.block k hk hkb)⟩
  obtain ⟨f1, f2⟩ := h.inv.fin hc
  have hlen := h.len
  have hat : TrAt W8 b (if ([62] : List UInt8).isPrefixOf lk = true then lk.drop ([62] : List UInt8).length else lk) (g || !([62] : List UInt8).isPrefixOf lk) := (hj.other b (by omega)).trans ho.at_
  subst hn
  subst hN
  refine ⟨av, al, _, _, rfl, ⟨hat, hgr⟩, hrow8, fun hg => ?_, fun hg => ?_, by omega, ?_⟩
  · have := f1 hg
    rw [← hQ] at this
    by_cases h0 : wordN [] l = 0
    · exact .inl h0
    · rw [if_neg h0] at this; exact .inr this
  · obtain ⟨k1, k2⟩ := f2 hg
    rw [← hQ] at k1
    by_cases h0 : wordN [] l = 0
    · rw [if_pos h0] at k1; cases k1
    · rw [if_neg h0] at k1
      refine ⟨h0, ?_⟩
      rw [k1]
      have : ([62] : List UInt8).isPrefixOf lk = true := by
        cases lk with
        | nil => cases k2
        | cons c r => cases k2; rfl
      rw [if_pos this]
      cases lk with
      | nil => cases k2
      | cons c r => rfl
  · split
    · rw [List.length_drop]; omega
    · omega
set_option maxHeartbeats 8000000 in
set_option maxRecDepth 100000 in
theorem startTag2_any (w0 : World) (b : Nat) (l : List UInt8) (m : Int) (w : World) (h : TrAt w b l false) (hw : TrW w0 w b m) (hs : l.length ≤ 80000000) :
    Calls Tryz.prog 74 #[.pointer (some ⟨b, 0, none⟩)] w fun e w' => TagOut w w' b l e := by
  have hle := wordN_le [] l
  have hwd := fun W (hW : TrAt W b l false) => word_any b l [] false W hW (by omega)
  have hb := block_lt h
  have HW := hid hwd
  have HH := hid (And.intro h hw)
  generalize hn : wordN [] l = n at hle HW
  have HN := hid (fun (_ : True) => hn)
  clear hwd h hw hn
  go_enter Tryz.func74, Tryz.ntmps74
  go_upto_region 1 with fail
  have hbe : bs ([] : List UInt8) = ⟨#[]⟩ := rfl
  have hb0 : Below w.heap.size w (w.alloc (.cells #[.int .i64 0, .string ⟨#[]⟩, .slice none 0 0, .string ⟨#[]⟩] 60)) := (Below.refl _ _).alloc (Nat.le_refl _) _
  have hwd := HW.out _ (TrOut.below HH.out.1 hb0).at_
  rw [hbe] at hwd
  have HWD := hid hwd
  have hr0 := heap_alloc_new w (.cells #[.int .i64 0, .string ⟨#[]⟩, .slice none 0 0, .string ⟨#[]⟩] 60)
  have HB0 := hid hb0
  have HR0 := hid hr0
  clear hwd HW hb0 hr0
  go_wp2_with fail
  refine HWD.out.mono ?_
  rintro e W1 ⟨rfl, ho⟩
  have hlt1 := ho.gr.size
  obtain ⟨NN, hNN⟩ : ∃ NN, bs (l.take n) = NN := ⟨_, rfl⟩
  rw [hNN]
  have HNN := hid (fun (_ : True) => hNN)
  obtain ⟨Q, hQ⟩ : ∃ Q, (if n = 0 then none else attrsQ (l.drop n)) = Q := ⟨_, rfl⟩
  have hinv : TagInv Q (l.drop n) (false || n == 0) [] := by
    rw [← hQ]
    by_cases h0 : n = 0
    · rw [if_pos h0, h0]
      exact ⟨fun h => (by cases h), fun _ => rfl⟩
    · rw [if_neg h0, show (n == 0) = false from beq_eq_false_iff_ne.2 h0]
      refine ⟨fun _ => ?_, fun h => (by cases h)⟩
      cases attrsQ (l.drop n) <;> simp
  have HQ := hid (fun (_ : True) => hQ)
  have hloop : TagLoop w (W1.alloc (.cells #[.int .i64 1, .string NN, .slice none 0 0, .string ⟨#[]⟩] 60)) b w.heap.size W1.heap.size NN Q l.length (l.drop n) (false || n == 0) (.slice none 0 0) [] := by
    have hs1 : (w.alloc (.cells #[.int .i64 0, .string ⟨#[]⟩, .slice none 0 0, .string ⟨#[]⟩] 60)).heap.size = w.heap.size + 1 := by simp
    refine ⟨(alloc_old W1 _ b (by omega)).trans ho.at_, grown_trans (grown_below HB0.out _) (grown_trans ho.gr (grownBy_alloc W1 _ _)), (alloc_old W1 _ _ (by omega)).trans ((ho.gr.block _ (by omega) (fun e => by have := Option.some.inj e; omega)).trans HR0.out), heap_alloc_new W1 _, World.ownsRow_nil _ _ _ _, hinv, by simp, ⟨Nat.le_refl _, by omega, by simp⟩⟩
  have HL := hid hloop
  clear ho hlt1 hNN hinv hQ hloop HWD HB0 HR0
  go_upto_region 2 with fail
  generalize hT0 : W1.heap.size = T0 at HL ⊢
  generalize W1.alloc (.cells #[.int .i64 1, .string NN, .slice none 0 0, .string ⟨#[]⟩] 60) = W2 at HL ⊢
  clear hT0
  go_loopw [] (fun wr => ∃ (lk : List UInt8) (g : Bool) (av : Value) (al : List AttrP), Hid (TagLoop w wr b w.heap.size T0 NN Q l.length lk g av al)) (fun wr => rdSize wr b)
  case atStart => exact ⟨_, _, _, _, HL⟩
  case round =>
    clear HL
    obtain ⟨lk, g, av, al, HX⟩ := hrel
    have hll := HX.out.len
    have hne := need_any b lk [62] g wr HX.out.at_ (by omega)
    have h62 : bs ([62] : List UInt8) = ⟨#[62]⟩ := rfl
    rw [h62] at hne
    have HNE := hid hne
    clear hne h62
    obtain ⟨c0, c1, f0, f1⟩ := tr_cells HX.out.at_
    have hexit : (g = true ∨ lk.head? ≠ some 32) → ∀ W', TrOut wr W' b (if ([62] : List UInt8).isPrefixOf lk = true then lk.drop ([62] : List UInt8).length else lk) (g || !([62] : List UInt8).isPrefixOf lk) → _ := fun hc W' ho => HX.out.fin hb hc (HN.out trivial) (HNN.out trivial) (HQ.out trivial) ho
    have HE := hid hexit
    clear hexit
    cases g with
    | true =>
      obtain ⟨ap, ac, rfl⟩ := row_shape HX.out.row
      clear HX HH
      go_wp2_with fail
      refine HNE.out.mono ?_
      rintro e W3 ⟨rfl, ho⟩
      obtain ⟨k1, k2, k3⟩ := HE.out (.inl (by trivial)) W3 ho
      have HZ := hid (k3 _ (just4 k2 (.int .i64 1) (.string NN) (.slice ap al.length ac) (.string ⟨#[]⟩)))
      have HJ := hid (just4 k2 (.int .i64 1) (.string NN) (.slice ap al.length ac) (.string ⟨#[]⟩)).at_
      have x0 := cell_at k1 (j := 0) rfl
      have x1 := cell_at k1 (j := 1) rfl
      have x2 := cell_at k1 (j := 2) rfl
      have x3 := cell_at k1 (j := 3) rfl
      have y0 := cell_at k2 (j := 0) rfl
      have y1 := cell_at k2 (j := 1) rfl
      have y2 := cell_at k2 (j := 2) rfl
      have y3 := cell_at k2 (j := 3) rfl
      have z0 := free_at k2 0
      have z1 := free_at k2 1
      have z2 := free_at k2 2
      have z3 := free_at k2 3
      clear ho k1 k2 k3 HE HNE c0 c1 f0 f1
      go_wp2_with fail
      refine bodyPost_ret (v := .agg #[.int .i64 1, .string NN, .slice ap al.length ac, .string ⟨#[]⟩]) ?_ rfl HZ.out
      exact results_cell_row rfl _ _ _ _ _ _ _ rfl HJ.out Tryz.underlying60 rfl (by kernel_rfl)
    | false =>
      have hsk := skip_any b lk [32] false wr HX.out.at_ (by omega)
      have h32e : bs ([32] : List UInt8) = ⟨#[32]⟩ := rfl
      rw [h32e] at hsk
      by_cases h32 : lk.head? = some 32
      · have hp : ([32] : List UInt8).isPrefixOf lk = true := by
          cases lk with
          | nil => cases h32
          | cons c r => cases h32; rfl
        rw [hp, if_pos rfl] at hsk
        have htl : lk.drop ([32] : List UInt8).length = lk.tail := by
          cases lk with
          | nil => rfl
          | cons c r => rfl
        rw [htl] at hsk
        have htn : lk.tail.length ≤ lk.length := by rw [List.length_tail]; omega
        have hrn : (rdR lk.tail).length ≤ lk.tail.length := by unfold rdR; rw [List.length_drop]; omega
        have hvn := rdV_len lk.tail
        have hwd := fun W1 (ho : TrOut wr W1 b lk.tail false) => word_any b lk.tail [45] false W1 ho.at_ (by omega)
        have hnd := fun W1 W2 (ho : TrOut wr W1 b lk.tail false) (ho2 : TrOut W1 W2 b (rdR lk.tail) (false || rdN lk.tail == 0)) => need_any b (rdR lk.tail) [61, 34] (false || rdN lk.tail == 0) W2 ho2.at_ (by omega)
        have hva := fun W1 W2 W3' (ho : TrOut wr W1 b lk.tail false) (ho2 : TrOut W1 W2 b (rdR lk.tail) (false || rdN lk.tail == 0)) (ho3 : TrOut W2 W3' b (rdV lk.tail) (rdG lk.tail)) =>
          trValue_any b (rdV lk.tail) (rdG lk.tail) m W3' ho3.at_ (by omega) (((HH.out.2.on HX.out.gr).on (ho.trans (ho2.trans ho3)).gr).tab) HH.out.2.ne (((HH.out.2.on HX.out.gr).on (ho.trans (ho2.trans ho3)).gr).max)
        have h45 : bs ([45] : List UInt8) = ⟨#[45]⟩ := rfl
        have h61 : bs ([61, 34] : List UInt8) = ⟨#[61, 34]⟩ := rfl
        rw [h45] at hwd
        rw [h61] at hnd
        have hwd' : ∀ W1, TrOut wr W1 b lk.tail false → Calls Tryz.prog 72 #[.pointer (some ⟨b, 0, none⟩), .string ⟨#[45]⟩] W1 fun e w' => e = .returned (.string (bs (rdA lk.tail).1)) ∧ TrOut W1 w' b (rdR lk.tail) (false || rdN lk.tail == 0) := hwd
        have hnd' : ∀ W1 W2, TrOut wr W1 b lk.tail false → TrOut W1 W2 b (rdR lk.tail) (false || rdN lk.tail == 0) → Calls Tryz.prog 73 #[.pointer (some ⟨b, 0, none⟩), .string ⟨#[61, 34]⟩] W2 fun e w' => e = .returned (.tuple #[]) ∧ TrOut W2 w' b (rdV lk.tail) (rdG lk.tail) := hnd
        have hva' : ∀ W1 W2 W3', TrOut wr W1 b lk.tail false → TrOut W1 W2 b (rdR lk.tail) (false || rdN lk.tail == 0) → TrOut W2 W3' b (rdV lk.tail) (rdG lk.tail) → Calls Tryz.prog 139 #[.pointer (some ⟨b, 0, none⟩)] W3' fun e w' => e = .returned (.string (bs (rdA lk.tail).2)) ∧ TrOut W3' w' b (rdL lk.tail) (rdW lk.tail) := hva
        have HSK := hid hsk
        have HWD := hid hwd'
        have HND := hid hnd'
        have HVA := hid hva'
        have hms : rdSize wr b = lk.length := rdSize_at HX.out.at_
        have H32 := hid (And.intro h32 hms)
        obtain ⟨ap, ac, rfl⟩ := row_shape HX.out.row
        clear hsk hwd hnd hva hwd' hnd' hva' h45 h61 h32e hp htl hrn hvn htn HNE HE h32 hms
        obtain ⟨X1, hX1⟩ : ∃ X1, bs (rdA lk.tail).1 = X1 := ⟨_, rfl⟩
        obtain ⟨X2, hX2⟩ : ∃ X2, bs (rdA lk.tail).2 = X2 := ⟨_, rfl⟩
        rw [hX1] at HWD
        rw [hX2] at HVA
        have HXX := hid (fun (_ : True) => And.intro hX1 hX2)
        clear hX1 hX2
        go_wp2_with fail
        refine HSK.out.mono ?_
        rintro e W3 ⟨rfl, ho1⟩
        have HO1 := hid ho1
        clear ho1 HSK c0 c1 f0 f1
        go_wp2_with fail
        refine (HWD.out W3 HO1.out).mono ?_
        rintro e W4 ⟨rfl, ho2⟩
        have HO2 := hid ho2
        clear ho2 HWD
        go_wp2_with fail
        refine (HND.out W3 W4 HO1.out HO2.out).mono ?_
        rintro e W5 ⟨rfl, ho3⟩
        have HO3 := hid ho3
        clear ho3 HND
        go_wp2_with fail
        refine (HVA.out W3 W4 W5 HO1.out HO2.out HO3.out).mono ?_
        rintro e W6 ⟨rfl, ho4⟩
        have HO := hid (((HO1.out.trans HO2.out).trans HO3.out).trans ho4)
        clear ho4 HVA HO1 HO2 HO3
        obtain ⟨hx1, hx2⟩ := HXX.out trivial
        obtain ⟨h32, hms⟩ := H32.out
        have hrow6 := (HX.out.row.kept HO.out.gr (.inr (fun e => by have := (HX.out.row.lt b e).1; omega))).alloc (.cells #[.string X1, .string X2] 122)
        have hat6 : AttrsR (W6.alloc (.cells #[.string X1, .string X2] 122)) (.slice (some ⟨W6.heap.size, 0, none⟩) 1 1) [rdA lk.tail] := attrs_oneP (by rw [hx1, hx2]; exact heap_alloc_new W6 _)
        have hsz6 : w.heap.size ≤ (W6.alloc (.cells #[.string X1, .string X2] 122)).heap.size := by
          have h1 := HX.out.gr.size
          have h2 := HO.out.gr.size
          have h3 : (W6.alloc (.cells #[.string X1, .string X2] 122)).heap.size = W6.heap.size + 1 := by simp
          omega
        have htg := fun w6 => HX.out.tag6 (w6 := w6) (X := .cells #[.string X1, .string X2] 122) hb HO.out
        have q6 := (htg w).1
        have HTG := hid (fun w6 => (htg w6).2)
        have HRW := hid hrow6
        have HAT := hid hat6
        have t2 := cell_at ((alloc_old W6 (.cells #[.string X1, .string X2] 122) T0 (by have h1 := HX.out.lo; have h2 := HO.out.gr.size; omega)).symm.trans q6) (j := 2) rfl
        have hall : al.length ≤ 80000000 := by omega
        clear hx1 hx2 hrow6 hat6 htg q6 h32 hms
        go_wp2_with (at_builtin; refine wpList_append_attrs rfl (.tmp 25) (.tmp 29) rfl w.heap.size _ _ al [rdA lk.tail] rfl rfl (by exact HRW.out) (by exact HAT.out) hsz6 (by simp only [List.length_singleton]; omega) ?_)
        intro v7 w7 hrow7 hgr7
        obtain ⟨p7, c7, rfl⟩ := row_shape hrow7
        have ht7 := HTG.out w7 hgr7
        have k2 := cell_at ht7 (j := 2) rfl
        have z2 := free_at ht7 2
        have HN7 := hid (HX.out.next hb H32.out.1 HO.out (by rw [List.length_append, List.length_singleton]; exact hrow7) hgr7)
        clear hrow7 hgr7 ht7 t2 HRW HAT HTG hsz6
        go_wp2_with fail
        go_roundw
        case rel => exact ⟨_, _, _, _, HN7⟩
        case measure =>
          have h1 := rdL_len lk.tail
          have h2 := H32.out.2
          have h3 : lk ≠ [] := by intro e; have := H32.out.1; rw [e] at this; cases this
          have h4 := List.length_pos_iff.2 h3
          rw [List.length_tail] at h1
          rw [rdSize_at HN7.out.at_, h2]
          omega
      · have hp : ([32] : List UInt8).isPrefixOf lk = false := by
          cases lk with
          | nil => rfl
          | cons c r =>
            simp only [List.isPrefixOf, Bool.and_true, beq_eq_false_iff_ne]
            intro e
            exact h32 (by rw [List.head?_cons, ← e])
        rw [hp, if_neg (by simp)] at hsk
        have HSK := hid hsk
        have hne2 := fun W1 (ho : TrOut wr W1 b lk false) => need_any b lk [62] false W1 ho.at_ (by omega)
        have h62 : bs ([62] : List UInt8) = ⟨#[62]⟩ := rfl
        rw [h62] at hne2
        have HN2 := hid hne2
        have H32 := hid h32
        obtain ⟨ap, ac, rfl⟩ := row_shape HX.out.row
        clear hsk hp h32e hne2 h62 h32 HNE HX HH
        go_wp2_with fail
        refine HSK.out.mono ?_
        rintro e W2' ⟨rfl, ho1⟩
        have HO1 := hid ho1
        have hne3 := HN2.out W2' ho1
        have HN3 := hid hne3
        clear ho1 hne3 HSK HN2 c0 c1 f0 f1
        go_wp2_with fail
        refine HN3.out.mono ?_
        rintro e W3 ⟨rfl, ho2⟩
        have ho := HO1.out.trans ho2
        clear ho2 HO1 HN3
        obtain ⟨k1, k2, k3⟩ := HE.out (.inr H32.out) W3 ho
        have HZ := hid (k3 _ (just4 k2 (.int .i64 1) (.string NN) (.slice ap al.length ac) (.string ⟨#[]⟩)))
        have HJ := hid (just4 k2 (.int .i64 1) (.string NN) (.slice ap al.length ac) (.string ⟨#[]⟩)).at_
        have x0 := cell_at k1 (j := 0) rfl
        have x1 := cell_at k1 (j := 1) rfl
        have x2 := cell_at k1 (j := 2) rfl
        have x3 := cell_at k1 (j := 3) rfl
        have y0 := cell_at k2 (j := 0) rfl
        have y1 := cell_at k2 (j := 1) rfl
        have y2 := cell_at k2 (j := 2) rfl
        have y3 := cell_at k2 (j := 3) rfl
        have z0 := free_at k2 0
        have z1 := free_at k2 1
        have z2 := free_at k2 2
        have z3 := free_at k2 3
        clear ho k1 k2 k3 HE
        go_wp2_with fail
        refine bodyPost_ret (v := .agg #[.int .i64 1, .string NN, .slice ap al.length ac, .string ⟨#[]⟩]) ?_ rfl HZ.out
        exact results_cell_row rfl _ _ _ _ _ _ _ rfl HJ.out Tryz.underlying60 rfl (by kernel_rfl)
end Go.Proofs.YtcncbhbdpcpkeaaGreatDoor

/-
  Does an attribute's name stand twice: what sorting and shortening tell. Plain.
-/
namespace Go.Proofs.YtcncbhbdpcpkeaaGreatDoor
open Go.RowKit Go.Lib Own Go.Sort

def leL (x y : List UInt8) : Bool := decide (x ≤ y)
theorem sorted_L (l : List (List UInt8)) : (l.mergeSort leL).Pairwise (fun a b => leL a b = true) :=
  List.pairwise_mergeSort (fun a b c h1 h2 => by simp only [leL, decide_eq_true_eq] at *; exact List.le_trans h1 h2) (fun a b => by simp only [leL, Bool.or_eq_true, decide_eq_true_eq]; exact List.le_total a b) l
theorem compact_lt (s : List (List UInt8)) : (Lib.compact s).length < s.length ↔ ∃ j, j < s.length ∧ keeps s.toArray j = false := by
  unfold Lib.compact compactUpTo
  rw [List.length_map]
  have h1 : ((List.range s.length).filter (keeps s.toArray)).length ≤ (List.range s.length).length := List.length_filter_le _ _
  constructor
  · intro h
    refine Classical.byContradiction fun hn => ?_
    have hall : ∀ j ∈ List.range s.length, keeps s.toArray j = true := fun j hj => by
      cases hk : keeps s.toArray j with
      | true => rfl
      | false => exact absurd ⟨j, List.mem_range.1 hj, hk⟩ hn
    rw [List.filter_eq_self.2 hall, List.length_range] at h
    exact Nat.lt_irrefl _ h
  · rintro ⟨j, hj, hk⟩
    rcases Nat.lt_or_ge ((List.range s.length).filter (keeps s.toArray)).length s.length with h | h
    · exact h
    · have h2 : ((List.range s.length).filter (keeps s.toArray)).length = (List.range s.length).length := by rw [List.length_range] at h1 ⊢; omega
      have h3 := List.filter_eq_self.1 (List.filter_sublist.eq_of_length h2) j (List.mem_range.2 hj)
      rw [hk] at h3
      cases h3
theorem keeps_list (s : List (List UInt8)) {j : Nat} (hj : j < s.length) : keeps s.toArray j = false ↔ 0 < j ∧ s[j]? = s[j - 1]? := by
  unfold keeps
  rw [decide_eq_false_iff_not]
  have e1 : (s.toArray)[j]! = s[j] := by simp [hj]
  have e2 : (s.toArray)[j - 1]! = s[j - 1]'(by omega) := by
    have : j - 1 < s.length := by omega
    simp [this]
  rw [e1, e2, List.getElem?_eq_getElem hj, List.getElem?_eq_getElem (show j - 1 < s.length by omega)]
  simp only [ne_eq, not_or, Classical.not_not, Option.some.injEq]
  exact ⟨fun h => ⟨Nat.pos_of_ne_zero h.1, h.2⟩, fun h => ⟨by omega, h.2⟩⟩
/-- a sorted list is shorter once runs are made one exactly if a word stands twice -/
theorem twice_sorted {s : List (List UInt8)} (h : s.Pairwise (fun a b => leL a b = true)) : (Lib.compact s).length < s.length ↔ ¬ s.Nodup := by
  rw [compact_lt]
  constructor
  · rintro ⟨j, hj, hk⟩ hn
    obtain ⟨h0, h1⟩ := (keeps_list s hj).1 hk
    unfold List.Nodup at hn
    rw [List.pairwise_iff_getElem] at hn
    have h2 := hn (j - 1) j (by omega) hj (by omega)
    rw [List.getElem?_eq_getElem hj, List.getElem?_eq_getElem (show j - 1 < s.length by omega), Option.some.injEq] at h1
    exact h2 h1.symm
  · intro hn
    refine Classical.byContradiction fun hne => hn ?_
    unfold List.Nodup
    rw [List.pairwise_iff_getElem]
    intro i j hi hj hij e
    refine hne ⟨i + 1, by omega, ?_⟩
    rw [keeps_list s (by omega)]
    refine ⟨Nat.succ_pos i, ?_⟩
    rw [Nat.add_sub_cancel]
    rw [List.getElem?_eq_getElem (show i + 1 < s.length by omega), List.getElem?_eq_getElem hi, Option.some.injEq]
    rw [List.pairwise_iff_getElem] at h
    have a1 : s[i] ≤ s[i + 1]'(by omega) := of_decide_eq_true (h i (i + 1) hi (by omega) (by omega))
    rcases Nat.lt_or_ge (i + 1) j with hlt | hge
    · have a2 : s[i + 1]'(by omega) ≤ s[j] := of_decide_eq_true (h (i + 1) j (by omega) hj hlt)
      rw [← e] at a2
      exact List.le_antisymm a2 a1
    · have : j = i + 1 := by omega
      subst this
      exact e.symm
theorem twice_any (l : List (List UInt8)) : decide ((Lib.compact (l.mergeSort leL)).length < l.length) = !decide l.Nodup := by
  have hp := List.mergeSort_perm l leL
  have h := twice_sorted (sorted_L l)
  rw [hp.length_eq, hp.nodup_iff] at h
  rw [Bool.eq_iff_iff, decide_eq_true_iff, h]
  simp
theorem sort_below {base blk : Nat} {W : World} {n : Nat} {os : Array Obj} {d : Array (List UInt8)} (hb : base ≤ blk) (hw0 : blk < W.heap.size) : Below base W (grow (putRow encStr (Sort.ahead W n) blk 0 d) os) := by
  refine ⟨rfl, rfl, rfl, by simp, fun k hk => ?_⟩
  rw [heap_grow_old _ _ (by rw [size_putRow]; show k < W.heap.size; omega)]
  show (W.heap.modify blk _)[k]? = _
  rw [Array.getElem?_modify, if_neg (by omega)]
theorem compact_below {base blk : Nat} {W : World} {n : Nat} {d : Array (List UInt8)} (hb : base ≤ blk) (hw0 : blk < W.heap.size) : Below base W (putRow encStr (Sort.ahead W n) blk 0 d) := by
  have h := sort_below (n := n) (os := #[]) (W := W) (d := d) hb hw0
  rw [grow_empty] at h
  exact h
end Go.Proofs.YtcncbhbdpcpkeaaGreatDoor

/-
  markup.hasTwice: its walk.
-/
namespace Go.Proofs.YtcncbhbdpcpkeaaGreatDoor
open Go.RowKit Go.Lib Own Go.Sort

theorem row_oneW (W : World) (x : ByteArray) : (W.alloc (.cells #[.string x] 9)).ownsRow W.heap.size 9 1 (.slice (some ⟨W.heap.size, 0, none⟩) 1 1) 1 [.string x] :=
  ⟨rfl, .inr ⟨W.heap.size, 1, #[.string x], rfl, Nat.le_refl _, heap_alloc_new W _, Nat.le_refl _, by decide, rfl, rfl⟩⟩
theorem holds_row {W : World} {base g c : Nat} {ss : List (List UInt8)} (h : W.ownsRow base 9 1 (.slice (some ⟨g, 0, none⟩) ss.length c) ss.length (wordsV ss)) : Holds encStr W g 0 ss.toArray ∧ base ≤ g ∧ g < W.heap.size ∧ ss.length ≤ c := by
  rcases h.2 with ⟨h', _⟩ | ⟨g', cap', cur, h', hb, hg, hn, hm, hc, ht⟩
  · cases h'
  · simp only [Value.slice.injEq, Option.some.injEq, Addr.mk.injEq, and_true, true_and] at h'
    obtain ⟨rfl, rfl⟩ := h'
    refine ⟨fun j hj => ?_, hb, block_lt hg, hn⟩
    have hj' : j < ss.length := by simpa using hj
    have h1 := h.cellAt j (by omega)
    rw [Nat.zero_add]
    refine ⟨h1.trans ?_, free_at hg j⟩
    unfold wordsV
    rw [List.getElem?_map, List.getElem?_eq_getElem hj']
    simp [bs, hj']
set_option maxHeartbeats 4000000 in
set_option maxRecDepth 100000 in
theorem hasTwiceM_any (av : Value) (al : List AttrP) (w : World) (h : AttrsR w av al) (hs : al.length ≤ 80000000) :
    Calls Tryz.prog 76 #[av] w fun e w' => e = .returned (.bool (!decide (al.map Prod.fst).Nodup)) ∧ Below w.heap.size w w' := by
  obtain ⟨ap, ac, rfl, hc1, hc2, hcell, hnone⟩ := h
  have HC := hid hcell
  obtain ⟨ns, hns⟩ : ∃ ns, al.map Prod.fst = ns := ⟨_, rfl⟩
  have hnl : ns.length = al.length := by rw [← hns, List.length_map]
  have hng : ∀ k (x : AttrP), al[k]? = some x → ns[k]? = some x.1 := fun k x hx => by rw [← hns, List.getElem?_map, hx]; rfl
  rw [hns]
  have HN := hid (And.intro hnl hng)
  have H0 : Hid (ns.take 0 = [] ∧ w.ownsRow w.heap.size 9 1 (.slice none 0 0) ([] : List (List UInt8)).length (wordsV []) ∧ Below w.heap.size w w) := hid ⟨rfl, World.ownsRow_nil _ _ _ _, Below.refl _ _⟩
  obtain ⟨RB, hRB⟩ : ∃ RB, (!decide ns.Nodup) = RB := ⟨_, rfl⟩
  rw [hRB]
  have HRB := hid (fun (_ : True) => hRB)
  clear hcell hnl hng hns hnone hRB
  go_enter Tryz.func76, Tryz.ntmps76
  go_wp2
  go_loopw [3, 8] (fun nv iv wr => ∃ (k : Nat) (acc : List (List UInt8)), iv = .int .i64 k ∧ k ≤ al.length ∧ Hid (ns.take k = acc ∧ wr.ownsRow w.heap.size 9 1 nv acc.length (wordsV acc) ∧ Below w.heap.size w wr)) (fun _ iv _ => al.length - (RowKit.intOf iv).toNat)
  case atStart => exact ⟨0, [], rfl, Nat.zero_le _, H0⟩
  case round =>
    clear H0
    obtain ⟨k, acc, rfl, hk, HX⟩ := hrel
    obtain ⟨np, nc, rfl⟩ := row_shape HX.out.2.1
    by_cases hkl : k < al.length
    · obtain ⟨x, hx⟩ : ∃ x, al[k]? = some x := ⟨_, List.getElem?_eq_getElem hkl⟩
      obtain ⟨b, o, rfl, q0, q1⟩ := HC.out k x hx
      replace q0 := cell_low q0 HX.out.2.2 (cell_block q0)
      replace q1 := cell_low q1 HX.out.2.2 (cell_block q1)
      have htk : ns.take (k + 1) = acc ++ [x.1] := by rw [List.take_add_one, HN.out.2 k x hx, HX.out.1]; rfl
      have hlk : acc.length ≤ 80000000 := by rw [← HX.out.1, List.length_take]; have := HN.out.1; omega
      obtain ⟨X1, hX1⟩ : ∃ X1, bs x.1 = X1 := ⟨_, rfl⟩
      obtain ⟨X2, hX2⟩ : ∃ X2, bs x.2 = X2 := ⟨_, rfl⟩
      rw [hX1] at q0
      rw [hX2] at q1
      have HX1 := hid (fun (_ : True) => And.intro hX1 htk)
      obtain ⟨W1, hW1⟩ : ∃ W1, wr.alloc (.cells #[.string X1, .string X2] 122) = W1 := ⟨_, rfl⟩
      have hb1 : Below wr.heap.size wr W1 := by rw [← hW1]; exact (Below.refl _ _).alloc (Nat.le_refl _) _
      have hn1 : W1.heap[wr.heap.size]? = some (.cells #[.string X1, .string X2] 122 (0, 0)) := by rw [← hW1]; exact heap_alloc_new _ _
      have y0 := cell_at hn1 (j := 0) rfl
      have hrow1 := row_below HX.out.2.1 hb1
      have hbe1 := HX.out.2.2.trans (hb1.mono HX.out.2.2.size)
      have hone : Words (W1.alloc (.cells #[.string X1] 9)) (.slice (some ⟨W1.heap.size, 0, none⟩) 1 1) [x.1] := Words.row (base := W1.heap.size) (by rw [List.map_cons, List.map_nil, hX1]; exact row_oneW W1 X1)
      have HO := hid (hrow1.alloc (.cells #[.string X1] 9))
      have HW := hid hone
      have HB := hid (hbe1.alloc hbe1.size (.cells #[.string X1] 9))
      have hbs := hbe1.size
      clear hX1 hX2 htk hx hb1 hn1 hrow1 hone hbe1
      go_upto_region 5 with fail
      (try simp only [hW1])
      clear hW1 q0 q1
      go_wp2_with (at_builtin; refine wpList_append_words rfl (.tmp 12) (.tmp 15) rfl w.heap.size _ _ acc [x.1] rfl rfl (by exact HO.out) (by exact HW.out) HB.out.size (by simp only [List.length_singleton]; omega) ?_)
      intro v4 w4 hown4 hgrow4
      have hbel4 : Below w.heap.size w w4 := HB.out.grown hgrow4 HB.out.size (fun k hk => (HO.out.lt k hk).1)
      have HZ : Hid (ns.take (k + 1) = acc ++ [x.1] ∧ w4.ownsRow w.heap.size 9 1 v4 (acc ++ [x.1]).length (wordsV (acc ++ [x.1])) ∧ Below w.heap.size w w4) := hid ⟨(HX1.out trivial).2, by rw [List.length_append, List.length_singleton]; exact hown4, hbel4⟩
      clear hown4 hgrow4 hbel4 HO HW HB HX y0 hbs
      go_wp2
      go_roundw
      case rel => exact ⟨k + 1, _, rfl, by omega, HZ⟩
      case measure => simp [RowKit.intOf]; omega
    · obtain rfl : k = al.length := by omega
      have hfull : ns.take al.length = ns := by rw [← HN.out.1]; exact List.take_length
      have hacc := HX.out.1
      rw [hfull] at hacc
      subst hacc
      have hb := HX.out.2.2
      have hnl := HN.out.1
      by_cases h0 : ns = []
      · have hal : al.length = 0 := by rw [← hnl, h0]; rfl
        have hR := HRB.out trivial
        rw [h0] at hR
        obtain rfl : false = RB := hR
        have hzl : ns.length = 0 := by rw [h0]; rfl
        rw [hzl]
        have hS := fun W => Any.slices_Sort_string_none Tryz.lays190 np nc W
        have hCc := fun W => Tryz.slices_Compact_string_empty np nc W
        have HS := hid hS
        have HCC := hid hCc
        have HB := hid hb
        clear hS hCc hb hzl HX HC HN hfull hkl hk hnl HRB h0
        go_wp2_with fail
        refine (HS.out _).mono ?_
        rintro e w' ⟨rfl, rfl⟩
        go_wp2_with fail
        refine (HCC.out _).mono ?_
        rintro e w' ⟨rfl, rfl⟩
        go_wp2_with fail
        go_ret
        exact ⟨rfl, HB.out⟩
      · obtain ⟨g, hg⟩ : ∃ g, np = some (⟨g, 0, none⟩ : Addr) := by
          rcases HX.out.2.1.2 with ⟨h', h2⟩ | ⟨g', cap', cur, h', _⟩
          · exact absurd (List.length_eq_zero_iff.1 h2) h0
          · simp only [Value.slice.injEq] at h'
            exact ⟨g', h'.1⟩
        subst hg
        obtain ⟨hH, hbg, hgl, hcap⟩ := holds_row HX.out.2.1
        have hS := Tryz.slices_Sort_string g 0 nc ns wr hH hgl (by omega)
        have hsl : (ns.mergeSort leL).length = ns.length := (List.mergeSort_perm ns leL).length_eq
        have hCc := fun W (hHW : Holds encStr W g 0 (ns.mergeSort leL).toArray) => Tryz.slices_Compact_string g 0 nc (ns.mergeSort leL) W hHW (by omega) (by omega)
        have hst : ∀ n os, Holds encStr (grow (putRow encStr (Sort.ahead wr n) g 0 (ns.mergeSort leL).toArray) os) g 0 (ns.mergeSort leL).toArray ∧ Below w.heap.size w (grow (putRow encStr (Sort.ahead wr n) g 0 (ns.mergeSort leL).toArray) os) ∧ g < (grow (putRow encStr (Sort.ahead wr n) g 0 (ns.mergeSort leL).toArray) os).heap.size := fun n os =>
          ⟨holds_grow _ _ _ _ _ _ (by rw [size_putRow]; exact hgl) (holds_putRow encStr (Sort.ahead wr n) g 0 ns.toArray _ (holds_ahead _ _ _ _ _ _ hH) (by simp only [List.size_toArray]; exact hsl)), hb.trans (sort_below hbg hgl), by rw [size_grow, size_putRow]; show g < wr.heap.size + _; omega⟩
        have hS' : Calls Tryz.prog 142 #[.slice (some ⟨g, 0, none⟩) ns.length nc] wr fun e w' => e = .returned (.tuple #[]) ∧ Holds encStr w' g 0 (ns.mergeSort leL).toArray ∧ Below w.heap.size w w' ∧ g < w'.heap.size := hS.mono (by
          rintro e w' ⟨rfl, n, os, rfl⟩
          exact ⟨rfl, hst n os⟩)
        have hR := HRB.out trivial
        rw [← twice_any] at hR
        rw [hsl] at hCc
        have hCc' : ∀ W, Holds encStr W g 0 (ns.mergeSort leL).toArray → Below w.heap.size w W → g < W.heap.size → Calls Tryz.prog 143 #[.slice (some ⟨g, 0, none⟩) ns.length nc] W fun e w' => e = .returned (.slice (some ⟨g, 0, none⟩) (Lib.compact (ns.mergeSort leL)).length nc) ∧ Below w.heap.size w w' := fun W h1 h2 h3 => (hCc W h1).mono (by
          rintro e w' ⟨rfl, q, rfl⟩
          exact ⟨rfl, h2.trans (compact_below hbg h3)⟩)
        rw [hnl] at hR
        have HS := hid hS'
        have HCC := hid hCc'
        have HR2 := hid hR
        generalize (Lib.compact (ns.mergeSort leL)).length = CL at HCC HR2
        clear hS hS' hsl hCc hCc' hst hR hH hbg hgl hcap hb HX HC HN hfull hkl hk HRB hnl h0
        go_wp2_with fail
        refine HS.out.mono ?_
        rintro e W2 ⟨rfl, h1, h2, h3⟩
        have hc := HCC.out W2 h1 h2 h3
        have HCD := hid hc
        clear hc h1 h2 h3 HS HCC
        go_wp2_with fail
        refine HCD.out.mono ?_
        rintro e W3 ⟨rfl, hb3⟩
        have HB := hid hb3
        clear hb3 HCD
        go_wp2_with fail
        go_ret
        exact ⟨by show Ending.returned (.bool (decide (CL < al.length))) = _; rw [HR2.out], HB.out⟩
end Go.Proofs.YtcncbhbdpcpkeaaGreatDoor

/-
  markup.cutToken: what it answers, plainly.
-/
namespace Go.Proofs.YtcncbhbdpcpkeaaGreatDoor
open Go.RowKit Go.Lib Own Go.Sort

theorem results_cell_two {P : Program} {fn : Func} {p q r : Tmp} {ty : TypeId} (h : fn.results = #[.cell p ty, .tmp q, .tmp r]) (tmps : Array Value) (w : World) (g : Nat) (t : TypeId) (cs : Array Value) (fr : Nat × Nat) (d : TypeDesc) (v1 v2 : Value)
    (hp : tmps.getD p undef = .pointer (some ⟨g, 0, none⟩)) (hq : tmps.getD q undef = v1) (hr : tmps.getD r undef = v2) (hg : w.heap[g]? = some (.cells cs t fr))
    (hu : P.underlying ty = some d) (hd : (match d with | .struct _ | .array _ _ => true | _ => false) = true) (hi : (P.info? ty).map (·.size) = some cs.size) :
    (results fn tmps).run P w = .ok (.tuple #[.agg cs, v1, v2]) w := by
  have hp' : tmps[p]?.getD undef = .pointer (some ⟨g, 0, none⟩) := by simpa using hp
  have hq' : tmps[q]?.getD undef = v1 := by simpa using hq
  have hr' : tmps[r]?.getD undef = v2 := by simpa using hr
  simp [results, h, hp', hq', hr', asAddr, run_loadVar_row w g t ty cs fr d hg hu hd hi]
/-- what cutToken answers -/
structure TokOut (w w' : World) (l : List UInt8) (e : Ending) : Prop where
  it : ∃ (k v : Nat) (n t rest : List UInt8) (av : Value) (al : List AttrP), e = .returned (.tuple #[.agg #[.int .i64 k, .string (bs n), av, .string (bs t)], .string (bs rest), .int .i64 v]) ∧ w'.ownsRow w.heap.size 122 2 av al.length (attrsV al) ∧ Below w.heap.size w w' ∧ al.length ≤ l.length ∧
    (tokP l = none → v = 1) ∧ ∀ tok r, tokP l = some (tok, r) → rest = r ∧ k = evK tok ∧ n = evN tok ∧ al = evA tok ∧ t = evT tok ∧ v = if (al.map Prod.fst).Nodup then 0 else 2
theorem pre_etag {l : List UInt8} : ([60, 47] : List UInt8).isPrefixOf l = true ↔ l.head? = some 60 ∧ l.tail.head? = some 47 := by
  match l with
  | [] => simp [List.isPrefixOf]
  | [a] => simp [List.isPrefixOf]
  | a :: b :: q =>
    simp only [List.isPrefixOf, Bool.and_true, Bool.and_eq_true, beq_iff_eq, List.head?_cons, List.tail_cons, Option.some.injEq]
    exact ⟨fun h => ⟨h.1.symm, h.2.symm⟩, fun h => ⟨h.1.symm, h.2.symm⟩⟩
theorem pre_sign {x : UInt8} {l : List UInt8} : ([x] : List UInt8).isPrefixOf l = true ↔ l.head? = some x := by
  cases l with
  | nil => simp [List.isPrefixOf]
  | cons c r => simp only [List.isPrefixOf, Bool.and_true, beq_iff_eq, List.head?_cons, Option.some.injEq]; exact ⟨fun h => h.symm, fun h => h.symm⟩
/-- an end tag -/
theorem tok_etag {l : List UInt8} (h : ([60, 47] : List UInt8).isPrefixOf l = true) : tokP l = if ((false || wordN [] (l.drop 2) == 0) || !([62] : List UInt8).isPrefixOf ((l.drop 2).drop (wordN [] (l.drop 2)))) = true then none else some (.stop ((l.drop 2).take (wordN [] (l.drop 2))), ((l.drop 2).drop (wordN [] (l.drop 2))).drop ([62] : List UInt8).length) := by
  obtain ⟨h1, h2⟩ := pre_etag.1 h
  unfold tokP
  rw [if_pos h1, if_pos h2, Bool.false_or]
  by_cases h3 : wordN [] (l.drop 2) = 0
  · rw [if_pos (.inl h3), show (wordN [] (l.drop 2) == 0) = true from beq_iff_eq.2 h3, Bool.true_or, if_pos rfl]
  · rw [show (wordN [] (l.drop 2) == 0) = false from beq_eq_false_iff_ne.2 h3, Bool.false_or]
    by_cases h4 : ((l.drop 2).drop (wordN [] (l.drop 2))).head? = some 62
    · rw [pre_sign.2 h4, if_neg (fun e => e.elim h3 (fun k => k h4)), if_neg (by simp), List.drop_drop (l := l.drop 2)]
      rfl
    · have h5 : ([62] : List UInt8).isPrefixOf ((l.drop 2).drop (wordN [] (l.drop 2))) = false := by rw [Bool.eq_false_iff]; exact fun e => h4 (pre_sign.1 e)
      rw [h5, if_pos (.inr h4), if_pos (by simp)]
/-- a start tag -/
theorem tok_stag {l : List UInt8} (h : ([60, 47] : List UInt8).isPrefixOf l = false) (h2 : ([60] : List UInt8).isPrefixOf l = true) : tokP l = if wordN [] l.tail = 0 then none else (attrsQ (l.tail.drop (wordN [] l.tail))).map fun x => (.start (l.tail.take (wordN [] l.tail)) x.1, x.2) := by
  have h60 := pre_sign.1 h2
  have h47 : ¬ l.tail.head? = some 47 := fun e => by rw [pre_etag.2 ⟨h60, e⟩] at h; cases h
  unfold tokP
  rw [if_pos h60, if_neg h47]
  split
  · rfl
  · unfold attrsQ
    rw [attrsP_fuel (l.length + 1) ((l.tail.drop (wordN [] l.tail)).length + 1) _ (by rw [List.length_drop, List.length_tail]; omega) (by omega)]
/-- a text -/
theorem tok_txt {l : List UInt8} (h2 : ([60] : List UInt8).isPrefixOf l = false) : tokP l = (decP (l.takeWhile noLt)).map fun t => (.text t, l.drop (l.takeWhile noLt).length) := by
  have h60 : ¬ l.head? = some 60 := fun e => by rw [pre_sign.2 e] at h2; cases h2
  unfold tokP
  rw [if_neg h60]
end Go.Proofs.YtcncbhbdpcpkeaaGreatDoor
