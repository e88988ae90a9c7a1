/-
  Parts of the walk, joined: ApartC.
-/
import Derived.Test.YtcncbhbdpcpkeaaGreatDoorPJAK
/-
  The statements' apartLists: it writes into the lists alone that it is handed.
-/
namespace Go.Proofs.YtcncbhbdpcpkeaaGreatDoor
open Go.RowKit Go.Lib Own

/-- every old block stays that is none of these lists' own -/
def KeepV (vs : List Value) (w W : World) : Prop := ∀ k, k < w.heap.size → (∀ v ∈ vs, v.ownBlock ≠ some k) → W.heap[k]? = w.heap[k]?
/-- the second round: the lists that grew out of the first i -/
structure TwoV (w W : World) (base : Nat) (lv : Value) (N : Nat) (vs : List Value) (ns : Nat → Nat) (m i : Nat) (lgv : Value) (us : List Value) : Prop where
  be : Below base w W
  li : W.ownsRow base 36 1 lv N vs
  lg : W.ownsRow w.heap.size 36 1 lgv i us
  hi : ∀ (k : Nat) (v : Value), vs[k]? = some v → i ≤ k → ∃ ws, W.ownsRow base 122 2 v (ns k) (namedV (nmOf k) ws)
  lo : ∀ (k : Nat) (v : Value), vs[k]? = some v → k < i → NamedR W v (ns k) (nmOf k) ∧ ∃ u, us[k]? = some u ∧ NamedR W u (ns k + 1 + m) (nmOf k) ∧ ∀ (j : Nat) (vj : Value), i ≤ j → vs[j]? = some vj → ∀ g, vj.ownBlock = some g → u.ownBlock ≠ some g
  kp : KeepT w W
  kv : KeepV vs w W
theorem TwoV.next {w wr w1 w2 w3 : World} {base N m i n K : Nat} {lv lgv lgv3 v u : Value} {vs us : List Value} {ns : Nat → Nat} {ws2 : List ByteArray} {X : Obj} (h : TwoV w wr base lv N vs ns m i lgv us) (hD : Dist vs) (hbase : base ≤ w.heap.size) (hlv : ∀ g, lv.ownBlock = some g → g < w.heap.size)
    (hv : vs[i]? = some v) (hn : ns i = n) (hK : K = n + 1 + m) (b1 : Below wr.heap.size wr w1) (hG : Grows w1 w2 base v n (nmOf i) u K ws2)
    (h3 : w3.ownsRow w.heap.size 36 1 lgv3 (i + 1) (us ++ [u])) (hg : (w2.alloc X).grownBy w3 lgv.ownBlock) : TwoV w w3 base lv N vs ns m (i + 1) lgv3 (us ++ [u]) := by
  subst hn hK
  have hbs := h.be.size
  have hul : us.length = i := by have := h.lg.1; omega
  have li1 := row_below h.li b1
  have lg1 := row_below h.lg b1
  obtain ⟨wsv, hvw⟩ := h.hi i v hv (Nat.le_refl _)
  have v1 := row_below hvw b1
  have li2 := row_of_block li1 (fun g e => hG.fr g (li1.lt g e).2 (rows_ne2 li1 v1 (by decide) g e))
  have lg2 := row_of_block lg1 (fun g e => hG.fr g (lg1.lt g e).2 (rows_ne2 lg1 v1 (by decide) g e))
  have F23 : ∀ k, k < w2.heap.size → lgv.ownBlock ≠ some k → w3.heap[k]? = w2.heap[k]? := fun k hk hne => (hg.block k (by simp; omega) (fun e => hne e.symm)).trans (Go.Lib.alloc_old w2 X k hk)
  have keepN : ∀ {v' : Value} {n' : Nat} {nm : ByteArray}, NamedR w2 v' n' nm → NamedR w3 v' n' nm := fun hN => hN.kept (fun hn k hk => by
    obtain ⟨g, hg2, hlt⟩ := hN.own hn
    have hne := hN.ne hn lg2 g hg2
    rw [hg2] at hk
    cases hk
    exact F23 _ hlt hne)
  have b3 : Below base w2 w3 := ((Below.refl base w2).alloc (Nat.le_trans hG.low hG.size) X).grown hg (by have := Nat.le_trans hG.low hG.size; simp; omega) (fun k hk => by have := (lg2.lt k hk).1; omega)
  refine ⟨((h.be.trans (b1.mono (Nat.le_trans hbase hbs))).trans hG.be).trans b3, ?_, h3, fun k vk hk hik => ?_, fun k vk hk hik => ?_, (h.kp.trans (KeepT.below b1)).trans ((KeepT.row v1 (.inr (.inl rfl)) (fun k hk hne => hG.fr k hk hne)).trans (KeepT.row lg2 (.inr (.inr rfl)) F23)), fun k hk hne => (F23 k (by have := b1.size; have := hG.size; omega) (fun e => by have := (lg2.lt k e).1; omega)).trans ((hG.fr k (by have := b1.size; omega) (hne v (List.mem_of_getElem? hv))).trans ((b1.block k (by omega)).trans (h.kv k hk hne)))⟩
  · exact row_of_block li2 (fun g e => F23 g (li2.lt g e).2 (fun e2 => by
      have := (lg2.lt g e2).1
      have := hlv g e
      omega))
  · obtain ⟨ws, hr⟩ := h.hi k vk hk (by omega)
    have r1 := row_below hr b1
    have r2 := row_of_block r1 (fun g e => hG.fr g (r1.lt g e).2 (hD k i vk v hk hv (by omega) g e))
    refine ⟨ws, row_of_block r2 (fun g e => F23 g (r2.lt g e).2 (rows_ne2 r2 lg2 (by decide) g e))⟩
  · by_cases hki : k = i
    · subst hki
      rw [hv] at hk
      obtain rfl := Option.some.inj hk
      refine ⟨keepN hG.nr, u, by rw [List.getElem?_append_right (by omega), hul, Nat.sub_self]; rfl, keepN (NamedR.of hG.own), fun j vj hj hvj g hgj => ?_⟩
      obtain ⟨ws, hr⟩ := h.hi j vj hvj (by omega)
      have r1 := row_below hr b1
      rcases hG.bl with e | e
      · rw [e]
        exact fun e2 => hD j k vj v hvj hv (by omega) g hgj e2
      · intro e2
        have := e g e2
        have := (r1.lt g hgj).2
        omega
    · obtain ⟨n1, u', hu', n2, n3⟩ := h.lo k vk hk (by omega)
      have keep12 : ∀ {v' : Value} {n' : Nat} {nm : ByteArray}, NamedR wr v' n' nm → (∀ g, v'.ownBlock = some g → v.ownBlock ≠ some g) → NamedR w2 v' n' nm := fun hN hne => (hN.below b1).kept (fun hn k hk => by
        obtain ⟨g, hg2, hlt⟩ := (hN.below b1).own hn
        have := hne g hg2
        rw [hg2] at hk
        cases hk
        exact hG.fr _ hlt this)
      refine ⟨keepN (keep12 n1 (fun g e => hD k i vk v hk hv hki g e)), u', by rw [List.getElem?_append_left (by omega)]; exact hu', keepN (keep12 n2 (fun g e e2 => n3 i v (Nat.le_refl _) hv g e2 e)), fun j vj hj hvj g hgj => n3 j vj (by omega) hvj g hgj⟩

set_option maxHeartbeats 8000000 in
set_option maxRecDepth 100000 in
theorem apartV_any (base : Nat) (lv : Value) (vs : List Value) (ns : Nat → Nat) (a : Option Addr) (mc : Nat) (ss : List ByteArray) (w : World) (hl : w.ownsRow base 36 1 lv vs.length vs) (hF : Fam w base vs ns 0) (hD : Dist vs) (hns : ∀ k, k < vs.length → ns k ≤ 5000000) (hN : vs.length ≤ 5000000)
    (hb : base ≤ w.heap.size) (hs : ss.length ≤ 5000000) (hw : WordsAt w base a ss) (hP : PowB base w) :
    Calls Tryz.prog 62 #[lv, .slice a ss.length mc] w fun e w' => e = .returned (.bool true) ∧ Below base w w' ∧ KeepT w w' ∧ KeepV vs w w' := by
  obtain ⟨N, hNN⟩ : ∃ N, vs.length = N := ⟨_, rfl⟩
  rw [hNN] at hl hN hns
  obtain ⟨lp, lc, rfl⟩ := row_shape hl
  have HLV := hid (fun g (e : (Value.slice lp N lc).ownBlock = some g) => (hl.lt g e).2)
  have HL := hid hl
  have HF := hid hF
  have HD := hid hD
  have HW := hid hw
  have HP := hid hP
  have HNN := hid (fun (_ : True) => hNN)
  have HNS := hid hns
  clear hl hF hD hw hP hNN hns
  go_enter Tryz.func62, Tryz.ntmps62
  go_wp2
  go_loopw [16] (fun iv wr => ∃ i : Nat, iv = .int .i64 i ∧ i ≤ N ∧ Hid (Below base w wr ∧ wr.ownsRow base 36 1 (.slice lp N lc) N vs ∧ Fam wr base vs ns i ∧ KeepT w wr ∧ KeepV vs w wr)) (fun iv _ => N - (RowKit.intOf iv).toNat)
  case atStart => exact ⟨0, rfl, Nat.zero_le _, hid ⟨Below.refl _ _, HL.out, HF.out, KeepT.refl _, fun _ _ _ => rfl⟩⟩
  case round =>
    obtain ⟨i, rfl, hi, HX⟩ := hrel
    by_cases hiN : i < N
    · obtain ⟨v, hv⟩ : ∃ v, vs[i]? = some v := ⟨_, List.getElem?_eq_getElem (by rw [HNN.out trivial]; exact hiN)⟩
      obtain ⟨ys0, hrow0⟩ := (HX.out.2.2.1.row i v hv).2
      obtain ⟨n, hn⟩ : ∃ n, ns i = n := ⟨_, rfl⟩
      rw [hn] at hrow0
      have hn5 : n ≤ 5000000 := by rw [← hn]; exact HNS.out i hiN
      obtain ⟨p, c, rfl⟩ := row_shape hrow0
      obtain ⟨gl, lcap, e0, hgl1, hgl2, hlc⟩ := row_at HX.out.2.1 (by omega)
      cases e0
      have cl := (hlc i (by omega)).trans hv
      have hit := fun W hW => itoa_any i (by omega) base W hW
      obtain ⟨nm, hnm⟩ : ∃ nm, nmOf i = nm := ⟨_, rfl⟩
      rw [hnm] at hit
      have HIT := hid hit
      have HR0 := hid hrow0
      have HV := hid hv
      have hP1 := HP.out.below HX.out.1
      have hbs := HX.out.1.size
      clear hit hrow0 hv hlc HL HF
      go_wp2_with (go_at_call 118; refine (HIT.out _ hP1).mono ?_; rintro e w1 ⟨rfl, b1⟩; have cl1 := cell_low cl b1 hgl2)
      go_loopw [26] (fun jv wr2 => ∃ (j : Nat) (ws : List ByteArray) (ys : List Value), jv = .int .i64 j ∧ j ≤ n ∧ ws.length = j ∧ Hid (wr2.ownsRow base 122 2 (.slice p n c) n (namedV nm ws ++ ys) ∧ Below base w1 wr2 ∧ ∀ b, (Value.slice p n c).ownBlock ≠ some b → wr2.heap[b]? = w1.heap[b]?)) (fun jv _ => n - (RowKit.intOf jv).toNat)
      case atStart => exact ⟨0, [], ys0, rfl, Nat.zero_le _, rfl, hid ⟨row_below HR0.out b1, Below.refl _ _, fun _ _ => rfl⟩⟩
      case round =>
        obtain ⟨j, ws, ys, rfl, hj, hws, HY⟩ := hrel
        have hlen := HY.out.1.1
        rw [List.length_append, namedV_len, hws] at hlen
        have hglp : (Value.slice p n c).ownBlock ≠ some gl := by
          have := rows_ne HX.out.2.1 HR0.out (by decide)
          rcases this with e | e
          · cases e
          · exact fun e2 => e (by rw [e2]; rfl)
        have hlb := HY.out.2.2 gl hglp
        by_cases hjn : j < n
        · obtain ⟨g, cap, e1, hg1, hg2, hc⟩ := row_at HY.out.1 (by omega)
          cases e1
          obtain ⟨y0, y1, ys2, rfl⟩ : ∃ y0 y1 ys2, ys = y0 :: y1 :: ys2 := by
            cases ys with
            | nil => simp at hlen; omega
            | cons y0 ys =>
              cases ys with
              | nil => simp at hlen; omega
              | cons y1 ys2 => exact ⟨y0, y1, ys2, rfl⟩
          have hnl := namedV_len nm ws
          have k0 : wr.cell? ⟨g, j * 2, none⟩ = some y0 := (hc (j * 2) (by omega)).trans (by rw [List.getElem?_append_right (by omega), hnl, hws, Nat.sub_self]; rfl)
          have k1 : wr.cell? ⟨g, j * 2 + 1, none⟩ = some y1 := (hc (j * 2 + 1) (by omega)).trans (by rw [List.getElem?_append_right (by omega), hnl, hws, Nat.add_sub_cancel_left]; rfl)
          have f0 := HY.out.1.frozenAt (j * 2)
          have f1 := HY.out.1.frozenAt (j * 2 + 1)
          have cl2 : wr.cell? ⟨gl, i, none⟩ = some (.slice (some ⟨g, 0, none⟩) n c) := by
            unfold World.cell? at cl1 ⊢
            rw [hlb]
            exact cl1
          have hst := ((HY.out.1.stored (j * 2) (.string nm)).1.stored (j * 2 + 1) (.string ⟨#[]⟩)).1
          rw [← hws, named_step, hws] at hst
          have hfr : ∀ b, (Value.slice (some ⟨g, 0, none⟩) n c).ownBlock ≠ some b → ((wr.setCell ⟨g, j * 2, none⟩ (.string nm)).setCell ⟨g, j * 2 + 1, none⟩ (.string ⟨#[]⟩)).heap[b]? = w1.heap[b]? := fun b hb2 => by
            have hne : b ≠ g := fun e => hb2 (by rw [e]; rfl)
            rw [heap_setCell_other _ _ _ _ hne, heap_setCell_other _ _ _ _ hne]
            exact HY.out.2.2 b hb2
          have hbe : Below base w1 ((wr.setCell ⟨g, j * 2, none⟩ (.string nm)).setCell ⟨g, j * 2 + 1, none⟩ (.string ⟨#[]⟩)) := (HY.out.2.1.setCell hg1 _).setCell hg1 _
          have HZ := hid (And.intro hst (And.intro hbe hfr))
          clear hst hbe hfr hlen hlb hglp hc hnl HY
          go_wp2
          go_roundw
          case rel => first | exact ⟨j + 1, ws ++ [⟨#[]⟩], ys2, rfl, by omega, by simp [hws], HZ⟩ | ((repeat apply Exists.intro); exact ⟨⟨j + 1, ws ++ [⟨#[]⟩], ys2, rfl, by omega, by simp [hws], HZ⟩, rfl⟩)
          case measure => simp [RowKit.intOf]; omega
        · obtain rfl : j = n := by omega
          obtain rfl : ys = [] := List.eq_nil_of_length_eq_zero (by omega)
          have hbw : Below base w wr := (HX.out.1.trans (b1.mono (Nat.le_trans hb hbs))).trans HY.out.2.1
          have hlrow : wr.ownsRow base 36 1 (.slice (some ⟨gl, 0, none⟩) N lc) N vs := row_of_block (row_below HX.out.2.1 b1) (fun g hg => by cases hg; exact hlb)
          have hfam : Fam wr base vs ns (i + 1) := ⟨fun k u hu => by
            by_cases hki : k = i
            · subst hki
              rw [HV.out] at hu
              obtain rfl := Option.some.inj hu
              have hr := HY.out.1
              rw [List.append_nil] at hr
              rw [hnm, hn]
              exact ⟨fun _ => ⟨ws, hr⟩, _, hr⟩
            · obtain ⟨f1, ys9, f2⟩ := HX.out.2.2.1.row k u hu
              have hkeep : ∀ g, u.ownBlock = some g → wr.heap[g]? = w1.heap[g]? := fun g hg => HY.out.2.2 g (HD.out k i u _ hu HV.out hki g hg)
              refine ⟨fun h => ?_, ys9, row_of_block (row_below f2 b1) hkeep⟩
              obtain ⟨ws9, f3⟩ := f1 (by omega)
              exact ⟨ws9, row_of_block (row_below f3 b1) hkeep⟩⟩
          have hkv : KeepV vs w wr := fun k hk hne => (HY.out.2.2 k (hne _ (List.mem_of_getElem? HV.out))).trans ((b1.block k (by omega)).trans (HX.out.2.2.2.2 k hk hne))
          have hkp := HX.out.2.2.2.1.trans ((KeepT.below b1).trans (KeepT.row (row_below HR0.out b1) (.inr (.inl rfl)) (fun k _ hne => HY.out.2.2 k hne)))
          have HZ := hid (And.intro hbw (And.intro hlrow (And.intro hfam (And.intro hkp hkv))))
          clear hbw hlrow hfam hkp hkv hlen hlb hglp HY
          go_wp2
          go_roundw
          case rel => first | exact ⟨i + 1, rfl, by omega, HZ⟩ | ((repeat apply Exists.intro); exact ⟨⟨i + 1, rfl, by omega, HZ⟩, rfl⟩)
          case measure => simp [RowKit.intOf]; omega
    · have hT0 : TwoV w wr base (.slice lp N lc) N vs ns ss.length 0 (.slice none 0 0) [] := ⟨HX.out.1, HX.out.2.1, World.ownsRow_nil _ _ _ _, fun k v hk _ => (HX.out.2.2.1.row k v hk).1 (by
        have := (List.getElem?_eq_some_iff.1 hk).1
        rw [HNN.out trivial] at this
        omega), fun k v hk h => absurd h (Nat.not_lt_zero _), HX.out.2.2.2.1, HX.out.2.2.2.2⟩
      have HT0 := hid hT0
      clear HL HF hT0 HX
      obtain ⟨li0, lhi, lhz0, lhz1, lhz2⟩ := info_parts info_list
      go_wp2_with fail
      go_loopw [5, 41] (fun lgv iv wr2 => ∃ (i : Nat) (us : List Value), iv = .int .i64 i ∧ i ≤ N ∧ Hid (TwoV w wr2 base (.slice lp N lc) N vs ns ss.length i lgv us)) (fun _ iv _ => N - (RowKit.intOf iv).toNat)
      case atStart => exact ⟨0, [], rfl, Nat.zero_le _, HT0⟩
      case round =>
        obtain ⟨i, us, rfl, hi, HT⟩ := hrel
        clear HT0
        by_cases hiN : i < N
        · obtain ⟨v, hv⟩ : ∃ v, vs[i]? = some v := ⟨_, List.getElem?_eq_getElem (by rw [HNN.out trivial]; exact hiN)⟩
          obtain ⟨ws, hrow⟩ := HT.out.hi i v hv (Nat.le_refl _)
          obtain ⟨n, hn⟩ : ∃ n, ns i = n := ⟨_, rfl⟩
          have hn5 : n ≤ 5000000 := by rw [← hn]; exact HNS.out i hiN
          rw [hn] at hrow
          obtain ⟨p, c, rfl⟩ := row_shape hrow
          obtain ⟨gl, lcap, e0, hgl1, hgl2, hlc⟩ := row_at HT.out.li (by omega)
          cases e0
          have cl := (hlc i (by omega)).trans hv
          have hit := fun W hW => itoa_any i (by omega) base W hW
          have HNM := hid (fun (_ : True) => (rfl : nmOf i = nmOf i))
          obtain ⟨nm, hnm⟩ : ∃ nm, nmOf i = nm := ⟨_, rfl⟩
          rw [hnm] at hit hrow
          have HEQ := hid (fun (_ : True) => hnm)
          have HIT := hid hit
          have HR0 := hid hrow
          have HV := hid hv
          have HN := hid (fun (_ : True) => hn)
          have hP1 := HP.out.below HT.out.be
          have hw1 := HW.out.below HT.out.be
          have hbs := HT.out.be.size
          obtain ⟨lgp, lgc, rfl⟩ := row_shape HT.out.lg
          have HW1 := hid hw1
          clear hit hrow hv hlc hn hnm hw1 HNM
          go_wp2_with (first
            | (go_at_call 118; refine (HIT.out _ hP1).mono ?_; rintro e w1 ⟨rfl, b1⟩; have cl1 := cell_low cl b1 hgl2; have hb1s := b1.size)
            | (go_at_call 119; refine (appended_any base (.slice p n c) n nm ws a mc ss _ (row_below HR0.out b1) (by omega) (by omega) (by omega) (HW1.out.below (b1.mono (by omega)))).mono ?_; rintro e w2 ⟨u, ws2, rfl, hG⟩; obtain ⟨up, uc, rfl⟩ := row_shape hG.own; have hlg2 := row_of_block (row_below HT.out.lg b1) (fun g e => hG.fr g ((row_below HT.out.lg b1).lt g e).2 (rows_ne2 (row_below HT.out.lg b1) (row_below HR0.out b1) (by decide) g e)); have hws2 := hG.size; have HGG := hid hG)
            | (at_builtin; refine wpList_append_own _ rfl (.tmp 53) (.tmp 55) 50 rfl w.heap.size 36 li0 (.slice none 0 0) 1 24 Tryz.underlying50 lhi lhz0 lhz1 lhz2 rfl (by decide) _ _ _ rfl (hlg2.alloc _) ⟨_, 0, none⟩ 1 1 [.slice up (n + 1 + ss.length) uc] rfl rfl (cells_newV _ _ _) (by simp [Value.oneCell']) (by unfold maxLen; omega) (by omega) (by simp; omega) ?_))
          intro v' w3 hown3 hgrow3 _
          have hnext := HT.out.next HD.out hb HLV.out HV.out (HN.out trivial) rfl b1 (by rw [HEQ.out trivial]; exact HGG.out) hown3 hgrow3
          have HZ := hid hnext
          clear hnext hown3 hgrow3 HGG hlg2 hG b1 cl cl1
          go_wp2
          go_roundw
          case rel => first | exact ⟨i + 1, _, rfl, by omega, HZ⟩ | ((repeat apply Exists.intro); exact ⟨⟨i + 1, _, rfl, by omega, HZ⟩, rfl⟩)
          case measure => simp [RowKit.intOf]; omega
        · obtain rfl : i = N := by omega
          have hul : us.length = i := by have := HT.out.lg.1; omega
          have hall : ∀ (k : Nat) (v : Value), vs[k]? = some v → NamedR wr v (ns k) (nmOf k) ∧ ∃ u, us[k]? = some u ∧ NamedR wr u (ns k + 1 + ss.length) (nmOf k) := fun k v hk => by
            have hki : k < i := by
              have := (List.getElem?_eq_some_iff.1 hk).1
              rw [HNN.out trivial] at this
              exact this
            obtain ⟨n1, u, hu, n2, _⟩ := HT.out.lo k v hk hki
            exact ⟨n1, u, hu, n2⟩
          have hlg := row_lo2 HT.out.lg hb
          obtain ⟨lgp, lgc, rfl⟩ := row_shape hlg
          have H3 : Hid (Below base w wr ∧ wr.ownsRow base 36 1 (.slice lp i lc) i vs ∧ wr.ownsRow base 36 1 (.slice lgp i lgc) i us ∧ (∀ (k : Nat) (v : Value), vs[k]? = some v → NamedR wr v (ns k) (nmOf k) ∧ ∃ u, us[k]? = some u ∧ NamedR wr u (ns k + 1 + ss.length) (nmOf k)) ∧ KeepT w wr ∧ KeepV vs w wr) := ⟨HT.out.be, HT.out.li, hlg, hall, HT.out.kp, HT.out.kv⟩
          clear HT hall hlg
          go_wp2_with fail
          go_loopw [60] (fun iv wr2 => ∃ k : Nat, iv = .int .i64 k ∧ k ≤ i ∧ Hid (Below base w wr2 ∧ wr2.ownsRow base 36 1 (.slice lp i lc) i vs ∧ wr2.ownsRow base 36 1 (.slice lgp i lgc) i us ∧ (∀ (k : Nat) (v : Value), vs[k]? = some v → NamedR wr2 v (ns k) (nmOf k) ∧ ∃ u, us[k]? = some u ∧ NamedR wr2 u (ns k + 1 + ss.length) (nmOf k)) ∧ KeepT w wr2 ∧ KeepV vs w wr2)) (fun iv _ => i - (RowKit.intOf iv).toNat)
          case atStart => exact ⟨0, rfl, Nat.zero_le _, H3⟩
          case round =>
            obtain ⟨k, rfl, hk, HT⟩ := hrel
            clear H3
            by_cases hkN : k < i
            · obtain ⟨v, hv⟩ : ∃ v, vs[k]? = some v := ⟨_, List.getElem?_eq_getElem (by rw [HNN.out trivial]; exact hkN)⟩
              obtain ⟨n1, u, hu, n2⟩ := HT.out.2.2.2.1 k v hv
              obtain ⟨n, hn⟩ : ∃ n, ns k = n := ⟨_, rfl⟩
              have hn5 : n ≤ 5000000 := by rw [← hn]; exact HNS.out k hkN
              rw [hn] at n1 n2
              obtain ⟨K, hK⟩ : ∃ K, n + 1 + ss.length = K := ⟨_, rfl⟩
              rw [hK] at n2
              have q0 : ((K : Int) != (n : Int) + (ss.length : Int) + 1) = false := by rw [bne, beq_iff_eq.2 (by omega)]; rfl
              have hit := fun W hW => itoa_any k (by omega) base W hW
              obtain ⟨nm, hnm⟩ : ∃ nm, nmOf k = nm := ⟨_, rfl⟩
              rw [hnm] at hit n1 n2
              have m1 := n1
              have m2 := n2
              obtain ⟨_, vp, vc, rfl, _⟩ := m1
              obtain ⟨_, up, uc, rfl, _⟩ := m2
              obtain ⟨gl, lcap, e0, hgl1, hgl2, hlc⟩ := row_at HT.out.2.1 (by omega)
              cases e0
              obtain ⟨gm, mcap, e1, hgm1, hgm2, hmc⟩ := row_at HT.out.2.2.1 (by omega)
              cases e1
              have cl := (hlc k (by omega)).trans hv
              have cm := (hmc k (by omega)).trans hu
              have HIT := hid hit
              have N1 := hid n1
              have N2 := hid n2
              have hP1 := HP.out.below HT.out.1
              clear hit hlc hmc n1 n2 hv hu hn hnm hK
              go_wp2_with (go_at_call 118; refine (HIT.out _ hP1).mono ?_; rintro e w1 ⟨rfl, b1⟩; have cl1 := cell_low cl b1 hgl2; have cm1 := cell_low cm b1 hgm2; have hA1 := hid (fun q => (allNamed_any (.slice vp n vc) n nm (w1.drewN q) ((N1.out.below b1).kept (fun _ _ _ => rfl))).mono (fun _ _ (h : _ ∧ _) => And.intro h.1 (⟨0, h.2⟩ : ∃ q', _ = (w1.drewN q).drewN q'))); have hA2 := hid (fun q => (allNamed_any (.slice up K uc) K nm (w1.drewN q) ((N2.out.below b1).kept (fun _ _ _ => rfl))).mono (fun _ _ (h : _ ∧ _) => And.intro h.1 (⟨0, h.2⟩ : ∃ q', _ = (w1.drewN q).drewN q'))); clear cl cm)
              go_quiet (first | (go_at_call 120; first | (with_reducible refine Calls.quiet_of (hA1.out _)) | (with_reducible refine Calls.quiet_of (hA2.out _))))
              have hkeep : Below base wr (w1.drewN nq) := below_drewN (b1.mono (Nat.le_trans hb HT.out.1.size)) nq
              have HZ : Hid (Below base w (w1.drewN nq) ∧ (w1.drewN nq).ownsRow base 36 1 (.slice (some ⟨gl, 0, none⟩) i lc) i vs ∧ (w1.drewN nq).ownsRow base 36 1 (.slice (some ⟨gm, 0, none⟩) i lgc) i us ∧ (∀ (k : Nat) (v : Value), vs[k]? = some v → NamedR (w1.drewN nq) v (ns k) (nmOf k) ∧ ∃ u, us[k]? = some u ∧ NamedR (w1.drewN nq) u (ns k + 1 + ss.length) (nmOf k)) ∧ KeepT w (w1.drewN nq) ∧ KeepV vs w (w1.drewN nq)) := by
                refine ⟨HT.out.1.trans hkeep, row_of_block (row_below HT.out.2.1 b1) (fun _ _ => rfl), row_of_block (row_below HT.out.2.2.1 b1) (fun _ _ => rfl), fun k v hv => ?_, fun b cs T h1 h2 h3 h4 => (HT.out.2.2.2.2.1.trans (KeepT.below b1)) b cs T h1 h2 h3 h4, fun k hk hne => (b1.block k (by have := HT.out.1.size; omega)).trans (HT.out.2.2.2.2.2 k hk hne)⟩
                obtain ⟨n1, u, hu, n2⟩ := HT.out.2.2.2.1 k v hv
                exact ⟨(n1.below b1).kept (fun _ _ _ => rfl), u, hu, (n2.below b1).kept (fun _ _ _ => rfl)⟩
              clear hkeep hA1 hA2 b1 cl1 cm1 HT N1 N2
              go_wp2
              go_roundw
              case rel => first | exact ⟨k + 1, rfl, by omega, HZ⟩ | ((repeat apply Exists.intro); exact ⟨⟨k + 1, rfl, by omega, HZ⟩, rfl⟩)
              case measure => simp [RowKit.intOf]; omega
            · go_wp2
              go_ret
              exact ⟨rfl, HT.out.1, HT.out.2.2.2.2⟩
end Go.Proofs.YtcncbhbdpcpkeaaGreatDoor
