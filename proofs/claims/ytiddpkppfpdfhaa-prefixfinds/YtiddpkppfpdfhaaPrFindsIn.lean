/- The walk through custlaw.PrefixFinds. -/
import Derived.Test.YtiddpkppfpdfhaaPrFind
import Derived.Test.YtiddpkppfpdfhaaPrEq
import Derived.Test.YtiddpkppfpdfhaaTold
namespace Go.Proofs.Ytiddpkppfpdfhaa.pf
open Go.ChangeShapes Go.WideShapes Go.ChangeAt Go.RowKit Go.BigFrame
open Go.Proofs.Ytiddpkppfpdfhaa Go.Proofs.Ytiddpkppfpdfhaa.pm Go.Proofs.Ytiddpkppfpdfhaa.boxes Go.Proofs.Ytiddpkppfpdfhaa.rwr Go.Proofs.Ytiddpkppfpdfhaa.rwat
open Go.Proofs.Ytiddpkppfpdfhaa.rws (Knd Own)

theorem Two.below {v1 v2 : Value} {B : Nat} {V w : World} (h : Two v1 v2 V w) (h1 : ∀ g, v1.ownBlock = some g → B ≤ g) (h2 : ∀ g, v2.ownBlock = some g → B ≤ g) (hB : B ≤ V.heap.size) : Below B V w :=
  ⟨h.os, h.tape, h.output, h.size, fun b hb => h.block b (Nat.lt_of_lt_of_le hb hB) (fun e => by have := h1 _ e; omega) (fun e => by have := h2 _ e; omega)⟩
/-- while what is wanted is made longer -/
structure CW (B bx qa : Nat) (ql u : Int) (X : ByteArray) (v1 v2 : Value) (L1 : List Nt) (L2 : List Int) (V w : World) : Prop where
  o1 : Own TK w B v1 L1
  o2 : Own NK w B v2 L2
  f0 : Blk w bx #[.string X, .int .i64 u] 45
  tw : Two v1 v2 V w
theorem CW.below {B bx qa : Nat} {ql u : Int} {X : ByteArray} {v1 v2 : Value} {L1 : List Nt} {L2 : List Int} {V w w' : World} (h : CW B bx qa ql u X v1 v2 L1 L2 V w) (hb : Below w.heap.size w w') : CW B bx qa ql u X v1 v2 L1 L2 V w' :=
  ⟨h.o1.kept hb, h.o2.kept hb, h.f0.below hb h.f0.lt, ⟨hb.os.trans h.tw.os, hb.tape.trans h.tw.tape, hb.output.trans h.tw.output, Nat.le_trans h.tw.size hb.size, fun b hlt e1 e2 => (hb.block b (Nat.lt_of_lt_of_le hlt h.tw.size)).trans (h.tw.block b hlt e1 e2)⟩⟩
theorem rows_out {ns : List Nd} {w w' : World} {e : Ending} {t : T} (h : RowsOut ns w e w') (hr : Rt ns t) : ∃ v', e = .returned (.tuple #[v', .bool true]) ∧ Own RK w' w.heap.size v' (rows t) ∧ (rows t).length ≤ 501 ∧ Below w.heap.size w w' := by
  obtain ⟨v', rs, ok, rfl, O, _, hl, ht, z⟩ := h
  obtain ⟨rfl, rfl⟩ := ht t hr
  exact ⟨v', rfl, O, hl, z⟩
set_option maxRecDepth 20000 in
set_option maxHeartbeats 8000000 in
theorem finds_walk (v : Value) (ns : List Nd) (c : Nat) (w : World) (hr : Rd DK w v ns) (hc : c < 4294967296) :
    Calls Try.prog 4 #[.agg (TC v), .int .u32 (c : Int)] w fun e w' => e = .returned (.bool true) ∧ Below w.heap.size w w' := by
  have F1 := fun u hu => find_any v ns c u hu hc
  have F2 := fun u hu => trfind_any v ns c u hu hc
  have A1 := fun u hu => all_any v ns u hu
  have K2 := fun u hu => right_any v ns u hu
  have HC0 : Hid (chk ns 2 4 = 0 → ∃ rs, allR ns = rs ∧ rs.length ≤ 501 ∧ (∀ x ∈ rs, x.1.length ≤ 32) ∧ ∀ u, Rd DK u v ns → Calls Try.prog 19 #[.agg (TC v)] u fun e w' => ∃ v', e = .returned (.tuple #[v', .bool true]) ∧ Own RK w' u.heap.size v' rs ∧ Below u.heap.size u w') := fun h0 => by
    have hrt := chk0 h0
    have hf := hrt.fine
    refine ⟨rows (tree ns), by unfold allR; rw [if_neg (by rw [h0]; decide)], by have := rows_le (tree ns); have := hf.s; omega, fun x hx => hf.len hx, fun u hu => (rows_any v ns u hu (by rw [hrt.2.2.1, lay_length]; exact hf.s)).mono ?_⟩
    intro e w' h
    obtain ⟨v', h1, h2, _, h3⟩ := rows_out h hrt
    exact ⟨v', h1, h2, h3⟩
  have HC1 : Hid (¬ chk ns 2 4 = 0 → netsOf (allR ns) = [] ∧ valsOf (allR ns) = []) := fun h0 => by unfold allR; rw [if_pos h0]; exact ⟨rfl, rfl⟩
  generalize hA : allR ns = AR at *
  clear hA hc
  generalize fA (findR ns c) = rA at *
  generalize fL (findR ns c) = rL at *
  generalize fV (findR ns c) = rV at *
  generalize findE ns c = rE at *
  generalize chk ns 2 4 = ch at *
  have b0 := (Below.refl w.heap.size w).alloc (Nat.le_refl _) (.cells (TC v) 24)
  have F0 := Blk.new w (TC v) 24
  replace hr := hr.below b0
  obtain ⟨sa, sc, e_v⟩ := hr.form
  generalize hn : ns.length = n at *
  clear hn
  subst e_v
  go_enter Try.func4, Try.ntmps4
  go_upto_region 1 with fail
  generalize hV : w.alloc (.cells (TC (.slice sa n sc)) 24) = V0 at *
  clear hV
  have C := F1 V0 hr
  have cF0 := F0.cell
  go_wp2_with fail
  refine C.mono ?_
  rintro e W1 ⟨rfl, z⟩
  clear cF0
  replace F0 := F0.below z F0.lt
  replace hr := hr.below z
  replace b0 := b0.trans (z.mono b0.size)
  clear z
  clear C F1
  have dA := (Below.refl W1.heap.size W1).alloc (Nat.le_refl _) (.cells ZN 27)
  go_upto_region 2 with (refine blk_store _ rfl 27 _ _ rfl W1.heap.size (NC rA rL) rfl rfl _ _ (Blk.new W1 ZN 27) 2 nt_info rfl rfl (nt_one ⟨rA, rL⟩) ?_; intro V1 A1x p)
  have zz := p.below dA (Nat.le_refl _)
  clear dA p
  replace F0 := F0.below zz F0.lt
  replace hr := hr.below zz
  replace b0 := b0.trans (zz.mono b0.size)
  clear zz
  generalize W1.heap.size = xA1x at *
  have C := F2 V1 hr
  have cF0 := F0.cell
  go_wp2_with fail
  refine C.mono ?_
  rintro e W2 ⟨rfl, z⟩
  clear cF0
  replace F0 := F0.below z F0.lt
  replace A1x := A1x.below z A1x.lt
  replace hr := hr.below z
  replace b0 := b0.trans (z.mono b0.size)
  clear z
  clear C F2
  have dA := (Below.refl W2.heap.size W2).alloc (Nat.le_refl _) (.cells ZN 27)
  go_upto_region 3 with (refine blk_store _ rfl 27 _ _ rfl W2.heap.size (NC rA rL) rfl rfl _ _ (Blk.new W2 ZN 27) 2 nt_info rfl rfl (nt_one ⟨rA, rL⟩) ?_; intro V2 A2x p)
  have zz := p.below dA (Nat.le_refl _)
  clear dA p
  replace F0 := F0.below zz F0.lt
  replace A1x := A1x.below zz A1x.lt
  replace hr := hr.below zz
  replace b0 := b0.trans (zz.mono b0.size)
  clear zz
  generalize W2.heap.size = xA2x at *
  have C := A1 V2 hr
  have cF0 := F0.cell
  go_wp2_with fail
  refine C.mono ?_
  rintro e W3 ⟨v3, v4, rfl, O3, O4, z⟩
  clear cF0
  replace F0 := F0.below z F0.lt
  replace A1x := A1x.below z A1x.lt
  replace A2x := A2x.below z A2x.lt
  replace hr := hr.below z
  replace b0 := b0.trans (z.mono b0.size)
  clear z
  clear C A1
  have q3 := Own.rd O3
  have q4 := Own.rd O4
  clear O3 O4
  go_upto_region 6 with fail
  have C := K2 W3 hr
  have cF0 := F0.cell
  go_wp2_with fail
  refine C.mono ?_
  rintro e V ⟨rfl, z⟩
  clear cF0 C
  replace F0 := F0.below z F0.lt
  replace A1x := A1x.below z A1x.lt
  replace A2x := A2x.below z A2x.lt
  replace hr := hr.below z
  replace q3 := q3.below z
  replace q4 := q4.below z
  replace b0 := b0.trans (z.mono b0.size)
  clear z
  go_upto_if 42 with fail
  go_cut [14, 15] (fun s14 s15 wx => Own TK wx V.heap.size s14 (netsOf AR) ∧ Own NK wx V.heap.size s15 (valsOf AR) ∧ Below V.heap.size V wx)
  case first =>
    clear q3 q4 A1x A2x b0 K2
    by_cases h0 : ch = 0
    · obtain ⟨rs, rfl, hrl, hrx, CR⟩ := HC0.out h0
      have HST : Hid (∀ (i : Nat) x, AR[i]? = some x → netsOf (AR.take (i + 1)) = netsOf (AR.take i) ++ [⟨ad 32 x.1, x.1.length⟩] ∧ valsOf (AR.take (i + 1)) = valsOf (AR.take i) ++ [x.2] ∧ x.1.length ≤ 32) := fun i x hx => by
        rw [take_succ AR i x hx]
        exact ⟨by simp [netsOf, nt], by simp [valsOf], hrx x (List.mem_of_getElem? hx)⟩
      have HL : Hid (∀ i, (netsOf (AR.take i)).length ≤ 501 ∧ (valsOf (AR.take i)).length ≤ 501) := fun i => by
        simp only [netsOf, valsOf, List.length_map, List.length_take]; omega
      have HZ : Hid (netsOf (AR.take 0) = [] ∧ valsOf (AR.take 0) = []) := ⟨rfl, rfl⟩
      have HE : Hid (netsOf (AR.take AR.length) = netsOf AR ∧ valsOf (AR.take AR.length) = valsOf AR) := by rw [List.take_length]; exact ⟨rfl, rfl⟩
      obtain ⟨NF, hNF⟩ : ∃ NF, NF = fun i => netsOf (AR.take i) := ⟨_, rfl⟩
      obtain ⟨VF, hVF⟩ : ∃ VF, VF = fun i => valsOf (AR.take i) := ⟨_, rfl⟩
      have hnf : ∀ i, netsOf (AR.take i) = NF i := fun i => by rw [hNF]
      have hvf : ∀ i, valsOf (AR.take i) = VF i := fun i => by rw [hVF]
      simp only [hnf, hvf] at HST HL HZ HE
      clear hnf hvf hNF hVF hrx HC0 HC1
      generalize netsOf AR = NL at *
      generalize valsOf AR = VL at *
      subst h0
      have C := CR V hr
      clear CR
      have cF0 := F0.cell
      go_wp2_with fail
      refine C.mono ?_
      rintro e W5 ⟨v5, rfl, O5, z⟩
      have q5 := Own.rd O5
      have bV := z.size
      clear C cF0 O5 hr F0
      obtain ⟨m, hm⟩ : ∃ m, m = AR.length := ⟨_, rfl⟩
      have HM : Hid (m = AR.length) := hm
      obtain ⟨sa5, sc5, e5⟩ := q5.form
      rw [← hm] at e5 hrl HE
      subst e5
      have HG : Hid (∀ i, i < m → ∃ x, AR[i]? = some x) := fun i hi => ⟨_, List.getElem?_eq_getElem (by omega)⟩
      clear hm
      go_wp2_with fail
      go_loopw [14, 15, 50] (fun s14 s15 s50 wr => ∃ (i : Nat), s50 = .int .i64 (i : Int) ∧ i ≤ m ∧ Own TK wr W5.heap.size s14 (NF i) ∧ Own NK wr W5.heap.size s15 (VF i) ∧ Below W5.heap.size W5 wr) (fun _ _ s _ => m - (intOf s).toNat)
      case atStart => exact ⟨0, rfl, Nat.zero_le _, by rw [HZ.out.1]; exact Own.nil _ _ _, by rw [HZ.out.2]; exact Own.nil _ _ _, Below.refl _ _⟩
      case round =>
        clear HZ
        obtain ⟨i, rfl, hi, O14, O15, bel⟩ := hrel
        by_cases hlt : i < m
        · have hlt' : (i : Int) < (m : Int) := by omega
          have q1 := q5.below bel
          obtain ⟨x, hx⟩ := HG.out i hlt
          obtain ⟨b1, o1, e1, hb1, _⟩ := rd_spot q1 (by have := HM.out; omega)
          subst e1
          obtain ⟨hb1, cx0, cx1⟩ := row_at q1 hx
          obtain ⟨hnx, hvx, hxl⟩ := HST.out i x hx
          have HNX : Hid (NF (i + 1) = NF i ++ [⟨ad 32 x.1, x.1.length⟩]) := hnx
          have HVX : Hid (VF (i + 1) = VF i ++ [x.2]) := hvx
          have hL1 := (HL.out i).1
          have hL2 := (HL.out i).2
          have CN := fun W => netOf_any x.1 W hxl
          have zz1 := own_lt O14
          have zz2 := own_lt O15
          have y1 := own_ge O14
          have y2 := own_ge O15
          have dB := (Below.refl wr.heap.size wr).alloc (Nat.le_refl _) (.cells ZR 45)
          clear hnx hvx HST HL HE HG HM hx hxl
          go_upto_region 11 with (refine blk_store _ rfl 45 _ _ rfl wr.heap.size (rwc x) rfl rfl _ _ (Blk.new wr ZR 45) 2 rw_info rfl rfl (rw_one x) ?_; intro V6 N6 p6)
          have zz := p6.below dB (Nat.le_refl _)
          have P1 := O14.kept zz
          have P2 := O15.kept zz
          have hbw : W5.heap.size ≤ wr.heap.size := bel.size
          have bel6 := bel.trans (zz.mono hbw)
          have hx6 := N6.lt
          clear dB p6 cx0 cx1 hb1 q1 bel O14 O15 zz
          generalize wr.heap.size = bx at *
          obtain ⟨p, u⟩ := x
          have G0 : Blk V6 bx #[.string (en p), .int .i64 u] 45 := N6
          clear N6
          simp only at HNX HVX CN
          generalize ad 32 p = qa at *
          generalize (p.length : Int) = ql at *
          generalize en p = X at *
          generalize NF i = L1 at *
          generalize VF i = L2 at *
          obtain ⟨sa1, sc1, e14⟩ := (Own.rd P1).form
          subst e14
          obtain ⟨sa2, sc2, e15⟩ := (Own.rd P2).form
          subst e15
          have kt : NK.e ≠ TK.e := by unfold NK TK; decide
          have kn : TK.e ≠ NK.e := by unfold NK TK; decide
          have nk2 := kinds_ne P2 P1 kt
          have nk1 := kinds_ne P1 P2 kn
          obtain ⟨B, hB5⟩ : ∃ B, B = W5.heap.size := ⟨_, rfl⟩
          rw [← hB5] at P1 P2 y1 y2 hbw bel6
          have HB5 : Hid (B = W5.heap.size) := hB5
          clear hB5
          dsimp only [Act.put]
          have C0 : CW B bx qa ql u X (.slice sa1 L1.length sc1) (.slice sa2 L2.length sc2) L1 L2 V6 V6.drew := ⟨P1, P2, G0, Two.drew (Two.refl _ _ _)⟩
          have ne : Nonempty (spc.In (CW B bx qa ql u X (.slice sa1 L1.length sc1) (.slice sa2 L2.length sc2) L1 L2 V6)) := ⟨⟨_, C0⟩⟩
          have c0 : ∀ (x : spc.In (CW B bx qa ql u X (.slice sa1 L1.length sc1) (.slice sa2 L2.length sc2) L1 L2 V6)) o, x.W.cell? ⟨bx, o, none⟩ = #[Value.string X, .int .i64 u][o]? := fun x => x.h.f0.cell
          refine' lsn.told 10 _ [(3, undef), (4, undef), (5, undef), (9, undef)] [(3, 57), (4, 58), (5, 59), (9, 63)]
            (fun k v w => (k = 3 → v = .agg (NC qa ql)) ∧ (k = 4 → ∃ b, v = .slice (some ⟨b, 0, none⟩) 1 1 ∧ V6.heap.size ≤ b ∧ Blk w b (NC qa ql) 27) ∧ (k = 5 → Own TK w B v (L1 ++ [⟨qa, ql⟩]) ∧ ∀ g, v.ownBlock = some g → Value.ownBlock (.slice sa1 L1.length sc1) = some g ∨ V6.heap.size ≤ g) ∧ (k = 9 → ∃ b, v = .slice (some ⟨b, 0, none⟩) 1 1 ∧ V6.heap.size ≤ b ∧ Blk w b #[.int .i64 u] 3))
            (CW B bx qa ql u X (.slice sa1 L1.length sc1) (.slice sa2 L2.length sc2) L1 L2 V6)
            (fun w w' => (∀ b, b < w.heap.size → Value.ownBlock (.slice sa1 L1.length sc1) ≠ some b → w'.heap[b]? = w.heap[b]?) ∧ ∀ v, Own TK w B v (L1 ++ [⟨qa, ql⟩]) → Own TK w' B v (L1 ++ [⟨qa, ql⟩]))
            (by kernel_rfl) (by simp only [List.take]; exact rfl) (by simp only [List.drop]; exact rfl) (by kernel_rfl) (by kernel_rfl) C0
            (fun k v w w' hT hS => ⟨hS.1, fun hk => (let ⟨b, e, l, F⟩ := hS.2.1 hk; ⟨b, e, l, (hT.1 b F.lt (fun e2 => by have := zz1 _ e2; omega)).trans F⟩), fun hk => ⟨hT.2 _ (hS.2.2.1 hk).1, (hS.2.2.1 hk).2⟩, fun hk => (let ⟨b, e, l, F⟩ := hS.2.2.2 hk; ⟨b, e, l, (hT.1 b F.lt (fun e2 => by have := zz1 _ e2; omega)).trans F⟩)⟩) (by simp only [spc.rep, List.lookup, Nat.zero_add, Nat.reduceAdd, Nat.reduceBEq]; exact rfl) ?_
          repeat (go_big_quiet_step (fail))
          refine wpQuiet_nil ⟨?_, ?_, ?_⟩
          · simp only [List.forall_mem_cons, List.not_mem_nil, false_imp_iff, implies_true, and_true]
            exact ⟨by rintro _ ⟨⟩; rfl, by rintro _ ⟨⟩; rfl, by rintro _ ⟨⟩; rfl, by rintro _ ⟨⟩; rfl⟩
          · simp only [List.forall_mem_cons, List.not_mem_nil, false_imp_iff, implies_true, and_true]
            refine ⟨?_, ?_, ?_, ?_⟩
            · rintro _ ⟨⟩ x w1 hC - -
              refine told.call1 20 _ _ (.string X) rfl (enters_of Try.func20 (by kernel_rfl) rfl) rfl ((CN w1).mono ?_)
              rintro e w2 ⟨rfl, hb⟩
              refine ⟨_, rfl, hC.below hb, ⟨fun b hlt _ => hb.block b hlt, fun v hv => hv.kept hb⟩, ?_⟩
              rw [if_pos (by decide)]
              exact ⟨fun _ => rfl, fun h => absurd h (by decide), fun h => absurd h (by decide), fun h => absurd h (by decide)⟩
            · rintro _ ⟨⟩ x w1 hC hS -
              have e7 := (hS (3, 57) (by simp) (by simp [Oper.looksAt, Op.operands])).1 rfl
              refine net_told _ qa ql rfl e7 ?_
              have hb := (Below.refl w1.heap.size w1).alloc (Nat.le_refl _) (.cells (NC qa ql) 27)
              refine ⟨hC.below hb, ⟨fun b hlt _ => hb.block b hlt, fun v hv => hv.alloc _⟩, ?_⟩
              rw [if_pos (by decide)]
              exact ⟨fun h => absurd h (by decide), fun _ => ⟨_, rfl, hC.tw.size, Blk.new _ _ _⟩, fun h => absurd h (by decide), fun h => absurd h (by decide)⟩
            · rintro _ ⟨⟩ x w1 hC hS -
              obtain ⟨b8, e8, l8, F8⟩ := (hS (4, 58) (by simp) (by simp [Oper.looksAt, Op.operands, Call.operands])).2.1 rfl
              refine app_told TK (.tmp 54) (.tmp 58) rfl B (.slice sa1 L1.length sc1) L1 rfl hC.o1 b8 1 ⟨qa, ql⟩ 27 e8 F8 (by omega) (by show (L1.length + 1) * 16 ≤ _; omega) (by have := hC.tw.size; omega) ?_
              intro v' w' k1 k2 k3 k4 k5
              have o := Only.of_app k2 k3
              refine ⟨⟨k5, own_grown hC.o2 k2 nk2, o.blk hC.f0 (fun e => by have := zz1 _ e; omega), hC.tw.grown1 k2⟩, ⟨fun b hlt hne => k2.block b hlt fun e => hne e.symm, k4⟩, ?_⟩
              rw [if_pos (by decide)]
              exact ⟨fun h => absurd h (by decide), fun h => absurd h (by decide), fun _ => ⟨k1, where_ge k3 hC.tw.size⟩, fun h => absurd h (by decide)⟩
            · rintro _ ⟨⟩ x w1 hC - -
              refine int_told _ u rfl rfl ?_
              have hb := (Below.refl w1.heap.size w1).alloc (Nat.le_refl _) (.cells #[.int .i64 u] 3)
              refine ⟨hC.below hb, ⟨fun b hlt _ => hb.block b hlt, fun v hv => hv.alloc _⟩, ?_⟩
              rw [if_pos (by decide)]
              exact ⟨fun h => absurd h (by decide), fun h => absurd h (by decide), fun h => absurd h (by decide), fun _ => ⟨_, rfl, hC.tw.size, Blk.new _ _ _⟩⟩
          intro x W7 hC hS
          obtain ⟨o9, z9⟩ := (hS (5, 59) (by simp)).2.2.1 rfl
          obtain ⟨b12, e12, l12, F12⟩ := (hS (9, 63) (by simp)).2.2.2 rfl
          simp only [spc.jn, Act.put, List.setIfInBounds_toArray, List.set_cons_succ, List.set_cons_zero]
          have e12 : x 9 = _ := e12
          rw [e12]
          have o9 : Own TK W7 B (x 5) _ := o9
          clear hS ne c0 C0 e12 z9
          generalize x 3 = q57
          generalize x 4 = q58
          generalize x 5 = q59 at *
          have hB7 : B ≤ W7.heap.size := by have := hC.tw.size; omega
          refine app_at NK W7 rfl (.tmp 60) (.tmp 63) rfl B (.slice sa2 L2.length sc2) L2 rfl hC.o2 b12 1 u 3 rfl F12 (by omega) (by show (L2.length + 1) * 8 ≤ _; omega) hB7 ?_
          intro v64 W8 k1 k2 k3
          have T8 := hC.tw.grown2 k2
          have o9 := own_grown o9 k2 (kinds_ne o9 hC.o2 kn)
          have bel8 := bel6.trans (T8.below y1 y2 (by omega))
          rw [← HNX.out] at o9
          rw [← HVX.out] at k1
          rw [HB5.out] at o9 k1 bel8
          clear hC F12 k2 k3 hB7 T8 CN HNX HVX
          go_wp2_with fail
          go_roundw
          case rel => exact ⟨i + 1, by go_num, by omega, o9, k1, bel8⟩
          case measure => simp [intOf]; omega
        · obtain rfl : i = m := by omega
          have hE := HE.out
          rw [hE.1] at O14
          rw [hE.2] at O15
          clear hE HE HST HL HG HM q5
          go_wp2_with fail
          go_meet
          case rel => exact ⟨O14.mono bV, O15.mono bV, z.trans (bel.mono bV)⟩
    · have HNV := show Hid _ from HC1.out h0
      have hch : (ch == 0) = false := by simpa using h0
      clear HC0 HC1 h0 hr F0
      go_wp2_with fail
      go_meet
      case rel => exact ⟨by rw [HNV.out.1]; exact Own.nil _ _ _, by rw [HNV.out.2]; exact Own.nil _ _ _, Below.refl _ _⟩
  case rest =>
    obtain ⟨O14, O15, z⟩ := hcut
    have q14 := Own.rd O14
    have q15 := Own.rd O15
    have F0' := F0.below z F0.lt
    have A1' := A1x.below z A1x.lt
    have A2' := A2x.below z A2x.lt
    have hr' := hr.below z
    have q3' := q3.below z
    have q4' := q4.below z
    have b1 := b0.trans (z.mono b0.size)
    clear F0 A1x A2x hr q3 q4 b0 z O14 O15 HC0 HC1
    have E1 := equalT_any _ _ _ _ _ q3' q14
    rw [decide_eq_true rfl] at E1
    have E2 : ∀ u, Below wc.heap.size wc u → Calls Try.prog 22 #[v4, u15] u fun e w' => e = .returned (.bool true) ∧ Below u.heap.size u w' := fun u hb => by
      have := equalN_any u v4 u15 (valsOf AR) (valsOf AR) (q4'.below hb) (q15.below hb)
      rwa [decide_eq_true rfl] at this
    have E3 := fun u (hb : Below wc.heap.size wc u) => K2 u (hr'.below hb)
    have cA1 := A1'.cell
    have cA2 := A2'.cell
    clear K2 hr' q3' q4' q14 q15 A1' A2'
    go_wp2_with fail
    refine E1.mono ?_
    rintro e W8 ⟨rfl, z1⟩
    have E2' := E2 W8 z1
    clear E1 E2 cA1 cA2
    go_wp2_with fail
    refine E2'.mono ?_
    rintro e W9 ⟨rfl, z2⟩
    have z3 := z1.trans (z2.mono z1.size)
    have cF := (F0'.below z3 F0'.lt).cell
    have E3' := E3 W9 z3
    clear E2' E3 F0' z1 z2
    go_wp2_with fail
    refine E3'.mono ?_
    rintro e W10 ⟨rfl, z4⟩
    go_wp2_with fail
    go_ret
    exact ⟨rfl, b1.trans ((z3.trans (z4.mono z3.size)).mono b1.size)⟩
end Go.Proofs.Ytiddpkppfpdfhaa.pf
