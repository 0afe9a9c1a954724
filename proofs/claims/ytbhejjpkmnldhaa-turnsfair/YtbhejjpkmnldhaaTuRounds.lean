/- What custkeep.rounds answers. -/
import Derived.Test.YtbhejjpkmnldhaaTuAvoid
import Derived.Test.YtbhejjpkmnldhaaLastn
namespace Go.Proofs.Ytbhejjpkmnldhaa.tu
open Go.ChangeShapes Go.WideShapes Go.ChangeAt Go.RowKit Go.BigFrame
open Go.Proofs.Ytbhejjpkmnldhaa Go.Proofs.Ytbhejjpkmnldhaa.boxes Go.Proofs.Ytbhejjpkmnldhaa.rwr Go.Proofs.Ytbhejjpkmnldhaa.rwat
open Go.Proofs.Ytbhejjpkmnldhaa.rws (Knd Own)

theorem iwb {a : Bool} {b : Nat} : (a && decide (0 < b)) = (a && decide ((0 : Int) < (b : Int))) := by
  rw [Bool.eq_iff_iff]; simp
set_option maxRecDepth 20000 in
set_option maxHeartbeats 16000000 in
theorem rounds_any (v : Value) (L : List Qu) (n : Nat) (w : World) (h : TRd w v L) (hc : chk L = 0) (hn : n ≤ 100) : Calls Try.prog 20 #[v, .int .i64 (n : Int)] w fun e w' => ∃ v' s' f', e = .returned (.tuple #[v', s', f', .bool true]) ∧ TRd w' v' (rr n L) ∧ Own NK w' w.heap.size s' (L.map (sm n)) ∧ Own BK w' w.heap.size f' (L.map (fl n)) ∧ Below w.heap.size w w' := by
  obtain ⟨hL16, hFine⟩ := chk_zero.1 hc
  have HCh : Hid (∀ t, chk (rr t L) = 0) := chk_rr hc
  have CR := fun t v u (hu : TRd u v (rr t L)) => round_ok v (rr t L) u hu (HCh.out t)
  have HS : Hid (∀ t, rnd (rr t L) = rr (t + 1) L) := fun t => (rr_succ t L).symm
  have HL : Hid (∀ t, (rr t L).length = L.length) := fun t => rr_len t L
  have HM : Hid (∀ t p, p ∈ snt (rr t L) → p.i < L.length ∧ 1 ≤ p.n ∧ p.n ≤ 1000000) := fun t p hp => by
    have := snt_mem (HCh.out t) p hp
    rwa [rr_len] at this
  have HMl : Hid (∀ t, (snt (rr t L)).length ≤ 3200) := fun t => snt_len (HCh.out t)
  have HF : Hid (∀ t, (snt (rr t L)).foldl (stp fun a b => a + b) (L.map (sm t)) = L.map (sm (t + 1))) := fun t => fold_sums t L
  have HB : Hid (∀ t, ∀ c ∈ L.map (sm t), 0 ≤ c ∧ c ≤ 200000000) := fun t c hc => by
    obtain ⟨q, hq, rfl⟩ := List.mem_map.1 hc
    exact sm_bound (hFine q hq) t
  have HQ : Hid (∀ i, i < L.length → ∃ q, L[i]? = some q) := fun i hi => ⟨_, List.getElem?_eq_getElem hi⟩
  have HFl : Hid (∀ (i t : Nat) q, L[i]? = some q → (L.map (fl t))[i]? = some (fl t q)) := fun i t q h => fl_at h
  have HSl : Hid (∀ t, (L.map (sm t)).length = L.length ∧ (L.map (fl t)).length = L.length) := fun t => ⟨List.length_map _, List.length_map _⟩
  have HRr : Hid (∀ (i t : Nat) q, L[i]? = some q → (rr t L)[i]? = some (it t q)) := fun i t q h => rr_at h
  have HS0 : Hid (List.replicate L.length 0 = L.map (sm 0)) := by
    refine List.ext_getElem (by simp) fun i a b => ?_
    simp [sm, gn]
  have hr0 := rr_zero L
  have h0 : TRd w v (rr 0 L) := by rw [hr0]; exact h
  obtain ⟨X, hr, hXl, hX⟩ := h
  obtain ⟨sa, sc, rfl⟩ := hr.form
  rw [hXl] at h0 ⊢
  have HX : Hid (∀ u, Below w.heap.size w u → 0 < L.length → ∃ b off, sa = some ⟨b, off, none⟩ ∧ b < w.heap.size ∧ ∀ j x, X[j]? = some x → ∀ i, i < QK.k → u.cell? ⟨b, off + j * QK.k + i, none⟩ = (QK.enc x)[i]?) := fun u hu hp => by
    obtain ⟨b1, o1, e1, h1, h2⟩ := rd_spot hr (by omega)
    exact ⟨b1, o1, e1, h1, fun j x hj i hi => (hu.cell (p := ⟨b1, o1 + j * QK.k + i, none⟩) h1).trans (h2 j x hj i hi)⟩
  have HG : Hid (∀ (i : Nat) (q : Qu), L[i]? = some q → ∃ x : Qv, X[i]? = some x ∧ x.sn = q.l.length) := fun i q hi => by
    have hlt := (List.getElem?_eq_some_iff.1 hi).1
    exact ⟨X[i]'(by omega), List.getElem?_eq_getElem _, rd_n (hX i _ q (List.getElem?_eq_getElem _) hi).2.2⟩
  clear hc hFine hr hX hXl hr0
  generalize hm : L.length = m at *
  have HLm : Hid (L.length = m) := hm
  clear hm
  have b0 := Below.refl w.heap.size w
  go_enter Try.func20, Try.ntmps20
  go_upto_region 1 with fail
  go_cut [8, 9] (fun s8 s9 wx => ∃ g8 g9, s8 = .slice (some ⟨g8, 0, none⟩) m m ∧ s9 = .slice (some ⟨g9, 0, none⟩) m m ∧ Own NK wx w.heap.size (.slice (some ⟨g8, 0, none⟩) m m) (List.replicate m 0) ∧ Own BK wx w.heap.size (.slice (some ⟨g9, 0, none⟩) m m) (List.replicate m false) ∧ Below w.heap.size w wx)
  case first =>
    clear CR HX HG HS0
    obtain ⟨wN, eN, oN, lN⟩ := make_run NK 0 rfl w.drew w.heap.size m (by show 8 * m ≤ _; omega) (by unfold maxLen; omega) (Nat.le_refl _)
    obtain ⟨wNB, eNB, oNB, lNB⟩ := make_run BK false rfl wN wN.heap.size m (by show 1 * m ≤ _; omega) (by unfold maxLen; omega) (Nat.le_refl _)
    obtain ⟨wB, eB, oB, lB⟩ := make_run BK false rfl w.drew w.heap.size m (by show 1 * m ≤ _; omega) (by unfold maxLen; omega) (Nat.le_refl _)
    obtain ⟨wBN, eBN, oBN, lBN⟩ := make_run NK 0 rfl wB wB.heap.size m (by show 8 * m ≤ _; omega) (by unfold maxLen; omega) (Nat.le_refl _)
    have eN : (Instr.makeSlice 39 (.int .i64 (m : Int)) (.int .i64 (m : Int))).run Try.prog w.drew = .ok (.slice (some ⟨w.heap.size, 0, none⟩) m m) wN := eN
    have eB : (Instr.makeSlice 46 (.int .i64 (m : Int)) (.int .i64 (m : Int))).run Try.prog w.drew = .ok (.slice (some ⟨w.heap.size, 0, none⟩) m m) wB := eB
    have eNB : (Instr.makeSlice 46 (.int .i64 (m : Int)) (.int .i64 (m : Int))).run Try.prog wN = .ok (.slice (some ⟨wN.heap.size, 0, none⟩) m m) wNB := eNB
    have eBN : (Instr.makeSlice 39 (.int .i64 (m : Int)) (.int .i64 (m : Int))).run Try.prog wB = .ok (.slice (some ⟨wB.heap.size, 0, none⟩) m m) wBN := eBN
    go_region
    all_goals simp only [Exit.then]
    all_goals go_step
    all_goals go_meet
    · exact ⟨w.heap.size, wN.heap.size, rfl, rfl, oN.kept lNB, oNB.mono lN.size, Below.trans (ab.Ab.drew w) (lN.trans (lNB.mono lN.size))⟩
    · exact ⟨wB.heap.size, w.heap.size, rfl, rfl, oBN.mono lB.size, oB.kept lBN, Below.trans (ab.Ab.drew w) (lB.trans (lBN.mono lB.size))⟩
  case rest =>
    obtain ⟨g8, g9, rfl, rfl, O8, O9, b1⟩ := hcut
    have hg8 := own_ge O8 g8 rfl
    have hg9 := own_ge O9 g9 rfl
    rw [HS0.out] at O8
    -- the flags at the beginning
    go_wp2_with fail
    go_loopw [27] (fun s27 wr => ∃ (i : Nat) (D : List Bool), s27 = .int .i64 (i : Int) ∧ i ≤ m ∧ Hid (Upto (L.map (fl 0)) (List.replicate m false) D i) ∧ Own BK wr w.heap.size (.slice (some ⟨g9, 0, none⟩) m m) D ∧ Own NK wr w.heap.size (.slice (some ⟨g8, 0, none⟩) m m) (L.map (sm 0)) ∧ Below w.heap.size w wr) (fun s _ => m - (intOf s).toNat)
    case atStart => exact ⟨0, _, rfl, Nat.zero_le _, upto_zero (by rw [(HSl.out 0).2]; simp), O9, O8, b1⟩
    case round =>
      clear O8 O9 b1
      obtain ⟨i, D, rfl, hi, HU, O9, O8, bel⟩ := hrel
      by_cases hlt : i < m
      · have hlt' : (i : Int) < (m : Int) := by omega
        obtain ⟨q, hq⟩ := HQ.out i hlt
        obtain ⟨x, hx, hxn⟩ := HG.out i q hq
        obtain ⟨b1, o1, rfl, hb1, hx1⟩ := HX.out wr bel (by omega)
        have hD : D[i]? = some false := by
          rw [upto_at HU.out, List.getElem?_replicate, if_pos hlt]
        have HN : Hid (Upto (L.map (fl 0)) (List.replicate m false) (D.set i (decide (0 < x.sn))) (i + 1)) := by
          have e : decide (0 < x.sn) = fl 0 q := by
            rw [fl_zero, hxn]
          rw [e]
          exact upto_next HU.out (HFl.out i 0 q hq)
        have Zb := Blk.new wr (QC 0 0 (.slice none 0 0)) 41
        have dA := (Below.refl wr.heap.size wr).alloc (Nat.le_refl _) (.cells (QC 0 0 (.slice none 0 0)) 41)
        obtain ⟨sh, sv, xa, xn, xc⟩ := x
        dsimp only [Qv.cells, Qv.sl] at *
        clear HX HG HQ HFl HU hq hxn CR
        go_upto_region 5 with (first
          | (refine rd_load QK _ rfl _ rfl b1 o1 X hx1 i _ rfl rfl _ hx (QC sh sv (.slice xa xn xc)) rfl _ Try.underlying41 rfl ?_)
          | (refine blk_store _ rfl 41 _ _ rfl wr.heap.size (QC sh sv (.slice xa xn xc)) rfl rfl _ _ Zb 3 qv_info rfl rfl (qc_one _ _ _ _ _) ?_; intro W3 k3 p3))
        have z := p3.below dA (Nat.le_refl _)
        replace O8 := O8.kept z
        replace O9 := O9.kept z
        replace bel := bel.trans (z.mono bel.size)
        clear Zb dA p3 hx1 z hx
        generalize wr.heap.size = bx at *
        have ck := k3.cell
        obtain ⟨O9', fz, cz0⟩ := put1 rfl O9 hD (decide (0 < xn)) (.bool (decide (0 < xn))) rfl
        have cz : W3.cell? ⟨g9, i, none⟩ = some (.bool false) := cz0
        clear cz0
        have u1 := but_setCell W3 g9 i (.bool (decide (0 < xn)))
        have O8' := O8.but u1 (kinds_ne' O8 O9 (by decide) rfl)
        have bel' := u1.below bel hg9
        clear O8 O9 bel k3 hD u1
        go_wp2_with fail
        go_roundw
        case rel => exact ⟨i + 1, _, by go_num, by omega, HN, O9', O8', bel'⟩
        case measure => simp [intOf]; omega
      · have hlt' : ¬ (i : Int) < (m : Int) := by omega
        have eD := upto_done HU.out (show i = (L.map (fl 0)).length by rw [(HSl.out 0).2]; omega)
        rw [eD] at O9
        have T0 := TAv.of_trd (g := g8) (k := g9) h0 hg8 hg9
        have T1 := TAv.below T0 bel
        have hg8l := own_lt O8 g8 rfl
        have hg9l := own_lt O9 g9 rfl
        clear HX HG HU eD h0 T0
        have hbs := bel.size
        go_wp2_with fail
        go_loopw [0, 41] (fun s0 s41 wr => ∃ (t : Nat) (ta : Option Addr) (tc : Nat), s0 = .slice ta m tc ∧ s41 = .int .i64 (t : Int) ∧ t ≤ n ∧ TAv g8 g9 wr (.slice ta m tc) (rr t L) ∧ Own NK wr w.heap.size (.slice (some ⟨g8, 0, none⟩) m m) (L.map (sm t)) ∧ Own BK wr w.heap.size (.slice (some ⟨g9, 0, none⟩) m m) (L.map (fl t)) ∧ Below w.heap.size w wr) (fun _ s _ => n - (intOf s).toNat)
        case atStart => exact ⟨0, sa, sc, rfl, rfl, Nat.zero_le _, T1, O8, O9, bel⟩
        case round =>
          clear T1 O8 O9 bel hbs hg8l hg9l
          obtain ⟨t, ta, tc, rfl, rfl, ht, T, O8, O9, bel⟩ := hrel
          by_cases htn : t < n
          rotate_left
          · have htn' : ¬ (t : Int) < (n : Int) := by omega
            have et : t = n := by omega
            subst et
            have R := T.trd
            clear CR HS HL HM HMl HF HB HQ HFl HSl HRr HCh T
            go_wp2_with fail
            (try simp only [Exit.inBlock, Exit.then])
            refine bodyPost_ret (results_tmp4 rfl _ _ _) rfl ?_
            exact ⟨_, _, _, rfl, R, O8, O9, bel⟩
          have htn' : (t : Int) < (n : Int) := by omega
          have C := CR t _ wr T.trd
          rw [HS.out] at C
          clear CR HS
          go_wp2_with fail
          refine C.mono ?_
          rintro e w1 ⟨v1, z1, rfl, T1, Z1, z⟩
          have TN := TAv.of_to T1 (own_lt O8 g8 rfl) (own_lt O9 g9 rfl)
          replace O8 := O8.kept z
          replace O9 := O9.kept z
          replace Z1 := Z1.mono bel.size
          replace bel := bel.trans (z.mono bel.size)
          clear C z T T1
          obtain ⟨na, nc, e_v1⟩ := TN.trd.form
          rw [HL.out] at e_v1
          subst e_v1
          obtain ⟨za, zc, e_z1⟩ := (Own.rd Z1).form
          obtain ⟨zn, hzn⟩ : ∃ zn, zn = (snt (rr t L)).length := ⟨_, rfl⟩
          rw [← hzn] at e_z1
          subst e_z1
          have HMt : Hid (∀ (j : Nat) p, (snt (rr t L))[j]? = some p → p.i < m ∧ 1 ≤ p.n ∧ p.n ≤ 1000000) := fun j p hp => HM.out t p (List.mem_of_getElem? hp)
          have HFt : Hid ((snt (rr t L)).foldl (stp fun a b => a + b) (L.map (sm t)) = L.map (sm (t + 1))) := HF.out t
          have HBd : Hid (∀ j, ∀ c ∈ ((snt (rr t L)).take j).foldl (stp fun a b => a + b) (L.map (sm t)), 0 ≤ c ∧ c ≤ 200000000 + 1000000 * 3200) := fun j c hc => by
            obtain ⟨a, b⟩ := fold_bound 200000000 1000000 ((snt (rr t L)).take j) (fun p hp => by
              have := HM.out t p (List.mem_of_mem_take hp)
              omega) (L.map (sm t)) (HB.out t) (by decide) c hc
            have hl := HMl.out t
            have : ((snt (rr t L)).take j).length ≤ 3200 := by rw [List.length_take]; omega
            exact ⟨a, by omega⟩
          have HLn : Hid (∀ j, (((snt (rr t L)).take j).foldl (stp fun a b => a + b) (L.map (sm t))).length = m) := fun j => by show _ = _; rw [folds_len, (HSl.out t).1]
          have hz32 : zn ≤ 3200 := by rw [hzn]; exact HMl.out t
          have HZn : Hid (zn = (snt (rr t L)).length) := hzn
          clear HM HF HB HMl hzn HCh
          generalize snt (rr t L) = M at *
          generalize hS0 : L.map (sm t) = S0 at *
          clear hS0
          go_wp2_with fail
          go_loopw [63] (fun s63 wr => ∃ j : Nat, s63 = .int .i64 (j : Int) ∧ j ≤ zn ∧ Own NK wr w.heap.size (.slice (some ⟨g8, 0, none⟩) m m) ((M.take j).foldl (stp fun a b => a + b) S0) ∧ Own BK wr w.heap.size (.slice (some ⟨g9, 0, none⟩) m m) (L.map (fl t)) ∧ Own ZK wr w.heap.size (.slice za zn zc) M ∧ TAv g8 g9 wr (.slice na m nc) (rr (t + 1) L) ∧ Below w.heap.size w wr) (fun s _ => zn - (intOf s).toNat)
          case atStart => exact ⟨0, rfl, Nat.zero_le _, O8, O9, Z1, TN, bel⟩
          case round =>
            clear O8 O9 Z1 TN bel
            obtain ⟨j, rfl, hj, O8, O9, Z1, TN, bel⟩ := hrel
            by_cases hjl : j < zn
            · have hjl' : (j : Int) < (zn : Int) := by omega
              obtain ⟨p, hp⟩ : ∃ p, M[j]? = some p := ⟨M[j]'(by rw [← HZn.out]; exact hjl), List.getElem?_eq_getElem _⟩
              obtain ⟨p1, p2, p3⟩ := HMt.out j p hp
              obtain ⟨b5, o5, rfl, hb5, hx5⟩ := s_cells (Own.rd Z1) (by rw [← HZn.out]; omega)
              obtain ⟨c, hc⟩ : ∃ c, ((M.take j).foldl (stp fun a b => a + b) S0)[p.i]? = some c := ⟨_, List.getElem?_eq_getElem (by rw [HLn.out]; exact p1)⟩
              obtain ⟨c0, c1⟩ := HBd.out j c (List.mem_of_getElem? hc)
              have HN : Hid (((M.take j).foldl (stp fun a b => a + b) S0).set p.i (c + p.n) = (M.take (j + 1)).foldl (stp fun a b => a + b) S0) := by show _ = _; rw [fold_next _ hp, stp_at _ hc]
              have Zb := Blk.new wr #[.int .i64 0, .int .i64 0] 34
              have dA := (Below.refl wr.heap.size wr).alloc (Nat.le_refl _) (.cells #[.int .i64 0, .int .i64 0] 34)
              obtain ⟨pi, pn⟩ := p
              dsimp only at p1 p2 p3 hc HN
              have e1 : ¬ (pi : Int) < 0 := by omega
              have e2 : ¬ (m : Int) ≤ (pi : Int) := by omega
              have wc : IntKind.i64.wrap (c + pn) = c + pn := by rw [IntKind.wrap_i64]; omega
              clear HMt HFt HBd HLn HQ HFl HSl HRr HL
              generalize (M.take j).foldl (stp fun a b => a + b) S0 = SS at *
              go_upto_region 15 with (first
                | (refine rd_load ZK _ rfl _ rfl b5 o5 M hx5 j _ rfl rfl _ hp (Sn.cells ⟨pi, pn⟩) rfl _ Try.underlying34 rfl ?_)
                | (refine blk_store _ rfl 34 _ _ rfl wr.heap.size (Sn.cells ⟨pi, pn⟩) rfl rfl _ _ Zb 2 sn_info rfl rfl (sn_one _) ?_; intro W3 k3 p3))
              have z := p3.below dA (Nat.le_refl _)
              replace O8 := O8.kept z
              replace O9 := O9.kept z
              replace Z1 := Z1.kept z
              replace TN := TN.below z
              replace bel := bel.trans (z.mono bel.size)
              clear Zb dA p3 hx5 z hp
              generalize wr.heap.size = bx at *
              have ck := k3.cell
              go_upto_region 17 with fail
              clear ck
              have c8 : W3.cell? ⟨g8, pi, none⟩ = some (.int .i64 c) := (put1 rfl O8 hc c (.int .i64 c) rfl).2.2
              have nn := ab.ne W3
              have a8 := ab.cell c8 (own_lt O8 g8 rfl)
              have ak := ab.cells k3
              refine lsn.region 9 _ (ab.Ab W3) (by kernel_rfl) (by simp only [List.take]; exact rfl) (by simp only [List.drop]; exact rfl) (by kernel_rfl) (by kernel_rfl) (ab.Ab.drew _) ?_
              repeat (go_big_quiet_step (fail))
              refine wpQuiet_nil ?_
              intro _ hx
              obtain ⟨u, rfl⟩ := hx
              obtain ⟨Wx, Kx⟩ := u
              have Kx : Below W3.heap.size W3 Wx := Kx
              replace O8 := O8.kept Kx
              replace O9 := O9.kept Kx
              replace Z1 := Z1.kept Kx
              replace TN := TN.below Kx
              replace bel := bel.trans (Kx.mono bel.size)
              clear nn a8 ak c8 k3 Kx
              obtain ⟨O8', fz, cz0⟩ := put1 rfl O8 hc (c + pn) (.int .i64 (c + pn)) rfl
              have cz : Wx.cell? ⟨g8, pi, none⟩ = some (.int .i64 c) := cz0
              clear cz0
              have u1 := but_setCell Wx g8 pi (.int .i64 (c + pn))
              have O9' := O9.but u1 (kinds_ne' O9 O8 (by decide) rfl)
              have Z1' := Z1.but u1 (kinds_ne' Z1 O8 (by decide) rfl)
              have TN' := TN.but u1
              have bel' := u1.below bel hg8
              clear O8 O9 Z1 TN bel hc u1
              go_wp2_with fail
              go_roundw
              case rel => exact ⟨j + 1, by go_num, by omega, by rw [← HN.out]; exact O8', O9', Z1', TN', bel'⟩
              case measure => simp [intOf]; omega
            · have hjl' : ¬ (j : Int) < (zn : Int) := by omega
              have ej : j = M.length := by rw [← HZn.out]; omega
              rw [ej, List.take_length, HFt.out] at O8
              clear HMt HFt HBd HLn HZn Z1 ej
              go_wp2_with fail
              go_loopw [93] (fun s93 wr => ∃ (i : Nat) (D : List Bool), s93 = .int .i64 (i : Int) ∧ i ≤ m ∧ Hid (Upto (L.map (fl (t + 1))) (L.map (fl t)) D i) ∧ Own BK wr w.heap.size (.slice (some ⟨g9, 0, none⟩) m m) D ∧ Own NK wr w.heap.size (.slice (some ⟨g8, 0, none⟩) m m) (L.map (sm (t + 1))) ∧ TAv g8 g9 wr (.slice na m nc) (rr (t + 1) L) ∧ Below w.heap.size w wr) (fun s _ => m - (intOf s).toNat)
              case atStart => exact ⟨0, _, rfl, Nat.zero_le _, upto_zero (by rw [(HSl.out t).2, (HSl.out (t + 1)).2]), O9, O8, TN, bel⟩
              case round =>
                clear O8 O9 TN bel
                obtain ⟨i, D, rfl, hi, HU, O9, O8, TN, bel⟩ := hrel
                by_cases hlt : i < m
                rotate_left
                · have hlt' : ¬ (i : Int) < (m : Int) := by omega
                  have eD := upto_done HU.out (by rw [(HSl.out (t + 1)).2]; omega)
                  rw [eD] at O9
                  clear HL HQ HFl HSl HRr HU eD
                  go_wp2_with fail
                  go_roundw
                  case rel => exact ⟨t + 1, na, nc, rfl, by go_num, by omega, TN, O8, O9, bel⟩
                  case measure => simp [intOf]; omega
                have hlt' : (i : Int) < (m : Int) := by omega
                obtain ⟨q, hq⟩ := HQ.out i hlt
                obtain ⟨X2, hr2, hX2l, hX2⟩ := TN.trd
                rw [HL.out] at hX2l
                obtain ⟨x, hx⟩ : ∃ x, X2[i]? = some x := ⟨X2[i]'(by omega), List.getElem?_eq_getElem _⟩
                have hxn := rd_n (hX2 i x _ hx (HRr.out i (t + 1) q hq)).2.2
                obtain ⟨b1, o1, rfl, hb1, hx1⟩ := rd_spot hr2 (by omega)
                obtain ⟨bb, hbb⟩ : ∃ bb, bb = fl t q := ⟨_, rfl⟩
                have hD : D[i]? = some bb := by rw [upto_at HU.out, hbb, HFl.out i t q hq]
                have HN0 : Hid (Upto (L.map (fl (t + 1))) (L.map (fl t)) (D.set i (bb && decide (0 < x.sn))) (i + 1)) := by
                  have e : (bb && decide (0 < x.sn)) = fl (t + 1) q := by rw [fl_succ, hbb, hxn]
                  rw [e]
                  exact upto_next HU.out (HFl.out i (t + 1) q hq)
                have Zb := Blk.new wr (QC 0 0 (.slice none 0 0)) 41
                have dA := (Below.refl wr.heap.size wr).alloc (Nat.le_refl _) (.cells (QC 0 0 (.slice none 0 0)) 41)
                obtain ⟨sh, sv, xa, xn, xc⟩ := x
                dsimp only [Qv.cells, Qv.sl] at HN0 hx
                clear HQ HFl HU hq hxn HL HSl HRr hX2 hr2 hbb
                go_upto_region 23 with (first
                  | (refine rd_load QK _ rfl _ rfl b1 o1 X2 hx1 i _ rfl rfl _ hx (QC sh sv (.slice xa xn xc)) rfl _ Try.underlying41 rfl ?_)
                  | (refine blk_store _ rfl 41 _ _ rfl wr.heap.size (QC sh sv (.slice xa xn xc)) rfl rfl _ _ Zb 3 qv_info rfl rfl (qc_one _ _ _ _ _) ?_; intro W3 k3 p3))
                have z := p3.below dA (Nat.le_refl _)
                replace O8 := O8.kept z
                replace O9 := O9.kept z
                replace TN := TN.below z
                replace bel := bel.trans (z.mono bel.size)
                clear Zb dA p3 hx1 z hx
                generalize wr.heap.size = bx at *
                have ck := k3.cell
                cases bb
                · have HN : Hid (Upto (L.map (fl (t + 1))) (L.map (fl t)) (D.set i false) (i + 1)) := HN0.out
                  clear HN0
                  obtain ⟨O9', fz, cz0⟩ := put1 rfl O9 hD false (.bool false) rfl
                  have cz : W3.cell? ⟨g9, i, none⟩ = some (.bool false) := cz0
                  clear cz0
                  have u1 := but_setCell W3 g9 i (.bool false)
                  have O8' := O8.but u1 (kinds_ne' O8 O9 (by decide) rfl)
                  have TN' := (TN.swap.but u1).swap
                  have bel' := u1.below bel hg9
                  clear O8 O9 TN bel k3 hD u1
                  go_wp2_with fail
                  go_roundw
                  case rel => exact ⟨i + 1, _, by go_num, by omega, HN, O9', O8', TN', bel'⟩
                  case measure => simp [intOf]; omega
                · have HN : Hid (Upto (L.map (fl (t + 1))) (L.map (fl t)) (D.set i (decide (0 < xn))) (i + 1)) := by
                    have := HN0.out
                    rwa [Bool.true_and] at this
                  clear HN0
                  obtain ⟨O9', fz, cz0⟩ := put1 rfl O9 hD (decide (0 < xn)) (.bool (decide (0 < xn))) rfl
                  have cz : W3.cell? ⟨g9, i, none⟩ = some (.bool true) := cz0
                  clear cz0
                  have u1 := but_setCell W3 g9 i (.bool (decide (0 < xn)))
                  have O8' := O8.but u1 (kinds_ne' O8 O9 (by decide) rfl)
                  have TN' := (TN.swap.but u1).swap
                  have bel' := u1.below bel hg9
                  clear O8 O9 TN bel k3 hD u1
                  go_wp2_with fail
                  go_roundw
                  case rel => exact ⟨i + 1, _, by go_num, by omega, HN, O9', O8', TN', bel'⟩
                  case measure => simp [intOf]; omega
end Go.Proofs.Ytbhejjpkmnldhaa.tu
