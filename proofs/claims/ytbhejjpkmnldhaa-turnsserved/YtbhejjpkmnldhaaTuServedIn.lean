/- The walk through custkeep.TurnsServed. -/
import Derived.Test.YtbhejjpkmnldhaaTuRounds
import Derived.Test.YtbhejjpkmnldhaaTuLives
namespace Go.Proofs.Ytbhejjpkmnldhaa.tu
open Go.ChangeShapes Go.WideShapes Go.ChangeAt Go.RowKit Go.BigFrame
open Go.Proofs.Ytbhejjpkmnldhaa Go.Proofs.Ytbhejjpkmnldhaa.boxes Go.Proofs.Ytbhejjpkmnldhaa.rwr Go.Proofs.Ytbhejjpkmnldhaa.rwat
open Go.Proofs.Ytbhejjpkmnldhaa.rws (Knd Own)

theorem served_early (v : Value) (L : List Qu) (k : Int) (w : World) (h : TRd w v L) (hb : chk L ≠ 0 ∨ k < 0 ∨ 100 < k) : Calls Try.prog 6 #[v, .int .i64 k] w fun e w' => e = .returned (.bool true) ∧ Below w.heap.size w w' := by
  have b0 := Below.refl w.heap.size w
  have LV := fun u => lives_any u
  have CK := fun u hu => check_any v L u hu
  obtain ⟨sa, sc, rfl⟩ := h.form
  by_cases hc : chk L = 0
  · rw [hc] at CK
    by_cases hk : k < 0
    · clear hb hc
      generalize L.length = n at *
      go_enter Try.func6, Try.ntmps6
      go_wp2_with fail
      refine (LV _).mono ?_
      rintro e w1 ⟨rfl, z⟩
      have C := CK w1 (h.below z)
      replace b0 := b0.trans (z.mono b0.size)
      clear z CK
      go_wp2_with fail
      refine C.mono ?_
      rintro e w2 ⟨rfl, z⟩
      replace b0 := b0.trans (z.mono b0.size)
      clear z C
      go_wp2_with fail
      refine (LV _).mono ?_
      rintro e w3 ⟨rfl, z⟩
      replace b0 := b0.trans (z.mono b0.size)
      go_wp2_with fail
      go_ret
      exact ⟨rfl, b0⟩
    · have hk2 : 100 < k := by omega
      clear hb hc
      generalize L.length = n at *
      go_enter Try.func6, Try.ntmps6
      go_wp2_with fail
      refine (LV _).mono ?_
      rintro e w1 ⟨rfl, z⟩
      have C := CK w1 (h.below z)
      replace b0 := b0.trans (z.mono b0.size)
      clear z CK
      go_wp2_with fail
      refine C.mono ?_
      rintro e w2 ⟨rfl, z⟩
      replace b0 := b0.trans (z.mono b0.size)
      clear z C
      go_wp2_with fail
      refine (LV _).mono ?_
      rintro e w3 ⟨rfl, z⟩
      replace b0 := b0.trans (z.mono b0.size)
      go_wp2_with fail
      go_ret
      exact ⟨rfl, b0⟩
  · have hc2 : (chk L != 0) = true := by simpa using hc
    clear hb
    generalize chk L = c at *
    generalize L.length = n at *
    go_enter Try.func6, Try.ntmps6
    go_wp2_with fail
    refine (LV _).mono ?_
    rintro e w1 ⟨rfl, z⟩
    have C := CK w1 (h.below z)
    replace b0 := b0.trans (z.mono b0.size)
    clear z CK
    go_wp2_with fail
    refine C.mono ?_
    rintro e w2 ⟨rfl, z⟩
    replace b0 := b0.trans (z.mono b0.size)
    clear z C
    go_wp2_with fail
    refine (LV _).mono ?_
    rintro e w3 ⟨rfl, z⟩
    replace b0 := b0.trans (z.mono b0.size)
    go_wp2_with fail
    go_ret
    exact ⟨rfl, b0⟩
/-- what is known of a queue behind n rounds -/
structure Sv (L : List Qu) (n i : Nat) (q : Qu) : Prop where
  fine : Fine q
  at_ : L[i]? = some q
  full : fl n q = true → sm n q = (n : Int) * q.sh + q.sv - (it n q).sv
  sv0 : 0 ≤ (it n q).sv
  sv1 : (it n q).sv ≤ 1000000
  m0 : 0 ≤ (n : Int) * q.sh
  m1 : (n : Int) * q.sh ≤ 100000000
  first : ∀ x r, q.l = x :: r → (x - q.sv + q.sh - 1).tdiv q.sh ≤ (n : Int) → sm n q ≠ 0
theorem sv_of {L : List Qu} (hc : chk L = 0) {n i : Nat} (hn : n ≤ 100) {q : Qu} (hq : L[i]? = some q) : Sv L n i q := by
  have f := (chk_zero.1 hc).2 q (List.mem_of_getElem? hq)
  have g := it_fine f n
  have s0 := f.sh0
  have s1 := f.sh1
  have a0 : (0 : Int) * q.sh ≤ (n : Int) * q.sh := Int.mul_le_mul_of_nonneg_right (by omega) (by omega)
  have a1 : (n : Int) * q.sh ≤ (n : Int) * 1000000 := Int.mul_le_mul_of_nonneg_left s1 (by omega)
  exact ⟨f, hq, fun h => sm_full f n (fl_ne h), g.sv0, g.svm, by omega, by omega, fun x r e h => served_fact f e n h⟩
set_option maxRecDepth 20000 in
set_option maxHeartbeats 8000000 in
theorem served_main (v : Value) (L : List Qu) (n : Nat) (w : World) (h : TRd w v L) (hc : chk L = 0) (hn : n ≤ 100) : Calls Try.prog 6 #[v, .int .i64 (n : Int)] w fun e w' => e = .returned (.bool true) ∧ Below w.heap.size w w' := by
  have b0 := Below.refl w.heap.size w
  have LV := lives_any w
  have CK := fun u hu => check_any v L u hu
  rw [hc] at CK
  have CR := fun u hu => rounds_any v L n u hu hc hn
  have HS : Hid (∀ i q, L[i]? = some q → Sv L n i q) := fun i q hq => sv_of hc hn hq
  have HQ : Hid (∀ i, i < L.length → ∃ q, L[i]? = some q) := fun i hi => ⟨_, List.getElem?_eq_getElem hi⟩
  have HL : Hid ((rr n L).length = L.length) := rr_len n L
  have HFl : Hid (∀ (i : Nat) q, L[i]? = some q → (L.map (fl n))[i]? = some (fl n q) ∧ (L.map (sm n))[i]? = some (sm n q) ∧ (rr n L)[i]? = some (it n q)) := fun i q h => ⟨fl_at h, sm_at h, rr_at h⟩
  have hlen := h.len
  have n0 : ¬ (n : Int) < 0 := by omega
  have n1 : ¬ (100 : Int) < (n : Int) := by omega
  have HSl : Hid ((L.map (sm n)).length = L.length ∧ (L.map (fl n)).length = L.length) := ⟨List.length_map _, List.length_map _⟩
  obtain ⟨sa, sc, e_v⟩ := h.form
  subst e_v
  have HLm : Hid (L.length = L.length) := rfl
  obtain ⟨m, hm⟩ : ∃ m, m = L.length := ⟨_, rfl⟩
  rw [← hm] at h CK CR HQ HL HSl hlen ⊢
  have HM : Hid (m = L.length) := hm
  clear hm hc hn HLm
  go_enter Try.func6, Try.ntmps6
  go_wp2_with fail
  refine LV.mono ?_
  rintro e w1 ⟨rfl, z⟩
  replace h := h.below z
  replace b0 := b0.trans (z.mono b0.size)
  clear z LV
  have C := CK w1 h
  clear CK
  go_wp2_with fail
  refine C.mono ?_
  rintro e w2 ⟨rfl, z⟩
  replace h := h.below z
  replace b0 := b0.trans (z.mono b0.size)
  clear z C
  have C := CR w2 h
  clear CR
  go_wp2_with fail
  refine C.mono ?_
  rintro e w3 ⟨v1, s1, f1, rfl, T1, O8, O9, z⟩
  replace h := h.below z
  replace b0 := b0.trans (z.mono b0.size)
  have T0 := h
  clear z C
  obtain ⟨ta, tc, e_1⟩ := T1.form
  rw [HL.out] at e_1
  subst e_1
  obtain ⟨ga, gc, e_2⟩ := (Own.rd O8).form
  rw [HSl.out.1] at e_2
  subst e_2
  obtain ⟨ha, hcp, e_3⟩ := (Own.rd O9).form
  rw [HSl.out.2] at e_3
  subst e_3
  have R8 := Own.rd O8
  have R9 := Own.rd O9
  clear O8 O9
  obtain ⟨X, hr, hXl, hX⟩ := h
  obtain ⟨Y, hrY, hYl, hY⟩ := T1
  have HX : Hid (∀ u, Below w3.heap.size w3 u → 0 < m → ∃ b off, sa = some ⟨b, off, none⟩ ∧ b < u.heap.size ∧ ∀ j x, X[j]? = some x → ∀ i, i < QK.k → u.cell? ⟨b, off + j * QK.k + i, none⟩ = (QK.enc x)[i]?) := fun u hu hp => rd_spot (hr.below hu) (by rw [hXl, ← HM.out]; exact hp)
  have HY : Hid (∀ u, Below w3.heap.size w3 u → 0 < m → ∃ b off, ta = some ⟨b, off, none⟩ ∧ b < u.heap.size ∧ ∀ (j : Nat) y, Y[j]? = some y → u.cell? ⟨b, off + j * 3 + 1, none⟩ = some (.int .i64 y.sv)) := fun u hu hp => by
    obtain ⟨b, off, e, hb, -, hc⟩ := q_cells (hrY.below hu) (by rw [hYl, HL.out]; exact hp)
    exact ⟨b, off, e, hb, fun j y hj => (hc j y hj).2.1⟩
  have H8 : Hid (∀ u, Below w3.heap.size w3 u → 0 < m → ∃ b off, ga = some ⟨b, off, none⟩ ∧ b < u.heap.size ∧ ∀ (j : Nat) y, (L.map (sm n))[j]? = some y → u.cell? ⟨b, off + j, none⟩ = some (.int .i64 y)) := fun u hu hp => int_cells (R8.below hu) (by rw [HSl.out.1]; exact hp)
  have H9 : Hid (∀ u, Below w3.heap.size w3 u → 0 < m → ∃ b off, ha = some ⟨b, off, none⟩ ∧ b < u.heap.size ∧ ∀ (j : Nat) y, (L.map (fl n))[j]? = some y → u.cell? ⟨b, off + j, none⟩ = some (.bool y)) := fun u hu hp => by
    obtain ⟨b, off, e, hb, hx⟩ := rd_spot (R9.below hu) (by rw [HSl.out.2]; exact hp)
    refine ⟨b, off, e, hb, fun j x hj => ?_⟩
    have := hx j x hj 0 (by decide)
    simpa [BK] using this
  have HG : Hid (∀ (i : Nat) (q : Qu), L[i]? = some q → ∃ (x y : Qv), X[i]? = some x ∧ Y[i]? = some y ∧ x.sh = q.sh ∧ x.sv = q.sv ∧ y.sv = (it n q).sv ∧ Rd NK w3 x.sl q.l) := fun i q hi => by
    have hlt := (List.getElem?_eq_some_iff.1 hi).1
    obtain ⟨a, b, c⟩ := hX i _ q (List.getElem?_eq_getElem (by omega)) hi
    obtain ⟨d, e, f⟩ := hY i _ _ (List.getElem?_eq_getElem (by rw [hYl, HL.out, HM.out]; exact hlt)) (HFl.out i q hi).2.2
    exact ⟨X[i]'(by omega), Y[i]'(by rw [hYl, HL.out, HM.out]; exact hlt), List.getElem?_eq_getElem _, List.getElem?_eq_getElem _, a, b, e, c⟩
  clear hr hXl hX hrY hYl hY R8 R9 T0 HL HSl HM
  go_wp2_with fail
  go_loopw [46] (fun s46 wr => ∃ i : Nat, s46 = .int .i64 (i : Int) ∧ i ≤ m ∧ Below w3.heap.size w3 wr) (fun s _ => m - (intOf s).toNat)
  case atStart => exact ⟨0, rfl, Nat.zero_le _, Below.refl _ _⟩
  case round =>
    obtain ⟨i, rfl, hi, bel⟩ := hrel
    by_cases hlt : i < m
    rotate_left
    · have hlt' : ¬ (i : Int) < (m : Int) := by omega
      have b5 := b0.trans (bel.mono b0.size)
      clear HX HY H8 H9 HG HS HQ HFl
      go_wp2_with fail
      go_ret
      exact ⟨rfl, b5⟩
    have hlt' : (i : Int) < (m : Int) := by omega
    obtain ⟨q, hq⟩ := HQ.out i hlt
    have S := HS.out i q hq
    obtain ⟨l9, l8, _⟩ := HFl.out i q hq
    obtain ⟨x, y, hx, hy, q1, q2, q3, rdx⟩ := HG.out i q hq
    obtain ⟨b1, o1, rfl, hb1, hx1⟩ := HX.out wr bel (by omega)
    have f0 := S.fine.sh0
    have f1 := S.fine.sh1
    have f2 := S.fine.sv0
    have f3 := S.fine.svm
    have f4 := S.sv0
    have f5 := S.sv1
    have f6 := S.m0
    have f7 := S.m1
    have HFull : Hid (fl n q = true → sm n q = (n : Int) * q.sh + q.sv - (it n q).sv) := S.full
    have HFst : Hid (∀ x r, q.l = x :: r → (x - q.sv + q.sh - 1).tdiv q.sh ≤ (n : Int) → sm n q ≠ 0) := S.first
    have HSz : Hid (∀ x r, q.l = x :: r → 1 ≤ x ∧ x ≤ 1000000 ∧ q.sv < x) := fun x r e => by
      obtain ⟨a, b⟩ := S.fine.sz x (by rw [e]; simp)
      exact ⟨a, b, S.fine.hd x r e⟩
    have HHd : Hid (∀ u, Below w3.heap.size w3 u → 0 < q.l.length → ∃ b off, x.sa = some ⟨b, off, none⟩ ∧ b < u.heap.size ∧ ∀ (j : Nat) z, q.l[j]? = some z → u.cell? ⟨b, off + j, none⟩ = some (.int .i64 z)) := fun u hu hp => int_cells (rdx.below hu) hp
    have hxn := rd_n rdx
    have hxl := rd_len rdx
    rw [← q1] at f0 f1 f6 f7 HFull HFst
    rw [← q2] at f2 f3 HFull HFst HSz
    have Zb := Blk.new wr (QC 0 0 (.slice none 0 0)) 41
    have dA := (Below.refl wr.heap.size wr).alloc (Nat.le_refl _) (.cells (QC 0 0 (.slice none 0 0)) 41)
    obtain ⟨sh, sv, xa, xn, xc⟩ := x
    dsimp only [Qv.cells, Qv.sl] at *
    obtain ⟨svn, hsvn⟩ : ∃ z, z = (it n q).sv := ⟨_, rfl⟩
    rw [← hsvn] at f4 f5 HFull
    have HYs : Hid (y.sv = svn) := by show _ = _; rw [q3, hsvn]
    clear HX HG HS HQ HFl S hq q1 q2 q3 rdx hsvn
    generalize fl n q = bb at *
    generalize sm n q = ss at *
    have HQN : Hid (xn = q.l.length) := hxn
    rw [← hxn] at HHd hxl
    clear hxn
    generalize q.l = l at *
    go_upto_region 9 with (first
      | (refine rd_load QK _ rfl _ rfl b1 o1 X hx1 i _ rfl rfl _ hx (QC sh sv (.slice xa xn xc)) rfl _ Try.underlying41 rfl ?_)
      | (refine blk_store _ rfl 41 _ _ rfl wr.heap.size (QC sh sv (.slice xa xn xc)) rfl rfl _ _ Zb 3 qv_info rfl rfl (qc_one _ _ _ _ _) ?_; intro W3 k3 p3))
    have z := p3.below dA (Nat.le_refl _)
    replace bel := bel.trans (z.mono bel.size)
    clear Zb dA p3 hx1 z hx
    generalize wr.heap.size = bx at *
    dsimp only [Act.put]
    go_cut [74] (fun c wx => c = .bool false ∧ Below W3.heap.size W3 wx)
    case first =>
      obtain ⟨b5, o5, rfl, hb5, hc5⟩ := HY.out W3 bel (by omega)
      obtain ⟨b6, o6, rfl, hb6, hc6⟩ := H8.out W3 bel (by omega)
      obtain ⟨b7, o7, rfl, hb7, hc7⟩ := H9.out W3 bel (by omega)
      have c5 := hc5 i y hy
      rw [HYs.out] at c5
      have c6 := hc6 i _ l8
      have c7 := hc7 i _ l9
      have nn := ab.ne W3
      have a5 := ab.cell c5 hb5
      have a6 := ab.cell c6 hb6
      have a7 := ab.cell c7 hb7
      have ak := ab.cells k3
      have w1 : IntKind.i64.wrap ((n : Int) * sh) = (n : Int) * sh := by rw [IntKind.wrap_i64]; omega
      have w2 : IntKind.i64.wrap ((n : Int) * sh + sv) = (n : Int) * sh + sv := by rw [IntKind.wrap_i64]; omega
      have w3 : IntKind.i64.wrap ((n : Int) * sh + sv - svn) = (n : Int) * sh + sv - svn := by rw [IntKind.wrap_i64]; omega
      clear HY H8 H9 HFst HSz HHd hc5 hc6 hc7 l8 l9 hy c5 c6 c7 HYs HQN
      cases bb
      · clear HFull
        refine ab.region (by kernel_rfl) (by kernel_rfl) ?_
        repeat (go_big_quiet_step (fail))
        refine wpQuiet_nil ?_
        intro _ hx
        obtain ⟨u, rfl⟩ := hx
        simp only [Exit.then]
        go_step
        go_meet
        exact ⟨rfl, u.h⟩
      · have hs := HFull.out rfl
        subst hs
        clear HFull
        refine ab.region (by kernel_rfl) (by kernel_rfl) ?_
        repeat (go_big_quiet_step (fail))
        refine wpQuiet_nil ?_
        intro _ hx
        obtain ⟨u, rfl⟩ := hx
        simp only [Exit.then]
        go_step
        go_meet
        exact ⟨by simp, u.h⟩
    case rest =>
      obtain ⟨rfl, z⟩ := hcut
      replace bel := bel.trans (z.mono bel.size)
      replace k3 := k3.below z k3.lt
      clear z HFull
      go_upto_region 11 with fail
      go_cut [103] (fun c wx => c = .bool false ∧ Below wc.heap.size wc wx)
      case first =>
        obtain ⟨b6, o6, rfl, hb6, hc6⟩ := H8.out wc bel (by omega)
        have c6 := hc6 i _ l8
        have nn := ab.ne wc
        have a6 := ab.cell c6 hb6
        have ak := ab.cells k3
        clear HY H8 H9 hc6 l8 l9 hy c6 HYs
        by_cases h0 : xn = 0
        · subst h0
          clear HFst HSz HHd HQN
          refine ab.region (by kernel_rfl) (by kernel_rfl) ?_
          repeat (go_big_quiet_step (fail))
          refine wpQuiet_nil ?_
          intro _ hx
          obtain ⟨u, rfl⟩ := hx
          simp only [Exit.then]
          go_step
          go_meet
          exact ⟨rfl, u.h⟩
        · have h0' : (0 : Int) < (xn : Int) := by omega
          have h0n : 0 < xn := by omega
          obtain ⟨y0, r, hyr⟩ := List.exists_cons_of_ne_nil (show l ≠ [] from fun e => by have := HQN.out; rw [e] at this; exact h0 this)
          obtain ⟨z0, z1, z2⟩ := HSz.out y0 r hyr
          obtain ⟨b5, o5, rfl, hb5, hc5⟩ := HHd.out wc bel (by omega)
          have c5 := hc5 0 y0 (by rw [hyr]; rfl)
          rw [Nat.add_zero] at c5
          have a5 := ab.cell c5 hb5
          have HF2 : Hid ((y0 - sv + sh - 1).tdiv sh ≤ (n : Int) → ss ≠ 0) := HFst.out y0 r hyr
          have t0 : 0 ≤ (y0 - sv + sh - 1).tdiv sh ∧ (y0 - sv + sh - 1).tdiv sh ≤ 3000000 := by
            rw [Int.tdiv_eq_ediv_of_nonneg (by omega)]
            refine ⟨Int.ediv_nonneg (by omega) (by omega), Int.le_trans (Int.ediv_le_self _ (by omega)) (by omega)⟩
          have w1 : IntKind.i64.wrap (y0 - sv) = y0 - sv := by rw [IntKind.wrap_i64]; omega
          have w2 : IntKind.i64.wrap (y0 - sv + sh) = y0 - sv + sh := by rw [IntKind.wrap_i64]; omega
          have w3 : IntKind.i64.wrap (y0 - sv + sh - 1) = y0 - sv + sh - 1 := by rw [IntKind.wrap_i64]; omega
          have w4 : IntKind.i64.wrap ((y0 - sv + sh - 1).tdiv sh) = (y0 - sv + sh - 1).tdiv sh := by rw [IntKind.wrap_i64]; omega
          have d0 : ¬ sh = 0 := by omega
          clear HFst HSz HHd HQN hc5 c5 hyr
          by_cases hd : (y0 - sv + sh - 1).tdiv sh ≤ (n : Int)
          · have hs := HF2.out hd
            clear HF2
            refine ab.region (by kernel_rfl) (by kernel_rfl) ?_
            repeat (go_big_quiet_step (fail))
            refine wpQuiet_nil ?_
            intro _ hx
            obtain ⟨u, rfl⟩ := hx
            simp only [Exit.then]
            go_step
            go_meet
            exact ⟨by simp [hs], u.h⟩
          · clear HF2
            refine ab.region (by kernel_rfl) (by kernel_rfl) ?_
            repeat (go_big_quiet_step (fail))
            refine wpQuiet_nil ?_
            intro _ hx
            obtain ⟨u, rfl⟩ := hx
            simp only [Exit.then]
            go_step
            go_meet
            exact ⟨rfl, u.h⟩
      case rest =>
        obtain ⟨rfl, z⟩ := hcut
        replace bel := bel.trans (z.mono bel.size)
        clear HY H8 H9 HFst HSz HHd HQN l8 l9 hy HYs k3 z
        go_wp2_with fail
        go_roundw
        case rel => exact ⟨i + 1, by go_num, by omega, bel⟩
        case measure => simp [intOf]; omega
theorem served_walk (v : Value) (L : List Qu) (k : Int) (w : World) (h : TRd w v L) : Calls Try.prog 6 #[v, .int .i64 k] w fun e w' => e = .returned (.bool true) ∧ Below w.heap.size w w' := by
  by_cases hb : chk L ≠ 0 ∨ k < 0 ∨ 100 < k
  · exact served_early v L k w h hb
  · obtain ⟨n, rfl⟩ : ∃ n : Nat, k = (n : Int) := ⟨k.toNat, by omega⟩
    exact served_main v L n w h (by omega) (by omega)
end Go.Proofs.Ytbhejjpkmnldhaa.tu
