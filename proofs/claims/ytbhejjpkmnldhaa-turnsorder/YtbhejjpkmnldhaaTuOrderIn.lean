/- The walk through custkeep.TurnsOrder. -/
import Derived.Test.YtbhejjpkmnldhaaTuRows
import Derived.Test.YtbhejjpkmnldhaaTuLives
import Derived.Test.YtbhejjpkmnldhaaTuRef
namespace Go.Proofs.Ytbhejjpkmnldhaa.tu
open Go.ChangeShapes Go.WideShapes Go.ChangeAt Go.RowKit Go.BigFrame
open Go.Proofs.Ytbhejjpkmnldhaa Go.Proofs.Ytbhejjpkmnldhaa.boxes Go.Proofs.Ytbhejjpkmnldhaa.rwr Go.Proofs.Ytbhejjpkmnldhaa.rwat
open Go.Proofs.Ytbhejjpkmnldhaa.rws (Knd Own)

theorem order_early (v : Value) (L : List Qu) (k : Int) (w : World) (h : TRd w v L) (hb : chk L ≠ 0 ∨ k < 0 ∨ 100 < k) : Calls Try.prog 7 #[v, .int .i64 k] w fun e w' => e = .returned (.bool true) ∧ Below w.heap.size w w' := by
  have b0 := Below.refl w.heap.size w
  have LV := fun u => lives_any u
  have CK := fun u hu => check_any v L u hu
  obtain ⟨sa, sc, rfl⟩ := h.form
  by_cases hc : chk L = 0
  · rw [hc] at CK
    by_cases hk : k < 0
    · clear hb hc
      generalize L.length = n at *
      go_enter Try.func7, Try.ntmps7
      go_wp2_with fail
      refine (LV _).mono ?_
      rintro e w1 ⟨rfl, z⟩
      have C := CK w1 (h.below z)
      replace b0 := b0.trans (z.mono b0.size)
      clear z CK
      go_wp2_with fail
      refine C.mono ?_
      rintro e w2 ⟨rfl, z⟩
      replace b0 := b0.trans (z.mono b0.size)
      clear z C
      go_wp2_with fail
      refine (LV _).mono ?_
      rintro e w3 ⟨rfl, z⟩
      replace b0 := b0.trans (z.mono b0.size)
      go_wp2_with fail
      go_ret
      exact ⟨rfl, b0⟩
    · have hk2 : 100 < k := by omega
      clear hb hc
      generalize L.length = n at *
      go_enter Try.func7, Try.ntmps7
      go_wp2_with fail
      refine (LV _).mono ?_
      rintro e w1 ⟨rfl, z⟩
      have C := CK w1 (h.below z)
      replace b0 := b0.trans (z.mono b0.size)
      clear z CK
      go_wp2_with fail
      refine C.mono ?_
      rintro e w2 ⟨rfl, z⟩
      replace b0 := b0.trans (z.mono b0.size)
      clear z C
      go_wp2_with fail
      refine (LV _).mono ?_
      rintro e w3 ⟨rfl, z⟩
      replace b0 := b0.trans (z.mono b0.size)
      go_wp2_with fail
      go_ret
      exact ⟨rfl, b0⟩
  · have hc2 : (chk L != 0) = true := by simpa using hc
    clear hb
    generalize chk L = c at *
    generalize L.length = n at *
    go_enter Try.func7, Try.ntmps7
    go_wp2_with fail
    refine (LV _).mono ?_
    rintro e w1 ⟨rfl, z⟩
    have C := CK w1 (h.below z)
    replace b0 := b0.trans (z.mono b0.size)
    clear z CK
    go_wp2_with fail
    refine C.mono ?_
    rintro e w2 ⟨rfl, z⟩
    replace b0 := b0.trans (z.mono b0.size)
    clear z C
    go_wp2_with fail
    refine (LV _).mono ?_
    rintro e w3 ⟨rfl, z⟩
    replace b0 := b0.trans (z.mono b0.size)
    go_wp2_with fail
    go_ret
    exact ⟨rfl, b0⟩
theorem fold_len (M : Nat) : ∀ (l : List Sn) (S : List (List Int)), (∀ c ∈ S, c.length ≤ M) → ∀ c ∈ l.foldl (stp fun (a : List Int) (b : Int) => a ++ [b]) S, c.length ≤ M + l.length
  | [], S, hS, c, hc => hS c hc
  | p :: l, S, hS, c, hc => by
    rw [List.foldl_cons] at hc
    have h := fold_len (M + 1) l _ (fun d hd => ?_) c hc
    · rw [List.length_cons]; omega
    · unfold stp at hd
      obtain ⟨i, hi, e⟩ := List.mem_iff_getElem.1 hd
      rw [List.getElem_modify] at e
      rw [List.length_modify] at hi
      have hm := hS _ (List.getElem_mem hi)
      by_cases hp : p.i = i
      · rw [if_pos hp] at e
        dsimp only at e
        rw [← e, List.length_append]
        simp
        omega
      · rw [if_neg hp] at e
        rw [← e]
        omega
set_option maxRecDepth 20000 in
set_option maxHeartbeats 16000000 in
theorem order_main (v : Value) (L : List Qu) (n : Nat) (w : World) (h : TRd w v L) (hc : chk L = 0) (hn : n ≤ 100) : Calls Try.prog 7 #[v, .int .i64 (n : Int)] w fun e w' => e = .returned (.bool true) ∧ Below w.heap.size w w' := by
  have b0 := Below.refl w.heap.size w
  have LV := lives_any w
  have CK := fun u hu => check_any v L u hu
  rw [hc] at CK
  obtain ⟨hL16, hFine⟩ := chk_zero.1 hc
  have HCh : Hid (∀ t, chk (rr t L) = 0) := chk_rr hc
  have CR := fun t v u (hu : TRd u v (rr t L)) => round_ok v (rr t L) u hu (HCh.out t)
  have CT := fun t v u (hu : TRd u v (rr t L)) => right_any v (rr t L) u hu
  have HS : Hid (∀ t, rnd (rr t L) = rr (t + 1) L) := fun t => (rr_succ t L).symm
  have HL : Hid (∀ t, (rr t L).length = L.length) := fun t => rr_len t L
  have HM : Hid (∀ t p, p ∈ snt (rr t L) → p.i < L.length ∧ 1 ≤ p.n ∧ p.n ≤ 1000000) := fun t p hp => by
    have := snt_mem (HCh.out t) p hp
    rwa [rr_len] at this
  have HMl : Hid (∀ t, (snt (rr t L)).length ≤ 3200) := fun t => snt_len (HCh.out t)
  have HF : Hid (∀ t, (snt (rr t L)).foldl (stp fun a b => a ++ [b]) (L.map (gn t)) = L.map (gn (t + 1))) := fun t => fold_rows t L
  have HB : Hid (∀ t, ∀ c ∈ L.map (gn t), c.length ≤ 200) := fun t c hc => by
    obtain ⟨q, hq, rfl⟩ := List.mem_map.1 hc
    exact Nat.le_trans (gn_len q t) (hFine q hq).len
  have HQ : Hid (∀ i, i < L.length → ∃ q, L[i]? = some q) := fun i hi => ⟨_, List.getElem?_eq_getElem hi⟩
  have HGi : Hid (∀ (i : Nat) q, L[i]? = some q → (L.map (gn n))[i]? = some (gn n q) ∧ (rr n L)[i]? = some (it n q) ∧ gn n q ++ (it n q).l = q.l ∧ q.l.length ≤ 200) := fun i q h => ⟨gn_at h, rr_at h, gn_it q n, (hFine q (List.mem_of_getElem? h)).len⟩
  have hr0 := rr_zero L
  have h0 : TRd w v (rr 0 L) := by rw [hr0]; exact h
  have HRz : Hid (∀ u B, Rows u B (List.replicate L.length ⟨none, 0, 0⟩) (L.map (gn 0))) := fun u B => Rows.zero u B L.length L rfl
  have HGl : Hid (∀ t, (L.map (gn t)).length = L.length) := fun t => List.length_map _
  have n0 : ¬ (n : Int) < 0 := by omega
  have n1 : ¬ (100 : Int) < (n : Int) := by omega
  obtain ⟨sa, sc, e_v⟩ := h.form
  subst e_v
  obtain ⟨m, hm⟩ : ∃ m, m = L.length := ⟨_, rfl⟩
  rw [← hm] at h CK HL HM HQ HRz HGl h0 hL16 ⊢
  have HLm : Hid (m = L.length) := hm
  have hm16 : m ≤ 9223372036854775807 := by omega
  clear hm hc hFine hr0
  go_enter Try.func7, Try.ntmps7
  go_wp2_with fail
  refine LV.mono ?_
  rintro e w1 ⟨rfl, z⟩
  replace h := h.below z
  replace b0 := b0.trans (z.mono b0.size)
  clear z LV
  have C := CK w1 h
  clear CK
  go_wp2_with fail
  refine C.mono ?_
  rintro e w2 ⟨rfl, z⟩
  replace h := h.below z
  replace b0 := b0.trans (z.mono b0.size)
  clear z C
  have h00 := h0.below b0
  clear h0
  have h := h00
  clear h00
  obtain ⟨wR, eR, OR, bR⟩ := make_run RK ⟨none, 0, 0⟩ rfl w2 w2.heap.size m (by show 24 * m ≤ _; omega) (by unfold maxLen; omega) (Nat.le_refl _)
  have eR : (Instr.makeSlice 50 (.int .i64 (m : Int)) (.int .i64 (m : Int))).run Try.prog w2 = .ok (.slice (some ⟨w2.heap.size, 0, none⟩) m m) wR := eR
  obtain ⟨X0, Q0⟩ := qs_of h
  have F0 : Off (.slice sa m sc) X0 (rr 0 L) w2.heap.size := Q0.fresh (Nat.le_refl _)
  have hgl := own_lt OR w2.heap.size rfl
  replace Q0 := Q0.below bR
  have b1 := b0.trans (bR.mono b0.size)
  have R0 : Rows wR wR.heap.size (List.replicate m ⟨none, 0, 0⟩) (L.map (gn 0)) := HRz.out _ _
  have N0 : Offs (.slice sa m sc) X0 (rr 0 L) (List.replicate m ⟨none, 0, 0⟩) := fun r hr g hg => by
    have e := (List.mem_replicate.1 hr).2
    subst e
    simp [Value.ownBlock] at hg
  have Ts := h
  have hw2 := b0.size
  clear HRz h
  go_wp2_with fail
  clear eR
  go_loopw [6, 35] (fun s6 s35 wr => ∃ (t : Nat) (ta : Option Addr) (tc : Nat) (X : List Qv) (R : List Sl), s6 = .slice ta m tc ∧ s35 = .int .i64 (t : Int) ∧ t ≤ n ∧ Qs wr (.slice ta m tc) X (rr t L) ∧ Offs (.slice ta m tc) X (rr t L) R ∧ Off (.slice ta m tc) X (rr t L) w2.heap.size ∧ Rows wr wR.heap.size R (L.map (gn t)) ∧ Own RK wr w2.heap.size (.slice (some ⟨w2.heap.size, 0, none⟩) m m) R ∧ Below w2.heap.size w2 wr ∧ wR.heap.size ≤ wr.heap.size) (fun _ s _ => n - (intOf s).toNat)
  case atStart => exact ⟨0, sa, sc, X0, _, rfl, rfl, Nat.zero_le _, Q0, N0, F0, R0, OR, bR, Nat.le_refl _⟩
  case round =>
    clear Q0 N0 F0 R0 OR b1 bR X0
    obtain ⟨t, ta, tc, X, R, rfl, rfl, ht, Q, N, Fo, Rw, OR, bel, hR⟩ := hrel
    by_cases htn : t < n
    · have htn' : (t : Int) < (n : Int) := by omega
      have C := CR t _ wr Q.trd
      rw [HS.out] at C
      have C2 := CT (t + 1)
      rw [HCh.out] at C2
      clear CR CT
      go_wp2_with fail
      refine C.mono ?_
      rintro e w3 ⟨v1, z1, rfl, T1, Z1, z⟩
      obtain ⟨X1, Q1, hoff⟩ := qs_to T1
      have N1 : Offs v1 X1 (rr (t + 1) L) R := fun r hr g hg => hoff g (Rw.lt hr g hg).2
      have F1 : Off v1 X1 (rr (t + 1) L) w2.heap.size := hoff _ (by omega)
      replace Rw := Rw.kept z
      replace OR := OR.kept z
      replace Z1 := Z1.mono (B' := w2.heap.size) bel.size
      have hR3 : wR.heap.size ≤ w3.heap.size := Nat.le_trans hR z.size
      replace bel := bel.trans (z.mono bel.size)
      clear C z Q N Fo T1 hoff hR
      obtain ⟨na, nc, e_v1⟩ := Q1.trd.form
      rw [HL.out] at e_v1
      subst e_v1
      obtain ⟨za, zc, e_z1⟩ := (Own.rd Z1).form
      obtain ⟨zn, hzn⟩ : ∃ zn, zn = (snt (rr t L)).length := ⟨_, rfl⟩
      rw [← hzn] at e_z1
      subst e_z1
      have HZn : Hid (zn = (snt (rr t L)).length) := hzn
      have hz32 : zn ≤ 3200 := by rw [hzn]; exact HMl.out t
      clear hzn
      have C := C2 _ w3 Q1.trd
      clear C2
      go_wp2_with fail
      refine C.mono ?_
      rintro e w4 ⟨rfl, z⟩
      replace Q1 := Q1.below z
      replace Rw := Rw.kept z
      replace OR := OR.kept z
      replace Z1 := Z1.kept z
      have hR4 : wR.heap.size ≤ w4.heap.size := Nat.le_trans hR3 z.size
      replace bel := bel.trans (z.mono bel.size)
      clear C z hR3
      have HMt : Hid (∀ (j : Nat) p, (snt (rr t L))[j]? = some p → p.i < m) := fun j p hp => (HM.out t p (List.mem_of_getElem? hp)).1
      have HFt : Hid ((snt (rr t L)).foldl (stp fun a b => a ++ [b]) (L.map (gn t)) = L.map (gn (t + 1))) := HF.out t
      have HBd : Hid (∀ j, ∀ c ∈ ((snt (rr t L)).take j).foldl (stp fun a b => a ++ [b]) (L.map (gn t)), c.length ≤ 200 + 3200) := fun j c hc => by
        have h1 := fold_len 200 ((snt (rr t L)).take j) (L.map (gn t)) (HB.out t) c hc
        have hl := HMl.out t
        rw [List.length_take] at h1
        omega
      have HLn : Hid (∀ j, (((snt (rr t L)).take j).foldl (stp fun a b => a ++ [b]) (L.map (gn t))).length = m) := fun j => by show _ = _; rw [folds_len, HGl.out t]
      clear HM HF HB HMl HCh HS
      generalize snt (rr t L) = M at *
      generalize hS0 : L.map (gn t) = S0 at *
      clear hS0
      go_wp2_with fail
      go_loopw [59] (fun s59 wr => ∃ (j : Nat) (R : List Sl), s59 = .int .i64 (j : Int) ∧ j ≤ zn ∧ Rows wr wR.heap.size R ((M.take j).foldl (stp fun a b => a ++ [b]) S0) ∧ Own RK wr w2.heap.size (.slice (some ⟨w2.heap.size, 0, none⟩) m m) R ∧ Own ZK wr w2.heap.size (.slice za zn zc) M ∧ Qs wr (.slice na m nc) X1 (rr (t + 1) L) ∧ Offs (.slice na m nc) X1 (rr (t + 1) L) R ∧ Below w2.heap.size w2 wr ∧ wR.heap.size ≤ wr.heap.size) (fun s _ => zn - (intOf s).toNat)
      case atStart => exact ⟨0, R, rfl, Nat.zero_le _, Rw, OR, Z1, Q1, N1, bel, hR4⟩
      case round =>
        clear Rw OR Z1 Q1 N1 bel hR4 R
        obtain ⟨j, R, rfl, hj, Rw, OR, Z1, Q1, N1, bel, hR⟩ := hrel
        by_cases hjl : j < zn
        · have hjl' : (j : Int) < (zn : Int) := by omega
          obtain ⟨p, hp⟩ : ∃ p, M[j]? = some p := ⟨M[j]'(by rw [← HZn.out]; exact hjl), List.getElem?_eq_getElem _⟩
          have p1 := HMt.out j p hp
          obtain ⟨b5, o5, rfl, hb5, hx5⟩ := s_cells (Own.rd Z1) (by rw [← HZn.out]; omega)
          obtain ⟨c, hc⟩ : ∃ c, ((M.take j).foldl (stp fun a b => a ++ [b]) S0)[p.i]? = some c := ⟨_, List.getElem?_eq_getElem (by rw [HLn.out]; exact p1)⟩
          obtain ⟨r, hr⟩ : ∃ r, R[p.i]? = some r := ⟨R[p.i]'(by rw [Rw.len, HLn.out]; exact p1), List.getElem?_eq_getElem _⟩
          have c1 := HBd.out j c (List.mem_of_getElem? hc)
          have HN : Hid (((M.take j).foldl (stp fun a b => a ++ [b]) S0).set p.i (c ++ [p.n]) = (M.take (j + 1)).foldl (stp fun a b => a ++ [b]) S0) := by show _ = _; rw [fold_next _ hp, stp_at _ hc]
          have Zb := Blk.new wr #[.int .i64 0, .int .i64 0] 34
          have dA := (Below.refl wr.heap.size wr).alloc (Nat.le_refl _) (.cells #[.int .i64 0, .int .i64 0] 34)
          obtain ⟨pi, pn⟩ := p
          dsimp only at p1 hc HN hr
          have e1 : ¬ (pi : Int) < 0 := by omega
          have e2 : ¬ (m : Int) ≤ (pi : Int) := by omega
          have e3 : (pi : Int) < (m : Int) := by omega
          clear HMt HFt HBd HLn HQ HGi HL HGl
          generalize (M.take j).foldl (stp fun a b => a ++ [b]) S0 = SS at *
          go_upto_region 13 with (first
            | (refine rd_load ZK _ rfl _ rfl b5 o5 M hx5 j _ rfl rfl _ hp (Sn.cells ⟨pi, pn⟩) rfl _ Try.underlying34 rfl ?_)
            | (refine blk_store _ rfl 34 _ _ rfl wr.heap.size (Sn.cells ⟨pi, pn⟩) rfl rfl _ _ Zb 2 sn_info rfl rfl (sn_one _) ?_; intro W3 k3 p3))
          have z := p3.below dA (Nat.le_refl _)
          replace Rw := Rw.kept z
          replace OR := OR.kept z
          replace Z1 := Z1.kept z
          replace Q1 := Q1.below z
          have hR3 : wR.heap.size ≤ W3.heap.size := Nat.le_trans hR z.size
          replace bel := bel.trans (z.mono bel.size)
          clear Zb dA p3 hx5 z hp hR
          generalize wr.heap.size = bx at *
          have ck := k3.cell
          go_upto_region 15 with fail
          have bW := (Below.refl W3.heap.size W3).alloc (Nat.le_refl _) (.cells #[.int .i64 pn] 3)
          obtain ⟨ra, rn, rc⟩ := r
          have oR := Rw.own pi _ c hr hc
          dsimp only [Sl.v] at oR
          have k4 : Blk (W3.alloc (.cells #[.int .i64 pn] 3)).drew bx (Sn.cells ⟨pi, pn⟩) 34 := k3.alloc _
          have ck4 := k4.cell
          have bWd : Below W3.heap.size W3 (W3.alloc (.cells #[.int .i64 pn] 3)).drew := bW.trans (Below.mono (ab.Ab.drew _) bW.size)
          have oR4 : Own NK (W3.alloc (.cells #[.int .i64 pn] 3)).drew wR.heap.size (.slice ra rn rc) c := oR.kept bWd
          have OR4 : Own RK (W3.alloc (.cells #[.int .i64 pn] 3)).drew w2.heap.size (.slice (some ⟨w2.heap.size, 0, none⟩) m m) R := OR.kept bWd
          have Rw4 : Rows (W3.alloc (.cells #[.int .i64 pn] 3)).drew wR.heap.size R SS := Rw.kept bWd
          have Z4 : Own ZK (W3.alloc (.cells #[.int .i64 pn] 3)).drew w2.heap.size (.slice (some ⟨b5, o5, none⟩) zn zc) M := Z1.kept bWd
          have Q4 : Qs (W3.alloc (.cells #[.int .i64 pn] 3)).drew (.slice na m nc) X1 (rr (t + 1) L) := Q1.below bWd
          have bel4 : Below w2.heap.size w2 (W3.alloc (.cells #[.int .i64 pn] 3)).drew := bel.trans (bWd.mono bel.size)
          have hR4 : wR.heap.size ≤ (W3.alloc (.cells #[.int .i64 pn] 3)).drew.heap.size := Nat.le_trans hR3 bWd.size
          have cr : W3.cell? ⟨w2.heap.size, pi, none⟩ = some (.slice ra rn rc) := (put1 rfl OR hr ⟨ra, rn, rc⟩ (.slice ra rn rc) rfl).2.2
          have cr4 : (W3.alloc (.cells #[.int .i64 pn] 3)).drew.cell? ⟨w2.heap.size, pi, none⟩ = some (.slice ra rn rc) := (put1 rfl OR4 hr ⟨ra, rn, rc⟩ (.slice ra rn rc) rfl).2.2
          have q1 : c.length + 1 ≤ 1000000000000 := by omega
          have q2 : (c.length + 1) * NK.by_ ≤ 140737488355328 := by show (c.length + 1) * 8 ≤ _; omega
          have ne4 := blk_ne oR4 k4 (by decide)
          have hkk := kinds_ne OR4 oR4 (by decide)
          have hzk := kinds_ne Z4 oR4 (by decide)
          have hz8 := fun (u : World) (o1 : Own ZK u w2.heap.size (.slice (some ⟨b5, o5, none⟩) zn zc) M) (o2 : Own RK u w2.heap.size (.slice (some ⟨w2.heap.size, 0, none⟩) m m) R) => kinds_ne' o1 o2 (by decide) (g := w2.heap.size) rfl
          clear bW bWd oR OR Rw Z1 Q1 bel k3 HZn
          go_region_law (refine step_at NK rfl (.tmp 80) (.tmp 83) rfl wR.heap.size (.slice ra rn rc) c (by simp [Act.eval]) oR4 W3.heap.size 1 pn 3 (by simp [Act.eval]) (Blk.new W3 _ _) q1 q2 hR4 ?_; intro v7 w7 o7 g7 x7; have oo := Only.of_app g7 x7; have k7 := oo.blk k4 ne4; have ck7 := k7.cell; obtain ⟨a7, c7, e7⟩ := (Own.rd o7).form; obtain ⟨n7, hn7⟩ : ∃ n7, n7 = (c ++ [pn]).length := ⟨_, rfl⟩; rw [← hn7] at e7; subst e7; clear hn7; have OR7 := own_grown OR4 g7 hkk; obtain ⟨OR8, fz, cz0⟩ := put1 rfl OR7 hr ⟨a7, n7, c7⟩ (.slice a7 n7 c7) rfl; have cz : w7.cell? ⟨w2.heap.size, pi, none⟩ = some (.slice ra rn rc) := cz0; clear cz0)
          all_goals
            obtain ⟨R', h1, h2, h3, h4, h5, h6, h7⟩ := row_done (s := ⟨a7, n7, c7⟩) (r := ⟨ra, rn, rc⟩) Rw4 OR4 Z4 Q4 N1 F1 bel4 hgl (Nat.le_refl _) hr hc o7 g7 x7 OR8
            have h8 := Nat.le_trans hR4 h7
            clear Rw4 OR4 Z4 Q4 N1 bel4 hR4 oR4 k4 ck4 cr4 hc hr ck cr o7 g7 x7 OR8 OR7 cz fz oo k7 ck7 h7 hkk hzk hz8 ne4
            dsimp only [Sl.v] at h1 h2 h3 h4 h6 h8
            generalize w7.setCell ⟨w2.heap.size, pi, none⟩ (.slice a7 n7 c7) = U at *
            go_wp2_with fail
            go_roundw
            case rel => exact ⟨j + 1, R', by go_num, by omega, by rw [← HN.out]; exact h1, h2, h3, h4, h5, h6, h8⟩
            case measure => simp [intOf]; omega
        · have hjl' : ¬ (j : Int) < (zn : Int) := by omega
          have ej : j = M.length := by rw [← HZn.out]; omega
          rw [ej, List.take_length, HFt.out] at Rw
          clear HMt HFt HBd HLn HZn Z1 ej
          go_wp2_with fail
          go_roundw
          case rel => exact ⟨t + 1, na, nc, X1, R, rfl, by go_num, by omega, Q1, N1, F1, Rw, OR, bel, hR⟩
          case measure => simp [intOf]; omega
    · have htn' : ¬ (t : Int) < (n : Int) := by omega
      have et : t = n := by omega
      subst et
      clear CR CT HS HM HF HB HMl HCh N Fo ht htn
      obtain ⟨V5, hV5⟩ : ∃ V, V = wr := ⟨_, rfl⟩
      subst hV5
      obtain ⟨XS, QS⟩ := qs_of (Ts.below bel)
      have HX : Hid (∀ u, Below V5.heap.size V5 u → 0 < m → ∃ b off, sa = some ⟨b, off, none⟩ ∧ b < u.heap.size ∧ ∀ j x, XS[j]? = some x → ∀ i, i < QK.k → u.cell? ⟨b, off + j * QK.k + i, none⟩ = (QK.enc x)[i]?) := fun u hu hp => by
        have e1 := QS.len
        have e2 := HL.out 0
        have e3 := HLm.out
        rw [HL.out] at e1
        obtain ⟨b, off, e, hb, hx⟩ := rd_spot (QS.rd.below hu) (by omega)
        exact ⟨b, off, e, hb, hx⟩
      have HXT : Hid (∀ u, Below V5.heap.size V5 u → 0 < m → ∃ b off, ta = some ⟨b, off, none⟩ ∧ b < u.heap.size ∧ ∀ (j : Nat) y, X[j]? = some y → u.cell? ⟨b, off + j * 3 + 2, none⟩ = some y.sl) := fun u hu hp => by
        have e1 := Q.len
        rw [HL.out] at e1
        obtain ⟨b, off, e, hb, -, hc⟩ := q_cells (Q.rd.below hu) (by omega)
        exact ⟨b, off, e, hb, fun j y hj => (hc j y hj).2.2⟩
      have HRW : Hid (∀ u, Below V5.heap.size V5 u → ∀ (i : Nat) r, R[i]? = some r → u.cell? ⟨w2.heap.size, i, none⟩ = some (.slice r.a r.n r.c)) := fun u hu i r hr => (put1 rfl (OR.kept hu) hr r (.slice r.a r.n r.c) rfl).2.2
      have hgV := own_lt OR w2.heap.size rfl
      have HG : Hid (∀ (i : Nat) (q : Qu), L[i]? = some q → ∃ (x y : Qv) (r : Sl), XS[i]? = some x ∧ X[i]? = some y ∧ R[i]? = some r ∧ Rd NK V5 x.sl q.l ∧ Rd NK V5 y.sl (it t q).l ∧ Own NK V5 wR.heap.size r.v (gn t q)) := fun i q hi => by
        have hlt := (List.getElem?_eq_some_iff.1 hi).1
        have e1 := QS.len
        have e2 := Q.len
        have e3 := Rw.len
        rw [HL.out] at e1 e2
        rw [HGl.out] at e3
        have e4 := HLm.out
        have q0 : (rr 0 L)[i]? = some q := rr_at (t := 0) hi
        exact ⟨XS[i]'(by omega), X[i]'(by omega), R[i]'(by omega), List.getElem?_eq_getElem _, List.getElem?_eq_getElem _, List.getElem?_eq_getElem _, (QS.each i _ q (List.getElem?_eq_getElem _) q0).2.2, (Q.each i _ _ (List.getElem?_eq_getElem _) (HGi.out i q hi).2.1).2.2, Rw.own i _ _ (List.getElem?_eq_getElem _) (HGi.out i q hi).1⟩
      have HGs : Hid (∀ (i : Nat) (q : Qu), L[i]? = some q → gn t q ++ (it t q).l = q.l ∧ q.l.length ≤ 200) := fun i q hi => (HGi.out i q hi).2.2
      clear Q Rw OR QS Ts HL HGl HGi HLm hR
      have hbV := bel.size
      go_wp2_with fail
      go_loopw [91] (fun s91 wr => ∃ i : Nat, s91 = .int .i64 (i : Int) ∧ i ≤ m ∧ Below V5.heap.size V5 wr) (fun s _ => m - (intOf s).toNat)
      case atStart => exact ⟨0, rfl, Nat.zero_le _, Below.refl _ _⟩
      case round =>
        obtain ⟨i, rfl, hi, bl⟩ := hrel
        by_cases hlt : i < m
        rotate_left
        · have hlt' : ¬ (i : Int) < (m : Int) := by omega
          have b5 := b0.trans ((bel.trans (bl.mono hbV)).mono b0.size)
          clear HX HXT HRW HG HQ HGs
          go_wp2_with fail
          go_ret
          exact ⟨rfl, b5⟩
        have hlt' : (i : Int) < (m : Int) := by omega
        obtain ⟨q, hq⟩ := HQ.out i hlt
        obtain ⟨x, y, r, hx, hy, hr, rdx, rdy, rdr⟩ := HG.out i q hq
        obtain ⟨hgi, hgl2⟩ := HGs.out i q hq
        obtain ⟨b1, o1, rfl, hb1, hx1⟩ := HX.out wr bl (by omega)
        have Zb := Blk.new wr (QC 0 0 (.slice none 0 0)) 41
        have dA := (Below.refl wr.heap.size wr).alloc (Nat.le_refl _) (.cells (QC 0 0 (.slice none 0 0)) 41)
        obtain ⟨sh, sv, xa, xn, xc⟩ := x
        obtain ⟨yh, yv, ya, yn, yc⟩ := y
        obtain ⟨ra, rn, rc⟩ := r
        dsimp only [Qv.sl, Sl.v] at rdx rdy rdr
        have HGI : Hid (gn t q ++ (it t q).l = q.l) := hgi
        have hg1 : (gn t q).length + (it t q).l.length ≤ 200 := by rw [← List.length_append, hgi]; exact hgl2
        clear HX HG HQ HGs hq hgi
        go_upto_region 22 with (first
          | (refine rd_load QK _ rfl _ rfl b1 o1 XS hx1 i _ rfl rfl _ hx (QC sh sv (.slice xa xn xc)) rfl _ Try.underlying41 rfl ?_)
          | (refine blk_store _ rfl 41 _ _ rfl wr.heap.size (QC sh sv (.slice xa xn xc)) rfl rfl _ _ Zb 3 qv_info rfl rfl (qc_one _ _ _ _ _) ?_; intro W3 k3 p3))
        have z := p3.below dA (Nat.le_refl _)
        replace bl := bl.trans (z.mono bl.size)
        clear Zb dA p3 hx1 z hx
        generalize wr.heap.size = bx at *
        dsimp only [Act.put]
        go_cut [110] (fun c wx => c = .bool false ∧ Below W3.heap.size W3 wx)
        case rest =>
          obtain ⟨rfl, z⟩ := hcut
          replace bl := bl.trans (z.mono bl.size)
          clear HXT HRW hy hr k3 rdx rdy rdr z
          go_wp2_with fail
          go_roundw
          case rel => exact ⟨i + 1, by go_num, by omega, bl⟩
          case measure => simp [intOf]; omega
        case first =>
          obtain ⟨b2, o2, rfl, hb2, hc2⟩ := HXT.out W3 bl (by omega)
          have c1 := HRW.out W3 bl i _ hr
          have c2 := hc2 i _ hy
          dsimp only [Qv.sl] at c1 c2
          have ck := k3.cell
          have HCF : ∀ u, Below W3.heap.size W3 u → u.cell? ⟨w2.heap.size, i, none⟩ = some (.slice ra rn rc) ∧ u.cell? ⟨b2, o2 + i * 3 + 2, none⟩ = some (.slice ya yn yc) ∧ ∀ o, u.cell? ⟨bx, o, none⟩ = (QC sh sv (.slice xa xn xc))[o]? := fun u hu => ⟨(hu.cell (p := ⟨w2.heap.size, i, none⟩) (by have := bl.size; show w2.heap.size < _; omega)).trans c1, (hu.cell (p := ⟨b2, o2 + i * 3 + 2, none⟩) hb2).trans c2, fun o => (hu.cell (p := ⟨bx, o, none⟩) k3.lt).trans (ck o)⟩
          have rx := rdx.below bl
          have ry := rdy.below bl
          have rr_ := Own.rd (rdr.kept bl)
          have CL : ∀ u, Below W3.heap.size W3 u → Calls Try.prog 17 #[.slice ra rn rc] u fun e w' => ∃ v', e = .returned v' ∧ FN w' u.heap.size v' (gn t q) ∧ Below u.heap.size u w' := fun u hu => cloneN_any _ _ u (rr_.below hu) (by omega)
          have CE := fun (u : World) (v1 v2 : Value) (h1 : Rd NK u v1 q.l) (h2 : Rd NK u v2 q.l) => equalN_same v1 v2 q.l u h1 h2
          clear HXT HRW hc2 hy hr rdx rdy rdr rr_
          generalize gn t q = gl at *
          generalize (it t q).l = il at *
          generalize q.l = ql at *
          go_region_law (first
            | (refine apr.step_rd NK rfl (.tmp 100) (.tmp 105) rfl W3.heap.size v2 gl (by simp [Act.eval]) O2 (.slice ya yn yc) il (by simp [Act.eval]) (ry.below B2) (by unfold maxLen; omega) (by show (gl.length + il.length) * 8 ≤ _; omega) hB2 ?_; intro v4 w4 o4 l4 _; have B4 : Below W3.heap.size W3 w4 := B2.trans l4; have hB4 := B4.size; obtain ⟨f4, g4, h4⟩ := HCF w4 B4; have R4 : Rd NK w4 v4 ql := (by have := Own.rd o4; rw [HGI.out] at this; exact this); obtain ⟨sa4, sc4, e4⟩ := R4.form; obtain ⟨n4, hn4⟩ : ∃ n4, n4 = ql.length := ⟨_, rfl⟩; rw [← hn4] at e4; subst e4; clear hn4)
            | (go_simp; go_wp2_with (first
              | (go_at_call 17; refine (CL _ (by first | exact Below.refl _ _ | exact ab.Ab.drew _)).mono ?_; rintro e w6 ⟨v2, rfl, F2, l2⟩; have B2 : Below W3.heap.size W3 w6 := (by first | exact Below.trans (ab.Ab.drew W3) l2 | exact l2); have O2 : Own NK w6 W3.heap.size v2 gl := F2.1; have hB2 := B2.size; obtain ⟨f2, g2, h2⟩ := HCF w6 B2)
              | (go_at_call 18; refine (CE _ _ _ R4 (rx.below B4)).mono ?_; rintro e w8 ⟨rfl, z8⟩; have B5 := B4.trans (z8.mono hB4)))))
          all_goals simp only [Exit.then]
          all_goals go_step
          all_goals go_meet
          all_goals exact ⟨rfl, B5⟩
theorem order_walk (v : Value) (L : List Qu) (k : Int) (w : World) (h : TRd w v L) : Calls Try.prog 7 #[v, .int .i64 k] w fun e w' => e = .returned (.bool true) ∧ Below w.heap.size w w' := by
  by_cases hb : chk L ≠ 0 ∨ k < 0 ∨ 100 < k
  · exact order_early v L k w h hb
  · obtain ⟨n, rfl⟩ : ∃ n : Nat, k = (n : Int) := ⟨k.toNat, by omega⟩
    exact order_main v L n w h (by omega) (by omega)
end Go.Proofs.Ytbhejjpkmnldhaa.tu
