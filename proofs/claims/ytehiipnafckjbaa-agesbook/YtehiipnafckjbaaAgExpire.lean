/- What package ages' Expire answers. -/
import Derived.Test.YtehiipnafckjbaaAgIn
import Derived.Test.YtehiipnafckjbaaRwsDrop
namespace Go.Proofs.Ytehiipnafckjbaa.agx
open Go.ChangeShapes Go.WideShapes Go.ChangeAt Go.RowKit Go.BigFrame
open Go.Proofs.Ytehiipnafckjbaa Go.Proofs.Ytehiipnafckjbaa.am Go.Proofs.Ytehiipnafckjbaa.ag Go.Proofs.Ytehiipnafckjbaa.ai Go.Proofs.Ytehiipnafckjbaa.ash Go.Proofs.Ytehiipnafckjbaa.agc Go.Proofs.Ytehiipnafckjbaa.agi Go.Proofs.Ytehiipnafckjbaa.boxes Go.Proofs.Ytehiipnafckjbaa.rwr Go.Proofs.Ytehiipnafckjbaa.rwd
open Go.Proofs.Ytehiipnafckjbaa.rws (Knd Own)

theorem gone_one {l : List Sy} {i : Nat} (h : i < l.length) : (l.take (i + 1)).map (·.r) = (l.take i).map (·.r) ++ [(ax l i).r] := by
  rw [take_one h, List.map_append]; rfl
theorem gone_len {l : List Sy} {i : Nat} (h : i ≤ l.length) : ((l.take i).map (·.r)).length = i := by
  rw [List.length_map, List.length_take]; omega
set_option maxRecDepth 20000 in
set_option maxHeartbeats 8000000 in
theorem expire_any (n : Int) (v : Value) (l : List Sy) (bf : Int) (w : World) (h : Rd SK w v l) : Calls Try.prog 18 #[.agg (AC n v), .int .i64 bf] w fun e w' => ∃ v' g', e = .returned (.tuple #[.agg (AC (xn n l) v'), g', .int .i64 (aerr n l)]) ∧ Own SK w' w.heap.size v' (xl n l bf) ∧ Own NK w' w.heap.size g' (xg n l bf) ∧ Below w.heap.size w w' := by
  have F0 := (Blk.new w (AC n v) 24).alloc (.cells Z2 24)
  have G0 := Blk.newAt (w.alloc (.cells (AC n v) 24)) Z2 24 (b := w.heap.size + 1) (by simp)
  have b0 := ((Below.refl w.heap.size w).alloc (Nat.le_refl _) (.cells (AC n v) 24)).alloc (by simp) (.cells Z2 24)
  have r0 := h.below b0
  have CC := check_any n v l _ r0
  obtain ⟨V, HV⟩ : ∃ V, Hid ((w.alloc (.cells (AC n v) 24)).alloc (.cells Z2 24) = V) := ⟨_, rfl⟩
  rw [HV.out] at F0 G0 b0 r0 CC
  have c0 := F0.cell
  have sz : w.heap.size + 1 < V.heap.size := G0.lt
  by_cases e2 : aerr n l = 0
  · obtain ⟨z1, z2, z3⟩ := xe_ones e2 bf
    rw [z1, z2, z3, e2]
    rw [e2] at CC
    obtain ⟨m, hm, _, hm64, hok, hlm⟩ := aerr_nat e2
    have HG : Hid (∀ i, i < l.length → l[i]? = some (ax l i)) := fun i hi => ax_get hi
    have HO1 : Hid (∀ i, i < l.length → (∀ j, j < i → (ax l j).a < bf) → bf ≤ (ax l i).a → old bf l = i) := fun i h1 h2 h3 => old_at h2 (by omega) (Or.inr (by omega))
    have HO2 : Hid ((∀ j, j < l.length → (ax l j).a < bf) → old bf l = l.length) := fun h2 => old_at h2 (Nat.le_refl _) (Or.inl rfl)
    have HGo : Hid (∀ i, i < l.length → (l.take (i + 1)).map (·.r) = (l.take i).map (·.r) ++ [(ax l i).r]) := fun i hi => gone_one hi
    have HGl : Hid (∀ i, i ≤ l.length → ((l.take i).map (·.r)).length = i) := fun i hi => gone_len hi
    obtain ⟨sa, sc, rfl⟩ := h.form
    have HX : Hid (∀ u, Below w.heap.size w u → 0 < l.length → ∃ b off, sa = some ⟨b, off, none⟩ ∧ b < u.heap.size ∧ ∀ j x, l[j]? = some x → ∀ i, i < SK.k → u.cell? ⟨b, off + j * SK.k + i, none⟩ = (SK.enc x)[i]?) := fun u hu hp => rd_spot (h.below hu) hp
    have el : Try.prog.elem 22 = 41 := by kernel_rfl
    have he : Try.prog.underlying 22 = some (.slice (Try.prog.elem 22)) := by rw [el]; exact Try.underlying22
    have hle : l.length ≤ sc := (rd_cap h).2
    have sl : ∀ i : Nat, i ≤ l.length → ∀ u, (Instr.slice 22 (.slice sa l.length sc) (some (.int .i64 (i : Int))) none none).run Try.prog u = .ok (sliced sa i l.length sc 2) u := fun i hi u => by
      rw [run_slice_l u 22 _ l.length sc he .i64 (i : Int) (by omega) (by omega), el, Try.sizeOf41]
      simp only [Result.andThen, Int.toNat_natCast]
    have CL : ∀ i : Nat, i ≤ l.length → ∀ u, Below w.heap.size w u → Calls Try.prog 22 #[sliced sa i l.length sc 2] u fun e w' => ∃ v', e = .returned v' ∧ Own SK w' u.heap.size v' (l.drop i) ∧ Below u.heap.size u w' := fun i hi u hu =>
      clone_any _ (l.drop i) u (rd_drop (h.below hu) i hi) (by rw [List.length_drop]; omega)
    clear h e2 z1 z2 z3 hm hok el he
    have hl64 : l.length ≤ 64 := by omega
    generalize old bf l = ob at *
    generalize hlm' : l.length = m' at *
    clear hlm' hlm
    go_enter Try.func18, Try.ntmps18
    go_upto_region 1 with fail
    rw [HV.out]
    go_wp2_with fail
    refine CC.mono ?_
    rintro e w1 ⟨rfl, z⟩
    have b1 := b0.trans (z.mono b0.size)
    have G1 := G0.below z G0.lt
    have F1 := F0.below z F0.lt
    have c1 := F1.cell
    have hB1 : V.heap.size ≤ w1.heap.size := z.size
    clear c0 F0 G0 b0 z CC r0
    go_wp2_with fail
    have b0' : w.heap.size ≤ V.heap.size := by omega
    go_loopw [8, 20] (fun s8 s20 wr => ∃ (i : Nat) (ga : Option Addr) (gc : Nat), s20 = .int .i64 (i : Int) ∧ s8 = .slice ga i gc ∧ i ≤ m' ∧ Hid (∀ j, j < i → (ax l j).a < bf) ∧ Own NK wr V.heap.size (.slice ga i gc) ((l.take i).map (·.r)) ∧ Blk wr w.heap.size (AC n (.slice sa m' sc)) 24 ∧ Blk wr (w.heap.size + 1) Z2 24 ∧ Below w.heap.size w wr ∧ V.heap.size ≤ wr.heap.size) (fun _ s _ => m' - (intOf s).toNat)
    case atStart => exact ⟨0, none, 0, rfl, rfl, Nat.zero_le _, fun j hj => absurd hj (by omega), Own.nil _ _ _, F1, G1, b1, hB1⟩
    case round =>
      clear F1 G1 b1 c1 hB1
      obtain ⟨i, ga, gc, rfl, rfl, hi, HJ, O, F, G, bel, hBV⟩ := hrel
      by_cases hlt : i < m'
      · have hlt' : (i : Int) < (m' : Int) := by omega
        have gi := HG.out i hlt
        obtain ⟨b, off, rfl, hb, hx⟩ := HX.out wr bel (by omega)
        have HGi := HGo.out i hlt
        have HOi : Hid ((∀ j, j < i → (ax l j).a < bf) → bf ≤ (ax l i).a → ob = i) := HO1.out i hlt
        have HJ2 : Hid ((ax l i).a < bf → ∀ j, j < i + 1 → (ax l j).a < bf) := fun h j hj => by
          by_cases e : j = i
          · rw [e]; exact h
          · exact HJ.out j (by omega)
        obtain ⟨⟨sr, sv⟩, hs⟩ : ∃ s, ax l i = s := ⟨_, rfl⟩
        rw [hs] at gi HGi
        have HOi' : Hid (bf ≤ sv → ob = i) := fun h => HOi.out HJ.out (by rw [hs]; exact h)
        have HJ3 : Hid (sv < bf → ∀ j, j < i + 1 → (ax l j).a < bf) := fun h => HJ2.out (by rw [hs]; exact h)
        clear hs HJ2 HOi
        obtain ⟨A, HA⟩ : ∃ A, Hid (wr.alloc (.cells #[.int .i64 sr, .int .i64 sv] 41) = A) := ⟨_, rfl⟩
        have S2 := Blk.new wr #[.int .i64 sr, .int .i64 sv] 41
        have F2 := F.alloc (.cells #[.int .i64 sr, .int .i64 sv] 41)
        have G2 := G.alloc (.cells #[.int .i64 sr, .int .i64 sv] 41)
        have O2 := O.alloc (.cells #[.int .i64 sr, .int .i64 sv] 41)
        have b2 := bel.alloc bel.size (.cells #[.int .i64 sr, .int .i64 sv] 41)
        have hBV2 : V.heap.size ≤ (wr.alloc (.cells #[.int .i64 sr, .int .i64 sv] 41)).heap.size := by simp; omega
        rw [HA.out] at S2 F2 G2 O2 b2 hBV2
        have cS := S2.cell
        by_cases hsv : sv < bf
        · have HJ4 : Hid (∀ j, j < i + 1 → (ax l j).a < bf) := HJ3.out hsv
          have hd : decide (bf ≤ sv) = false := decide_eq_false (by omega)
          have HGl2 := HGl.out (i + 1) (by omega)
          have HGl1 := HGl.out i hi
          rw [HGi] at HGl2
          have HGi' : Hid ((l.take (i + 1)).map (·.r) = (l.take i).map (·.r) ++ [sr]) := HGi
          clear HGi HJ HJ3 HOi' HG HO1 HO2 HGo HGl HX F G O bel hBV sl CL
          generalize (l.take i).map (·.r) = gl at *
          go_upto_region 8 with (refine rd_load SK _ rfl _ rfl b off l hx i _ rfl rfl _ gi #[.int .i64 sr, .int .i64 sv] rfl _ Try.underlying41 rfl ?_)
          rw [HA.out]
          have O3 := O2.alloc (.cells #[.int .i64 sr] 3)
          have L3 := Blk.new A #[.int .i64 sr] 3
          have q1 : gl.length + 1 ≤ maxLen := by unfold maxLen; omega
          have q2 : (gl.length + 1) * NK.by_ ≤ 140737488355328 := by show (gl.length + 1) * 8 ≤ _; omega
          have q3 : V.heap.size ≤ (A.alloc (.cells #[.int .i64 sr] 3)).heap.size := by simp; omega
          clear O2
          go_wp2_with (at_builtin; refine rws.app_one NK _ rfl _ _ rfl V.heap.size _ gl rfl O3 A.heap.size 1 sr 3 rfl L3 q1 q2 q3 ?_; intro v5 w5 o5 l5 _)
          obtain ⟨ga5, gc5, e5⟩ := (Own.rd o5).form
          have hgl5 : (gl ++ [sr]).length = i + 1 := HGl2
          rw [hgl5] at e5
          subst e5
          have F5 := (F2.alloc (.cells #[.int .i64 sr] 3)).below l5 (by omega)
          have G5 := (G2.alloc (.cells #[.int .i64 sr] 3)).below l5 (by omega)
          have b5 := (b2.alloc b2.size (.cells #[.int .i64 sr] 3)).trans (l5.mono (by omega))
          have hs5 := l5.size
          clear O3 L3 q1 q2 F2 G2 b2 cS S2 l5 HGl1 HGl2 hgl5
          go_wp2_with fail
          go_roundw
          case rel => exact ⟨i + 1, ga5, gc5, by go_num, rfl, by omega, HJ4, by rw [HGi'.out]; exact o5, F5, G5, b5, by omega⟩
          case measure => simp [intOf]; omega
        · have HE : Hid (ob = i) := HOi'.out (by omega)
          have hd : decide (bf ≤ sv) = true := decide_eq_true (by omega)
          clear HGi HJ3 HOi' F G O bel hBV
          obtain ⟨W, HW⟩ : ∃ W, W = A := ⟨_, rfl⟩
          subst HW
          have F := F2
          have G := G2
          have O := O2
          have bel := b2
          have hBV := hBV2
          clear F2 G2 O2 b2 hBV2
          have sli := sl i hi
          have CLi := CL i hi
          have HO5 : Hid (Own NK W V.heap.size (.slice ga i gc) ((l.take i).map (·.r))) := O
          generalize sliced (some ⟨b, off, none⟩) i m' sc 2 = VS at *
          have cF := F.cell
          have ltF := F.lt
          have ltG := G.lt
          clear sl CL HO1 HO2 HG HGo HGl HX HJ O
          go_upto_region 8 with (refine rd_load SK _ rfl _ rfl b off l hx i _ rfl rfl _ gi #[.int .i64 sr, .int .i64 sv] rfl _ Try.underlying41 rfl ?_)
          rw [HA.out]
          go_upto_region 11 with fail
          go_region_with (go_at_call 22; refine (CLi W.drew bel.drew).mono ?_; rintro e w5 ⟨v5, rfl, o5, z5⟩; obtain ⟨sa5, sc5, e5⟩ := (Own.rd o5).form; obtain ⟨q, hq⟩ : ∃ q, q = (l.drop i).length := ⟨_, rfl⟩; rw [← hq] at e5; subst e5; clear hq; have c5 := (F.drew.below z5 ltF).cell; have G5 := G.drew.below z5 ltG; have cG5 := G5.cell; have fG5 := G5.free)
          all_goals
            have d5 : Below w.heap.size w w5 := bel.drew.trans (z5.mono bel.size)
            have hne := own_ne o5 (show w.heap.size + 1 < W.drew.heap.size from ltG)
            have hn2 := own_ne HO5.out sz
            have P5 : Own NK w5 V.heap.size (.slice ga i gc) ((l.take i).map (·.r)) := HO5.out.drew.kept z5
            have P6 := (P5.setCell (i := 0) (u := .int .i64 n) hn2).setCell (i := 1) (u := .slice sa5 q sc5) hn2
            have O6 := (o5.setCell (i := 0) (u := .int .i64 n) hne).setCell (i := 1) (u := .slice sa5 q sc5) hne
            have d6 := (but_setCell _ (w.heap.size + 1) 1 (.slice sa5 q sc5)).below ((but_setCell w5 (w.heap.size + 1) 0 (.int .i64 n)).below d5 (by omega)) (by omega)
            have G6 : Blk _ (w.heap.size + 1) (AC n (.slice sa5 q sc5)) 24 := (G5.setCell 0 (.int .i64 n)).setCell 1 (.slice sa5 q sc5)
            clear cF c5 cG5 fG5 o5 P5 d5 z5 G5 F G CLi HO5
            go_wp2_with fail
            refine blk_ret3 rfl rfl (w.heap.size + 1) (AC n (.slice sa5 q sc5)) 24 rfl G6 _ Try.underlying24 rfl 2 ag_info rfl ?_
            exact ⟨.slice sa5 q sc5, .slice ga i gc, by simp [Act.put], by rw [HE.out]; exact O6.mono bel.size, by rw [HE.out]; exact P6.mono b0', d6⟩
      · have hlt' : ¬ (i : Int) < (m' : Int) := by omega
        have ei : i = m' := by omega
        have HE : Hid (ob = i) := by rw [ei]; exact HO2.out (by rw [← ei]; exact HJ.out)
        clear ei
        obtain ⟨W, HW⟩ : ∃ W, W = wr := ⟨_, rfl⟩
        subst HW
        have sli := sl i hi
        have CLi := CL i hi
        have HO5 : Hid (Own NK W V.heap.size (.slice ga i gc) ((l.take i).map (·.r))) := O
        generalize sliced sa i m' sc 2 = VS at *
        have cF := F.cell
        have ltF := F.lt
        have ltG := G.lt
        clear sl CL HO1 HO2 HG HGo HGl HX HJ O
        go_upto_region 11 with fail
        go_region_with (go_at_call 22; refine (CLi W.drew bel.drew).mono ?_; rintro e w5 ⟨v5, rfl, o5, z5⟩; obtain ⟨sa5, sc5, e5⟩ := (Own.rd o5).form; obtain ⟨q, hq⟩ : ∃ q, q = (l.drop i).length := ⟨_, rfl⟩; rw [← hq] at e5; subst e5; clear hq; have c5 := (F.drew.below z5 ltF).cell; have G5 := G.drew.below z5 ltG; have cG5 := G5.cell; have fG5 := G5.free)
        all_goals
          have d5 : Below w.heap.size w w5 := bel.drew.trans (z5.mono bel.size)
          have hne := own_ne o5 (show w.heap.size + 1 < W.drew.heap.size from ltG)
          have hn2 := own_ne HO5.out sz
          have P5 : Own NK w5 V.heap.size (.slice ga i gc) ((l.take i).map (·.r)) := HO5.out.drew.kept z5
          have P6 := (P5.setCell (i := 0) (u := .int .i64 n) hn2).setCell (i := 1) (u := .slice sa5 q sc5) hn2
          have O6 := (o5.setCell (i := 0) (u := .int .i64 n) hne).setCell (i := 1) (u := .slice sa5 q sc5) hne
          have d6 := (but_setCell _ (w.heap.size + 1) 1 (.slice sa5 q sc5)).below ((but_setCell w5 (w.heap.size + 1) 0 (.int .i64 n)).below d5 (by omega)) (by omega)
          have G6 : Blk _ (w.heap.size + 1) (AC n (.slice sa5 q sc5)) 24 := (G5.setCell 0 (.int .i64 n)).setCell 1 (.slice sa5 q sc5)
          clear cF c5 cG5 fG5 o5 P5 d5 z5 G5 F G CLi HO5
          go_wp2_with fail
          refine blk_ret3 rfl rfl (w.heap.size + 1) (AC n (.slice sa5 q sc5)) 24 rfl G6 _ Try.underlying24 rfl 2 ag_info rfl ?_
          exact ⟨.slice sa5 q sc5, .slice ga i gc, by simp [Act.put], by rw [HE.out]; exact O6.mono bel.size, by rw [HE.out]; exact P6.mono b0', d6⟩
  · obtain ⟨z1, z2, z3⟩ := xe_zeros e2 bf
    rw [z1, z2, z3]
    have e2' : (aerr n l != 0) = true := by simpa using e2
    obtain ⟨sa, sc, rfl⟩ := h.form
    clear h r0 e2 z1 z2 z3
    generalize aerr n l = E at *
    generalize l.length = m at *
    go_enter Try.func18, Try.ntmps18
    go_upto_region 1 with fail
    rw [HV.out]
    go_wp2_with fail
    refine CC.mono ?_
    rintro e w1 ⟨rfl, z⟩
    have b1 := b0.trans (z.mono b0.size)
    have G1 := G0.below z G0.lt
    clear c0 F0 G0 b0 z CC HV
    go_wp2_with (refine blk_store _ rfl 24 _ _ rfl (w.heap.size + 1) Z2 rfl rfl _ _ G1 2 ag_info rfl rfl (ag_one _ _ _ _) ?_; intro W3 K3 p3)
    have d1 := p3.below b1 (by omega)
    exact blk_ret3 rfl rfl (w.heap.size + 1) Z2 24 rfl K3 _ Try.underlying24 rfl 2 ag_info rfl ⟨_, _, rfl, Own.nil _ _ _, Own.nil _ _ _, d1⟩
end Go.Proofs.Ytehiipnafckjbaa.agx
