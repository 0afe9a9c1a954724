/- What package ages' Touch answers. -/
import Derived.Test.YtehiipnafckjbaaAgLeave
namespace Go.Proofs.Ytehiipnafckjbaa.agu
open Go.ChangeShapes Go.WideShapes Go.ChangeAt Go.RowKit Go.BigFrame
open Go.Proofs.Ytehiipnafckjbaa Go.Proofs.Ytehiipnafckjbaa.am Go.Proofs.Ytehiipnafckjbaa.ag Go.Proofs.Ytehiipnafckjbaa.ai Go.Proofs.Ytehiipnafckjbaa.ash Go.Proofs.Ytehiipnafckjbaa.agc Go.Proofs.Ytehiipnafckjbaa.agi Go.Proofs.Ytehiipnafckjbaa.agw Go.Proofs.Ytehiipnafckjbaa.agl Go.Proofs.Ytehiipnafckjbaa.boxes Go.Proofs.Ytehiipnafckjbaa.rwr
open Go.Proofs.Ytehiipnafckjbaa.rws (Knd Own)

set_option maxRecDepth 20000 in
set_option maxHeartbeats 4000000 in
theorem touch_any (n : Int) (v : Value) (l : List Sy) (r now : Int) (w : World) (h : Rd SK w v l) : Calls Try.prog 16 #[.agg (AC n v), .int .i64 r, .int .i64 now] w fun e w' => ∃ v', e = .returned (.tuple #[.agg (AC (un n l r now) v'), .int .i64 (ue n l r now)]) ∧ Own SK w' w.heap.size v' (ul n l r now) ∧ Below w.heap.size w w' := by
  have F0 := (Blk.new w (AC n v) 24).alloc (.cells Z2 24)
  have G0 := Blk.newAt (w.alloc (.cells (AC n v) 24)) Z2 24 (b := w.heap.size + 1) (by simp)
  have b0 := ((Below.refl w.heap.size w).alloc (Nat.le_refl _) (.cells (AC n v) 24)).alloc (by simp) (.cells Z2 24)
  have r0 := h.below b0
  have CC := checkAt_any n v l now _ r0
  obtain ⟨V, HV⟩ : ∃ V, Hid ((w.alloc (.cells (AC n v) 24)).alloc (.cells Z2 24) = V) := ⟨_, rfl⟩
  rw [HV.out] at F0 G0 b0 r0 CC
  have c0 := F0.cell
  have sz : w.heap.size + 1 < V.heap.size := G0.lt
  have CV := fun u hu => leave_any n v l r u hu
  by_cases hce : ce n l now = 0
  · have hle := ue_le (r := r) hce
    rw [hce] at CC
    rw [hle] at CV
    rcases ue_cases n l r now with ⟨e1, e2⟩ | ⟨e1, e2, e3⟩ | ⟨e1, e2, e3⟩
    · exact absurd hce e2
    · obtain ⟨z1, z3⟩ := ue_zeros (n := n) (l := l) (r := r) (now := now) (by rw [e1]; decide)
      rw [z1, z3, e1]
      obtain ⟨y1, y3⟩ := le_zeros (n := n) (l := l) (r := r) (by rw [hle, e1]; decide)
      rw [e1, y1, y3] at CV
      obtain ⟨sa, sc, rfl⟩ := h.form
      clear h e1 e2 e3 z1 z3 y1 y3 hle hce
      generalize l.length = m at *
      go_enter Try.func16, Try.ntmps16
      go_upto_region 1 with fail
      rw [HV.out]
      go_wp2_with fail
      refine CC.mono ?_
      rintro e w1 ⟨rfl, z⟩
      have b1 := b0.trans (z.mono b0.size)
      have G1 := G0.below z G0.lt
      have c1 := (F0.below z F0.lt).cell
      have CV1 := CV _ (r0.below z)
      clear c0 F0 G0 b0 z CC HV r0 CV
      go_wp2_with fail
      refine CV1.mono ?_
      rintro e w2 ⟨v2, rfl, o2, z⟩
      obtain ⟨sa2, sc2, rfl⟩ := (Own.rd o2).form
      have b2 := b1.trans (z.mono b1.size)
      have G2 := G1.below z G1.lt
      have dA := (Below.refl w2.heap.size w2).alloc (Nat.le_refl _) (.cells Z2 24)
      clear c1 G1 b1 z CV1 o2
      go_upto_region 5 with (refine blk_store _ rfl 24 _ _ rfl w2.heap.size _ rfl rfl _ _ (Blk.new w2 Z2 24) 2 ag_info rfl rfl (ag_one _ _ _ _) ?_; intro w3 X3 p3)
      have d3 := p3.below dA (Nat.le_refl _)
      have b3 := b2.trans (d3.mono b2.size)
      have G3 := G2.below d3 G2.lt
      clear dA p3 d3 b2 G2 X3
      generalize w2.heap.size = x2 at *
      go_wp2_with (refine blk_store _ rfl 24 _ _ rfl (w.heap.size + 1) Z2 rfl rfl _ _ G3 2 ag_info rfl rfl (ag_one _ _ _ _) ?_; intro W3 K3 p3)
      have d1 := p3.below b3 (by omega)
      exact blk_ret2 rfl rfl (w.heap.size + 1) Z2 24 rfl K3 _ Try.underlying24 rfl 2 ag_info rfl ⟨_, rfl, Own.nil _ _ _, d1⟩
    · obtain ⟨z1, z3⟩ := ue_ones (n := n) (l := l) (r := r) (now := now) e1
      rw [z1, z3, e1]
      obtain ⟨y1, y3⟩ := le_ones (n := n) (l := l) (r := r) (by rw [hle, e1])
      rw [e1, y1, y3] at CV
      obtain ⟨m, hm, _, hm64, hok, hlm⟩ := aerr_nat (ce_aerr e2).1
      have hlw : (wo l r).length ≤ 1000 := by
        have := List.length_filter_le (fun s : Sy => s.r != r) l
        unfold wo; omega
      have CW := fun v u hu => with_any n v (wo l r) r now u hu hlw
      obtain ⟨sa, sc, rfl⟩ := h.form
      clear h e1 e2 e3 z1 z3 y1 y3 hle hce hm hok hlm hlw hm64
      generalize hl2 : wo l r = l2 at *
      clear hl2
      generalize l.length = m at *
      go_enter Try.func16, Try.ntmps16
      go_upto_region 1 with fail
      rw [HV.out]
      go_wp2_with fail
      refine CC.mono ?_
      rintro e w1 ⟨rfl, z⟩
      have b1 := b0.trans (z.mono b0.size)
      have G1 := G0.below z G0.lt
      have c1 := (F0.below z F0.lt).cell
      have CV1 := CV _ (r0.below z)
      clear c0 F0 G0 b0 z CC HV r0 CV
      go_wp2_with fail
      refine CV1.mono ?_
      rintro e w2 ⟨v2, rfl, o2, z⟩
      have b2 := b1.trans (z.mono b1.size)
      have G2 := G1.below z G1.lt
      have r2 := Own.rd o2
      obtain ⟨sa2, sc2, rfl⟩ := r2.form
      generalize l2.length = m2 at *
      have dA := (Below.refl w2.heap.size w2).alloc (Nat.le_refl _) (.cells Z2 24)
      clear c1 G1 b1 z CV1 o2
      go_upto_region 5 with (refine blk_store _ rfl 24 _ _ rfl w2.heap.size _ rfl rfl _ _ (Blk.new w2 Z2 24) 2 ag_info rfl rfl (ag_one _ _ _ _) ?_; intro w3 X3 p3)
      have d3 := p3.below dA (Nat.le_refl _)
      have b3 := b2.trans (d3.mono b2.size)
      have G3 := G2.below d3 G2.lt
      have CW3 := CW _ _ (r2.below d3)
      have c3 := X3.cell
      clear dA p3 d3 b2 G2 r2 CW
      generalize w2.heap.size = x2 at *
      go_wp2_with fail
      refine CW3.mono ?_
      rintro e w4 ⟨v4, rfl, o4, z⟩
      have b4 := b3.trans (z.mono b3.size)
      have G4 := G3.below z G3.lt
      have ne4 := own_ne o4 G3.lt
      have o5 := o4.mono b3.size
      obtain ⟨sa4, sc4, e⟩ := (Own.rd o4).form
      obtain ⟨q, hq⟩ : ∃ q, q = (l2 ++ [(⟨r, now⟩ : Sy)]).length := ⟨_, rfl⟩
      rw [← hq] at e
      subst e
      clear c3 X3 G3 b3 z CW3 o4 hq
      go_wp2_with (refine blk_store _ rfl 24 _ _ rfl (w.heap.size + 1) (AC n (.slice sa4 q sc4)) rfl rfl _ _ G4 2 ag_info rfl rfl (ag_one _ _ _ _) ?_; intro W3 K3 p3)
      have d1 := p3.below b4 (by omega)
      exact blk_ret2 rfl rfl (w.heap.size + 1) (AC n (.slice sa4 q sc4)) 24 rfl K3 _ Try.underlying24 rfl 2 ag_info rfl ⟨_, rfl, o5.but p3 ne4, d1⟩
  · have e1 : ue n l r now = ce n l now := by unfold ue; rw [if_neg hce]
    obtain ⟨z1, z3⟩ := ue_zeros (n := n) (l := l) (r := r) (now := now) (by rw [e1]; exact hce)
    rw [z1, z3, e1]
    have e2' : (ce n l now != 0) = true := by simpa using hce
    obtain ⟨sa, sc, rfl⟩ := h.form
    clear h r0 e1 hce z1 z3 CV
    generalize ce n l now = E at *
    generalize l.length = m at *
    go_enter Try.func16, Try.ntmps16
    go_upto_region 1 with fail
    rw [HV.out]
    go_wp2_with fail
    refine CC.mono ?_
    rintro e w1 ⟨rfl, z⟩
    have b1 := b0.trans (z.mono b0.size)
    have G1 := G0.below z G0.lt
    clear c0 F0 G0 b0 z CC HV
    go_wp2_with (refine blk_store _ rfl 24 _ _ rfl (w.heap.size + 1) Z2 rfl rfl _ _ G1 2 ag_info rfl rfl (ag_one _ _ _ _) ?_; intro W3 K3 p3)
    have d1 := p3.below b1 (by omega)
    exact blk_ret2 rfl rfl (w.heap.size + 1) Z2 24 rfl K3 _ Try.underlying24 rfl 2 ag_info rfl ⟨_, rfl, Own.nil _ _ _, d1⟩
end Go.Proofs.Ytehiipnafckjbaa.agu
