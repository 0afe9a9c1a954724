/- What package ages' Take and Leave answer. -/
import Derived.Test.YtehiipnafckjbaaAgIn
import Derived.Test.YtehiipnafckjbaaAgWith
import Derived.Test.YtehiipnafckjbaaAgDel
namespace Go.Proofs.Ytehiipnafckjbaa.agt
open Go.ChangeShapes Go.WideShapes Go.ChangeAt Go.RowKit Go.BigFrame
open Go.Proofs.Ytehiipnafckjbaa Go.Proofs.Ytehiipnafckjbaa.am Go.Proofs.Ytehiipnafckjbaa.ag Go.Proofs.Ytehiipnafckjbaa.ai Go.Proofs.Ytehiipnafckjbaa.ash Go.Proofs.Ytehiipnafckjbaa.agc Go.Proofs.Ytehiipnafckjbaa.agi Go.Proofs.Ytehiipnafckjbaa.agw Go.Proofs.Ytehiipnafckjbaa.agd Go.Proofs.Ytehiipnafckjbaa.boxes Go.Proofs.Ytehiipnafckjbaa.rwr
open Go.Proofs.Ytehiipnafckjbaa.rws (Knd Own)

set_option maxRecDepth 20000 in
set_option maxHeartbeats 2000000 in
theorem take_any (n : Int) (v : Value) (l : List Sy) (now : Int) (w : World) (h : Rd SK w v l) : Calls Try.prog 13 #[.agg (AC n v), .int .i64 now] w fun e w' => ∃ v', e = .returned (.tuple #[.agg (AC (tn n l now) v'), .int .i64 (tr n l now), .int .i64 (te n l now)]) ∧ Own SK w' w.heap.size v' (tl n l now) ∧ Below w.heap.size w w' := by
  have F0 := (Blk.new w (AC n v) 24).alloc (.cells Z2 24)
  have G0 := Blk.newAt (w.alloc (.cells (AC n v) 24)) Z2 24 (b := w.heap.size + 1) (by simp)
  have b0 := ((Below.refl w.heap.size w).alloc (Nat.le_refl _) (.cells (AC n v) 24)).alloc (by simp) (.cells Z2 24)
  have r0 := h.below b0
  have CC := checkAt_any n v l now _ r0
  obtain ⟨V, HV⟩ : ∃ V, Hid ((w.alloc (.cells (AC n v) 24)).alloc (.cells Z2 24) = V) := ⟨_, rfl⟩
  rw [HV.out] at F0 G0 b0 r0 CC
  have c0 := F0.cell
  have sz : w.heap.size + 1 < V.heap.size := G0.lt
  rcases te_cases n l now with ⟨e1, e2⟩ | ⟨e1, e2, e3⟩ | ⟨e1, e2, e3⟩
  · obtain ⟨z1, z2, z3⟩ := te_zeros (n := n) (l := l) (now := now) (by rw [e1]; exact e2)
    rw [z1, z2, z3, e1]
    have e2' : (ce n l now != 0) = true := by simpa using e2
    obtain ⟨sa, sc, rfl⟩ := h.form
    clear h r0 e1 e2 z1 z2 z3
    generalize ce n l now = E at *
    generalize l.length = m at *
    go_enter Try.func13, Try.ntmps13
    go_upto_region 1 with fail
    rw [HV.out]
    go_wp2_with fail
    refine CC.mono ?_
    rintro e w1 ⟨rfl, z⟩
    have b1 := b0.trans (z.mono b0.size)
    have G1 := G0.below z G0.lt
    clear c0 F0 G0 b0 z CC HV
    go_wp2_with (refine blk_store _ rfl 24 _ _ rfl (w.heap.size + 1) Z2 rfl rfl _ _ G1 2 ag_info rfl rfl (ag_one _ _ _ _) ?_; intro W3 K3 p3)
    have d1 := p3.below b1 (by omega)
    exact blk_ret3 rfl rfl (w.heap.size + 1) Z2 24 rfl K3 _ Try.underlying24 rfl 2 ag_info rfl ⟨_, rfl, Own.nil _ _ _, d1⟩
  · obtain ⟨z1, z2, z3⟩ := te_zeros (n := n) (l := l) (now := now) (by rw [e1]; decide)
    rw [z1, z2, z3, e1]
    rw [e2] at CC
    obtain ⟨sa, sc, rfl⟩ := h.form
    have e3' : ((l.length : Int) == n) = true := by simpa using e3
    clear h r0 e1 e2 e3 z1 z2 z3
    generalize l.length = m at *
    go_enter Try.func13, Try.ntmps13
    go_upto_region 1 with fail
    rw [HV.out]
    go_wp2_with fail
    refine CC.mono ?_
    rintro e w1 ⟨rfl, z⟩
    have b1 := b0.trans (z.mono b0.size)
    have G1 := G0.below z G0.lt
    have c1 := (F0.below z F0.lt).cell
    clear c0 F0 G0 b0 z CC HV
    go_wp2_with (refine blk_store _ rfl 24 _ _ rfl (w.heap.size + 1) Z2 rfl rfl _ _ G1 2 ag_info rfl rfl (ag_one _ _ _ _) ?_; intro W3 K3 p3)
    have d1 := p3.below b1 (by omega)
    exact blk_ret3 rfl rfl (w.heap.size + 1) Z2 24 rfl K3 _ Try.underlying24 rfl 2 ag_info rfl ⟨_, rfl, Own.nil _ _ _, d1⟩
  · obtain ⟨z1, z2, z3⟩ := te_ones (n := n) (l := l) (now := now) e1
    rw [z1, z2, z3, e1]
    rw [e2] at CC
    obtain ⟨m, hm, _, hm64, _, hlm⟩ := aerr_nat (ce_aerr e2).1
    have CL := fun u hu => least_any v l u hu (by omega)
    have CW := fun u hu => with_any n v l (lf l : Int) now u hu (by omega)
    have e3' : ((l.length : Int) == n) = false := by simpa using e3
    obtain ⟨sa, sc, rfl⟩ := h.form
    clear h e1 e2 e3 z1 z2 z3 hm hlm hm64
    generalize (lf l : Int) = R at *
    go_enter Try.func13, Try.ntmps13
    go_upto_region 1 with fail
    rw [HV.out]
    go_wp2_with fail
    refine CC.mono ?_
    rintro e w1 ⟨rfl, z⟩
    have b1 := b0.trans (z.mono b0.size)
    have G1 := G0.below z G0.lt
    have F1 := F0.below z F0.lt
    have r1 := r0.below z
    have c1 := F1.cell
    have CL1 := CL _ r1
    clear c0 F0 G0 b0 z CC HV r0 CL
    go_wp2_with fail
    refine CL1.mono ?_
    rintro e w2 ⟨rfl, z⟩
    have b2 := b1.trans (z.mono b1.size)
    have G2 := G1.below z G1.lt
    have F2 := F1.below z F1.lt
    have r2 := r1.below z
    have c2 := F2.cell
    have CW2 := CW _ r2
    clear c1 F1 G1 b1 z CL1 r1 CW
    go_wp2_with fail
    refine CW2.mono ?_
    rintro e w3 ⟨v3, rfl, o3, z⟩
    have b3 := b2.trans (z.mono b2.size)
    have G3 := G2.below z G2.lt
    have ne3 := own_ne o3 G2.lt
    have o4 := o3.mono b2.size
    obtain ⟨sa3, sc3, e⟩ := (Own.rd o3).form
    obtain ⟨q, hq⟩ : ∃ q, q = (l ++ [(⟨R, now⟩ : Sy)]).length := ⟨_, rfl⟩
    rw [← hq] at e
    subst e
    clear c2 F2 G2 b2 z CW2 r2 o3 hq
    go_wp2_with (refine blk_store _ rfl 24 _ _ rfl (w.heap.size + 1) (AC n (.slice sa3 q sc3)) rfl rfl _ _ G3 2 ag_info rfl rfl (ag_one _ _ _ _) ?_; intro W3 K3 p3)
    have d1 := p3.below b3 (by omega)
    exact blk_ret3 rfl rfl (w.heap.size + 1) (AC n (.slice sa3 q sc3)) 24 rfl K3 _ Try.underlying24 rfl 2 ag_info rfl ⟨_, rfl, o4.but p3 ne3, d1⟩
end Go.Proofs.Ytehiipnafckjbaa.agt
