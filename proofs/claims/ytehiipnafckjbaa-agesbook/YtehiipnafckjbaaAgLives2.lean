/- The walk through custkeep.agesLives. -/
import Derived.Test.YtehiipnafckjbaaAgLives
namespace Go.Proofs.Ytehiipnafckjbaa.agv
open Go.ChangeShapes Go.WideShapes Go.ChangeAt Go.RowKit Go.BigFrame
open Go.Proofs.Ytehiipnafckjbaa Go.Proofs.Ytehiipnafckjbaa.am Go.Proofs.Ytehiipnafckjbaa.ag Go.Proofs.Ytehiipnafckjbaa.ai Go.Proofs.Ytehiipnafckjbaa.ash Go.Proofs.Ytehiipnafckjbaa.agi Go.Proofs.Ytehiipnafckjbaa.agt Go.Proofs.Ytehiipnafckjbaa.agl Go.Proofs.Ytehiipnafckjbaa.agu Go.Proofs.Ytehiipnafckjbaa.agx Go.Proofs.Ytehiipnafckjbaa.boxes Go.Proofs.Ytehiipnafckjbaa.rwr
open Go.Proofs.Ytehiipnafckjbaa.rws (Knd Own)

theorem len1 : la.length = 1 := rfl
theorem len2 : lb.length = 2 := rfl
theorem len3 : lc.length = 2 := rfl
def ld : List Sy := [⟨0, 7⟩]
theorem len4 : ld.length = 1 := rfl
set_option maxRecDepth 20000 in
set_option maxHeartbeats 4000000 in
theorem lives (w : World) : Calls Try.prog 20 #[] w fun e w' => e = .returned (.bool true) ∧ Below w.heap.size w w' := by
  have C0 : ∀ u, Calls Try.prog 8 #[.int .i64 2] u fun e w' => e = .returned (.tuple #[.agg (AC 2 (.slice none 0 0)), .int .i64 0]) ∧ Below u.heap.size u w' := fun u => by
    have := new_any 2 u
    rw [m0.1, m0.2] at this
    exact this
  have C1 : ∀ u, Calls Try.prog 13 #[.agg (AC 2 (.slice none 0 0)), .int .i64 5] u fun e w' => ∃ v', e = .returned (.tuple #[.agg (AC 2 v'), .int .i64 0, .int .i64 0]) ∧ Own SK w' u.heap.size v' la ∧ Below u.heap.size u w' := fun u => by
    have := take_any 2 (.slice none 0 0) [] 5 u (Own.rd (Own.nil SK u 0))
    rw [m1.1, m1.2.1, m1.2.2.1, m1.2.2.2] at this
    exact this
  have C2 : ∀ u v, Rd SK u v la → Calls Try.prog 13 #[.agg (AC 2 v), .int .i64 6] u fun e w' => ∃ v', e = .returned (.tuple #[.agg (AC 2 v'), .int .i64 1, .int .i64 0]) ∧ Own SK w' u.heap.size v' lb ∧ Below u.heap.size u w' := fun u v h => by
    have := take_any 2 v la 6 u h
    rw [m2.1, m2.2.1, m2.2.2.1, m2.2.2.2] at this
    exact this
  have C3 : ∀ u v, Rd SK u v lb → Calls Try.prog 16 #[.agg (AC 2 v), .int .i64 0, .int .i64 7] u fun e w' => ∃ v', e = .returned (.tuple #[.agg (AC 2 v'), .int .i64 0]) ∧ Own SK w' u.heap.size v' lc ∧ Below u.heap.size u w' := fun u v h => by
    have := touch_any 2 v lb 0 7 u h
    rw [m3.1, m3.2.1, m3.2.2] at this
    exact this
  have C4 : ∀ u v, Rd SK u v lc → Calls Try.prog 18 #[.agg (AC 2 v), .int .i64 7] u fun e w' => ∃ v' g', e = .returned (.tuple #[.agg (AC 2 v'), g', .int .i64 0]) ∧ Own SK w' u.heap.size v' ld ∧ Own NK w' u.heap.size g' [1] ∧ Below u.heap.size u w' := fun u v h => by
    have := expire_any 2 v lc 7 u h
    rw [m4.1, m4.2.1, m4.2.2.1, m4.2.2.2] at this
    exact this
  have CE : ∀ u v1 v2, Rd NK u v1 [1] → Rd NK u v2 [1] → _ := fun u v1 v2 h1 h2 => ints_same v1 v2 [1] u h1 h2 (by decide)
  have L1 := len1
  have L2 := len2
  have L3 := len3
  have L4 := len4
  generalize la = l1 at *
  generalize lb = l2 at *
  generalize lc = l3 at *
  generalize ld = l4 at *
  go_enter Try.func20, Try.ntmps20
  go_wp2_with fail
  refine (C0 _).mono ?_
  rintro e w1 ⟨rfl, b1⟩
  have hw : w.heap.size ≤ w1.heap.size := b1.size
  have dA := (Below.refl w1.heap.size w1).alloc (Nat.le_refl _) (.cells Z2 24)
  go_upto_region 2 with (refine blk_store _ rfl 24 _ _ rfl w1.heap.size _ rfl rfl _ _ (Blk.new w1 Z2 24) 2 ag_info rfl rfl (ag_one _ _ _ _) ?_; intro W2 X2 p2)
  have b2 := b1.trans ((p2.below dA (Nat.le_refl _)).mono b1.size)
  have c2 := X2.cell
  clear C0 dA p2 b1
  generalize w1.heap.size = X at *
  go_wp2_with fail
  refine (C1 _).mono ?_
  rintro e w3 ⟨v3, rfl, o3, z⟩
  have X3 := X2.below z X2.lt
  have b3 := b2.trans (z.mono b2.size)
  have ne3 := own_ne o3 X2.lt
  obtain ⟨sa3, sc3, rfl⟩ := (Own.rd o3).form
  clear C1 c2 X2 b2 z
  rw [L1] at o3 ne3 ⊢
  go_upto_region 3 with (refine blk_store _ rfl 24 _ _ rfl X _ rfl rfl _ _ X3 2 ag_info rfl rfl (ag_one _ _ _ _) ?_; intro W4 X4 p4)
  have r4 := Own.rd (o3.but p4 ne3)
  have b4 := p4.below b3 hw
  have c4 := X4.cell
  have C24 := C2 _ _ r4
  clear C2 X3 b3 p4 o3 ne3 r4
  go_wp2_with fail
  refine C24.mono ?_
  rintro e w5 ⟨v5, rfl, o5, z⟩
  have X5 := X4.below z X4.lt
  have b5 := b4.trans (z.mono b4.size)
  have ne5 := own_ne o5 X4.lt
  obtain ⟨sa5, sc5, rfl⟩ := (Own.rd o5).form
  clear C24 c4 X4 b4 z
  rw [L2] at o5 ne5 ⊢
  go_upto_region 4 with (refine blk_store _ rfl 24 _ _ rfl X _ rfl rfl _ _ X5 2 ag_info rfl rfl (ag_one _ _ _ _) ?_; intro W6 X6 p6)
  have r6 := Own.rd (o5.but p6 ne5)
  have b6 := p6.below b5 hw
  have c6 := X6.cell
  have C36 := C3 _ _ r6
  clear C3 X5 b5 p6 o5 ne5 r6
  go_wp2_with fail
  refine C36.mono ?_
  rintro e w7 ⟨v7, rfl, o7, z⟩
  have X7 := X6.below z X6.lt
  have b7 := b6.trans (z.mono b6.size)
  have ne7 := own_ne o7 X6.lt
  obtain ⟨sa7, sc7, rfl⟩ := (Own.rd o7).form
  clear C36 c6 X6 b6 z
  rw [L3] at o7 ne7 ⊢
  go_upto_region 5 with (refine blk_store _ rfl 24 _ _ rfl X _ rfl rfl _ _ X7 2 ag_info rfl rfl (ag_one _ _ _ _) ?_; intro W8 X8 p8)
  have r8 := Own.rd (o7.but p8 ne7)
  have b8 := p8.below b7 hw
  have c8 := X8.cell
  have C48 := C4 _ _ r8
  clear C4 X7 b7 p8 o7 ne7 r8
  go_wp2_with fail
  refine C48.mono ?_
  rintro e w9 ⟨v9, g9, rfl, o9, q9, z⟩
  have X9 := X8.below z X8.lt
  have b9 := b8.trans (z.mono b8.size)
  have ne9 := own_ne q9 X8.lt
  obtain ⟨sa9, sc9, rfl⟩ := (Own.rd o9).form
  obtain ⟨ga9, gc9, rfl⟩ := (Own.rd q9).form
  clear C48 c8 X8 b8 z o9
  rw [L4]
  go_upto_region 6 with (refine blk_store _ rfl 24 _ _ rfl X _ rfl rfl _ _ X9 2 ag_info rfl rfl (ag_one _ _ _ _) ?_; intro W10 X10 p10)
  have q10 := q9.but p10 ne9
  have b10 := p10.below b9 hw
  have b11 := b10.alloc b10.size (.cells #[.int .i64 1] 3)
  have X11 := X10.alloc (.cells #[.int .i64 1] 3)
  have q11 := Own.rd (q10.alloc (.cells #[.int .i64 1] 3))
  have li := Own.rd (Own.lit NK W10 0 (Nat.zero_le _) [1] (by decide) #[.int .i64 1] rfl)
  have CE11 := CE _ _ _ q11 li
  have c11 := X11.cell
  clear X9 b9 p10 q9 ne9 q10 b10 q11 li CE X10
  go_wp2_with fail
  refine CE11.mono ?_
  rintro e w12 ⟨rfl, z⟩
  have c12 := (X11.below z X11.lt).cell
  have b12 := b11.trans (z.mono b11.size)
  clear CE11 c11 X11 b11 z
  go_wp2_with fail
  go_ret
  exact ⟨rfl, b12⟩
end Go.Proofs.Ytehiipnafckjbaa.agv
