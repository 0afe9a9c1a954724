/- What package sip's take answers, and custref.SipTake. -/
import Derived.Test.YtfaebenhjilkgaaSipRounds
namespace Go.Proofs.Ytfaebenhjilkgaa.sipr
open Go.ChangeShapes Go.WideShapes Go.ChangeAt Go.RowKit Go.BigFrame
open Go.Proofs.Ytfaebenhjilkgaa Go.Proofs.Ytfaebenhjilkgaa.sipm Go.Proofs.Ytfaebenhjilkgaa.boxes Go.Proofs.Ytfaebenhjilkgaa.ethb Go.Proofs.Ytfaebenhjilkgaa.sipb Go.Proofs.Ytfaebenhjilkgaa.sipt
open Go.Proofs.Ytfaebenhjilkgaa.sumw (Qd Qd.refl Qd.drewN Qd.trans)

set_option maxHeartbeats 4000000 in
theorem take_any (v : V4) (m : UInt64) (w : World) : Calls Try.prog 34 #[.agg (cl v), nm m] w fun e w' => e = .returned (.agg (cl (tk v m))) ∧ Below w.heap.size w w' := by
  obtain ⟨a, b, c, d⟩ := v
  have hadd := add_law
  have hxor := xor_law
  have K0 : Blk ((w.alloc (.cells #[nm a, nm b, nm c, nm d] 54)).alloc (.cells Z4 54)) w.heap.size #[nm a, nm b, nm c, nm d] 54 := (Blk.new _ _ _).alloc _
  have R0 : Blk ((w.alloc (.cells #[nm a, nm b, nm c, nm d] 54)).alloc (.cells Z4 54)) (w.heap.size + 1) Z4 54 := Blk.newAt _ _ _ (by simp)
  have B0 := ((Below.refl w.heap.size w).alloc (Nat.le_refl _) (.cells #[nm a, nm b, nm c, nm d] 54)).alloc (by simp) (.cells Z4 54)
  obtain ⟨u, hu⟩ : ∃ u, u = rnd (rnd ⟨a, b, c, uxo d m⟩) := ⟨_, rfl⟩
  have HU : Hid (u = _) := hu
  clear hu
  go_enter Try.func34, Try.ntmps34
  go_upto_region 1 with fail
  refine gen2 (p := fun W => Code.wp _ _ _ _ W) K0 R0 B0 ?_
  clear K0 R0 B0
  intro W K R B
  have ck := K.cell
  have fk := K.free
  go_upto_region 2 with fail
  clear ck fk
  refine put (p := fun W => Code.wp _ _ _ _ W) K R B (by omega) (by omega) ?_
  clear K R B
  intro W (K : Blk _ _ #[nm a, nm b, nm c, nm (uxo d m)] _) R B
  go_upto_region 3 with (refine blk_load _ rfl 54 _ rfl _ rfl _ _ K _ Try.underlying54 rfl 4 v4_info rfl ?_)
  refine (rounds_any ⟨a, b, c, uxo d m⟩ 2 _ (by omega)).mono ?_
  rintro e W1 ⟨rfl, q⟩
  replace K := K.below q K.lt
  replace R := R.below q R.lt
  replace B := B.trans (q.mono (Below.size B))
  clear q
  rw [show rnds ⟨a, b, c, uxo d m⟩ 2 = u from HU.out.symm]
  go_upto_region 3 with (refine blk_store _ rfl 54 _ _ rfl _ (cl u) rfl rfl _ _ K 4 v4_info rfl rfl (v4_one _ _ _ _) ?_; intro W2 K2 p2)
  replace R := p2.blk R (by omega)
  replace B := p2.below B (by omega)
  clear K
  have K := K2
  clear K2 p2
  obtain ⟨p, q, r, s⟩ := u
  have ck := K.cell
  have fk := K.free
  go_upto_region 4 with fail
  clear ck fk
  refine put (p := fun W => Code.wp _ _ _ _ W) K R B (by omega) (by omega) ?_
  clear K R B
  intro W (K : Blk _ _ #[nm (uxo p m), nm q, nm r, nm s] _) R B
  go_wp2_with (first | (refine blk_load _ rfl 54 _ rfl _ rfl _ _ K _ Try.underlying54 rfl 4 v4_info rfl ?_) | (refine blk_store _ rfl 54 _ _ rfl _ #[nm (uxo p m), nm q, nm r, nm s] rfl rfl _ _ R 4 v4_info rfl rfl (v4_one _ _ _ _) ?_; intro W2 R2 p2))
  exact blk_ret1 rfl rfl _ _ _ rfl R2 _ Try.underlying54 rfl 4 v4_info rfl ⟨by
    have hu := HU.out
    have h1 : tk ⟨a, b, c, d⟩ m = ⟨uxo p m, q, r, s⟩ := by
      show ({ rnd (rnd ⟨a, b, c, uxo d m⟩) with a := (rnd (rnd ⟨a, b, c, uxo d m⟩)).a ^^^ m } : V4) = _
      rw [← hu]
      rfl
    rw [h1], p2.below B (by omega)⟩
set_option maxHeartbeats 4000000 in
theorem stake_any (v : V4) (m : UInt64) (w : World) : Calls Try.prog 39 #[.agg (cl v), nm m] w fun e w' => e = .returned (.agg (cl (tk v m))) ∧ Below w.heap.size w w' := by
  obtain ⟨a, b, c, d⟩ := v
  have hadd := add_law
  have hxor := xor_law
  have K0 : Blk ((w.alloc (.cells #[nm a, nm b, nm c, nm d] 54)).alloc (.cells Z4 54)) w.heap.size #[nm a, nm b, nm c, nm d] 54 := (Blk.new _ _ _).alloc _
  have R0 : Blk ((w.alloc (.cells #[nm a, nm b, nm c, nm d] 54)).alloc (.cells Z4 54)) (w.heap.size + 1) Z4 54 := Blk.newAt _ _ _ (by simp)
  have B0 := ((Below.refl w.heap.size w).alloc (Nat.le_refl _) (.cells #[nm a, nm b, nm c, nm d] 54)).alloc (by simp) (.cells Z4 54)
  obtain ⟨u, hu⟩ : ∃ u, u = rnd (rnd ⟨a, b, c, uxo d m⟩) := ⟨_, rfl⟩
  have HU : Hid (u = _) := hu
  clear hu
  go_enter Try.func39, Try.ntmps39
  go_upto_region 1 with fail
  refine gen2 (p := fun W => Code.wp _ _ _ _ W) K0 R0 B0 ?_
  clear K0 R0 B0
  intro W K R B
  have ck := K.cell
  have fk := K.free
  go_upto_region 2 with fail
  clear ck fk
  refine put (p := fun W => Code.wp _ _ _ _ W) K R B (by omega) (by omega) ?_
  clear K R B
  intro W (K : Blk _ _ #[nm a, nm b, nm c, nm (uxo d m)] _) R B
  go_upto_region 3 with (refine blk_load _ rfl 54 _ rfl _ rfl _ _ K _ Try.underlying54 rfl 4 v4_info rfl ?_)
  refine (sround_any ⟨a, b, c, uxo d m⟩ _).mono ?_
  rintro e W1 ⟨rfl, q⟩
  replace K := K.below q K.lt
  replace R := R.below q R.lt
  replace B := B.trans (q.mono (Below.size B))
  clear q
  go_upto_region 3 with fail
  refine (sround_any _ _).mono ?_
  rintro e W2 ⟨rfl, q⟩
  replace K := K.below q K.lt
  replace R := R.below q R.lt
  replace B := B.trans (q.mono (Below.size B))
  clear q
  rw [← HU.out]
  go_upto_region 3 with (refine blk_store _ rfl 54 _ _ rfl _ (cl u) rfl rfl _ _ K 4 v4_info rfl rfl (v4_one _ _ _ _) ?_; intro W3 K2 p2)
  replace R := p2.blk R (by omega)
  replace B := p2.below B (by omega)
  clear K
  have K := K2
  clear K2 p2
  obtain ⟨p, q, r, s⟩ := u
  have ck := K.cell
  have fk := K.free
  go_upto_region 4 with fail
  clear ck fk
  refine put (p := fun W => Code.wp _ _ _ _ W) K R B (by omega) (by omega) ?_
  clear K R B
  intro W (K : Blk _ _ #[nm (uxo p m), nm q, nm r, nm s] _) R B
  go_wp2_with (first | (refine blk_load _ rfl 54 _ rfl _ rfl _ _ K _ Try.underlying54 rfl 4 v4_info rfl ?_) | (refine blk_store _ rfl 54 _ _ rfl _ #[nm (uxo p m), nm q, nm r, nm s] rfl rfl _ _ R 4 v4_info rfl rfl (v4_one _ _ _ _) ?_; intro W4 R2 p2))
  exact blk_ret1 rfl rfl _ _ _ rfl R2 _ Try.underlying54 rfl 4 v4_info rfl ⟨by
    have hu := HU.out
    have h1 : tk ⟨a, b, c, d⟩ m = ⟨uxo p m, q, r, s⟩ := by
      show ({ rnd (rnd ⟨a, b, c, uxo d m⟩) with a := (rnd (rnd ⟨a, b, c, uxo d m⟩)).a ^^^ m } : V4) = _
      rw [← hu]
      rfl
    rw [h1], p2.below B (by omega)⟩
end Go.Proofs.Ytfaebenhjilkgaa.sipr
