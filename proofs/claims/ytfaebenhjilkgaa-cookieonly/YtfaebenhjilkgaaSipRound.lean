/- What custref.SipRound answers: the round of four numbers. -/
import Derived.Test.YtfaebenhjilkgaaSipBase
namespace Go.Proofs.Ytfaebenhjilkgaa.sipr
open Go.ChangeShapes Go.WideShapes Go.ChangeAt Go.RowKit Go.BigFrame
open Go.Proofs.Ytfaebenhjilkgaa Go.Proofs.Ytfaebenhjilkgaa.sipm Go.Proofs.Ytfaebenhjilkgaa.boxes Go.Proofs.Ytfaebenhjilkgaa.ethb Go.Proofs.Ytfaebenhjilkgaa.sipb Go.Proofs.Ytfaebenhjilkgaa.sipt
open Go.Proofs.Ytfaebenhjilkgaa.sumw (Qd Qd.refl Qd.drewN Qd.trans)

set_option maxHeartbeats 4000000 in
theorem sround_any (v : V4) (w : World) : Calls Try.prog 41 #[.agg (cl v)] w fun e w' => e = .returned (.agg (cl (rnd v))) ∧ Below w.heap.size w w' := by
  obtain ⟨a, b, c, d⟩ := v
  have hadd := add_law
  have hxor := xor_law
  have K0 : Blk ((w.alloc (.cells #[nm a, nm b, nm c, nm d] 54)).alloc (.cells #[.int .u64 0, .int .u64 0, .int .u64 0, .int .u64 0] 54)) w.heap.size #[nm a, nm b, nm c, nm d] 54 := (Blk.new _ _ _).alloc _
  have R0 : Blk ((w.alloc (.cells #[nm a, nm b, nm c, nm d] 54)).alloc (.cells #[.int .u64 0, .int .u64 0, .int .u64 0, .int .u64 0] 54)) (w.heap.size + 1) #[.int .u64 0, .int .u64 0, .int .u64 0, .int .u64 0] 54 := Blk.newAt _ _ _ (by simp)
  have B0 := ((Below.refl w.heap.size w).alloc (Nat.le_refl _) (.cells #[nm a, nm b, nm c, nm d] 54)).alloc (by simp) (.cells #[.int .u64 0, .int .u64 0, .int .u64 0, .int .u64 0] 54)
  go_enter Try.func41, Try.ntmps41
  go_upto_region 1 with fail
  refine gen2 (p := fun W => Code.wp _ _ _ _ W) K0 R0 B0 ?_
  clear K0 R0 B0
  intro W K R B
  have ck := K.cell
  have fk := K.free
  go_upto_region 2 with fail
  clear ck fk
  refine put (p := fun W => Code.wp _ _ _ _ W) K R B (by omega) (by omega) ?_
  clear K R B
  generalize ea1 : uad a b = a1
  intro W (K : Blk _ _ #[nm a1, nm b, nm c, nm d] _) R B
  replace ea1 : Hid (_ = _) := ea1
  have ck := ab.cells K
  have ne := ab.ne W
  refine lst.wp_region_last (ab.Ab W) (by kernel_rfl) (by simp only [List.dropLast]; exact rfl) (by simp only [List.getLast?_cons_cons, List.getLast?_singleton]; exact rfl) (by kernel_rfl) (by kernel_rfl) (ab.Ab.drew _) ?_
  repeat (go_big_quiet_step ((go_at_call 44; exact ab.call ((turned13 _ _).mono fun e w' h => ⟨h.1, qd_below h.2⟩))))
  refine wpQuiet_nil ?_
  intro _ hx
  obtain ⟨x, rfl⟩ := hx
  clear ck ne
  have Kx := K.below x.h K.lt
  have Rx := R.below x.h R.lt
  have Bx := B.trans (x.h.mono (Below.size B))
  clear K R B
  generalize x.W = W at *
  have ck := Kx.cell
  have fk := Kx.free
  go_upto_region 3 with fail
  clear ck fk
  have K := Kx
  have R := Rx
  have B := Bx
  clear Kx Rx Bx
  refine put (p := fun W => Code.wp _ _ _ _ W) K R B (by omega) (by omega) ?_
  clear K R B
  generalize eb1 : uxo (rt 13 b) a1 = b1
  intro W (K : Blk _ _ #[nm a1, nm b1, nm c, nm d] _) R B
  replace eb1 : Hid (_ = _) := eb1
  have ck := K.cell
  go_upto_region 4 with fail
  clear ck
  refine (turned32 _ _).mono ?_
  rintro e W1 ⟨rfl, q⟩
  replace K := qd_blk q K
  replace R := qd_blk q R
  replace B := B.trans (qd_below q)
  clear q
  have ck := K.cell
  have fk := K.free
  go_upto_region 4 with fail
  clear ck fk
  refine put (p := fun W => Code.wp _ _ _ _ W) K R B (by omega) (by omega) ?_
  clear K R B
  generalize ea2 : rt 32 a1 = a2
  intro W (K : Blk _ _ #[nm a2, nm b1, nm c, nm d] _) R B
  replace ea2 : Hid (_ = _) := ea2
  have ck := K.cell
  have fk := K.free
  go_upto_region 5 with fail
  clear ck fk
  refine put (p := fun W => Code.wp _ _ _ _ W) K R B (by omega) (by omega) ?_
  clear K R B
  generalize ec1 : uad c d = c1
  intro W (K : Blk _ _ #[nm a2, nm b1, nm c1, nm d] _) R B
  replace ec1 : Hid (_ = _) := ec1
  have ck := ab.cells K
  have ne := ab.ne W
  refine lst.wp_region_last (ab.Ab W) (by kernel_rfl) (by simp only [List.dropLast]; exact rfl) (by simp only [List.getLast?_cons_cons, List.getLast?_singleton]; exact rfl) (by kernel_rfl) (by kernel_rfl) (ab.Ab.drew _) ?_
  repeat (go_big_quiet_step ((go_at_call 44; exact ab.call ((turned16 _ _).mono fun e w' h => ⟨h.1, qd_below h.2⟩))))
  refine wpQuiet_nil ?_
  intro _ hx
  obtain ⟨x, rfl⟩ := hx
  clear ck ne
  have Kx := K.below x.h K.lt
  have Rx := R.below x.h R.lt
  have Bx := B.trans (x.h.mono (Below.size B))
  clear K R B
  generalize x.W = W at *
  have ck := Kx.cell
  have fk := Kx.free
  go_upto_region 6 with fail
  clear ck fk
  have K := Kx
  have R := Rx
  have B := Bx
  clear Kx Rx Bx
  refine put (p := fun W => Code.wp _ _ _ _ W) K R B (by omega) (by omega) ?_
  clear K R B
  generalize ed1 : uxo (rt 16 d) c1 = d1
  intro W (K : Blk _ _ #[nm a2, nm b1, nm c1, nm d1] _) R B
  replace ed1 : Hid (_ = _) := ed1
  have ck := K.cell
  have fk := K.free
  go_upto_region 7 with fail
  clear ck fk
  refine put (p := fun W => Code.wp _ _ _ _ W) K R B (by omega) (by omega) ?_
  clear K R B
  generalize ea3 : uad a2 d1 = a3
  intro W (K : Blk _ _ #[nm a3, nm b1, nm c1, nm d1] _) R B
  replace ea3 : Hid (_ = _) := ea3
  have ck := ab.cells K
  have ne := ab.ne W
  refine lst.wp_region_last (ab.Ab W) (by kernel_rfl) (by simp only [List.dropLast]; exact rfl) (by simp only [List.getLast?_cons_cons, List.getLast?_singleton]; exact rfl) (by kernel_rfl) (by kernel_rfl) (ab.Ab.drew _) ?_
  repeat (go_big_quiet_step ((go_at_call 44; exact ab.call ((turned21 _ _).mono fun e w' h => ⟨h.1, qd_below h.2⟩))))
  refine wpQuiet_nil ?_
  intro _ hx
  obtain ⟨x, rfl⟩ := hx
  clear ck ne
  have Kx := K.below x.h K.lt
  have Rx := R.below x.h R.lt
  have Bx := B.trans (x.h.mono (Below.size B))
  clear K R B
  generalize x.W = W at *
  have ck := Kx.cell
  have fk := Kx.free
  go_upto_region 8 with fail
  clear ck fk
  have K := Kx
  have R := Rx
  have B := Bx
  clear Kx Rx Bx
  refine put (p := fun W => Code.wp _ _ _ _ W) K R B (by omega) (by omega) ?_
  clear K R B
  generalize ed2 : uxo (rt 21 d1) a3 = d2
  intro W (K : Blk _ _ #[nm a3, nm b1, nm c1, nm d2] _) R B
  replace ed2 : Hid (_ = _) := ed2
  have ck := K.cell
  have fk := K.free
  go_upto_region 9 with fail
  clear ck fk
  refine put (p := fun W => Code.wp _ _ _ _ W) K R B (by omega) (by omega) ?_
  clear K R B
  generalize ec2 : uad c1 b1 = c2
  intro W (K : Blk _ _ #[nm a3, nm b1, nm c2, nm d2] _) R B
  replace ec2 : Hid (_ = _) := ec2
  have ck := ab.cells K
  have ne := ab.ne W
  refine lst.wp_region_last (ab.Ab W) (by kernel_rfl) (by simp only [List.dropLast]; exact rfl) (by simp only [List.getLast?_cons_cons, List.getLast?_singleton]; exact rfl) (by kernel_rfl) (by kernel_rfl) (ab.Ab.drew _) ?_
  repeat (go_big_quiet_step ((go_at_call 44; exact ab.call ((turned17 _ _).mono fun e w' h => ⟨h.1, qd_below h.2⟩))))
  refine wpQuiet_nil ?_
  intro _ hx
  obtain ⟨x, rfl⟩ := hx
  clear ck ne
  have Kx := K.below x.h K.lt
  have Rx := R.below x.h R.lt
  have Bx := B.trans (x.h.mono (Below.size B))
  clear K R B
  generalize x.W = W at *
  have ck := Kx.cell
  have fk := Kx.free
  go_upto_region 10 with fail
  clear ck fk
  have K := Kx
  have R := Rx
  have B := Bx
  clear Kx Rx Bx
  refine put (p := fun W => Code.wp _ _ _ _ W) K R B (by omega) (by omega) ?_
  clear K R B
  generalize eb2 : uxo (rt 17 b1) c2 = b2
  intro W (K : Blk _ _ #[nm a3, nm b2, nm c2, nm d2] _) R B
  replace eb2 : Hid (_ = _) := eb2
  have ck := K.cell
  go_upto_region 11 with fail
  clear ck
  refine (turned32 _ _).mono ?_
  rintro e W1 ⟨rfl, q⟩
  replace K := qd_blk q K
  replace R := qd_blk q R
  replace B := B.trans (qd_below q)
  clear q
  have ck := K.cell
  have fk := K.free
  go_upto_region 11 with fail
  clear ck fk
  refine put (p := fun W => Code.wp _ _ _ _ W) K R B (by omega) (by omega) ?_
  clear K R B
  generalize ec3 : rt 32 c2 = c3
  intro W (K : Blk _ _ #[nm a3, nm b2, nm c3, nm d2] _) R B
  replace ec3 : Hid (_ = _) := ec3
  go_wp2_with (first | (refine blk_load _ rfl 54 _ rfl _ rfl _ _ K _ Try.underlying54 rfl 4 v4_info rfl ?_) | (refine blk_store _ rfl 54 _ _ rfl _ #[nm a3, nm b2, nm c3, nm d2] rfl rfl _ _ R 4 v4_info rfl rfl (v4_one _ _ _ _) ?_; intro W2 R2 p2))
  exact blk_ret1 rfl rfl _ _ _ rfl R2 _ Try.underlying54 rfl 4 v4_info rfl ⟨by
    have h1 := ea1.out; have h2 := eb1.out; have h3 := ea2.out; have h4 := ec1.out; have h5 := ed1.out; have h6 := ea3.out; have h7 := ed2.out; have h8 := ec2.out; have h9 := eb2.out; have h10 := ec3.out
    subst h1; subst h2; subst h3; subst h4; subst h5; subst h6; subst h7; subst h8; subst h9; subst h10
    rfl, p2.below B (by omega)⟩
end Go.Proofs.Ytfaebenhjilkgaa.sipr
