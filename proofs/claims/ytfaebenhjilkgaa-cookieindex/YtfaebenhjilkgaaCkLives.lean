/- custkeep.cookieLives answers true. -/
import Derived.Test.YtfaebenhjilkgaaCkOpen
import Derived.Test.YtfaebenhjilkgaaCkKeep
namespace Go.Proofs.Ytfaebenhjilkgaa.ckl
open Go.ChangeShapes Go.WideShapes Go.ChangeAt Go.RowKit Go.BigFrame
open Go.Proofs.Ytfaebenhjilkgaa Go.Proofs.Ytfaebenhjilkgaa.boxes Go.Proofs.Ytfaebenhjilkgaa.sipb Go.Proofs.Ytfaebenhjilkgaa.sipe Go.Proofs.Ytfaebenhjilkgaa.ckm Go.Proofs.Ytfaebenhjilkgaa.ckb Go.Proofs.Ytfaebenhjilkgaa.cki Go.Proofs.Ytfaebenhjilkgaa.ckk Go.Proofs.Ytfaebenhjilkgaa.cksz Go.Proofs.Ytfaebenhjilkgaa.cko Go.Proofs.Ytfaebenhjilkgaa.ckp

abbrev ro0 : Ro := ⟨1, 2, 3, 4⟩
abbrev RS : Array Value := #[.int .u32 1, .int .u32 2, .int .i64 3, .int .i64 4]
theorem rs_one : RS.all (·.oneCell') = true := by simp [Value.oneCell']
theorem names : ∃ M : Int, (0 ≤ M ∧ M ≤ 4294967295 ∧ M / 16777216 = 70) ∧
    (∀ u, Calls Try.prog 7 #[.agg #[.int .u64 5, .int .u64 6], .agg RS, .int .u32 7, .int .i64 8, .int .i64 6] u fun z w' => z = .returned (.tuple #[.int .u32 M, .int .i64 0]) ∧ Below u.heap.size u w') ∧
    (∀ u, Calls Try.prog 9 #[.agg #[.int .u64 5, .int .u64 6], .agg RS, .int .u32 7, .int .u32 M, .int .i64 9] u fun z w' => z = .returned (.tuple #[.int .i64 1460, .int .i64 0]) ∧ Below u.heap.size u w') := by
  have ad : ro0.Ad := ⟨by decide, by decide, by decide, by decide⟩
  have hb := mk_bd 5 6 ro0 7 (c := 8) (i := 6) (by decide) (by decide) (by decide) (by decide)
  have ht := mk_top 5 6 ro0 7 8 6
  refine ⟨mk 5 6 ro0 7 8 6, ⟨hb.1, hb.2, by rw [ht]; rfl⟩, fun u => make_ok 5 6 ro0 7 8 6 u ad (by decide) (by decide) (by decide), fun u => ?_⟩
  have h := open_any 5 6 ro0 7 (mk 5 6 ro0 7 8 6) 9 u ad (by decide) (by decide) hb.1 hb.2
  rw [ope_mk 5 6 ro0 7 (by decide) (by decide) (by decide) (by decide) (by decide), opv_mk 5 6 ro0 7 (by decide) (by decide) (by decide) (by decide) (by decide)] at h
  exact h
set_option maxHeartbeats 4000000 in
theorem lives_any (w : World) : Calls Try.prog 15 #[] w fun e w' => e = .returned (.bool true) ∧ Below w.heap.size w w' := by
  obtain ⟨M, ⟨m0, m1, m2⟩, C1, C2⟩ := names
  go_enter Try.func15, Try.ntmps15
  go_upto_region 2 with (refine blk_store _ rfl 27 _ _ rfl w.heap.size RS rfl rfl _ _ (Blk.new w #[.int .u32 0, .int .u32 0, .int .i64 0, .int .i64 0] 27) 4 road_info rfl rfl rs_one ?_; intro W3 K p3)
  have B := p3.below ((Below.refl w.heap.size w).alloc (Nat.le_refl _) (.cells #[.int .u32 0, .int .u32 0, .int .i64 0, .int .i64 0] 27)) (Nat.le_refl _)
  clear p3
  go_wp2_with (refine blk_load _ rfl 27 _ rfl _ rfl _ _ K _ Try.underlying27 rfl 4 road_info rfl ?_)
  refine (C1 _).mono ?_
  rintro e W4 ⟨rfl, z⟩
  replace K := K.below z K.lt
  replace B := B.trans (z.mono (Below.size B))
  clear z
  go_wp2_with (refine blk_load _ rfl 27 _ rfl _ rfl _ _ K _ Try.underlying27 rfl 4 road_info rfl ?_)
  refine (C2 _).mono ?_
  rintro e W5 ⟨rfl, z⟩
  replace B := B.trans (z.mono (Below.size B))
  clear z K
  go_wp2_with fail
  go_ret
  exact ⟨rfl, B⟩
end Go.Proofs.Ytfaebenhjilkgaa.ckl
