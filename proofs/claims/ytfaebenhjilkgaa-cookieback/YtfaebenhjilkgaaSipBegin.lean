/- What custref.SipBegin answers. -/
import Derived.Test.YtfaebenhjilkgaaSipForm
import Derived.Test.YtfaebenhjilkgaaLastn
namespace Go.Proofs.Ytfaebenhjilkgaa.sipg
open Go.ChangeShapes Go.WideShapes Go.ChangeAt Go.RowKit Go.BigFrame
open Go.Proofs.Ytfaebenhjilkgaa Go.Proofs.Ytfaebenhjilkgaa.sipm Go.Proofs.Ytfaebenhjilkgaa.boxes Go.Proofs.Ytfaebenhjilkgaa.sipb Go.Proofs.Ytfaebenhjilkgaa.sipt Go.Proofs.Ytfaebenhjilkgaa.sipn Go.Proofs.Ytfaebenhjilkgaa.sipf
open Go.Proofs.Ytfaebenhjilkgaa.sumw (Qd Qd.refl Qd.drewN Qd.trans)

abbrev wds : ByteArray := ⟨#[117, 101, 115, 112, 101, 109, 111, 115, 109, 111, 100, 110, 97, 114, 111, 100, 97, 114, 101, 110, 101, 103, 121, 108, 115, 101, 116, 121, 98, 100, 101, 116]⟩
def pv (x y z u : UInt64) (j : Nat) : V4 := ⟨if 0 < j then x else 0, if 1 < j then y else 0, if 2 < j then z else 0, if 3 < j then u else 0⟩
theorem gen3 {W w : World} {b c d n : Nat} {F G H : Array Value} {t u v : TypeId} {p : World → Prop} (h1 : Blk W b F t) (h2 : Blk W c G u) (h3 : Blk W d H v) (h4 : Below n w W)
    (h : ∀ W', Blk W' b F t → Blk W' c G u → Blk W' d H v → Below n w W' → p W') : p W := h W h1 h2 h3 h4
/-- a cell of one block is written; two others stand -/
theorem put3 {W w : World} {b c d n i : Nat} {F G H : Array Value} {t u v : TypeId} {x : Value} {p : World → Prop} (h1 : Blk W b F t) (h2 : Blk W c G u) (h3 : Blk W d H v) (h4 : Below n w W) (hb : n ≤ b) (hc : c ≠ b) (hd : d ≠ b)
    (h : ∀ W', Blk W' b (F.setIfInBounds i x) t → Blk W' c G u → Blk W' d H v → Below n w W' → p W') : p (W.setCell ⟨b, i, none⟩ x) :=
  h _ (h1.setCell i x) ((but_setCell W b i x).blk h2 hc) ((but_setCell W b i x).blk h3 hd) ((but_setCell W b i x).below h4 hb)
theorem e0 : eight ((wds.extract 0 8).data.toList) = 8317987319222330741 := by decide +kernel
theorem z0 : (wds.extract 0 8).size = 8 := by decide +kernel
theorem e1 : eight ((wds.extract 8 16).data.toList) = 7237128888997146477 := by decide +kernel
theorem z1 : (wds.extract 8 16).size = 8 := by decide +kernel
theorem e2 : eight ((wds.extract 16 24).data.toList) = 7816392313619706465 := by decide +kernel
theorem z2 : (wds.extract 16 24).size = 8 := by decide +kernel
theorem e3 : eight ((wds.extract 24 32).data.toList) = 8387220255154660723 := by decide +kernel
theorem z3 : (wds.extract 24 32).size = 8 := by decide +kernel
theorem g0 (w : World) : Calls Try.prog 40 #[.string (wds.extract 0 8)] w fun e w' => e = .returned (nm 8317987319222330741) ∧ w' = w := by
  have h := eight_any (wds.extract 0 8) w z0
  rw [e0] at h
  exact h
theorem g1 (w : World) : Calls Try.prog 40 #[.string (wds.extract 8 16)] w fun e w' => e = .returned (nm 7237128888997146477) ∧ w' = w := by
  have h := eight_any (wds.extract 8 16) w z1
  rw [e1] at h
  exact h
theorem g2 (w : World) : Calls Try.prog 40 #[.string (wds.extract 16 24)] w fun e w' => e = .returned (nm 7816392313619706465) ∧ w' = w := by
  have h := eight_any (wds.extract 16 24) w z2
  rw [e2] at h
  exact h
theorem g3 (w : World) : Calls Try.prog 40 #[.string (wds.extract 24 32)] w fun e w' => e = .returned (nm 8387220255154660723) ∧ w' = w := by
  have h := eight_any (wds.extract 24 32) w z3
  rw [e3] at h
  exact h
set_option maxHeartbeats 4000000 in
theorem sbegin_any (k l : UInt64) (w : World) : Calls Try.prog 31 #[.agg #[nm k, nm l]] w fun e w' => e = .returned (.agg (sc (bgn k l) ⟨#[]⟩ 0)) ∧ Below w.heap.size w w' := by
  have hxor := xor_law
  have h1 : ∀ x : UInt64, bits .xor .u64 (x.toNat : Int) 8317987319222330741 = ((uxo x 8317987319222330741).toNat : Int) := fun x => xor_law x 8317987319222330741
  have h2 : ∀ x : UInt64, bits .xor .u64 (x.toNat : Int) 7237128888997146477 = ((uxo x 7237128888997146477).toNat : Int) := fun x => xor_law x 7237128888997146477
  have h3 : ∀ x : UInt64, bits .xor .u64 (x.toNat : Int) 7816392313619706465 = ((uxo x 7816392313619706465).toNat : Int) := fun x => xor_law x 7816392313619706465
  have h4 : ∀ x : UInt64, bits .xor .u64 (x.toNat : Int) 8387220255154660723 = ((uxo x 8387220255154660723).toNat : Int) := fun x => xor_law x 8387220255154660723
  have A0 : Blk (((w.alloc (.cells #[nm k, nm l] 24)).alloc (.cells ZS 56)).alloc (.cells ZS 56)) w.heap.size #[nm k, nm l] 24 := ((Blk.new _ _ _).alloc _).alloc _
  have R0 : Blk (((w.alloc (.cells #[nm k, nm l] 24)).alloc (.cells ZS 56)).alloc (.cells ZS 56)) (w.heap.size + 1) ZS 56 := (Blk.newAt _ _ _ (by simp)).alloc _
  have X0 : Blk (((w.alloc (.cells #[nm k, nm l] 24)).alloc (.cells ZS 56)).alloc (.cells ZS 56)) (w.heap.size + 2) ZS 56 := Blk.newAt _ _ _ (by simp)
  have B0 := (((Below.refl w.heap.size w).alloc (Nat.le_refl _) (.cells #[nm k, nm l] 24)).alloc (by simp) (.cells ZS 56)).alloc (by simp; omega) (.cells ZS 56)
  obtain ⟨x, hx⟩ : ∃ x, x = uxo k 8317987319222330741 := ⟨_, rfl⟩
  obtain ⟨y, hy⟩ : ∃ y, y = uxo l 7237128888997146477 := ⟨_, rfl⟩
  obtain ⟨z, hz⟩ : ∃ z, z = uxo k 7816392313619706465 := ⟨_, rfl⟩
  obtain ⟨u, hu⟩ : ∃ u, u = uxo l 8387220255154660723 := ⟨_, rfl⟩
  have HB : Hid (pv x y z u 4 = bgn k l) := by subst hx; subst hy; subst hz; subst hu; exact (rfl : _ = _)
  replace hx := hx.symm; replace hy := hy.symm; replace hz := hz.symm; replace hu := hu.symm
  go_enter Try.func31, Try.ntmps31
  go_upto_region 3 with fail
  refine gen3 (p := fun W => Code.wp _ _ _ _ W) A0 R0 X0 B0 ?_
  clear A0 R0 X0 B0
  intro W A R X B
  go_wp2_with fail
  go_loopw [6] (fun i wr => ∃ (j : Nat), i = .int .i64 (j : Int) ∧ j ≤ 4 ∧ Blk wr w.heap.size #[nm k, nm l] 24 ∧ Blk wr (w.heap.size + 1) ZS 56 ∧ Blk wr (w.heap.size + 2) (sc (pv x y z u j) ⟨#[]⟩ 0) 56 ∧ Below w.heap.size w wr) (fun i _ => 4 - (intOf i).toNat)
  case atStart => exact ⟨0, rfl, by omega, A, R, X, B⟩
  case round =>
    clear A R X B W
    obtain ⟨j, rfl, hj, A, R, X, B⟩ := hrel
    rcases (by omega : j = 0 ∨ j = 1 ∨ j = 2 ∨ j = 3 ∨ j = 4) with rfl | rfl | rfl | rfl | rfl
    · replace X : Blk _ _ #[nm (0), nm (0), nm (0), nm (0), .string ⟨#[]⟩, .int .i64 0] _ := X
      go_upto_region 6 with fail
      refine gen3 (p := fun W => Code.wp _ _ _ _ W) A R X B ?_
      clear A R X B
      intro W A R X B
      have ca := ab.cells A
      have cx := ab.cells X
      have ne := ab.ne W
      refine lsn.region 16 _ (ab.Ab W) (by kernel_rfl) (by simp only [List.take]; exact rfl) (by simp only [List.drop]; exact rfl) (by kernel_rfl) (by kernel_rfl) (ab.Ab.drew _) ?_
      repeat (go_big_quiet_step ((go_at_call 40; exact ab.call_same (g0 _))))
      refine wpQuiet_nil ?_
      intro _ hx'
      obtain ⟨x', rfl⟩ := hx'
      clear ca cx ne
      replace A := A.below x'.h A.lt
      replace R := R.below x'.h R.lt
      replace X := X.below x'.h X.lt
      replace B := B.trans (x'.h.mono (Below.size B))
      generalize x'.W = W at *
      have ck := X.cell
      have fk := X.free
      go_upto_region 7 with fail
      clear ck fk
      refine put3 (p := fun W => Code.wp _ _ _ _ W) X A R B (by omega) (by omega) (by omega) ?_
      clear X A R B
      intro W (X : Blk _ _ #[nm (x), nm (0), nm (0), nm (0), .string ⟨#[]⟩, .int .i64 0] _) A R B
      go_wp2_with fail
      go_roundw
      case rel => exact ⟨1, by go_num, by omega, A, R, X, B⟩
      case measure => simp [intOf]
    · replace X : Blk _ _ #[nm (x), nm (0), nm (0), nm (0), .string ⟨#[]⟩, .int .i64 0] _ := X
      go_upto_region 6 with fail
      refine gen3 (p := fun W => Code.wp _ _ _ _ W) A R X B ?_
      clear A R X B
      intro W A R X B
      have ca := ab.cells A
      have cx := ab.cells X
      have ne := ab.ne W
      refine lsn.region 16 _ (ab.Ab W) (by kernel_rfl) (by simp only [List.take]; exact rfl) (by simp only [List.drop]; exact rfl) (by kernel_rfl) (by kernel_rfl) (ab.Ab.drew _) ?_
      repeat (go_big_quiet_step ((go_at_call 40; exact ab.call_same (g1 _))))
      refine wpQuiet_nil ?_
      intro _ hx'
      obtain ⟨x', rfl⟩ := hx'
      clear ca cx ne
      replace A := A.below x'.h A.lt
      replace R := R.below x'.h R.lt
      replace X := X.below x'.h X.lt
      replace B := B.trans (x'.h.mono (Below.size B))
      generalize x'.W = W at *
      have ck := X.cell
      have fk := X.free
      go_upto_region 7 with fail
      clear ck fk
      refine put3 (p := fun W => Code.wp _ _ _ _ W) X A R B (by omega) (by omega) (by omega) ?_
      clear X A R B
      intro W (X : Blk _ _ #[nm (x), nm (y), nm (0), nm (0), .string ⟨#[]⟩, .int .i64 0] _) A R B
      go_wp2_with fail
      go_roundw
      case rel => exact ⟨2, by go_num, by omega, A, R, X, B⟩
      case measure => simp [intOf]
    · replace X : Blk _ _ #[nm (x), nm (y), nm (0), nm (0), .string ⟨#[]⟩, .int .i64 0] _ := X
      go_upto_region 6 with fail
      refine gen3 (p := fun W => Code.wp _ _ _ _ W) A R X B ?_
      clear A R X B
      intro W A R X B
      have ca := ab.cells A
      have cx := ab.cells X
      have ne := ab.ne W
      refine lsn.region 16 _ (ab.Ab W) (by kernel_rfl) (by simp only [List.take]; exact rfl) (by simp only [List.drop]; exact rfl) (by kernel_rfl) (by kernel_rfl) (ab.Ab.drew _) ?_
      repeat (go_big_quiet_step ((go_at_call 40; exact ab.call_same (g2 _))))
      refine wpQuiet_nil ?_
      intro _ hx'
      obtain ⟨x', rfl⟩ := hx'
      clear ca cx ne
      replace A := A.below x'.h A.lt
      replace R := R.below x'.h R.lt
      replace X := X.below x'.h X.lt
      replace B := B.trans (x'.h.mono (Below.size B))
      generalize x'.W = W at *
      have ck := X.cell
      have fk := X.free
      go_upto_region 7 with fail
      clear ck fk
      refine put3 (p := fun W => Code.wp _ _ _ _ W) X A R B (by omega) (by omega) (by omega) ?_
      clear X A R B
      intro W (X : Blk _ _ #[nm (x), nm (y), nm (z), nm (0), .string ⟨#[]⟩, .int .i64 0] _) A R B
      go_wp2_with fail
      go_roundw
      case rel => exact ⟨3, by go_num, by omega, A, R, X, B⟩
      case measure => simp [intOf]
    · replace X : Blk _ _ #[nm (x), nm (y), nm (z), nm (0), .string ⟨#[]⟩, .int .i64 0] _ := X
      go_upto_region 6 with fail
      refine gen3 (p := fun W => Code.wp _ _ _ _ W) A R X B ?_
      clear A R X B
      intro W A R X B
      have ca := ab.cells A
      have cx := ab.cells X
      have ne := ab.ne W
      refine lsn.region 16 _ (ab.Ab W) (by kernel_rfl) (by simp only [List.take]; exact rfl) (by simp only [List.drop]; exact rfl) (by kernel_rfl) (by kernel_rfl) (ab.Ab.drew _) ?_
      repeat (go_big_quiet_step ((go_at_call 40; exact ab.call_same (g3 _))))
      refine wpQuiet_nil ?_
      intro _ hx'
      obtain ⟨x', rfl⟩ := hx'
      clear ca cx ne
      replace A := A.below x'.h A.lt
      replace R := R.below x'.h R.lt
      replace X := X.below x'.h X.lt
      replace B := B.trans (x'.h.mono (Below.size B))
      generalize x'.W = W at *
      have ck := X.cell
      have fk := X.free
      go_upto_region 7 with fail
      clear ck fk
      refine put3 (p := fun W => Code.wp _ _ _ _ W) X A R B (by omega) (by omega) (by omega) ?_
      clear X A R B
      intro W (X : Blk _ _ #[nm (x), nm (y), nm (z), nm (u), .string ⟨#[]⟩, .int .i64 0] _) A R B
      go_wp2_with fail
      go_roundw
      case rel => exact ⟨4, by go_num, by omega, A, R, X, B⟩
      case measure => simp [intOf]
    · go_wp2_with (first | (refine blk_load _ rfl 56 _ rfl _ rfl _ _ X _ Try.underlying56 rfl 6 sp_info rfl ?_) | (refine blk_store _ rfl 56 _ _ rfl _ (sc (pv x y z u 4) ⟨#[]⟩ 0) rfl rfl _ _ R 6 sp_info rfl rfl (sp_one _ _ _ _ _ _) ?_; intro W2 R2 p2))
      exact blk_ret1 rfl rfl _ _ _ rfl R2 _ Try.underlying56 rfl 6 sp_info rfl ⟨by rw [HB.out], p2.below B (by omega)⟩
end Go.Proofs.Ytfaebenhjilkgaa.sipg
