/- What package cookie's Make answers. -/
import Derived.Test.YtfaebenhjilkgaaCkBase
import Derived.Test.YtfaebenhjilkgaaCkIn
import Derived.Test.YtfaebenhjilkgaaAb
namespace Go.Proofs.Ytfaebenhjilkgaa.ckk
open Go.ChangeShapes Go.WideShapes Go.ChangeAt Go.RowKit Go.BigFrame
open Go.Proofs.Ytfaebenhjilkgaa Go.Proofs.Ytfaebenhjilkgaa.boxes Go.Proofs.Ytfaebenhjilkgaa.sipb Go.Proofs.Ytfaebenhjilkgaa.sipe Go.Proofs.Ytfaebenhjilkgaa.ckm Go.Proofs.Ytfaebenhjilkgaa.ckb Go.Proofs.Ytfaebenhjilkgaa.cki

theorem join_law (c i m : Int) (c0 : 0 ≤ c) (c1 : c < 32) (i0 : 0 ≤ i) (i1 : i < 8) (m0 : 0 ≤ m) (m1 : m < 16777216) :
    bits .or .u32 (bits .or .u32 (c * 134217728) (i * 16777216)) m = ckn c i m := by
  obtain ⟨C, rfl⟩ := Int.eq_ofNat_of_zero_le c0
  obtain ⟨I, rfl⟩ := Int.eq_ofNat_of_zero_le i0
  obtain ⟨M, rfl⟩ := Int.eq_ofNat_of_zero_le m0
  have e1 : bits .or .u32 ((C : Int) * 134217728) ((I : Int) * 16777216) = ((C * 134217728 + I * 16777216 : Nat) : Int) := by
    have := u32_or_nat (C * 134217728) (I * 16777216) (by omega) (by omega)
    rw [nat_join 27 _ _ (by omega) (by omega)] at this
    simpa using this
  rw [e1, u32_or_nat _ _ (by omega) (by omega), nat_join 24 _ _ (by omega) (by omega)]
  unfold ckn; omega
set_option maxHeartbeats 4000000 in
theorem make_no (k l : UInt64) (r : Ro) (s c i : Int) (w : World) (h : (r.ok && am c 32 && am i 8) = false) :
    Calls Try.prog 7 #[.agg #[nm k, nm l], .agg r.cells, .int .u32 s, .int .i64 c, .int .i64 i] w fun e w' => e = .returned (.tuple #[.int .u32 0, .int .i64 1]) ∧ Below w.heap.size w w' := by
  have C1 := fun u => portsOf_any r u
  have C2 := fun u => among_any c 32 u
  have C3 := fun u => among_any i 8 u
  have H : Hid ((r.ok && am c 32 && am i 8) = false) := h
  clear h
  generalize r.ok = x at *
  generalize am c 32 = y at *
  generalize am i 8 = z at *
  have K0 : Blk (w.alloc (.cells #[nm k, nm l] 24)) w.heap.size #[nm k, nm l] 24 := Blk.new _ _ _
  have R0 : Blk ((w.alloc (.cells #[nm k, nm l] 24)).alloc (.cells r.cells 27)) (w.heap.size + 1) r.cells 27 := Blk.newAt _ _ _ (by simp)
  have B0 := ((Below.refl w.heap.size w).alloc (Nat.le_refl _) (.cells #[nm k, nm l] 24)).alloc (by simp) (.cells r.cells 27)
  replace K0 := K0.alloc (.cells r.cells 27)
  obtain ⟨f, t, p, q⟩ := r
  go_enter Try.func7, Try.ntmps7
  go_upto_region 1 with fail
  refine gen2 (p := fun W => Code.wp _ _ _ _ W) K0 R0 B0 ?_
  clear K0 R0 B0
  intro W K R B
  go_wp2_with (refine blk_load _ rfl 27 _ rfl _ rfl _ _ R _ Try.underlying27 rfl 4 road_info rfl ?_)
  refine (C1 _).mono ?_
  rintro e W1 ⟨rfl, m⟩
  replace B := B.trans (m.mono (Below.size B))
  clear m K R
  cases x
  · go_wp2_with fail
    go_ret2
    exact ⟨rfl, B⟩
  · go_wp2_with fail
    refine (C2 _).mono ?_
    rintro e W1 ⟨rfl, rfl⟩
    cases y
    · go_wp2_with fail
      go_ret2
      exact ⟨rfl, B⟩
    · go_wp2_with fail
      refine (C3 _).mono ?_
      rintro e W1 ⟨rfl, rfl⟩
      cases z
      · go_wp2_with fail
        go_ret2
        exact ⟨rfl, B⟩
      · exact absurd H.out (by decide)
set_option maxHeartbeats 4000000 in
theorem make_ok (k l : UInt64) (r : Ro) (s c i : Int) (w : World) (ha : r.Ad) (s0 : 0 ≤ s) (s1 : s ≤ 4294967295) (h : (r.ok && am c 32 && am i 8) = true) :
    Calls Try.prog 7 #[.agg #[nm k, nm l], .agg r.cells, .int .u32 s, .int .i64 c, .int .i64 i] w fun e w' => e = .returned (.tuple #[.int .u32 (mk k l r s c i), .int .i64 0]) ∧ Below w.heap.size w w' := by
  simp only [Bool.and_eq_true] at h
  obtain ⟨⟨hr, hc⟩, hi⟩ := h
  have cb := am_ok hc
  have ib := am_ok hi
  have C1 := fun u => portsOf_any r u
  have C2 := fun u => among_any c 32 u
  have C3 := fun u => among_any i 8 u
  rw [hr] at C1
  rw [hc] at C2
  rw [hi] at C3
  have C4 := fun u => under_any r s c i u hr ha s0 s1 cb.1 (by omega) ib.1 (by omega)
  have C5 := fun u => of_any k l (utx r s c i) u (by rw [utx_size]; omega)
  have HM : Hid (bits .or .u32 (bits .or .u32 (c * 134217728) (i * 16777216)) (mkm k l r s c i) = mk k l r s c i) := join_law c i _ cb.1 cb.2 ib.1 ib.2 (mkm_bd k l r s c i).1 (mkm_bd k l r s c i).2
  have hn : (((ofv k l (utx r s c i)).toNat : Int) % 4294967296) % 16777216 = mkm k l r s c i := by unfold mkm; omega
  have nb := (ofv k l (utx r s c i)).toNat_lt
  generalize mk k l r s c i = M at *
  generalize mkm k l r s c i = m at *
  generalize ofv k l (utx r s c i) = N at *
  generalize utx r s c i = S at *
  clear hr hc hi ha
  have K0 : Blk (w.alloc (.cells #[nm k, nm l] 24)) w.heap.size #[nm k, nm l] 24 := Blk.new _ _ _
  have R0 : Blk ((w.alloc (.cells #[nm k, nm l] 24)).alloc (.cells r.cells 27)) (w.heap.size + 1) r.cells 27 := Blk.newAt _ _ _ (by simp)
  have B0 := ((Below.refl w.heap.size w).alloc (Nat.le_refl _) (.cells #[nm k, nm l] 24)).alloc (by simp) (.cells r.cells 27)
  replace K0 := K0.alloc (.cells r.cells 27)
  obtain ⟨f, t, p, q⟩ := r
  go_enter Try.func7, Try.ntmps7
  go_upto_region 1 with fail
  refine gen2 (p := fun W => Code.wp _ _ _ _ W) K0 R0 B0 ?_
  clear K0 R0 B0
  intro W K R B
  go_wp2_with (refine blk_load _ rfl 27 _ rfl _ rfl _ _ R _ Try.underlying27 rfl 4 road_info rfl ?_)
  refine (C1 _).mono ?_
  rintro e W1 ⟨rfl, z⟩
  replace K := K.below z K.lt
  replace R := R.below z R.lt
  replace B := B.trans (z.mono (Below.size B))
  clear z
  go_wp2_with fail
  refine (C2 _).mono ?_
  rintro e W1 ⟨rfl, rfl⟩
  go_wp2_with fail
  refine (C3 _).mono ?_
  rintro e W1 ⟨rfl, rfl⟩
  go_upto_region 3 with fail
  have ck := ab.cells K
  have cr := ab.cells R
  have ne := ab.ne W1
  refine ab.region (by kernel_rfl) (by kernel_rfl) ?_
  repeat (go_big_quiet_step (first | (go_at_call 19; exact ab.call (C4 _)) | (go_at_call 18; exact ab.call (C5 _))))
  refine wpQuiet_nil ?_
  intro _ hx'
  obtain ⟨x', rfl⟩ := hx'
  have B9 := B.trans (x'.h.mono (Below.size B))
  clear ck cr ne K R B
  go_wp2_with fail
  go_ret2
  exact ⟨by rw [HM.out]; rfl, B9⟩
end Go.Proofs.Ytfaebenhjilkgaa.ckk
