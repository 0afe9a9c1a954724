/- What custref's RoadRight and CookieOf answer. -/
import Derived.Test.YtfaebenhjilkgaaCkMake
import Derived.Test.YtfaebenhjilkgaaSipROf
import Derived.Test.YtfaebenhjilkgaaRefBytes
namespace Go.Proofs.Ytfaebenhjilkgaa.ckr
open Go.ChangeShapes Go.WideShapes Go.ChangeAt Go.RowKit Go.BigFrame
open Go.Proofs.Ytfaebenhjilkgaa Go.Proofs.Ytfaebenhjilkgaa.ethb Go.Proofs.Ytfaebenhjilkgaa.ipb Go.Proofs.Ytfaebenhjilkgaa.boxes Go.Proofs.Ytfaebenhjilkgaa.sipb Go.Proofs.Ytfaebenhjilkgaa.sipe Go.Proofs.Ytfaebenhjilkgaa.sipy Go.Proofs.Ytfaebenhjilkgaa.wds Go.Proofs.Ytfaebenhjilkgaa.ckm Go.Proofs.Ytfaebenhjilkgaa.ckb Go.Proofs.Ytfaebenhjilkgaa.cki Go.Proofs.Ytfaebenhjilkgaa.ckk
open Go.Proofs.Ytfaebenhjilkgaa.refb (bytes_any word_ref between_any)
open Go.Proofs.Ytfaebenhjilkgaa.ipm (bytes_ext)

theorem btw_any (n m : Int) (u : World) : Calls Try.prog 21 #[.int .i64 n, .int .i64 0, .int .i64 (m - 1)] u fun e w' => e = .returned (.bool (am n m)) ∧ w' = u := by
  have h := between_any n 0 (m - 1) u
  have e : decide (0 ≤ n ∧ n ≤ m - 1) = am n m := by unfold am; rw [decide_eq_decide]; omega
  rw [e] at h
  exact h
theorem roadRight_any (r : Ro) (w : World) :
    Calls Try.prog 20 #[.agg r.cells] w fun e w' => e = .returned (.bool r.ok) ∧ Below w.heap.size w w' := by
  have HR : Hid (r.ok = (am r.p 65536 && am r.q 65536)) := (rfl : _ = _)
  obtain ⟨f, t, p, q⟩ := r
  have C1 := fun u => btw_any p 65536 u
  have C2 := fun u => btw_any q 65536 u
  have B0 := (Below.refl w.heap.size w).alloc (Nat.le_refl _) (.cells #[.int .u32 f, .int .u32 t, .int .i64 p, .int .i64 q] 27)
  simp only at HR
  generalize (Ro.mk f t p q).ok = ok at *
  generalize am p 65536 = x at *
  generalize am q 65536 = y at *
  go_enter Try.func20, Try.ntmps20
  go_wp2_with fail
  refine (C1 _).mono ?_
  rintro e w1 ⟨rfl, rfl⟩
  cases x
  · go_wp2_with fail
    go_ret
    exact ⟨by rw [HR.out]; rfl, B0⟩
  · go_wp2_with fail
    refine (C2 _).mono ?_
    rintro e w1 ⟨rfl, rfl⟩
    go_wp2_with fail
    go_ret
    exact ⟨by rw [HR.out]; rfl, B0⟩
set_option maxHeartbeats 4000000 in
theorem rmake_no (k l : UInt64) (r : Ro) (s c i : Int) (w : World) (h : (r.ok && am c 32 && am i 8) = false) :
    Calls Try.prog 8 #[.agg #[nm k, nm l], .agg r.cells, .int .u32 s, .int .i64 c, .int .i64 i] w fun e w' => e = .returned (.tuple #[.int .u32 0, .int .i64 1]) ∧ Below w.heap.size w w' := by
  have C1 := fun u => roadRight_any r u
  have C2 := fun u => btw_any c 32 u
  have C3 := fun u => btw_any i 8 u
  have H : Hid ((r.ok && am c 32 && am i 8) = false) := h
  clear h
  generalize r.ok = x at *
  generalize am c 32 = y at *
  generalize am i 8 = z at *
  have K0 : Blk (w.alloc (.cells #[nm k, nm l] 24)) w.heap.size #[nm k, nm l] 24 := Blk.new _ _ _
  have R0 : Blk ((w.alloc (.cells #[nm k, nm l] 24)).alloc (.cells r.cells 27)) (w.heap.size + 1) r.cells 27 := Blk.newAt _ _ _ (by simp)
  have B0 := ((Below.refl w.heap.size w).alloc (Nat.le_refl _) (.cells #[nm k, nm l] 24)).alloc (by simp) (.cells r.cells 27)
  replace K0 := K0.alloc (.cells r.cells 27)
  obtain ⟨f, t, p, q⟩ := r
  go_enter Try.func8, Try.ntmps8
  go_upto_region 1 with fail
  refine gen2 (p := fun W => Code.wp _ _ _ _ W) K0 R0 B0 ?_
  clear K0 R0 B0
  intro W K R B
  go_wp2_with (refine blk_load _ rfl 27 _ rfl _ rfl _ _ R _ Try.underlying27 rfl 4 road_info rfl ?_)
  refine (C1 _).mono ?_
  rintro e W1 ⟨rfl, m⟩
  replace B := B.trans (m.mono (Below.size B))
  clear m K R
  cases x
  · go_wp2_with fail
    go_ret2
    exact ⟨rfl, B⟩
  · go_wp2_with fail
    refine (C2 _).mono ?_
    rintro e W1 ⟨rfl, rfl⟩
    cases y
    · go_wp2_with fail
      go_ret2
      exact ⟨rfl, B⟩
    · go_wp2_with fail
      refine (C3 _).mono ?_
      rintro e W1 ⟨rfl, rfl⟩
      cases z
      · go_wp2_with fail
        go_ret2
        exact ⟨rfl, B⟩
      · exact absurd H.out (by decide)
/-- a slice of ints that was built -/
def spx (v : Value) (F : Array Value) (n : Nat) (W : World) : Prop := ∃ b, v = .slice (some ⟨b, 0, none⟩) n n ∧ Blk W b F 3
set_option maxHeartbeats 4000000 in
theorem rmake_ok (k l : UInt64) (r : Ro) (s c i : Int) (w : World) (ha : r.Ad) (s0 : 0 ≤ s) (s1 : s ≤ 4294967295) (h : (r.ok && am c 32 && am i 8) = true) :
    Calls Try.prog 8 #[.agg #[nm k, nm l], .agg r.cells, .int .u32 s, .int .i64 c, .int .i64 i] w fun e w' => e = .returned (.tuple #[.int .u32 (mk k l r s c i), .int .i64 0]) ∧ Below w.heap.size w w' := by
  simp only [Bool.and_eq_true] at h
  obtain ⟨⟨hr, hc⟩, hi⟩ := h
  have cb := am_ok hc
  have ib := am_ok hi
  have C1 := fun u => roadRight_any r u
  have C2 := fun u => btw_any c 32 u
  have C3 := fun u => btw_any i 8 u
  rw [hr] at C1
  rw [hc] at C2
  rw [hi] at C3
  obtain ⟨p0, p1, q0, q1⟩ := r.okb hr
  have D1 := fun u => long_ref r.f u ha.f0 ha.f1
  have D2 := fun u => long_ref r.t u ha.t0 ha.t1
  have D3 := fun u => word_ref r.p u p0 p1
  have D4 := fun u => word_ref r.q u q0 q1
  have D5 := fun u => long_ref s u s0 s1
  have D6 : ∀ (b : Nat) (u : World), Blk u b #[.int .i64 c, .int .i64 i] 3 → Calls Try.prog 24 #[.slice (some ⟨b, 0, none⟩) 2 2] u fun e w' => e = .returned (.string ⟨#[b8 c, b8 i]⟩) ∧ Below u.heap.size u w' := fun b u B => by
    refine (bytes_any u b 0 2 [c, i] B.lt (by simp) ?_).mono fun e w' ⟨he, hb⟩ => ⟨he, hb⟩
    intro j hj
    match j, hj with
    | 0, _ | 1, _ => simp [B.cell]
  have C5 := fun u => rof_any k l (utx r s c i) u (by rw [utx_size]; omega)
  have HJ : Hid (((((⟨(adr r.f).toArray⟩ ++ ⟨(adr r.t).toArray⟩) ++ ⟨#[hi8 r.p, lo8 r.p]⟩) ++ ⟨#[hi8 r.q, lo8 r.q]⟩) ++ ⟨(adr s).toArray⟩) ++ ⟨#[b8 c, b8 i]⟩ = utx r s c i) := by
    show _ = _
    apply bytes_ext
    simp [utx, utl]
  have hM : Hid ((c * 8 + i) * 16777216 + ((ofv k l (utx r s c i)).toNat : Int) % 16777216 = mk k l r s c i) := by
    show _ = _
    unfold mk ckn
    unfold mkm
    omega
  have nb := (ofv k l (utx r s c i)).toNat_lt
  generalize mk k l r s c i = M at *
  generalize ofv k l (utx r s c i) = N at *
  generalize utx r s c i = S at *
  have z1 : (⟨(adr r.f).toArray⟩ : ByteArray).size = 4 := rfl
  have z2 : (⟨(adr r.t).toArray⟩ : ByteArray).size = 4 := rfl
  have z3 : (⟨#[hi8 r.p, lo8 r.p]⟩ : ByteArray).size = 2 := rfl
  have z4 : (⟨#[hi8 r.q, lo8 r.q]⟩ : ByteArray).size = 2 := rfl
  have z5 : (⟨(adr s).toArray⟩ : ByteArray).size = 4 := rfl
  have z6 : (⟨#[b8 c, b8 i]⟩ : ByteArray).size = 2 := rfl
  generalize (⟨(adr r.f).toArray⟩ : ByteArray) = V1 at *
  generalize (⟨(adr r.t).toArray⟩ : ByteArray) = V2 at *
  generalize (⟨#[hi8 r.p, lo8 r.p]⟩ : ByteArray) = V3 at *
  generalize (⟨#[hi8 r.q, lo8 r.q]⟩ : ByteArray) = V4 at *
  generalize (⟨(adr s).toArray⟩ : ByteArray) = V5 at *
  generalize (⟨#[b8 c, b8 i]⟩ : ByteArray) = V6 at *
  clear hr hc hi ha
  have K0 : Blk (w.alloc (.cells #[nm k, nm l] 24)) w.heap.size #[nm k, nm l] 24 := Blk.new _ _ _
  have R0 : Blk ((w.alloc (.cells #[nm k, nm l] 24)).alloc (.cells r.cells 27)) (w.heap.size + 1) r.cells 27 := Blk.newAt _ _ _ (by simp)
  have B0 := ((Below.refl w.heap.size w).alloc (Nat.le_refl _) (.cells #[nm k, nm l] 24)).alloc (by simp) (.cells r.cells 27)
  replace K0 := K0.alloc (.cells r.cells 27)
  obtain ⟨f, t, p, q⟩ := r
  go_enter Try.func8, Try.ntmps8
  go_upto_region 1 with fail
  refine gen2 (p := fun W => Code.wp _ _ _ _ W) K0 R0 B0 ?_
  clear K0 R0 B0
  intro W K R B
  go_wp2_with (refine blk_load _ rfl 27 _ rfl _ rfl _ _ R _ Try.underlying27 rfl 4 road_info rfl ?_)
  refine (C1 _).mono ?_
  rintro e W1 ⟨rfl, z⟩
  replace K := K.below z K.lt
  replace R := R.below z R.lt
  replace B := B.trans (z.mono (Below.size B))
  clear z
  go_wp2_with fail
  refine (C2 _).mono ?_
  rintro e W1 ⟨rfl, rfl⟩
  go_wp2_with fail
  refine (C3 _).mono ?_
  rintro e W1 ⟨rfl, rfl⟩
  go_upto_region 3 with fail
  have ne : Nonempty (spc.In (ab.Ab W1)) := ⟨⟨_, ab.Ab.refl W1⟩⟩
  have cr : ∀ (x : spc.In (ab.Ab W1)) o, x.W.cell? ⟨w.heap.size + 1, o, none⟩ = (Ro.cells ⟨f, t, p, q⟩)[o]? := fun x o => (Below.cell x.h (p := ⟨_, o, none⟩) R.lt).trans (R.cell o)
  refine' spc.wp_region_told_in [(2, .string V1), (5, .string V2), (9, .string V3), (13, .string V4), (16, .string V5), (20, undef), (21, .string V6)] [(20, 47)]
    (fun k u W => k = 20 → spx u #[.int .i64 c, .int .i64 i] 2 W) (ab.Ab W1) (fun W W' => Below W.heap.size W W') (by kernel_rfl) (by kernel_rfl) (ab.Ab.drew _) (fun k u W W' hb h hk => ?_) (by simp only [spc.rep, List.lookup, Nat.zero_add, Nat.reduceAdd, Nat.reduceBEq]; exact rfl) ?_
  · obtain ⟨b, e, A⟩ := h hk
    exact ⟨b, e, A.below hb A.lt⟩
  repeat (go_big_quiet_step (fail))
  refine wpQuiet_nil ⟨?_, ?_⟩
  · simp only [List.forall_mem_cons, List.not_mem_nil, false_imp_iff, implies_true, and_true]
    refine ⟨?_, ?_, ?_, ?_, ?_, ?_, ?_⟩
    · rintro _ ⟨⟩ x w2 hC - -
      exact told.call1 22 _ _ _ rfl (by intro args w; simp [go_sem]) rfl ((D1 _).mono fun e w3 ⟨he, hb⟩ => ⟨_, he, Below.trans hC (hb.mono (Below.size hC)), hb, rfl⟩)
    · rintro _ ⟨⟩ x w2 hC - -
      exact told.call1 22 _ _ _ rfl (by intro args w; simp [go_sem]) rfl ((D2 _).mono fun e w3 ⟨he, hb⟩ => ⟨_, he, Below.trans hC (hb.mono (Below.size hC)), hb, rfl⟩)
    · rintro _ ⟨⟩ x w2 hC - -
      exact told.call1 23 _ _ _ rfl (by intro args w; simp [go_sem]) rfl ((D3 _).mono fun e w3 ⟨he, hb⟩ => ⟨_, he, Below.trans hC (hb.mono (Below.size hC)), hb, rfl⟩)
    · rintro _ ⟨⟩ x w2 hC - -
      exact told.call1 23 _ _ _ rfl (by intro args w; simp [go_sem]) rfl ((D4 _).mono fun e w3 ⟨he, hb⟩ => ⟨_, he, Below.trans hC (hb.mono (Below.size hC)), hb, rfl⟩)
    · rintro _ ⟨⟩ x w2 hC - -
      exact told.call1 22 _ _ _ rfl (by intro args w; simp [go_sem]) rfl ((D5 _).mono fun e w3 ⟨he, hb⟩ => ⟨_, he, Below.trans hC (hb.mono (Below.size hC)), hb, rfl⟩)
    · rintro _ ⟨⟩ x w2 hC - -
      refine told.build2 _ _ c i rfl rfl rfl ⟨Below.alloc hC (Below.size hC) _, (Below.refl _ _).alloc (Nat.le_refl _) _, ?_⟩
      rw [if_pos (by decide)]
      exact fun _ => ⟨_, rfl, Blk.new _ _ _⟩
    · rintro _ ⟨⟩ x w2 hC hS -
      obtain ⟨b, e, A⟩ := hS (20, 47) (by simp) (by simp [Oper.looksAt, Op.operands, Call.operands]) rfl
      exact told.call1 24 _ _ (.slice (some ⟨b, 0, none⟩) 2 2) rfl (by intro args w; simp [go_sem]) e ((D6 b _ A).mono fun e w3 ⟨he, hb⟩ => ⟨_, he, Below.trans hC (hb.mono (Below.size hC)), hb, rfl⟩)
  intro x W2 hC hS
  replace K := K.below hC K.lt
  replace B := B.trans (Below.mono hC (Below.size B))
  clear hS ne cr hC R D1 D2 D3 D4 D5 D6
  simp only [spc.jn, Act.put, List.setIfInBounds_toArray, List.set_cons_succ, List.set_cons_zero]
  rw [HJ.out]
  go_wp2_with (refine blk_load _ rfl 24 _ rfl _ rfl _ _ K _ Try.underlying24 rfl 2 sec_info rfl ?_)
  refine (C5 _).mono ?_
  rintro e W3 ⟨rfl, z⟩
  replace B := B.trans (z.mono (Below.size B))
  clear z
  go_wp2_with fail
  go_ret2
  exact ⟨by rw [← hM.out]; rfl, B⟩
end Go.Proofs.Ytfaebenhjilkgaa.ckr
