/- What package cookie's inner functions answer: among, portsOf, appendNumber, under. -/
import Derived.Test.YtfaebenhjilkgaaCkMath
import Derived.Test.YtfaebenhjilkgaaWds
import Derived.Test.YtfaebenhjilkgaaSipBase
namespace Go.Proofs.Ytfaebenhjilkgaa.cki
open Go.ChangeShapes Go.WideShapes Go.ChangeAt Go.RowKit
open Go.Proofs.Ytfaebenhjilkgaa Go.Proofs.Ytfaebenhjilkgaa.EM Go.Proofs.Ytfaebenhjilkgaa.ethb Go.Proofs.Ytfaebenhjilkgaa.SM Go.Proofs.Ytfaebenhjilkgaa.ipb Go.Proofs.Ytfaebenhjilkgaa.buf Go.Proofs.Ytfaebenhjilkgaa.boxes Go.Proofs.Ytfaebenhjilkgaa.ckm
open Go.Proofs.Ytfaebenhjilkgaa.sipb (gen)
open Go.Proofs.Ytfaebenhjilkgaa.sumw (Qd Qd.refl Qd.drewN Qd.trans)

theorem among_any (n m : Int) (w : World) :
    Calls Try.prog 17 #[.int .i64 n, .int .i64 m] w fun e w' => e = .returned (.bool (am n m)) ∧ w' = w := by
  go_enter Try.func17, Try.ntmps17
  go_wp2
  all_goals go_ret
  all_goals exact ⟨by unfold am; first | (simp_all; done) | (simp_all; omega), rfl⟩
theorem road_info : (Try.prog.info? 27).map (·.size) = some 4 := by kernel_rfl
theorem road_one (r : Ro) : r.cells.all (·.oneCell') = true := by simp [Value.oneCell']
theorem portsOf_any (r : Ro) (w : World) :
    Calls Try.prog 16 #[.agg r.cells] w fun e w' => e = .returned (.bool r.ok) ∧ Below w.heap.size w w' := by
  have HR : Hid (r.ok = (am r.p 65536 && am r.q 65536)) := (rfl : _ = _)
  obtain ⟨f, t, p, q⟩ := r
  have C1 := fun u => among_any p 65536 u
  have C2 := fun u => among_any q 65536 u
  have B0 := (Below.refl w.heap.size w).alloc (Nat.le_refl _) (.cells #[.int .u32 f, .int .u32 t, .int .i64 p, .int .i64 q] 27)
  simp only at HR
  generalize (Ro.mk f t p q).ok = ok at *
  generalize am p 65536 = x at *
  generalize am q 65536 = y at *
  go_enter Try.func16, Try.ntmps16
  go_wp2_with fail
  refine (C1 _).mono ?_
  rintro e w1 ⟨rfl, rfl⟩
  cases x
  · go_wp2_with fail
    go_ret
    exact ⟨by rw [HR.out]; rfl, B0⟩
  · go_wp2_with fail
    refine (C2 _).mono ?_
    rintro e w1 ⟨rfl, rfl⟩
    go_wp2_with fail
    go_ret
    exact ⟨by rw [HR.out]; rfl, B0⟩
theorem pow8 (j : Nat) : (2 : Int) ^ (8 * j) = 256 ^ j := by rw [Int.pow_mul]; rfl
set_option maxHeartbeats 1000000 in
theorem appendNumber_any (w : World) (B : Nat) (v : Value) (l : List UInt8) (n : Int) (K : Nat) (hown : Own w B v l) (hl : l.length ≤ 1000) (hB : B ≤ w.heap.size) (_h0 : 0 ≤ n) (_h1 : n ≤ 4294967295) (hK : K ≤ 4) :
    Calls Try.prog 29 #[v, .int .u32 n, .int .i64 K] w fun e w' => ∃ v', e = .returned v' ∧ Own w' B v' (l ++ num n K) ∧ Below B w w' := by
  go_enter Try.func29, Try.ntmps29
  go_wp2_with fail
  go_loopw [0, 7] (fun x i wr => ∃ k : Nat, i = .int .i64 ((k : Int) - 1) ∧ k ≤ K ∧ (∃ m, Own wr B x (l ++ m) ∧ m ++ num n k = num n K) ∧ Below B w wr) (fun _ i _ => (intOf i + 1).toNat)
  case atStart => exact ⟨K, rfl, Nat.le_refl _, ⟨[], by simpa using hown, rfl⟩, Below.refl _ _⟩
  case round =>
    obtain ⟨k, rfl, hk, ⟨m, hm, he⟩, hb⟩ := hrel
    by_cases hk0 : k = 0
    · subst hk0
      go_wp2_with fail
      go_ret
      refine ⟨_, rfl, ?_, hb⟩
      simp only [num, List.append_nil] at he
      rw [← he]; exact hm
    · obtain ⟨j, rfl⟩ : ∃ j, k = j + 1 := ⟨k - 1, by omega⟩
      have hj : (0 : Int) ≤ ((j + 1 : Nat) : Int) - 1 := by omega
      have z := hb.size
      have hml : m.length ≤ 4 := by have := congrArg List.length he; simp only [List.length_append, num_len] at this; omega
      go_wp2_with (at_builtin; refine app_own _ rfl _ _ rfl B _ _ rfl (hm.alloc _) ⟨wr.heap.size, 0, none⟩ 1 1 [b8 (n / 256 ^ j)] rfl rfl ?c1 (by simp; omega) (by simp; omega) ?_)
      case c1 =>
        intro x hx
        match x, hx with
        | 0, _ => simp [Addr.add, b8_at, pow8]
      intro v' w' h1 h2
      go_wp2_with fail
      refine ⟨⟨j, rfl, by omega, ⟨m ++ [b8 (n / 256 ^ j)], h1, by rw [← he]; simp [num]⟩, (hb.alloc (by omega) _).trans h2⟩, by simp [intOf]⟩
set_option maxHeartbeats 1000000 in
theorem under_any (r : Ro) (s c i : Int) (w : World) (hr : r.ok = true) (ha : r.Ad) (s0 : 0 ≤ s) (s1 : s ≤ 4294967295) (c0 : 0 ≤ c) (c1 : c ≤ 31) (i0 : 0 ≤ i) (i1 : i ≤ 7) :
    Calls Try.prog 19 #[.agg r.cells, .int .u32 s, .int .i64 c, .int .i64 i] w fun e w' => e = .returned (.string (utx r s c i)) ∧ Below w.heap.size w w' := by
  obtain ⟨p0, p1, q0, q1⟩ := r.okb hr
  have f0 := ha.f0; have f1 := ha.f1; have t0 := ha.t0; have t1 := ha.t1
  have HU : Hid (utl r s c i = num r.f 4 ++ num r.t 4 ++ num r.p 2 ++ num r.q 2 ++ num s 4 ++ [b8 c, b8 i]) := by
    show _ = _
    rw [num4 _ f0 f1, num4 _ t0 t1, num4 _ s0 s1, num2 _ p0 p1, num2 _ q0 q1]
    simp [utl]
  have ec : ((b8 c).toNat : Int) = c := by rw [b8_at]; omega
  have ei : ((b8 i).toNat : Int) = i := by rw [b8_at]; omega
  clear hr ha
  have K0 : Blk (w.alloc (.cells r.cells 27)) w.heap.size r.cells 27 := Blk.new _ _ _
  have B0 := (Below.refl w.heap.size w).alloc (Nat.le_refl _) (.cells r.cells 27)
  obtain ⟨f, t, p, q⟩ := r
  simp only at *
  go_enter Try.func19, Try.ntmps19
  go_upto_region 1 with fail
  refine gen (p := fun W => Code.wp _ _ _ _ W) K0 B0 ?_
  clear K0 B0
  intro W K B
  have z := Below.size B
  go_wp2_with (at_make; refine make_own _ rfl _ _ rfl W.heap.size _ _ _ 18 rfl rfl ?c1 (by omega) (Nat.le_refl _) ?_)
  case c1 => simp
  intro v1 w1 o1 l1
  have hz := K.lt
  replace K := K.below l1 hz
  have kc := K.cell 0
  go_wp2_with fail
  refine (appendNumber_any _ W.heap.size v1 _ f 4 o1 (by simp) l1.size (by omega) (by omega) (by omega)).mono ?_
  rintro e w2 ⟨v2, rfl, o2, m2⟩
  have l2 := l1.trans m2
  replace K := K.below m2 hz
  clear kc o1 l1 m2
  have kc := K.cell 1
  go_wp2_with fail
  refine (appendNumber_any _ W.heap.size v2 _ t 4 o2 (by simp [num_len]) l2.size (by omega) (by omega) (by omega)).mono ?_
  rintro e w3 ⟨v3, rfl, o3, m3⟩
  have l3 := l2.trans m3
  replace K := K.below m3 hz
  clear kc o2 l2 m3
  have kc := K.cell 2
  go_wp2_with fail
  refine (appendNumber_any _ W.heap.size v3 _ p 2 o3 (by simp [num_len]) l3.size (by omega) (by omega) (by omega)).mono ?_
  rintro e w4 ⟨v4, rfl, o4, m4⟩
  have l4 := l3.trans m4
  replace K := K.below m4 hz
  clear kc o3 l3 m4
  have kc := K.cell 3
  go_wp2_with fail
  refine (appendNumber_any _ W.heap.size v4 _ q 2 o4 (by simp [num_len]) l4.size (by omega) (by omega) (by omega)).mono ?_
  rintro e w5 ⟨v5, rfl, o5, m5⟩
  have l5 := l4.trans m5
  replace K := K.below m5 hz
  clear kc o4 l4 m5
  have kc := K.cell 3
  go_wp2_with fail
  refine (appendNumber_any _ W.heap.size v5 _ s 4 o5 (by simp [num_len]) l5.size (by omega) (by omega) (by omega)).mono ?_
  rintro e w6 ⟨v6, rfl, o6, m6⟩
  have l6 := l5.trans m6
  replace K := K.below m6 hz
  clear kc o5 l5 m6
  go_wp2_with (at_builtin; refine app_own _ rfl _ _ rfl W.heap.size _ _ rfl (o6.alloc _) ⟨w6.heap.size, 0, none⟩ 2 2 [b8 c, b8 i] rfl rfl ?c2 (by simp [num_len]) (by simp; have := l6.size; omega) ?_)
  case c2 =>
    intro j hj
    match j, hj with
    | 0, _ => simp [Addr.add, ec]
    | 1, _ => simp [Addr.add, ei]
  intro v7 w7 o7 l7'
  have l7 := (l6.alloc l6.size _).trans l7'
  have o8 : Own w7 W.heap.size v7 (utl ⟨f, t, p, q⟩ s c i) := by rw [HU.out]; simpa using o7
  have hs := str_own o8
  have B7 := B.trans (l7.mono z)
  clear o7 o8 l7 l7' l6 o6 K
  go_wp2_with fail
  go_ret
  exact ⟨rfl, B7⟩
end Go.Proofs.Ytfaebenhjilkgaa.cki
