/- What package cookie's Open answers. -/
import Derived.Test.YtfaebenhjilkgaaCkSizes
namespace Go.Proofs.Ytfaebenhjilkgaa.cko
open Go.ChangeShapes Go.WideShapes Go.ChangeAt Go.RowKit Go.BigFrame
open Go.Proofs.Ytfaebenhjilkgaa Go.Proofs.Ytfaebenhjilkgaa.boxes Go.Proofs.Ytfaebenhjilkgaa.sipb Go.Proofs.Ytfaebenhjilkgaa.sipe Go.Proofs.Ytfaebenhjilkgaa.ckm Go.Proofs.Ytfaebenhjilkgaa.ckb Go.Proofs.Ytfaebenhjilkgaa.cki Go.Proofs.Ytfaebenhjilkgaa.ckk Go.Proofs.Ytfaebenhjilkgaa.cksz

/-- what is told, by a count, an index and what is made -/
def opd (g : Bool) (c n m x : Int) : Int := if g = true then (if c ≠ n ∧ (c + 1) % 32 ≠ n then 9 else if m = x then 0 else 5) else 1
theorem ope_eq (k l : UInt64) (r : Ro) (s x n : Int) : ope k l r s x n = opd (r.ok && am n 32) (x / 134217728) n (mk k l r s (x / 134217728) (x / 16777216 % 8)) x := rfl
theorem ret_two {a a' b b' : Int} (h1 : a = a') (h2 : b = b') : Ending.returned (.tuple #[.int .i64 a, .int .i64 b]) = .returned (.tuple #[.int .i64 a', .int .i64 b']) := by rw [h1, h2]
set_option maxHeartbeats 4000000 in
theorem open_any (k l : UInt64) (r : Ro) (s x n : Int) (w : World) (ha : r.Ad) (s0 : 0 ≤ s) (s1 : s ≤ 4294967295) (x0 : 0 ≤ x) (x1 : x ≤ 4294967295) :
    Calls Try.prog 9 #[.agg #[nm k, nm l], .agg r.cells, .int .u32 s, .int .u32 x, .int .i64 n] w fun e w' => e = .returned (.tuple #[.int .i64 (opv k l r s x n), .int .i64 (ope k l r s x n)]) ∧ Below w.heap.size w w' := by
  have HV : Hid (opv k l r s x n = if ope k l r s x n = 0 then sz (x / 16777216 % 8) else 0) := (rfl : _ = _)
  rw [ope_eq] at HV ⊢
  have C1 := fun u => portsOf_any r u
  have C2 := fun u => among_any n 32 u
  have C3 : Hid (r.ok = true → ∀ u, Calls Try.prog 7 #[.agg #[nm k, nm l], .agg r.cells, .int .u32 s, .int .i64 (x / 134217728), .int .i64 (x / 16777216 % 8)] u fun e w' => e = .returned (.tuple #[.int .u32 (mk k l r s (x / 134217728) (x / 16777216 % 8)), .int .i64 0]) ∧ Below u.heap.size u w') := fun hr u =>
    make_ok k l r s _ _ u ha s0 s1 (by rw [hr]; unfold am; simp; omega)
  have hx := fun u => index_sz (x / 16777216 % 8) (by omega) (by omega) u
  have ib : 0 ≤ x / 16777216 % 8 ∧ x / 16777216 % 8 < 8 := by omega
  have cb : 0 ≤ x / 134217728 ∧ x / 134217728 < 32 := by omega
  generalize opv k l r s x n = V at *
  generalize hm : mk k l r s (x / 134217728) (x / 16777216 % 8) = M at *
  generalize hz : sz (x / 16777216 % 8) = Z at *
  clear hm hz
  generalize hok : r.ok = ok at *
  generalize am n 32 = an at *
  clear hok ha
  have K0 : Blk (w.alloc (.cells #[nm k, nm l] 24)) w.heap.size #[nm k, nm l] 24 := Blk.new _ _ _
  have R0 : Blk ((w.alloc (.cells #[nm k, nm l] 24)).alloc (.cells r.cells 27)) (w.heap.size + 1) r.cells 27 := Blk.newAt _ _ _ (by simp)
  have B0 := ((Below.refl w.heap.size w).alloc (Nat.le_refl _) (.cells #[nm k, nm l] 24)).alloc (by simp) (.cells r.cells 27)
  replace K0 := K0.alloc (.cells r.cells 27)
  obtain ⟨f, t, p, q⟩ := r
  go_enter Try.func9, Try.ntmps9
  go_upto_region 1 with fail
  refine gen2 (p := fun W => Code.wp _ _ _ _ W) K0 R0 B0 ?_
  clear K0 R0 B0
  intro W K R B
  go_wp2_with (refine blk_load _ rfl 27 _ rfl _ rfl _ _ R _ Try.underlying27 rfl 4 road_info rfl ?_)
  refine (C1 _).mono ?_
  rintro e W1 ⟨rfl, z⟩
  replace K := K.below z K.lt
  replace R := R.below z R.lt
  replace B := B.trans (z.mono (Below.size B))
  clear z
  cases ok
  · go_wp2_with fail
    go_ret2
    exact ⟨ret_two (by rw [HV.out]; rfl) rfl, B⟩
  · go_wp2_with fail
    refine (C2 _).mono ?_
    rintro e W1 ⟨rfl, rfl⟩
    cases an
    · go_wp2_with fail
      go_ret2
      exact ⟨ret_two (by rw [HV.out]; rfl) rfl, B⟩
    · replace C3 := C3.out trivial
      by_cases hst : x / 134217728 ≠ n ∧ (x / 134217728 + 1) % 32 ≠ n
      · have h1 : (x / 134217728 != n) = true := by simpa using hst.1
        have h2 : ((x / 134217728 + 1) % 32 != n) = true := by simpa using hst.2
        have HE : Hid (opd (true && true) (x / 134217728) n M x = 9) := by show opd _ _ _ _ _ = 9; unfold opd; rw [if_pos (show (true && true) = true from rfl), if_pos hst]
        clear hst
        go_wp2_with fail
        go_ret2
        exact ⟨ret_two (by rw [HV.out, HE.out]; rfl) (by rw [HE.out]), B⟩
      · have HE : Hid (opd (true && true) (x / 134217728) n M x = if M = x then 0 else 5) := by show opd _ _ _ _ _ = _; unfold opd; rw [if_pos (show (true && true) = true from rfl), if_neg hst]
        have hq : (x / 134217728 != n) = false ∨ ((x / 134217728 != n) = true ∧ ((x / 134217728 + 1) % 32 != n) = false) := by
          by_cases h1 : x / 134217728 = n
          · exact Or.inl (by simpa using h1)
          · refine Or.inr ⟨by simpa using h1, ?_⟩
            by_cases h2 : (x / 134217728 + 1) % 32 = n
            · simpa using h2
            · exact absurd ⟨h1, h2⟩ hst
        clear hst
        rcases hq with h1 | ⟨h1, h2⟩
        all_goals
          go_wp2_with (first | refine blk_load _ rfl 27 _ rfl _ rfl _ _ R _ Try.underlying27 rfl 4 road_info rfl ?_ | refine blk_load _ rfl 24 _ rfl _ rfl _ _ K _ Try.underlying24 rfl 2 sec_info rfl ?_)
          refine (C3 _).mono ?_
          rintro e W2 ⟨rfl, z⟩
          replace B := B.trans (z.mono (Below.size B))
          clear z
          by_cases hM : M = x
          · rw [if_pos hM] at HE
            subst hM
            go_wp2_with fail
            refine (sizes_any _).mono ?_
            rintro e W3 ⟨rfl, z⟩
            replace B := B.trans (z.mono (Below.size B))
            go_wp2_with fail
            go_ret2
            exact ⟨ret_two (by rw [HV.out, HE.out]; rfl) (by rw [HE.out]), B⟩
          · have hm : (M != x) = true := by simpa using hM
            rw [if_neg hM] at HE
            clear hM
            go_wp2_with fail
            go_ret2
            exact ⟨ret_two (by rw [HV.out, HE.out]; rfl) (by rw [HE.out]), B⟩
end Go.Proofs.Ytfaebenhjilkgaa.cko
