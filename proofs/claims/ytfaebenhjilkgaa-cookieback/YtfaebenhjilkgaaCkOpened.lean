/- What custref's CookieSizes and Opened answer. -/
import Derived.Test.YtfaebenhjilkgaaCkRef
import Derived.Test.YtfaebenhjilkgaaCkOpen
namespace Go.Proofs.Ytfaebenhjilkgaa.ckd
open Go.ChangeShapes Go.WideShapes Go.ChangeAt Go.RowKit Go.BigFrame
open Go.Proofs.Ytfaebenhjilkgaa Go.Proofs.Ytfaebenhjilkgaa.boxes Go.Proofs.Ytfaebenhjilkgaa.sipb Go.Proofs.Ytfaebenhjilkgaa.sipe Go.Proofs.Ytfaebenhjilkgaa.ckm Go.Proofs.Ytfaebenhjilkgaa.ckb Go.Proofs.Ytfaebenhjilkgaa.cki Go.Proofs.Ytfaebenhjilkgaa.ckk Go.Proofs.Ytfaebenhjilkgaa.cksz Go.Proofs.Ytfaebenhjilkgaa.cko Go.Proofs.Ytfaebenhjilkgaa.ckr

theorem rsizes_any (w : World) : Calls Try.prog 12 #[] w fun e w' => e = .returned (.slice (some ⟨w.heap.size, 0, none⟩) 8 8) ∧ Blk w' w.heap.size SZ 3 ∧ Below w.heap.size w w' := by
  go_enter Try.func12, Try.ntmps12
  go_wp2_with fail
  go_ret
  exact ⟨rfl, Blk.new _ _ _, (Below.refl _ _).alloc (Nat.le_refl _) _⟩
theorem sz_cell {W : World} {b : Nat} (K : Blk W b SZ 3) (i : Int) (h0 : 0 ≤ i) (h1 : i < 8) : W.cell? ⟨b, i.toNat, none⟩ = some (.int .i64 (sz i)) := by
  rw [K.cell]
  have hi : i = 0 ∨ i = 1 ∨ i = 2 ∨ i = 3 ∨ i = 4 ∨ i = 5 ∨ i = 6 ∨ i = 7 := by omega
  rcases hi with rfl | rfl | rfl | rfl | rfl | rfl | rfl | rfl <;> rfl
set_option maxHeartbeats 4000000 in
theorem opened_any (k l : UInt64) (r : Ro) (s x n : Int) (w : World) (ha : r.Ad) (s0 : 0 ≤ s) (s1 : s ≤ 4294967295) (x0 : 0 ≤ x) (x1 : x ≤ 4294967295) :
    Calls Try.prog 10 #[.agg #[nm k, nm l], .agg r.cells, .int .u32 s, .int .u32 x, .int .i64 n] w fun e w' => e = .returned (.tuple #[.int .i64 (opv k l r s x n), .int .i64 (ope k l r s x n)]) ∧ Below w.heap.size w w' := by
  have HV : Hid (opv k l r s x n = if ope k l r s x n = 0 then sz (x / 16777216 % 8) else 0) := (rfl : _ = _)
  rw [ope_eq] at HV ⊢
  obtain ⟨c, hc⟩ : ∃ c, c = x / 134217728 := ⟨_, rfl⟩
  obtain ⟨i, hi⟩ : ∃ i, i = x / 16777216 % 8 := ⟨_, rfl⟩
  have ec : x / 16777216 / 8 = c := by omega
  have ei : x / 16777216 % 8 = i := hi.symm
  have ib : 0 ≤ i ∧ i < 8 := by omega
  have cb : 0 ≤ c ∧ c < 32 := by omega
  rw [← hc, ← hi] at HV ⊢
  clear hc hi
  have C1 := fun u => roadRight_any r u
  have C2 := fun u => btw_any n 32 u
  have C3 : Hid (r.ok = true → ∀ u, Calls Try.prog 8 #[.agg #[nm k, nm l], .agg r.cells, .int .u32 s, .int .i64 c, .int .i64 i] u fun e w' => e = .returned (.tuple #[.int .u32 (mk k l r s c i), .int .i64 0]) ∧ Below u.heap.size u w') := fun hr u =>
    rmake_ok k l r s _ _ u ha s0 s1 (by rw [hr]; unfold am; simp; omega)
  have HS : Hid (∀ (W : World) (b : Nat), Blk W b SZ 3 → W.cell? ⟨b, i.toNat, none⟩ = some (.int .i64 (sz i))) := fun W b K => sz_cell K i ib.1 ib.2
  have nb : Hid (am n 32 = true → 0 ≤ n ∧ n < 32) := am_ok
  generalize opv k l r s x n = V at *
  generalize mk k l r s c i = M at *
  generalize sz i = Z at *
  generalize hok : r.ok = ok at *
  generalize am n 32 = an at *
  clear hok ha
  have K0 : Blk (w.alloc (.cells #[nm k, nm l] 24)) w.heap.size #[nm k, nm l] 24 := Blk.new _ _ _
  have R0 : Blk ((w.alloc (.cells #[nm k, nm l] 24)).alloc (.cells r.cells 27)) (w.heap.size + 1) r.cells 27 := Blk.newAt _ _ _ (by simp)
  have B0 := ((Below.refl w.heap.size w).alloc (Nat.le_refl _) (.cells #[nm k, nm l] 24)).alloc (by simp) (.cells r.cells 27)
  replace K0 := K0.alloc (.cells r.cells 27)
  obtain ⟨f, t, p, q⟩ := r
  go_enter Try.func10, Try.ntmps10
  go_upto_region 1 with fail
  refine gen2 (p := fun W => Code.wp _ _ _ _ W) K0 R0 B0 ?_
  clear K0 R0 B0
  intro W K R B
  go_wp2_with (refine blk_load _ rfl 27 _ rfl _ rfl _ _ R _ Try.underlying27 rfl 4 road_info rfl ?_)
  refine (C1 _).mono ?_
  rintro e W1 ⟨rfl, z⟩
  replace K := K.below z K.lt
  replace R := R.below z R.lt
  replace B := B.trans (z.mono (Below.size B))
  clear z
  cases ok
  · go_wp2_with fail
    go_ret2
    exact ⟨ret_two (by rw [HV.out]; rfl) rfl, B⟩
  · go_wp2_with fail
    refine (C2 _).mono ?_
    rintro e W1 ⟨rfl, rfl⟩
    cases an
    · go_wp2_with fail
      go_ret2
      exact ⟨ret_two (by rw [HV.out]; rfl) rfl, B⟩
    · replace C3 := C3.out trivial
      replace nb := nb.out rfl
      by_cases hst : c ≠ n ∧ (c + 1) % 32 ≠ n
      · have h1 : (c != n) = true := by simpa using hst.1
        have h2 : (c != (n + 31) % 32) = true := by simp; omega
        have HE : Hid (opd (true && true) c n M x = 9) := by show opd _ _ _ _ _ = 9; unfold opd; rw [if_pos (show (true && true) = true from rfl), if_pos hst]
        clear hst
        go_wp2_with fail
        go_ret2
        exact ⟨ret_two (by rw [HV.out, HE.out]; rfl) (by rw [HE.out]), B⟩
      · have HE : Hid (opd (true && true) c n M x = if M = x then 0 else 5) := by show opd _ _ _ _ _ = _; unfold opd; rw [if_pos (show (true && true) = true from rfl), if_neg hst]
        have hq : (c != n) = false ∨ ((c != n) = true ∧ (c != (n + 31) % 32) = false) := by
          by_cases h1 : c = n
          · exact Or.inl (by simpa using h1)
          · exact Or.inr ⟨by simpa using h1, by simp; omega⟩
        clear hst
        rcases hq with h1 | ⟨h1, h2⟩
        all_goals
          go_wp2_with (first | refine blk_load _ rfl 27 _ rfl _ rfl _ _ R _ Try.underlying27 rfl 4 road_info rfl ?_ | refine blk_load _ rfl 24 _ rfl _ rfl _ _ K _ Try.underlying24 rfl 2 sec_info rfl ?_)
          refine (C3 _).mono ?_
          rintro e W2 ⟨rfl, z⟩
          replace B := B.trans (z.mono (Below.size B))
          clear z
          by_cases hM : M = x
          · rw [if_pos hM] at HE
            subst hM
            go_wp2_with fail
            refine (rsizes_any _).mono ?_
            rintro e W3 ⟨rfl, Y, z⟩
            replace B := B.trans (z.mono (Below.size B))
            have hcl := HS.out _ _ Y
            have ht : (i.toNat : Int) = i := by omega
            go_wp2_with fail
            go_ret2
            exact ⟨ret_two (by rw [HV.out, HE.out]; rfl) (by rw [HE.out]), B⟩
          · have hm : (M != x) = true := by simpa using hM
            rw [if_neg hM] at HE
            clear hM
            go_wp2_with fail
            go_ret2
            exact ⟨ret_two (by rw [HV.out, HE.out]; rfl) (by rw [HE.out]), B⟩
end Go.Proofs.Ytfaebenhjilkgaa.ckd
