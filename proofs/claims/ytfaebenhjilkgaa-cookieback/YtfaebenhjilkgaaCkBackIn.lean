/- The walks of CookieBack and CookieIndex. -/
import Derived.Test.YtfaebenhjilkgaaCkLives
import Derived.Test.YtfaebenhjilkgaaCkOpened
namespace Go.Proofs.Ytfaebenhjilkgaa.ckba
open Go.ChangeShapes Go.WideShapes Go.ChangeAt Go.RowKit Go.BigFrame
open Go.Proofs.Ytfaebenhjilkgaa Go.Proofs.Ytfaebenhjilkgaa.boxes Go.Proofs.Ytfaebenhjilkgaa.sipb Go.Proofs.Ytfaebenhjilkgaa.sipe Go.Proofs.Ytfaebenhjilkgaa.ckm Go.Proofs.Ytfaebenhjilkgaa.ckb Go.Proofs.Ytfaebenhjilkgaa.cki Go.Proofs.Ytfaebenhjilkgaa.ckk Go.Proofs.Ytfaebenhjilkgaa.cksz Go.Proofs.Ytfaebenhjilkgaa.cko Go.Proofs.Ytfaebenhjilkgaa.ckp Go.Proofs.Ytfaebenhjilkgaa.ckl Go.Proofs.Ytfaebenhjilkgaa.ckd

/-- what is known of what is made and opened -/
theorem names (k l : UInt64) (r : Ro) (s c i n : Int) (ha : r.Ad) (s0 : 0 ≤ s) (s1 : s ≤ 4294967295) :
    ∃ (a e y g : Int), (e = 0 ∨ e = 1) ∧ (e = 0 → 0 ≤ c ∧ c < 32 ∧ 0 ≤ i ∧ i < 8 ∧ (0 ≤ n → n ≤ 31 → ((n = c ∨ n = (c + 1) % 32) → y = sz i ∧ g = 0) ∧ (¬ (n = c ∨ n = (c + 1) % 32) → y = 0 ∧ g = 9))) ∧
      (∀ u, Calls Try.prog 7 #[.agg #[nm k, nm l], .agg r.cells, .int .u32 s, .int .i64 c, .int .i64 i] u fun z w' => z = .returned (.tuple #[.int .u32 a, .int .i64 e]) ∧ Below u.heap.size u w') ∧
      (∀ u, Calls Try.prog 9 #[.agg #[nm k, nm l], .agg r.cells, .int .u32 s, .int .u32 a, .int .i64 n] u fun z w' => z = .returned (.tuple #[.int .i64 y, .int .i64 g]) ∧ Below u.heap.size u w') := by
  cases h : (r.ok && am c 32 && am i 8)
  · exact ⟨0, 1, opv k l r s 0 n, ope k l r s 0 n, Or.inr rfl, fun h => absurd h (by decide), fun u => make_no k l r s c i u h, fun u => open_any k l r s 0 n u ha s0 s1 (by omega) (by omega)⟩
  · have h' := h
    simp only [Bool.and_eq_true] at h'
    obtain ⟨⟨hr, hc⟩, hi⟩ := h'
    have cb := am_ok hc
    have ib := am_ok hi
    have mb := mk_bd k l r s cb.1 cb.2 ib.1 ib.2
    refine ⟨_, 0, _, _, Or.inl rfl, fun _ => ⟨cb.1, cb.2, ib.1, ib.2, fun n0 n1 => ?_⟩, fun u => make_ok k l r s c i u ha s0 s1 h, fun u => open_any k l r s _ n u ha s0 s1 mb.1 mb.2⟩
    rw [ope_mk k l r s hr ib.1 ib.2 n0 n1, opv_mk k l r s hr ib.1 ib.2 n0 n1]
    exact ⟨fun h => by rw [if_pos h, if_pos h]; exact ⟨rfl, rfl⟩, fun h => by rw [if_neg h, if_neg h]; exact ⟨rfl, rfl⟩⟩
set_option maxHeartbeats 8000000 in
theorem back_any (k l : UInt64) (r : Ro) (s c i n : Int) (w : World) (ha : r.Ad) (s0 : 0 ≤ s) (s1 : s ≤ 4294967295) :
    Calls Try.prog 4 #[.agg #[nm k, nm l], .agg r.cells, .int .u32 s, .int .i64 c, .int .i64 i, .int .i64 n] w fun e w' => e = .returned (.bool true) ∧ Below w.heap.size w w' := by
  obtain ⟨a, e, y, g, he, hk, C1, C2⟩ := names k l r s c i n ha s0 s1
  clear ha
  have HK : Hid (e = 0 → 0 ≤ c ∧ c < 32 ∧ 0 ≤ i ∧ i < 8 ∧ (0 ≤ n → n ≤ 31 → ((n = c ∨ n = (c + 1) % 32) → y = sz i ∧ g = 0) ∧ (¬ (n = c ∨ n = (c + 1) % 32) → y = 0 ∧ g = 9))) := hk
  have HE : Hid (e = 0 ∨ e = 1) := he
  clear hk he
  have X0 : Blk (w.alloc (.cells #[nm k, nm l] 24)) w.heap.size #[nm k, nm l] 24 := Blk.new _ _ _
  have Y0 : Blk ((w.alloc (.cells #[nm k, nm l] 24)).alloc (.cells r.cells 27)) (w.heap.size + 1) r.cells 27 := Blk.newAt _ _ _ (by simp)
  have B0 := ((Below.refl w.heap.size w).alloc (Nat.le_refl _) (.cells #[nm k, nm l] 24)).alloc (by simp) (.cells r.cells 27)
  replace X0 := X0.alloc (.cells r.cells 27)
  obtain ⟨f, t, p, q⟩ := r
  go_enter Try.func4, Try.ntmps4
  go_upto_region 1 with fail
  refine gen2 (p := fun W => Code.wp _ _ _ _ W) X0 Y0 B0 ?_
  clear X0 Y0 B0
  intro W X Y B
  go_wp2_with (first | refine blk_load _ rfl 27 _ rfl _ rfl _ _ Y _ Try.underlying27 rfl 4 road_info rfl ?_ | refine blk_load _ rfl 24 _ rfl _ rfl _ _ X _ Try.underlying24 rfl 2 sec_info rfl ?_)
  refine (C1 _).mono ?_
  rintro _ W1 ⟨rfl, z⟩
  replace X := X.below z X.lt
  replace Y := Y.below z Y.lt
  replace B := B.trans (z.mono (Below.size B))
  clear z
  go_wp2_with (first | refine blk_load _ rfl 27 _ rfl _ rfl _ _ Y _ Try.underlying27 rfl 4 road_info rfl ?_ | refine blk_load _ rfl 24 _ rfl _ rfl _ _ X _ Try.underlying24 rfl 2 sec_info rfl ?_)
  refine (C2 _).mono ?_
  rintro _ W2 ⟨rfl, z⟩
  replace B := B.trans (z.mono (Below.size B))
  clear z X Y C1 C2
  go_wp2_with fail
  refine (lives_any _).mono ?_
  rintro _ W3 ⟨rfl, z⟩
  replace B := B.trans (z.mono (Below.size B))
  clear z
  rcases HE.out with rfl | rfl
  · have H := HK.out
    simp only [true_imp_iff] at H
    obtain ⟨c0, c1, i0, i1, H⟩ := H
    by_cases hn : 0 ≤ n ∧ n ≤ 31
    · obtain ⟨n0, n1⟩ := hn
      have H := H n0 n1
      by_cases h : n = c ∨ n = (c + 1) % 32
      · obtain ⟨rfl, rfl⟩ := H.1 h
        have hx := fun u => index_sz i i0 i1 u
        generalize sz i = v at *
        have hq : (n == c) = true ∨ ((n == c) = false ∧ (n == (c + 1) % 32) = true) := by
          by_cases h1 : n = c
          · exact Or.inl (by simpa using h1)
          · exact Or.inr ⟨by simpa using h1, by simp; omega⟩
        clear h H HK HE
        rcases hq with h1 | ⟨h1, h2⟩
        all_goals
          go_wp2_with fail
          refine (sizes_any _).mono ?_
          rintro _ W4 ⟨rfl, z⟩
          replace B := B.trans (z.mono (Below.size B))
          go_wp2_with fail
          go_ret
          exact ⟨rfl, B⟩
      · obtain ⟨rfl, rfl⟩ := H.2 h
        have h1 : (n == c) = false := by simp; omega
        have h2 : (n == (c + 1) % 32) = false := by simp; omega
        clear h H HK HE
        go_wp2_with fail
        go_ret
        exact ⟨rfl, B⟩
    · clear H HK HE
      by_cases h0 : n < 0
      · go_wp2_with fail
        refine (lives_any _).mono ?_
        rintro _ W4 ⟨rfl, z⟩
        replace B := B.trans (z.mono (Below.size B))
        go_wp2_with fail
        go_ret
        exact ⟨rfl, B⟩
      · have h1 : 31 < n := by omega
        go_wp2_with fail
        refine (lives_any _).mono ?_
        rintro _ W4 ⟨rfl, z⟩
        replace B := B.trans (z.mono (Below.size B))
        go_wp2_with fail
        go_ret
        exact ⟨rfl, B⟩
  · clear HK HE
    go_wp2_with fail
    refine (lives_any _).mono ?_
    rintro _ W4 ⟨rfl, z⟩
    replace B := B.trans (z.mono (Below.size B))
    go_wp2_with fail
    go_ret
    exact ⟨rfl, B⟩
end Go.Proofs.Ytfaebenhjilkgaa.ckba
