/- The walk of CookieOnly. -/
import Derived.Test.YtfaebenhjilkgaaCkLives
namespace Go.Proofs.Ytfaebenhjilkgaa.ckon
open Go.ChangeShapes Go.WideShapes Go.ChangeAt Go.RowKit Go.BigFrame
open Go.Proofs.Ytfaebenhjilkgaa Go.Proofs.Ytfaebenhjilkgaa.boxes Go.Proofs.Ytfaebenhjilkgaa.sipb Go.Proofs.Ytfaebenhjilkgaa.sipe Go.Proofs.Ytfaebenhjilkgaa.ckm Go.Proofs.Ytfaebenhjilkgaa.ckb Go.Proofs.Ytfaebenhjilkgaa.cki Go.Proofs.Ytfaebenhjilkgaa.ckk Go.Proofs.Ytfaebenhjilkgaa.cksz Go.Proofs.Ytfaebenhjilkgaa.cko Go.Proofs.Ytfaebenhjilkgaa.ckp Go.Proofs.Ytfaebenhjilkgaa.ckl

/-- all that is known: how many so far (P: at a count, of so many indexes), what is opened; 'ok': the arguments are right -/
theorem names (k l : UInt64) (r : Ro) (s x n : Int) (ha : r.Ad) (s0 : 0 ≤ s) (s1 : s ≤ 4294967295) (x0 : 0 ≤ x) (x1 : x ≤ 4294967295) :
    ∃ (y g : Int) (P : Int → Nat → Int), (g = 1 ∨ (0 ≤ n ∧ n < 32 ∧ (∀ a, P a 0 = 0) ∧ (∀ a j, 0 ≤ P a j ∧ P a j ≤ 1) ∧ P n 8 + P ((n + 31) % 32) 8 = (if g = 0 then 1 else 0) ∧
        (∀ a : Int, 0 ≤ a → a < 32 → ∀ j : Nat, j < 8 → ∃ z : Int, P a (j + 1) = (if (z == x) = true then P a j + 1 else P a j) ∧
          (∀ u, Calls Try.prog 7 #[.agg #[nm k, nm l], .agg r.cells, .int .u32 s, .int .i64 a, .int .i64 j] u fun q w' => q = .returned (.tuple #[.int .u32 z, .int .i64 0]) ∧ Below u.heap.size u w')))) ∧
      (∀ u, Calls Try.prog 9 #[.agg #[nm k, nm l], .agg r.cells, .int .u32 s, .int .u32 x, .int .i64 n] u fun z w' => z = .returned (.tuple #[.int .i64 y, .int .i64 g]) ∧ Below u.heap.size u w') := by
  refine ⟨opv k l r s x n, ope k l r s x n, one (good k l r s x) x, ?_, fun u => open_any k l r s x n u ha s0 s1 x0 x1⟩
  cases h : (r.ok && am n 32)
  · exact Or.inl ((ope_arg k l r s x n).2 h)
  · have h' := h
    simp only [Bool.and_eq_true] at h'
    have nb := am_ok h'.2
    refine Or.inr ⟨nb.1, nb.2, one_zero _ _, fun a j => (by unfold one; split <;> omega), all2_ope k l r s x n h x0 x1, fun a a0 a1 j hj => ⟨mk k l r s a j, ?_, fun u => make_ok k l r s a j u ha s0 s1 (by rw [h'.1]; unfold am; simp; omega)⟩⟩
    refine one_step _ x a j _ ?_
    rw [beq_iff_eq]
    exact mk_iff k l r s x (by omega) (by omega)
theorem idx0 (a b : Int) (u : World) : (Instr.index 42 (.agg #[.int .i64 a, .int .i64 b]) (.int .i64 0)).run Try.prog u = .ok (.int .i64 a) u := by
  simp [Instr.index, run_underlying Try.underlying42, asIntOf, go_sem]
theorem idx1 (a b : Int) (u : World) : (Instr.index 42 (.agg #[.int .i64 a, .int .i64 b]) (.int .i64 1)).run Try.prog u = .ok (.int .i64 b) u := by
  simp [Instr.index, run_underlying Try.underlying42, asIntOf, go_sem]
theorem last_law (g t : Int) (h : t = if g = 0 then 1 else 0) : ((g == 0) == (t == 1)) = true ∧ t ≤ 1 := by
  subst h
  by_cases e : g = 0
  · subst e; decide
  · rw [if_neg e]
    have : (g == 0) = false := by simpa using e
    rw [this]; decide
set_option maxHeartbeats 8000000 in
theorem only_any (k l : UInt64) (r : Ro) (s x n : Int) (w : World) (ha : r.Ad) (s0 : 0 ≤ s) (s1 : s ≤ 4294967295) (x0 : 0 ≤ x) (x1 : x ≤ 4294967295) :
    Calls Try.prog 5 #[.agg #[nm k, nm l], .agg r.cells, .int .u32 s, .int .u32 x, .int .i64 n] w fun e w' => e = .returned (.bool true) ∧ Below w.heap.size w w' := by
  obtain ⟨y, g, P, hk, C1⟩ := names k l r s x n ha s0 s1 x0 x1
  clear ha
  have HK := show Hid _ from hk
  clear hk
  have X0 : Blk (w.alloc (.cells #[nm k, nm l] 24)) w.heap.size #[nm k, nm l] 24 := Blk.new _ _ _
  have Y0 : Blk ((w.alloc (.cells #[nm k, nm l] 24)).alloc (.cells r.cells 27)) (w.heap.size + 1) r.cells 27 := Blk.newAt _ _ _ (by simp)
  have B0 := ((Below.refl w.heap.size w).alloc (Nat.le_refl _) (.cells #[nm k, nm l] 24)).alloc (by simp) (.cells r.cells 27)
  replace X0 := X0.alloc (.cells r.cells 27)
  obtain ⟨f, t, p, q⟩ := r
  go_enter Try.func5, Try.ntmps5
  go_upto_region 1 with fail
  refine gen2 (p := fun W => Code.wp _ _ _ _ W) X0 Y0 B0 ?_
  clear X0 Y0 B0
  intro W X Y B
  go_wp2_with (first | refine blk_load _ rfl 27 _ rfl _ rfl _ _ Y _ Try.underlying27 rfl 4 road_info rfl ?_ | refine blk_load _ rfl 24 _ rfl _ rfl _ _ X _ Try.underlying24 rfl 2 sec_info rfl ?_)
  refine (C1 _).mono ?_
  rintro _ W1 ⟨rfl, z⟩
  replace X := X.below z X.lt
  replace Y := Y.below z Y.lt
  replace B := B.trans (z.mono (Below.size B))
  clear z C1
  go_wp2_with fail
  refine (lives_any _).mono ?_
  rintro _ W2 ⟨rfl, z⟩
  replace X := X.below z X.lt
  replace Y := Y.below z Y.lt
  replace B := B.trans (z.mono (Below.size B))
  clear z
  by_cases hg : g = 1
  · subst hg
    clear HK X Y
    go_wp2_with fail
    refine (lives_any _).mono ?_
    rintro _ W4 ⟨rfl, z⟩
    replace B := B.trans (z.mono (Below.size B))
    go_wp2_with fail
    go_ret
    exact ⟨rfl, B⟩
  · obtain ⟨n0, n1, hz, hb, hs, hm⟩ := HK.out.resolve_left hg
    clear HK
    have HZ := show Hid _ from hz
    have HB := show Hid _ from hb
    have HS := show Hid _ from hs
    have HM := show Hid _ from hm
    clear hz hb hs hm
    have hg1 : (g == 1) = false := by simpa using hg
    clear hg
    go_wp2_with fail
    go_loopw [13, 40] (fun v c wr => ∃ j : Nat, c = .int .i64 (j : Int) ∧ j ≤ 2 ∧ v = .int .i64 (if j = 0 then 0 else if j = 1 then P n 8 else P n 8 + P ((n + 31) % 32) 8) ∧ Below W2.heap.size W2 wr) (fun _ c _ => 2 - (intOf c).toNat)
    case atStart => exact ⟨0, rfl, by omega, rfl, Below.refl _ _⟩
    case round =>
      obtain ⟨j, rfl, hj, rfl, bel⟩ := hrel
      have hjj : j = 0 ∨ j = 1 ∨ j = 2 := by omega
      rcases hjj with rfl | rfl | rfl
      all_goals simp only [if_true, if_false, Nat.one_ne_zero, show (2 : Nat) ≠ 0 from by decide, show (2 : Nat) ≠ 1 from by decide, show ((0 : Nat) : Int) = 0 from rfl, show ((1 : Nat) : Int) = 1 from rfl, show ((2 : Nat) : Int) = 2 from rfl]
      · have hcl0 : (0 : Int) ≤ n ∧ n < 32 := by omega
        have hz := HZ.out (n)
        have hx := idx0 n ((n + 31) % 32)
        go_wp2_with fail
        go_loopw [13, 43] (fun v z w4 => ∃ i : Nat, z = .int .i64 (i : Int) ∧ i ≤ 8 ∧ v = .int .i64 (P (n) i) ∧ Below W2.heap.size W2 w4) (fun _ z _ => 8 - (intOf z).toNat)
        case atStart => exact ⟨0, rfl, by omega, (by rw [hz]; first | done | rfl | (congr 1; omega)), bel⟩
        case round =>
          rename_i wo
          obtain ⟨i, rfl, hi, rfl, bel4⟩ := hrel
          by_cases hlt : i < 8
          · have hlt' : (i : Int) < 8 := by omega
            obtain ⟨z, hst, CM⟩ := HM.out (n) hcl0.1 hcl0.2 i hlt
            have hb0 := HB.out (n) i
            have hb1 := HB.out n 8
            have HQ : Hid (P (n) (i + 1) = if (z == x) = true then P (n) i + 1 else P (n) i) := hst
            clear hst
            have X4 := X.below bel4 X.lt
            have Y4 := Y.below bel4 Y.lt
            generalize P (n) i = v0 at *
            generalize hpn : P n 8 = v1 at *
            clear hpn
            go_wp2_with (first | refine blk_load _ rfl 27 _ rfl _ rfl _ _ Y4 _ Try.underlying27 rfl 4 road_info rfl ?_ | refine blk_load _ rfl 24 _ rfl _ rfl _ _ X4 _ Try.underlying24 rfl 2 sec_info rfl ?_)
            refine (CM _).mono ?_
            rintro _ w5 ⟨rfl, q⟩
            have bel5 := bel4.trans (q.mono (Below.size bel4))
            clear q X4 Y4 CM
            cases hzx : (z == x)
            · rw [hzx] at HQ
              go_wp2_with fail
              exact ⟨⟨i + 1, by go_num, by omega, by rw [HQ.out]; first | rfl | (congr 1; simp), bel5⟩, by simp [intOf]; omega⟩
            · rw [hzx] at HQ
              go_wp2_with fail
              exact ⟨⟨i + 1, by go_num, by omega, by rw [HQ.out]; first | rfl | (congr 1; simp; omega), bel5⟩, by simp [intOf]; omega⟩
          · obtain rfl : i = 8 := by omega
            have hb0 := HB.out (n) 8
            have hb1 := HB.out n 8
            go_wp2_with fail
            exact ⟨⟨1, rfl, by omega, (by first | rfl | (congr 1; simp)), bel4⟩, by simp [intOf]⟩
      · have hcl0 : (0 : Int) ≤ (n + 31) % 32 ∧ (n + 31) % 32 < 32 := by omega
        have hz := HZ.out ((n + 31) % 32)
        have hx := idx1 n ((n + 31) % 32)
        go_wp2_with fail
        go_loopw [13, 43] (fun v z w4 => ∃ i : Nat, z = .int .i64 (i : Int) ∧ i ≤ 8 ∧ v = .int .i64 (P n 8 + P ((n + 31) % 32) i) ∧ Below W2.heap.size W2 w4) (fun _ z _ => 8 - (intOf z).toNat)
        case atStart => exact ⟨0, rfl, by omega, (by rw [hz]; first | done | rfl | (congr 1; omega)), bel⟩
        case round =>
          rename_i wo
          obtain ⟨i, rfl, hi, rfl, bel4⟩ := hrel
          by_cases hlt : i < 8
          · have hlt' : (i : Int) < 8 := by omega
            obtain ⟨z, hst, CM⟩ := HM.out ((n + 31) % 32) hcl0.1 hcl0.2 i hlt
            have hb0 := HB.out ((n + 31) % 32) i
            have hb1 := HB.out n 8
            have HQ : Hid (P ((n + 31) % 32) (i + 1) = if (z == x) = true then P ((n + 31) % 32) i + 1 else P ((n + 31) % 32) i) := hst
            clear hst
            have X4 := X.below bel4 X.lt
            have Y4 := Y.below bel4 Y.lt
            generalize P ((n + 31) % 32) i = v0 at *
            generalize hpn : P n 8 = v1 at *
            clear hpn
            go_wp2_with (first | refine blk_load _ rfl 27 _ rfl _ rfl _ _ Y4 _ Try.underlying27 rfl 4 road_info rfl ?_ | refine blk_load _ rfl 24 _ rfl _ rfl _ _ X4 _ Try.underlying24 rfl 2 sec_info rfl ?_)
            refine (CM _).mono ?_
            rintro _ w5 ⟨rfl, q⟩
            have bel5 := bel4.trans (q.mono (Below.size bel4))
            clear q X4 Y4 CM
            cases hzx : (z == x)
            · rw [hzx] at HQ
              go_wp2_with fail
              exact ⟨⟨i + 1, by go_num, by omega, by rw [HQ.out]; first | rfl | (congr 1; simp), bel5⟩, by simp [intOf]; omega⟩
            · rw [hzx] at HQ
              go_wp2_with fail
              exact ⟨⟨i + 1, by go_num, by omega, by rw [HQ.out]; first | rfl | (congr 1; simp; omega), bel5⟩, by simp [intOf]; omega⟩
          · obtain rfl : i = 8 := by omega
            have hb0 := HB.out ((n + 31) % 32) 8
            have hb1 := HB.out n 8
            go_wp2_with fail
            exact ⟨⟨2, rfl, by omega, (by first | rfl | (congr 1; simp)), bel4⟩, by simp [intOf]⟩
      · obtain ⟨h1, h2⟩ := last_law g _ HS.out
        have hb0 := HB.out n 8
        have hb1 := HB.out ((n + 31) % 32) 8
        have B9 := B.trans (bel.mono (Below.size B))
        clear HS HB HZ HM
        generalize P n 8 = v0 at *
        generalize P ((n + 31) % 32) 8 = v1 at *
        go_wp2_with fail
        go_ret
        exact ⟨rfl, B9⟩
end Go.Proofs.Ytfaebenhjilkgaa.ckon
