/- Whatever is handed in, package cookie answers what the document says. -/
import Derived.Test.YtfaebenhjilkgaaCkOpened
import Derived.Test.YtfaebenhjilkgaaShelf
namespace Go.Proofs.Ytfaebenhjilkgaa.cks
open Go.ChangeShapes Go.WideShapes Go.ChangeAt Go.RowKit Go.BigFrame
open Go.Proofs.Ytfaebenhjilkgaa Go.Proofs.Ytfaebenhjilkgaa.boxes Go.Proofs.Ytfaebenhjilkgaa.sipb Go.Proofs.Ytfaebenhjilkgaa.sipe Go.Proofs.Ytfaebenhjilkgaa.ckm Go.Proofs.Ytfaebenhjilkgaa.ckb Go.Proofs.Ytfaebenhjilkgaa.cki Go.Proofs.Ytfaebenhjilkgaa.ckk Go.Proofs.Ytfaebenhjilkgaa.cksz Go.Proofs.Ytfaebenhjilkgaa.cko Go.Proofs.Ytfaebenhjilkgaa.ckr Go.Proofs.Ytfaebenhjilkgaa.ckd

theorem names (k l : UInt64) (r : Ro) (s x c i n : Int) (ha : r.Ad) (s0 : 0 ≤ s) (s1 : s ≤ 4294967295) (x0 : 0 ≤ x) (x1 : x ≤ 4294967295) :
    ∃ (a e y g : Int),
      (∀ u, Calls Try.prog 7 #[.agg #[nm k, nm l], .agg r.cells, .int .u32 s, .int .i64 c, .int .i64 i] u fun z w' => z = .returned (.tuple #[.int .u32 a, .int .i64 e]) ∧ Below u.heap.size u w') ∧
      (∀ u, Calls Try.prog 8 #[.agg #[nm k, nm l], .agg r.cells, .int .u32 s, .int .i64 c, .int .i64 i] u fun z w' => z = .returned (.tuple #[.int .u32 a, .int .i64 e]) ∧ Below u.heap.size u w') ∧
      (∀ u, Calls Try.prog 9 #[.agg #[nm k, nm l], .agg r.cells, .int .u32 s, .int .u32 x, .int .i64 n] u fun z w' => z = .returned (.tuple #[.int .i64 y, .int .i64 g]) ∧ Below u.heap.size u w') ∧
      (∀ u, Calls Try.prog 10 #[.agg #[nm k, nm l], .agg r.cells, .int .u32 s, .int .u32 x, .int .i64 n] u fun z w' => z = .returned (.tuple #[.int .i64 y, .int .i64 g]) ∧ Below u.heap.size u w') := by
  cases h : (r.ok && am c 32 && am i 8)
  · exact ⟨_, _, _, _, fun u => make_no k l r s c i u h, fun u => rmake_no k l r s c i u h, fun u => open_any k l r s x n u ha s0 s1 x0 x1, fun u => opened_any k l r s x n u ha s0 s1 x0 x1⟩
  · exact ⟨_, _, _, _, fun u => make_ok k l r s c i u ha s0 s1 h, fun u => rmake_ok k l r s c i u ha s0 s1 h, fun u => open_any k l r s x n u ha s0 s1 x0 x1, fun u => opened_any k l r s x n u ha s0 s1 x0 x1⟩
abbrev szi : List Int := [216, 536, 1220, 1300, 1360, 1440, 1460, 8960]
theorem szi_cell {W : World} {b : Nat} {t : TypeId} (K : Blk W b SZ t) (j : Nat) (hj : j < szi.length) : W.cell? ⟨b, 0 + j, none⟩ = some (.int .i64 (szi.getD j 0)) := by
  rw [K.cell]
  match j, hj with
  | 0, _ | 1, _ | 2, _ | 3, _ | 4, _ | 5, _ | 6, _ | 7, _ => rfl
theorem same_any (b1 b2 : Nat) (u : World) (K1 : Blk u b1 SZ 33) (K2 : Blk u b2 SZ 3) :
    Calls Try.prog 13 #[.slice (some ⟨b1, 0, none⟩) 8 8, .slice (some ⟨b2, 0, none⟩) 8 8] u fun e w' => e = .returned (.bool true) ∧ Below u.heap.size u w' := by
  refine (Try.slices_Equal_int b1 0 8 8 b2 0 8 8 szi szi u (by decide) (by decide) (by decide) (by decide) (szi_cell K1) (szi_cell K2)).mono fun e w' ⟨he, q, hq⟩ => ⟨?_, qd_below ⟨q, hq⟩⟩
  rw [he]
  rfl
set_option maxHeartbeats 8000000 in
theorem says_any (k l : UInt64) (r : Ro) (s x c i n m : Int) (w : World) (ha : r.Ad) (s0 : 0 ≤ s) (s1 : s ≤ 4294967295) (x0 : 0 ≤ x) (x1 : x ≤ 4294967295) :
    Calls Try.prog 3 #[.agg #[nm k, nm l], .agg r.cells, .int .u32 s, .int .u32 x, .int .i64 c, .int .i64 i, .int .i64 n, .int .i64 m] w fun e w' => e = .returned (.bool true) ∧ Below w.heap.size w w' := by
  obtain ⟨a, e, y, g, C1, C2, C3, C4⟩ := names k l r s x c i n ha s0 s1 x0 x1
  have C5 := fun u => index_any m u
  obtain ⟨P, hP⟩ : ∃ P : Nat → Int, P = pl m := ⟨_, rfl⟩
  have HP : Hid (P 0 = 0 ∧ ∀ j, P (j + 1) = if sz j ≤ m then (j : Int) else P j) := by rw [hP]; exact ⟨rfl, fun _ => rfl⟩
  rw [← hP] at C5
  clear hP ha
  have X0 : Blk (w.alloc (.cells #[nm k, nm l] 24)) w.heap.size #[nm k, nm l] 24 := Blk.new _ _ _
  have Y0 : Blk ((w.alloc (.cells #[nm k, nm l] 24)).alloc (.cells r.cells 27)) (w.heap.size + 1) r.cells 27 := Blk.newAt _ _ _ (by simp)
  have B0 := ((Below.refl w.heap.size w).alloc (Nat.le_refl _) (.cells #[nm k, nm l] 24)).alloc (by simp) (.cells r.cells 27)
  replace X0 := X0.alloc (.cells r.cells 27)
  obtain ⟨f, t, p, q⟩ := r
  go_enter Try.func3, Try.ntmps3
  go_upto_region 1 with fail
  refine gen2 (p := fun W => Code.wp _ _ _ _ W) X0 Y0 B0 ?_
  clear X0 Y0 B0
  intro W X Y B
  go_wp2_with (first | refine blk_load _ rfl 27 _ rfl _ rfl _ _ Y _ Try.underlying27 rfl 4 road_info rfl ?_ | refine blk_load _ rfl 24 _ rfl _ rfl _ _ X _ Try.underlying24 rfl 2 sec_info rfl ?_)
  refine (C1 _).mono ?_
  rintro e W1 ⟨rfl, z⟩
  replace X := X.below z X.lt
  replace Y := Y.below z Y.lt
  replace B := B.trans (z.mono (Below.size B))
  clear z
  go_wp2_with (first | refine blk_load _ rfl 27 _ rfl _ rfl _ _ Y _ Try.underlying27 rfl 4 road_info rfl ?_ | refine blk_load _ rfl 24 _ rfl _ rfl _ _ X _ Try.underlying24 rfl 2 sec_info rfl ?_)
  refine (C2 _).mono ?_
  rintro e W2 ⟨rfl, z⟩
  replace X := X.below z X.lt
  replace Y := Y.below z Y.lt
  replace B := B.trans (z.mono (Below.size B))
  clear z
  go_wp2_with (first | refine blk_load _ rfl 27 _ rfl _ rfl _ _ Y _ Try.underlying27 rfl 4 road_info rfl ?_ | refine blk_load _ rfl 24 _ rfl _ rfl _ _ X _ Try.underlying24 rfl 2 sec_info rfl ?_)
  refine (C3 _).mono ?_
  rintro e W3 ⟨rfl, z⟩
  replace X := X.below z X.lt
  replace Y := Y.below z Y.lt
  replace B := B.trans (z.mono (Below.size B))
  clear z
  go_wp2_with (first | refine blk_load _ rfl 27 _ rfl _ rfl _ _ Y _ Try.underlying27 rfl 4 road_info rfl ?_ | refine blk_load _ rfl 24 _ rfl _ rfl _ _ X _ Try.underlying24 rfl 2 sec_info rfl ?_)
  refine (C4 _).mono ?_
  rintro e W4 ⟨rfl, z⟩
  replace B := B.trans (z.mono (Below.size B))
  clear z X Y C1 C2 C3 C4
  go_wp2_with fail
  refine (sizes_any _).mono ?_
  rintro e W5 ⟨rfl, z⟩
  replace B := B.trans (z.mono (Below.size B))
  clear z
  go_upto_region 6 with (refine blk_store _ rfl 33 _ _ rfl W5.heap.size SZ rfl rfl _ _ (Blk.new W5 Z8 33) 8 a8_info rfl rfl sz_one ?_; intro W6 K p3)
  have d := p3.below ((Below.refl W5.heap.size W5).alloc (Nat.le_refl _) (.cells Z8 33)) (Nat.le_refl _)
  replace B := B.trans (d.mono (Below.size B))
  clear d p3
  generalize W5.heap.size = b1 at *
  go_wp2_with fail
  refine (rsizes_any _).mono ?_
  rintro e W7 ⟨rfl, L, z⟩
  replace K := K.below z K.lt
  replace B := B.trans (z.mono (Below.size B))
  clear z
  generalize W6.heap.size = b2 at *
  go_wp2_with fail
  go_loopw [26, 27, 28, 68] (fun v _ _ z wr => ∃ j : Nat, z = .int .i64 (j : Int) ∧ j ≤ 8 ∧ v = .int .i64 (P j) ∧ wr = W7) (fun _ _ _ z _ => 8 - (intOf z).toNat)
  case atStart => exact ⟨0, rfl, by omega, by rw [HP.out.1], rfl⟩
  case round =>
    obtain ⟨j, rfl, hj, rfl, rfl⟩ := hrel
    by_cases hlt : j < 8
    · have hlt' : (j : Int) < 8 := by omega
      have hp := HP.out.2 j
      have hcl : wr.cell? ⟨b2, j, none⟩ = some (.int .i64 (sz j)) := by have := sz_cell L (j : Int) (by omega) (by omega); simpa using this
      by_cases hs : sz j ≤ m
      · rw [if_pos hs] at hp
        have HQ : Hid (P (j + 1) = (j : Int)) := hp
        clear hp
        generalize sz j = s at *
        go_wp2_with fail
        exact ⟨⟨j + 1, by go_num, by omega, by rw [HQ.out], trivial⟩, by simp [intOf]; omega⟩
      · rw [if_neg hs] at hp
        have HQ : Hid (P (j + 1) = P j) := hp
        clear hp
        generalize sz j = s at *
        go_wp2_with fail
        exact ⟨⟨j + 1, by go_num, by omega, by rw [HQ.out], trivial⟩, by simp [intOf]; omega⟩
    · obtain rfl : j = 8 := by omega
      clear HP L
      generalize P 8 = pp at *
      go_upto_region 13 with fail
      have ne : Nonempty (spc.In (ab.Ab wr)) := ⟨⟨_, ab.Ab.refl wr⟩⟩
      refine' spc.wp_region_told_g [(20, undef), (21, .bool true), (25, .int .i64 pp)] [(20, 98)]
        (fun k u W => k = 20 → ∃ b, u = .slice (some ⟨b, 0, none⟩) 8 8 ∧ Blk W b SZ 3) (ab.Ab wr) (fun W W' => Below W.heap.size W W') (by kernel_rfl) (by kernel_rfl) (ab.Ab.drew _) (fun k u W W' hb h hk => ?_) (by simp only [spc.rep, List.lookup, Nat.zero_add, Nat.reduceAdd, Nat.reduceBEq]; exact rfl) ?_
      · obtain ⟨b, e, A⟩ := h hk
        exact ⟨b, e, A.below hb A.lt⟩
      repeat (go_big_quiet_step (fail))
      refine wpQuiet_nil ⟨?_, ?_, ?_⟩
      · simp only [List.forall_mem_cons, List.not_mem_nil, false_imp_iff, implies_true, and_true]
        rintro _ ⟨⟩
        rfl
      · simp only [List.forall_mem_cons, List.not_mem_nil, false_imp_iff, implies_true, and_true]
        refine ⟨?_, ?_, ?_⟩
        · rintro _ ⟨⟩ x u hC - -
          refine told.call0 12 _ rfl (by intro args w; simp [go_sem]) ((rsizes_any u).mono ?_)
          rintro e w' ⟨rfl, hL, hb⟩
          refine ⟨_, rfl, Below.trans hC (hb.mono (Below.size hC)), hb, ?_⟩
          rw [if_pos (by decide)]
          exact fun _ => ⟨_, rfl, hL⟩
        · rintro _ ⟨⟩ x u hC hS -
          obtain ⟨b, e, A⟩ := hS (20, 98) (by simp) (by simp [Oper.looksAt, Op.operands, Call.operands]) rfl
          exact told.call2 13 _ _ _ _ _ rfl (by intro args w; simp [go_sem]) rfl e ((same_any b1 b u (K.below hC K.lt) A).mono fun e w3 ⟨he, hb⟩ => ⟨_, he, Below.trans hC (hb.mono (Below.size hC)), hb, rfl⟩)
        · rintro _ ⟨⟩ x u hC - -
          exact told.call1 14 _ _ _ rfl (by intro args w; simp [go_sem]) rfl ((C5 u).mono fun e w3 ⟨he, hb⟩ => ⟨_, he, Below.trans hC (hb.mono (Below.size hC)), hb, rfl⟩)
      intro x W hC hS
      have B9 := B.trans (Below.mono hC (Below.size B))
      clear hS ne K B hC
      simp only [spc.jn, Act.put, List.setIfInBounds_toArray, List.set_cons_succ, List.set_cons_zero]
      go_wp2_with fail
      go_ret
      exact ⟨rfl, B9⟩
end Go.Proofs.Ytfaebenhjilkgaa.cks
