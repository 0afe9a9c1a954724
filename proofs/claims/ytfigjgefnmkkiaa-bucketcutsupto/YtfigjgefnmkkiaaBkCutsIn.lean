/- The walk of custkeep.BucketCuts. -/
import Derived.Test.YtfigjgefnmkkiaaBkLives
import Derived.Test.YtfigjgefnmkkiaaAppRd
namespace Go.Proofs.Ytfigjgefnmkkiaa.bkt
open Go.ChangeShapes Go.WideShapes Go.ChangeAt Go.RowKit Go.BigFrame
open Go.Proofs.Ytfigjgefnmkkiaa Go.Proofs.Ytfigjgefnmkkiaa.boxes Go.Proofs.Ytfigjgefnmkkiaa.rwr Go.Proofs.Ytfigjgefnmkkiaa.apr
open Go.Proofs.Ytfigjgefnmkkiaa.rws (Knd Own)

theorem fin4 {w : World} {zb B : Nat} {v : Value} {D : List Bool} (o : Own BK w B v D) (k : Blk w zb (BC 0 0 0 0) 23) (z0 z1 z2 z3 : Int) :
    Own BK ((((w.setCell ⟨zb, 0, none⟩ (.int .i64 z0)).setCell ⟨zb, 1, none⟩ (.int .i64 z1)).setCell ⟨zb, 2, none⟩ (.int .i64 z2)).setCell ⟨zb, 3, none⟩ (.int .i64 z3)) B v D ∧
    Blk ((((w.setCell ⟨zb, 0, none⟩ (.int .i64 z0)).setCell ⟨zb, 1, none⟩ (.int .i64 z1)).setCell ⟨zb, 2, none⟩ (.int .i64 z2)).setCell ⟨zb, 3, none⟩ (.int .i64 z3)) zb (BC z0 z1 z2 z3) 23 ∧
    But zb w ((((w.setCell ⟨zb, 0, none⟩ (.int .i64 z0)).setCell ⟨zb, 1, none⟩ (.int .i64 z1)).setCell ⟨zb, 2, none⟩ (.int .i64 z2)).setCell ⟨zb, 3, none⟩ (.int .i64 z3)) := by
  have hne : v.ownBlock ≠ some zb := by
    rcases o.2 with ⟨rfl, _⟩ | ⟨g, cap, cur, rfl, hB, hg, _⟩
    · simp [Value.ownBlock]
    · intro e
      simp only [Value.ownBlock, Option.some.injEq] at e
      subst e
      rw [k] at hg
      simp only [Option.some.injEq, Obj.cells.injEq] at hg
      exact absurd hg.2.1 (by unfold BK; decide)
  exact ⟨o.but (but4 w zb z0 z1 z2 z3) hne, blk4 k z0 z1 z2 z3, but4 w zb z0 z1 z2 z3⟩
theorem belowd {W w' : World} {b : Nat} {F : Array Value} {t : TypeId} (hb : Below W.heap.size W w') (k : Blk W b F t) : Blk w' b F t := k.below hb k.lt
set_option maxRecDepth 20000 in
set_option maxHeartbeats 8000000 in
theorem cuts_walk (b : Bu) (v u : Value) (l m : List Dp) (t : Int) (w : World) (hl : Rd DK w v l) (hm : Rd DK w u m) (h1 : l.length ≤ 1048576) (h2 : m.length ≤ 1048576) : Calls Try.prog 6 #[.agg (Bu.cells b), v, u, .int .i64 t] w fun e w' => e = .returned (.bool true) ∧ Below w.heap.size w w' := by
  have C1 : ∀ W, Rd DK W v l → _ := fun W h => run_any b v l W h
  have C2 : ∀ W, Rd DK W u m → _ := fun W h => run_any (rst b l) u m W h
  have C3 : ∀ W v', Rd DK W v' (l ++ m) → _ := fun W v' h => run_any b v' (l ++ m) W h
  have CC : ∀ W, Rd DK W v l → _ := fun W h => cloneD_any v l W h (by omega)
  have CT := fun W => take_any (rst (rst b l) m) t 0 W
  have CL := fun W => level_any (rst (rst b l) m) (t + 9) W
  have CM := fun W => level_any (tk (rst (rst b l) m) t 0) (t + 9) W
  have CV := lives
  have HT : Hid (rerr b l = 0 → rerr (rst b l) m = 0 → l.length + m.length ≤ 500 → rerr b (l ++ m) = 0 ∧ rst b (l ++ m) = rst (rst b l) m ∧ rtd b (l ++ m) = rtd b l ++ rtd (rst b l) m) := two_goes
  have HZ : Hid (terr (rst (rst b l) m) t 0 = 0 → (0 ≤ t ∧ t ≤ 1099511627776) ∧ pas (rst (rst b l) m) t 0 = true ∧ lerr (tk (rst (rst b l) m) t 0) (t + 9) = lerr (rst (rst b l) m) (t + 9) ∧ lval (tk (rst (rst b l) m) t 0) (t + 9) = lval (rst (rst b l) m) (t + 9)) := fun h => by
    obtain ⟨hl, n0, n1⟩ := terr_zero.1 h
    obtain ⟨hc, a1, a2⟩ := lerr_zero.1 hl
    obtain ⟨c1, c2, c3, c4⟩ := chk_zero.1 hc
    exact ⟨⟨by omega, a2⟩, zero_drop h⟩
  have HL1 : Hid ((rtd b l).length ≤ 500) := rtd_len_le b l
  have HL2 : Hid ((rtd (rst b l) m).length ≤ 500) := rtd_len_le _ m
  have b0 := (Below.refl w.heap.size w).alloc (Nat.le_refl _) (.cells (Bu.cells b) 23)
  have G := Blk.new w (Bu.cells b) 23
  have rl := hl.below b0
  have rm := hm.below b0
  obtain ⟨r, mm, h, a⟩ := b
  have G : Blk (w.alloc (.cells (BC r mm h a) 23)) w.heap.size (BC r mm h a) 23 := G
  generalize lerr (rst (rst _ l) m) _ = La at *
  generalize lval (rst (rst _ l) m) _ = Va at *
  generalize lerr _ _ = Lb at *
  generalize lval _ _ = Vb at *
  generalize tk _ _ _ = T at *
  generalize pas _ _ _ = p at *
  generalize terr _ _ _ = ET at *
  generalize rst _ (l ++ m) = X3 at *
  generalize rtd _ (l ++ m) = D3 at *
  generalize rerr _ (l ++ m) = E3 at *
  generalize rst (rst _ l) m = X2 at *
  generalize rtd (rst _ l) m = D2 at *
  generalize rerr (rst _ l) m = E2 at *
  generalize rst _ l = X1 at *
  generalize rtd _ l = D1 at *
  generalize rerr _ l = E1 at *
  clear hl hm
  obtain ⟨x0, x1, x2, x3⟩ := X1
  obtain ⟨y0, y1, y2, y3⟩ := X2
  obtain ⟨z0, z1, z2, z3⟩ := X3
  obtain ⟨t0, t1, t2, t3⟩ := T
  dsimp only [Bu.cells] at C1 C2 C3 CT CL CM b0 rl rm
  go_enter Try.func6, Try.ntmps6
  go_upto_region 1 with fail
  generalize hW : w.alloc (Obj.cells (BC r mm h a) 23) = W at *
  clear hW
  go_wp2_with (refine blk_load _ rfl 23 _ rfl w.heap.size rfl _ _ G _ Try.underlying23 rfl 4 bu_info rfl ?_)
  refine (C1 _ rl).mono ?_
  rintro e w1 ⟨v1, rfl, O1, z⟩
  replace G := G.below z G.lt
  replace rl := rl.below z
  replace rm := rm.below z
  replace b0 := b0.trans (z.mono b0.size)
  clear z C1
  have d1 := Own.rd O1
  clear O1
  have dA := (Below.refl w1.heap.size w1).alloc (Nat.le_refl _) (.cells #[.int .i64 0, .int .i64 0, .int .i64 0, .int .i64 0] 23)
  go_upto_region 2 with (refine blk_store _ rfl 23 _ _ rfl w1.heap.size (BC x0 x1 x2 x3) rfl rfl _ _ (Blk.new w1 #[.int .i64 0, .int .i64 0, .int .i64 0, .int .i64 0] 23) 4 bu_info rfl rfl (bu_one ⟨x0, x1, x2, x3⟩) ?_; intro W1 X p)
  have zz := p.below dA (Nat.le_refl _)
  clear dA p
  replace G := G.below zz G.lt
  replace rl := rl.below zz
  replace rm := rm.below zz
  replace d1 := d1.below zz
  replace b0 := b0.trans (zz.mono b0.size)
  clear zz
  generalize w1.heap.size = xX at *
  go_wp2_with (refine blk_load _ rfl 23 _ rfl xX rfl _ _ X _ Try.underlying23 rfl 4 bu_info rfl ?_)
  refine (C2 _ rm).mono ?_
  rintro e w2 ⟨v2, rfl, O2, z⟩
  replace G := G.below z G.lt
  replace X := X.below z X.lt
  replace rl := rl.below z
  replace rm := rm.below z
  replace d1 := d1.below z
  replace b0 := b0.trans (z.mono b0.size)
  clear z C2
  have d2 := Own.rd O2
  clear O2
  have dA := (Below.refl w2.heap.size w2).alloc (Nat.le_refl _) (.cells #[.int .i64 0, .int .i64 0, .int .i64 0, .int .i64 0] 23)
  go_upto_region 3 with (refine blk_store _ rfl 23 _ _ rfl w2.heap.size (BC y0 y1 y2 y3) rfl rfl _ _ (Blk.new w2 #[.int .i64 0, .int .i64 0, .int .i64 0, .int .i64 0] 23) 4 bu_info rfl rfl (bu_one ⟨y0, y1, y2, y3⟩) ?_; intro W2 Y p)
  have zz := p.below dA (Nat.le_refl _)
  clear dA p
  replace G := G.below zz G.lt
  replace X := X.below zz X.lt
  replace rl := rl.below zz
  replace rm := rm.below zz
  replace d1 := d1.below zz
  replace d2 := d2.below zz
  replace b0 := b0.trans (zz.mono b0.size)
  clear zz
  generalize w2.heap.size = xY at *
  obtain ⟨sa, sc, e_v⟩ := rl.form
  subst e_v
  obtain ⟨ua, uc, e_u⟩ := rm.form
  subst e_u
  generalize hU : W2 = U at *
  clear hU
  have hGU : w.heap.size < U.heap.size := G.lt
  have hXU := X.lt
  have hYU := Y.lt
  have CLn : ∀ W, Below U.heap.size U W → _ := fun W hb => CC W (rl.below hb)
  have hmU : ∀ W, Below U.heap.size U W → _ := fun W hb => rm.below hb
  have cG := G.cell
  have q1 : l.length + m.length ≤ maxLen := by unfold maxLen; omega
  have q2 : (l.length + m.length) * DK.by_ ≤ 140737488355328 := by show (l.length + m.length) * 16 ≤ _; omega
  have zz0 : Blk (U.alloc (.cells (BC 0 0 0 0) 23)) U.heap.size (BC 0 0 0 0) 23 := Blk.new _ _ _
  have nz : ∀ X : World, Blk (X.alloc (.cells (BC 0 0 0 0) 23)) X.heap.size (BC 0 0 0 0) 23 := fun _ => Blk.new _ _ _
  have cA := (G.alloc (.cells (BC 0 0 0 0) 23)).cell
  go_cut [15, 16, 17] (fun a b c wx => ∃ zb v5, a = .pointer (some ⟨zb, 0, none⟩) ∧ b = v5 ∧ c = .int .i64 E3 ∧ Rd BK wx v5 D3 ∧ Blk wx zb (BC z0 z1 z2 z3) 23 ∧ Below U.heap.size U wx)
  case first =>
    go_region_law (first
      | (refine step_rd DK rfl (.tmp 42) (.tmp 43) rfl U.heap.size v3 l (by simp [Act.eval]) (by first | exact o3 | exact o3.alloc _) _ m (by simp [Act.eval]) (hmU _ (by first | exact B3 | exact B3.alloc hB3 _)) q1 q2 (by first | exact hB3 | (simp; omega)) ?_; intro v4 w4 o4 l4 g4; have B4 : Below U.heap.size U w4 := (by first | exact B3.trans l4 | exact (B3.alloc hB3 _).trans l4); have hB4 := B4.size; have R4 : Rd DK w4 v4 (l ++ m) := Own.rd o4; have cG4 := (G.below B4 G.lt).cell; have cG4a := ((G.below B4 G.lt).alloc (.cells (BC 0 0 0 0) 23)).cell; first | (have K4 := grown_blk g4 K3 hne3) | (have K4 := grown_blk g4 (nz w3) (own_old o3 (Nat.le_refl _))) | skip)
      | (go_simp; go_wp2_with (first
        | (go_at_call 19; refine (CLn _ (by first | exact (Below.refl _ _).drew | exact ((Below.refl _ _).alloc (Nat.le_refl _) _).drew)).mono ?_; rintro e w3 ⟨v3, rfl, o3', l3⟩; have o3 := o3'.mono (B' := U.heap.size) (by simp); have B3 : Below U.heap.size U w3 := (by first | exact ((Below.refl _ _).drew).trans l3 | exact (((Below.refl _ _).alloc (Nat.le_refl _) _).drew).trans (l3.mono (by simp))); have hB3 := B3.size; have cG3 := (G.below B3 G.lt).cell; have cG3a := ((G.below B3 G.lt).alloc (.cells (BC 0 0 0 0) 23)).cell; first | (have K3 := belowd l3 zz0; have hne3 : v3.ownBlock ≠ some U.heap.size := own_ne o3' (by simp)) | skip)
        | (go_at_call 10; refine (C3 _ _ (by first | exact R4 | exact R4.below ((Below.refl _ _).alloc (Nat.le_refl _) _))).mono ?_; rintro e w5 ⟨v5, rfl, o5, l5⟩; have B5 : Below U.heap.size U w5 := (by first | exact B4.trans (l5.mono hB4) | exact (B4.alloc hB4 _).trans (l5.mono (by simp; omega))); have hB5 := B5.size; have R5 := Own.rd o5; first | (have K5 := belowd l5 K4; have cZ := K5.cell; have fZ := K5.free) | (have K5 := belowd l5 (nz w4); have cZ := K5.cell; have fZ := K5.free) | (have K5n := nz w5; have cZ := K5n.cell; have fZ := K5n.free)))))
    all_goals simp only [Exit.then, List.getElem_toArray, List.getElem_cons_succ, List.getElem_cons_zero, Act.put, List.setIfInBounds_toArray, List.set_cons_succ, List.set_cons_zero]
    all_goals go_step
    all_goals go_meet
    all_goals first
      | (have K6 := K5n; exact ⟨_, _, rfl, rfl, rfl, Own.rd (o5.alloc _), Blk.new _ _ _, B5.alloc hB5 _⟩)
      | (obtain ⟨o8, k8, u8⟩ := fin4 o5 K5 z0 z1 z2 z3; exact ⟨_, _, rfl, rfl, rfl, Own.rd o8, k8, u8.below B5 (by first | exact Nat.le_refl _ | exact hB3 | exact hB4 | exact hB5)⟩)
  case rest =>
    obtain ⟨zb, v5, rfl, rfl, rfl, d3, K, B5⟩ := hcut
    replace Y := Y.below B5 hYU
    replace d1 := d1.below B5
    replace d2 := d2.below B5
    replace b0 := b0.trans (B5.mono b0.size)
    clear G X rl rm C3 CC CLn hmU cG cA q1 q2 zz0 nz hGU hXU hYU B5
    go_wp2_with fail
    refine (CV _).mono ?_
    rintro e w6 ⟨rfl, z⟩
    replace Y := Y.below z Y.lt
    replace K := K.below z K.lt
    replace d1 := d1.below z
    replace d2 := d2.below z
    replace d3 := d3.below z
    replace b0 := b0.trans (z.mono b0.size)
    clear z
    by_cases hE1 : E1 = 0
    rotate_left
    · clear HT HZ d1 d2 d3 K Y CT CL CM
      go_wp2_with fail
      refine (CV _).mono ?_
      rintro e w7 ⟨rfl, z⟩
      go_wp2_with fail
      go_ret
      exact ⟨rfl, b0.trans (z.mono b0.size)⟩
    subst hE1
    by_cases hE2 : E2 = 0
    rotate_left
    · clear HT HZ d1 d2 d3 K Y CT CL CM
      go_wp2_with fail
      refine (CV _).mono ?_
      rintro e w7 ⟨rfl, z⟩
      go_wp2_with fail
      go_ret
      exact ⟨rfl, b0.trans (z.mono b0.size)⟩
    subst hE2
    have HT2 : Hid (l.length + m.length ≤ 500 → _) := fun h => HT.out rfl rfl h
    clear HT
    generalize l.length = ln at *
    generalize m.length = mn at *
    have hs : wrap64 ((ln : Int) + (mn : Int)) = (ln : Int) + (mn : Int) := by unfold wrap64; omega
    by_cases h500 : ln + mn ≤ 500
    rotate_left
    · have h5 : 500 < (ln : Int) + (mn : Int) := by omega
      clear HT2 HZ d1 d2 d3 K Y CT CL CM
      go_wp2_with fail
      refine (CV _).mono ?_
      rintro e w7 ⟨rfl, z⟩
      go_wp2_with fail
      go_ret
      exact ⟨rfl, b0.trans (z.mono b0.size)⟩
    obtain ⟨rfl, t2, rfl⟩ := HT2.out h500
    simp only [Bu.mk.injEq] at t2
    obtain ⟨rfl, rfl, rfl, rfl⟩ := t2
    have h5 : ¬ 500 < (ln : Int) + (mn : Int) := by omega
    clear HT2
    go_upto_region 6 with fail
    have cY := Y.cell
    have cK := K.cell
    have L1 := HL1.out
    have L2 := HL2.out
    clear HL1 HL2
    go_wp2_with fail
    have CE : ∀ W u8 u9, Rd BK W u8 (D1 ++ D2) → Rd BK W u9 (D1 ++ D2) → Calls Try.prog 17 #[u8, u9] W fun e w' => e = .returned (.bool true) ∧ Below W.heap.size W w' := fun W u8 u9 g1 g2 => by
      have := equal_any u8 u9 (D1 ++ D2) (D1 ++ D2) W g1 g2
      rwa [beq_self_eq_true] at this
    have q1 : D1.length + D2.length ≤ maxLen := by unfold maxLen; omega
    have q2 : (D1.length + D2.length) * BK.by_ ≤ 140737488355328 := by show (D1.length + D2.length) * 1 ≤ _; omega
    refine (cloneB_any v1 D1 _ d1 (by omega)).mono ?_
    rintro e w7 ⟨v7, rfl, O7, z7⟩
    have d2' := d2.below z7
    go_wp2_with (refine app_rdg BK _ rfl (.tmp 78) (.tmp 79) rfl w6.heap.size v7 D1 rfl O7 v2 D2 rfl d2' q1 q2 z7.size ?_; intro v8 w8 O8 z8 _)
    have z := z7.trans z8
    replace Y := Y.below z Y.lt
    replace K := K.below z K.lt
    replace d3 := d3.below z
    replace b0 := b0.trans (z.mono b0.size)
    have d8 := Own.rd O8
    clear z z7 z8 O7 O8 d1 d2 d2' q1 q2 L1 L2 cY cK
    refine (CE _ _ _ d3 d8).mono ?_
    rintro e w9 ⟨rfl, z⟩
    replace Y := Y.below z Y.lt
    replace b0 := b0.trans (z.mono b0.size)
    clear z CE d3 d8 K
    go_upto_region 8 with fail
    go_wp2_with (refine blk_load _ rfl 23 _ rfl xY rfl _ _ Y _ Try.underlying23 rfl 4 bu_info rfl ?_)
    refine (CT _).mono ?_
    rintro e w10 ⟨rfl, z⟩
    replace Y := Y.below z Y.lt
    replace b0 := b0.trans (z.mono b0.size)
    clear z CT
    have dA := (Below.refl w10.heap.size w10).alloc (Nat.le_refl _) (.cells #[.int .i64 0, .int .i64 0, .int .i64 0, .int .i64 0] 23)
    go_upto_region 9 with (refine blk_store _ rfl 23 _ _ rfl w10.heap.size (BC t0 t1 t2 t3) rfl rfl _ _ (Blk.new w10 #[.int .i64 0, .int .i64 0, .int .i64 0, .int .i64 0] 23) 4 bu_info rfl rfl (bu_one ⟨t0, t1, t2, t3⟩) ?_; intro W4 T4 p)
    have zz := p.below dA (Nat.le_refl _)
    clear dA p
    replace Y := Y.below zz Y.lt
    replace b0 := b0.trans (zz.mono b0.size)
    clear zz
    generalize w10.heap.size = xT4 at *
    by_cases hET : ET = 0
    rotate_left
    · clear HZ CL CM Y T4
      go_wp2_with fail
      go_ret
      exact ⟨rfl, b0⟩
    obtain ⟨⟨ht0, ht1⟩, rfl, rfl, rfl⟩ := HZ.out hET
    subst hET
    clear HZ
    have hw9 : wrap64 (t + 9) = t + 9 := by unfold wrap64; omega
    go_upto_region 11 with fail
    go_wp2_with (refine blk_load _ rfl 23 _ rfl xY rfl _ _ Y _ Try.underlying23 rfl 4 bu_info rfl ?_)
    refine (CL _).mono ?_
    rintro e w11 ⟨rfl, z⟩
    replace Y := Y.below z Y.lt
    replace T4 := T4.below z T4.lt
    replace b0 := b0.trans (z.mono b0.size)
    clear z
    go_upto_region 12 with fail
    go_wp2_with (refine blk_load _ rfl 23 _ rfl xT4 rfl _ _ T4 _ Try.underlying23 rfl 4 bu_info rfl ?_)
    refine (CM _).mono ?_
    rintro e w12 ⟨rfl, z⟩
    replace b0 := b0.trans (z.mono b0.size)
    clear z
    go_wp2_with fail
    go_ret
    exact ⟨rfl, b0⟩
end Go.Proofs.Ytfigjgefnmkkiaa.bkt
