/- bucket.Take; custref.BucketTake. -/
import Derived.Test.YtfigjgefnmkkiaaBkLevel
namespace Go.Proofs.Ytfigjgefnmkkiaa.bkt
open Go.ChangeShapes Go.WideShapes Go.ChangeAt Go.RowKit Go.BigFrame
open Go.Proofs.Ytfigjgefnmkkiaa Go.Proofs.Ytfigjgefnmkkiaa.boxes Go.Proofs.Ytfigjgefnmkkiaa.rwr
open Go.Proofs.Ytfigjgefnmkkiaa.rws (Knd Own)

theorem take_yes {b : Bu} {t n : Int} (h : terr b t n = 0) : tk b t n = ⟨b.r, b.m, lv b t - (if n ≤ lv b t then n else 0), t⟩ ∧ pas b t n = decide (n ≤ lv b t) ∧ lerr b t = 0 ∧ (0 ≤ n ∧ n ≤ 1000000000) ∧ 0 ≤ lv b t ∧ lv b t ≤ 1000000000 := by
  obtain ⟨hl, hn⟩ := terr_zero.1 h
  obtain ⟨l1, l2, _⟩ := lv_in hl
  obtain ⟨c1, c2, c3, c4⟩ := chk_zero.1 (lerr_zero.1 hl).1
  exact ⟨tk_eq h, pas_eq h, hl, hn, by omega, by omega⟩
theorem take_no {b : Bu} {t n : Int} (h : terr b t n ≠ 0) : tk b t n = z0 ∧ pas b t n = false := by
  unfold tk pas
  rw [if_neg h, decide_eq_false h]
  exact ⟨rfl, rfl⟩
theorem ret_take {T T' : Bu} {p p' : Bool} (h1 : T = T') (h2 : p = p') : Ending.returned (.tuple #[.agg (Bu.cells T), .bool p, .int .i64 0]) = .returned (.tuple #[.agg (Bu.cells T'), .bool p', .int .i64 0]) := by rw [h1, h2]
set_option maxRecDepth 20000 in
set_option maxHeartbeats 2000000 in
theorem take_any (b : Bu) (t n : Int) (w : World) : Calls Try.prog 8 #[.agg (Bu.cells b), .int .i64 t, .int .i64 n] w fun e w' => e = .returned (.tuple #[.agg (Bu.cells (tk b t n)), .bool (pas b t n), .int .i64 (terr b t n)]) ∧ Below w.heap.size w w' := by
  have CL := fun W => level_any b t W
  have CI := fun W => isIn_any n 0 1000000000 W
  have e1 : Hid (terr b t n = if lerr b t = 0 then (if bt n 0 1000000000 then 0 else 1) else lerr b t) := rfl
  have e2 : Hid (lval b t = if lerr b t = 0 then lv b t else 0) := rfl
  have HY : Hid (terr b t n = 0 → _) := fun h => take_yes (b := b) (t := t) (n := n) h
  have HN : Hid (terr b t n ≠ 0 → _) := fun h => take_no (b := b) (t := t) (n := n) h
  obtain ⟨r, m, h, a⟩ := b
  generalize tk _ _ _ = T at *
  generalize pas _ _ _ = p at *
  generalize terr _ _ _ = E at *
  generalize lerr _ _ = L at *
  generalize lval _ _ = V at *
  generalize lv _ _ = G at *
  generalize bt _ _ _ = x at *
  dsimp only [Bu.cells] at *
  have F0 := (Blk.new w (BC r m h a) 23).alloc (.cells (BC 0 0 0 0) 23)
  have G0 := Blk.newAt (w.alloc (.cells (BC r m h a) 23)) (BC 0 0 0 0) 23 (b := w.heap.size + 1) (by simp)
  have b0 := ((Below.refl w.heap.size w).alloc (Nat.le_refl _) (.cells (BC r m h a) 23)).alloc (by simp) (.cells (BC 0 0 0 0) 23)
  go_enter Try.func8, Try.ntmps8
  go_upto_region 1 with fail
  generalize hW : (w.alloc (Obj.cells (BC r m h a) 23)).alloc (Obj.cells (BC 0 0 0 0) 23) = W at *
  clear hW
  go_wp2_with (refine blk_load _ rfl 23 _ rfl w.heap.size rfl _ _ F0 _ Try.underlying23 rfl 4 bu_info rfl ?_)
  refine (CL _).mono ?_
  rintro e w1 ⟨rfl, z⟩
  have F1 := F0.below z F0.lt
  have G1 := G0.below z G0.lt
  have b1 := b0.trans (z.mono b0.size)
  clear F0 G0 b0 z CL
  by_cases hL : L = 0
  · subst hL
    cases x with
    | false =>
      have eE : E = 1 := by have := e1.out; simpa using this
      subst eE
      obtain ⟨rfl, rfl⟩ := HN.out (by decide)
      clear e1 e2 HY HN
      go_wp2_with fail
      refine (CI _).mono ?_
      rintro e w2 ⟨rfl, rfl⟩
      go_wp2_with (refine blk_store _ rfl 23 _ _ rfl (w.heap.size + 1) (BC 0 0 0 0) rfl rfl _ _ G1 4 bu_info rfl rfl (bu_one z0) ?_; intro W3 K3 p3)
      exact blk_ret3 rfl rfl (w.heap.size + 1) (BC 0 0 0 0) 23 rfl K3 _ Try.underlying23 rfl 4 bu_info rfl ⟨rfl, p3.below b1 (by omega)⟩
    | true =>
      have eE : E = 0 := by have := e1.out; simpa using this
      subst eE
      have eV : V = G := by have := e2.out; simpa using this
      subst eV
      obtain ⟨rfl, rfl, _, g1, g2, g3⟩ := HY.out rfl
      clear e1 e2 HY HN
      go_wp2_with fail
      refine (CI _).mono ?_
      rintro e w2 ⟨rfl, rfl⟩
      have F2 : Blk _ w.heap.size (BC r m V t) _ := (F1.setCell 3 (.int .i64 t)).setCell 2 (.int .i64 V)
      have p2 := (but_setCell _ w.heap.size 2 (.int .i64 V)).below ((but_setCell w2 w.heap.size 3 (.int .i64 t)).below b1 (Nat.le_refl _)) (Nat.le_refl _)
      have G2 := (but_setCell _ w.heap.size 2 (.int .i64 V)).blk ((but_setCell w2 w.heap.size 3 (.int .i64 t)).blk G1 (by omega)) (by omega)
      have F1' : Blk _ w.heap.size (BC r m h t) _ := F1.setCell 3 (.int .i64 t)
      have k1 := F1'.cell
      have q1 := F1'.free
      have k0 := F1.cell
      have q0 := F1.free
      go_upto_region 7 with fail
      clear k1 q1 k0 q0 F1' F1 G1
      generalize (w2.setCell _ _).setCell _ _ = W2 at *
      by_cases hn : n ≤ V
      · have hn' : ¬ V < n := by omega
        have i1 : wrap64 (V - n) = V - n := by unfold wrap64; omega
        have k2 := F2.cell
        have q2 := F2.free
        have F3 : Blk _ w.heap.size (BC r m (V - n) t) _ := F2.setCell 2 (.int .i64 (V - n))
        have G3 := (but_setCell W2 w.heap.size 2 (.int .i64 (V - n))).blk G2 (by omega)
        have p3 := (but_setCell W2 w.heap.size 2 (.int .i64 (V - n))).below p2 (Nat.le_refl _)
        go_upto_region 10 with fail
        clear k2 q2 F2 G2 p2
        generalize W2.setCell _ _ = W3 at *
        go_wp2_with (first
          | (refine blk_load _ rfl 23 _ rfl w.heap.size rfl _ _ F3 _ Try.underlying23 rfl 4 bu_info rfl ?_)
          | (refine blk_store _ rfl 23 _ _ rfl (w.heap.size + 1) (BC r m (V - n) t) rfl rfl _ _ G3 4 bu_info rfl rfl (bu_one ⟨r, m, V - n, t⟩) ?_; intro W4 K4 p4))
        exact blk_ret3 rfl rfl (w.heap.size + 1) (BC r m (V - n) t) 23 rfl K4 _ Try.underlying23 rfl 4 bu_info rfl ⟨by first | rfl | (simp [Array.getD]; done), p4.below p3 (by omega)⟩
      · have hn' : V < n := by omega
        go_wp2_with (first
          | (refine blk_load _ rfl 23 _ rfl w.heap.size rfl _ _ F2 _ Try.underlying23 rfl 4 bu_info rfl ?_)
          | (refine blk_store _ rfl 23 _ _ rfl (w.heap.size + 1) (BC r m V t) rfl rfl _ _ G2 4 bu_info rfl rfl (bu_one ⟨r, m, V, t⟩) ?_; intro W4 K4 p4))
        exact blk_ret3 rfl rfl (w.heap.size + 1) (BC r m V t) 23 rfl K4 _ Try.underlying23 rfl 4 bu_info rfl ⟨by first | rfl | (simp [Array.getD]; done), p4.below p2 (by omega)⟩
  · have eE : E = L := by have := e1.out; rwa [if_neg hL] at this
    subst eE
    obtain ⟨rfl, rfl⟩ := HN.out hL
    clear e1 e2 HY HN
    go_wp2_with (refine blk_store _ rfl 23 _ _ rfl (w.heap.size + 1) (BC 0 0 0 0) rfl rfl _ _ G1 4 bu_info rfl rfl (bu_one z0) ?_; intro W3 K3 p3)
    exact blk_ret3 rfl rfl (w.heap.size + 1) (BC 0 0 0 0) 23 rfl K3 _ Try.underlying23 rfl 4 bu_info rfl ⟨rfl, p3.below b1 (by omega)⟩
set_option maxRecDepth 20000 in
set_option maxHeartbeats 2000000 in
theorem rtake_any (b : Bu) (t n : Int) (w : World) : Calls Try.prog 9 #[.agg (Bu.cells b), .int .i64 t, .int .i64 n] w fun e w' => e = .returned (.tuple #[.agg (Bu.cells (tk b t n)), .bool (pas b t n), .int .i64 (terr b t n)]) ∧ Below w.heap.size w w' := by
  have CK := fun W => right_any b W
  have CF := fun (h : lerr b t = 0) W => filled_any b t W h
  have CI := fun W => between_any t b.a 1099511627776 W
  have CN := fun W => between_any n 0 1000000000 W
  have e0 : Hid (lerr b t = if chk b = 0 then (if bt t b.a 1099511627776 then 0 else 1) else chk b) := rfl
  have e1 : Hid (terr b t n = if lerr b t = 0 then (if bt n 0 1000000000 then 0 else 1) else lerr b t) := rfl
  have HY : Hid (terr b t n = 0 → _) := fun h => take_yes (b := b) (t := t) (n := n) h
  have HN : Hid (terr b t n ≠ 0 → _) := fun h => take_no (b := b) (t := t) (n := n) h
  obtain ⟨r, m, h, a⟩ := b
  dsimp only at CI
  generalize tk _ _ _ = T at *
  generalize pas _ _ _ = p at *
  generalize terr _ _ _ = E at *
  generalize lerr _ _ = L at *
  generalize chk _ = k at *
  generalize lv _ _ = V at *
  generalize bt t _ _ = x at *
  generalize bt n _ _ = y at *
  dsimp only [Bu.cells] at *
  have F0 := (Blk.new w (BC r m h a) 23).alloc (.cells (BC 0 0 0 0) 23)
  have G0 := Blk.newAt (w.alloc (.cells (BC r m h a) 23)) (BC 0 0 0 0) 23 (b := w.heap.size + 1) (by simp)
  have b0 := ((Below.refl w.heap.size w).alloc (Nat.le_refl _) (.cells (BC r m h a) 23)).alloc (by simp) (.cells (BC 0 0 0 0) 23)
  go_enter Try.func9, Try.ntmps9
  go_upto_region 1 with fail
  generalize hW : (w.alloc (Obj.cells (BC r m h a) 23)).alloc (Obj.cells (BC 0 0 0 0) 23) = W at *
  clear hW
  go_wp2_with (refine blk_load _ rfl 23 _ rfl w.heap.size rfl _ _ F0 _ Try.underlying23 rfl 4 bu_info rfl ?_)
  refine (CK _).mono ?_
  rintro e w1 ⟨rfl, z⟩
  have F1 := F0.below z F0.lt
  have G1 := G0.below z G0.lt
  have b1 := b0.trans (z.mono b0.size)
  clear F0 G0 b0 z CK
  by_cases hk : k = 0
  · subst hk
    have c1 := F1.cell
    go_wp2_with fail
    refine (CI _).mono ?_
    rintro e w2 ⟨rfl, rfl⟩
    cases x with
    | false =>
      have eL : L = 1 := by have := e0.out; simpa using this
      subst eL
      have eE : E = 1 := by have := e1.out; simpa using this
      subst eE
      obtain ⟨rfl, rfl⟩ := HN.out (by decide)
      clear e0 e1 HY HN CF
      go_wp2_with (refine blk_store _ rfl 23 _ _ rfl (w.heap.size + 1) (BC 0 0 0 0) rfl rfl _ _ G1 4 bu_info rfl rfl (bu_one z0) ?_; intro W3 K3 p3)
      exact blk_ret3 rfl rfl (w.heap.size + 1) (BC 0 0 0 0) 23 rfl K3 _ Try.underlying23 rfl 4 bu_info rfl ⟨rfl, p3.below b1 (by omega)⟩
    | true =>
      have eL : L = 0 := by have := e0.out; simpa using this
      subst eL
      go_wp2_with fail
      refine (CN _).mono ?_
      rintro e w2 ⟨rfl, rfl⟩
      cases y with
      | false =>
        have eE : E = 1 := by have := e1.out; simpa using this
        subst eE
        obtain ⟨rfl, rfl⟩ := HN.out (by decide)
        clear e0 e1 HY HN CF
        go_wp2_with (refine blk_store _ rfl 23 _ _ rfl (w.heap.size + 1) (BC 0 0 0 0) rfl rfl _ _ G1 4 bu_info rfl rfl (bu_one z0) ?_; intro W3 K3 p3)
        exact blk_ret3 rfl rfl (w.heap.size + 1) (BC 0 0 0 0) 23 rfl K3 _ Try.underlying23 rfl 4 bu_info rfl ⟨rfl, p3.below b1 (by omega)⟩
      | true =>
        have eE : E = 0 := by have := e1.out; simpa using this
        subst eE
        obtain ⟨rfl, rfl, _, g1, g2, g3⟩ := HY.out rfl
        have CF := CF (by trivial)
        clear e0 e1 HY HN c1
        go_wp2_with (refine blk_load _ rfl 23 _ rfl w.heap.size rfl _ _ F1 _ Try.underlying23 rfl 4 bu_info rfl ?_)
        refine (CF _).mono ?_
        rintro e w3 ⟨rfl, z⟩
        have F2 := F1.below z F1.lt
        have G2 := G1.below z G1.lt
        have b2 := b1.trans (z.mono b1.size)
        clear F1 G1 b1 z CF
        have c2 := F2.cell
        by_cases hn : n ≤ V
        · have i1 : wrap64 (V - n) = V - n := by unfold wrap64; omega
          go_wp2_with (refine blk_store _ rfl 23 _ _ rfl (w.heap.size + 1) (BC r m (V - n) t) rfl rfl _ _ G2 4 bu_info rfl rfl (bu_one ⟨r, m, V - n, t⟩) ?_; intro W4 K4 p4)
          exact blk_ret3 rfl rfl (w.heap.size + 1) (BC r m (V - n) t) 23 rfl K4 _ Try.underlying23 rfl 4 bu_info rfl ⟨by first | rfl | (simp [Array.getD]; done), p4.below b2 (by omega)⟩
        · go_wp2_with (refine blk_store _ rfl 23 _ _ rfl (w.heap.size + 1) (BC r m V t) rfl rfl _ _ G2 4 bu_info rfl rfl (bu_one ⟨r, m, V, t⟩) ?_; intro W4 K4 p4)
          exact blk_ret3 rfl rfl (w.heap.size + 1) (BC r m V t) 23 rfl K4 _ Try.underlying23 rfl 4 bu_info rfl ⟨by first | rfl | (simp [Array.getD]; done), p4.below b2 (by omega)⟩
  · have eL : L = k := by have := e0.out; rwa [if_neg hk] at this
    subst eL
    have eE : E = L := by have := e1.out; rwa [if_neg hk] at this
    subst eE
    obtain ⟨rfl, rfl⟩ := HN.out hk
    clear e0 e1 HY HN CF
    go_wp2_with (refine blk_store _ rfl 23 _ _ rfl (w.heap.size + 1) (BC 0 0 0 0) rfl rfl _ _ G1 4 bu_info rfl rfl (bu_one z0) ?_; intro W3 K3 p3)
    exact blk_ret3 rfl rfl (w.heap.size + 1) (BC 0 0 0 0) 23 rfl K3 _ Try.underlying23 rfl 4 bu_info rfl ⟨rfl, p3.below b1 (by omega)⟩
end Go.Proofs.Ytfigjgefnmkkiaa.bkt
