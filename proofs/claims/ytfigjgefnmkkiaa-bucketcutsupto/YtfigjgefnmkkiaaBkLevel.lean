/- bucket.Level; custref.Filled. -/
import Derived.Test.YtfigjgefnmkkiaaBkSmall
namespace Go.Proofs.Ytfigjgefnmkkiaa.bkt
open Go.ChangeShapes Go.WideShapes Go.ChangeAt Go.RowKit Go.BigFrame
open Go.Proofs.Ytfigjgefnmkkiaa Go.Proofs.Ytfigjgefnmkkiaa.boxes Go.Proofs.Ytfigjgefnmkkiaa.rwr
open Go.Proofs.Ytfigjgefnmkkiaa.rws (Knd Own)

theorem ret_two {a b c d : Int} (h1 : a = c) (h2 : b = d) : Ending.returned (.tuple #[.int .i64 a, .int .i64 b]) = .returned (.tuple #[.int .i64 c, .int .i64 d]) := by rw [h1, h2]
set_option maxRecDepth 20000 in
theorem level_any (b : Bu) (t : Int) (w : World) : Calls Try.prog 12 #[.agg (Bu.cells b), .int .i64 t] w fun e w' => e = .returned (.tuple #[.int .i64 (lval b t), .int .i64 (lerr b t)]) ∧ Below w.heap.size w w' := by
  have CK := fun W => check_any b W
  have CI := fun W => isIn_any t b.a 1099511627776 W
  have e1 : lerr b t = if chk b = 0 then (if bt t b.a 1099511627776 then 0 else 1) else chk b := rfl
  have e2 : lval b t = if lerr b t = 0 then lv b t else 0 := rfl
  have HG : Hid (lerr b t = 0 → lv b t = (if b.h + b.r * (t - b.a) ≤ b.m then b.h + b.r * (t - b.a) else b.m) ∧ 0 ≤ b.r * (t - b.a) ∧ b.r * (t - b.a) ≤ 1099511627776000000 ∧ 0 ≤ b.h ∧ b.h ≤ 1000000000 ∧ 0 ≤ t - b.a ∧ t - b.a ≤ 1099511627776) := fun h => by
    obtain ⟨l1, l2, l3, l4, l5, l6⟩ := lv_in h
    obtain ⟨hc, a1, a2⟩ := lerr_zero.1 h
    obtain ⟨c1, c2, c3, c4⟩ := chk_zero.1 hc
    exact ⟨rfl, l3, l4, c3.1, by omega, by omega, by omega⟩
  obtain ⟨r, m, h, a⟩ := b
  dsimp only [Bu.cells] at *
  generalize lerr _ _ = L at *
  generalize lval _ _ = V at *
  generalize chk _ = k at *
  generalize lv _ _ = G at *
  generalize bt _ _ _ = x at *
  have b0 := (Below.refl w.heap.size w).alloc (Nat.le_refl _) (.cells (BC r m h a) 23)
  have G0 := Blk.new w (BC r m h a) 23
  have HE1 : Hid (L = if k = 0 then (if x = true then 0 else 1) else k) := e1
  have HE2 : Hid (V = if L = 0 then G else 0) := e2
  clear e1 e2
  go_enter Try.func12, Try.ntmps12
  go_upto_region 1 with fail
  generalize hW : w.alloc (Obj.cells (BC r m h a) 23) = W at *
  clear hW
  go_wp2_with (refine blk_load _ rfl 23 _ rfl w.heap.size rfl _ _ G0 _ Try.underlying23 rfl 4 bu_info rfl ?_)
  refine (CK _).mono ?_
  rintro e w1 ⟨rfl, z⟩
  have G1 := G0.below z G0.lt
  have b1 := b0.trans (z.mono b0.size)
  clear G0 b0 z
  by_cases hk : k = 0
  · subst hk
    have c1 := G1.cell
    go_wp2_with fail
    refine (CI _).mono ?_
    rintro e w2 ⟨rfl, rfl⟩
    cases x with
    | false =>
      have eL : L = 1 := by have := HE1.out; simpa using this
      subst eL
      have eV : V = 0 := by have := HE2.out; simpa using this
      subst eV
      go_wp2_with fail
      go_ret2
      exact ⟨rfl, b1⟩
    | true =>
      have eL : L = 0 := by have := HE1.out; simpa using this
      subst eL
      have eV : V = G := by have := HE2.out; simpa using this
      subst eV
      obtain ⟨g1, g2, g3, g4, g5, g6, g7⟩ := HG.out rfl
      have w1 : wrap64 (t - a) = t - a := by unfold wrap64; omega
      have w2 : wrap64 (r * (t - a)) = r * (t - a) := by unfold wrap64; omega
      have w3 : wrap64 (h + r * (t - a)) = h + r * (t - a) := by unfold wrap64; omega
      go_wp2_with fail
      all_goals go_ret2
      all_goals exact ⟨ret_two (by omega) rfl, b1⟩
  · have eL : L = k := by have := HE1.out; rwa [if_neg hk] at this
    subst eL
    have eV : V = 0 := by have := HE2.out; rwa [if_neg hk] at this
    subst eV
    go_wp2_with fail
    go_ret2
    exact ⟨rfl, b1⟩
set_option maxRecDepth 20000 in
theorem filled_any (b : Bu) (t : Int) (w : World) (hl : lerr b t = 0) : Calls Try.prog 15 #[.agg (Bu.cells b), .int .i64 t] w fun e w' => e = .returned (.int .i64 (lv b t)) ∧ Below w.heap.size w w' := by
  have HF := fun hr => filled (b := b) (t := t) hr
  obtain ⟨l1, l2, l3, l4, l5, l6⟩ := lv_in hl
  obtain ⟨hc, a1, a2⟩ := lerr_zero.1 hl
  obtain ⟨c1, c2, c3, c4⟩ := chk_zero.1 hc
  have g1 : lv b t = (if b.h + b.r * (t - b.a) ≤ b.m then b.h + b.r * (t - b.a) else b.m) := rfl
  obtain ⟨r, m, h, a⟩ := b
  dsimp only [Bu.cells] at *
  generalize lv _ _ = G at *
  clear hl hc
  have b0 := (Below.refl w.heap.size w).alloc (Nat.le_refl _) (.cells (BC r m h a) 23)
  have G0 := Blk.new w (BC r m h a) 23
  have w1 : wrap64 (m - h) = m - h := by unfold wrap64; omega
  go_enter Try.func15, Try.ntmps15
  go_upto_region 1 with fail
  generalize hW : w.alloc (Obj.cells (BC r m h a) 23) = W at *
  clear hW
  have cc := G0.cell
  have nn := ab.ne W
  have ca := ab.cells G0
  by_cases hr : 0 < r
  · have q := HF hr
    have i1 : IntKind.i64.wrap (t - a) = t - a := by rw [IntKind.wrap_i64]; omega
    go_upto_region 2 with fail
    refine ab.region (by kernel_rfl) (by kernel_rfl) ?_
    repeat (go_big_quiet_step (fail))
    refine wpQuiet_nil ?_
    intro _ hx
    obtain ⟨y, rfl⟩ := hx
    have b1 := b0.trans (Below.mono y.h b0.size)
    have cy := (G0.below y.h G0.lt).cell
    by_cases hm : m ≤ h + r * (t - a)
    · go_wp2_with fail
      go_ret
      exact ⟨ret_int (by omega), b1⟩
    · have i2 : wrap64 (t - a) = t - a := by unfold wrap64; omega
      have i3 : wrap64 (r * (t - a)) = r * (t - a) := by unfold wrap64; omega
      have i4 : wrap64 (h + r * (t - a)) = h + r * (t - a) := by unfold wrap64; omega
      go_wp2_with fail
      go_ret
      exact ⟨ret_int (by omega), b1⟩
  · have hr0 : r = 0 := by omega
    subst hr0
    rw [Int.zero_mul] at *
    go_upto_region 2 with fail
    refine ab.region (by kernel_rfl) (by kernel_rfl) ?_
    repeat (go_big_quiet_step (fail))
    refine wpQuiet_nil ?_
    intro _ hx
    obtain ⟨y, rfl⟩ := hx
    have b1 := b0.trans (Below.mono y.h b0.size)
    have cy := (G0.below y.h G0.lt).cell
    have i2 : wrap64 (t - a) = t - a := by unfold wrap64; omega
    go_wp2_with fail
    go_ret
    exact ⟨ret_int (by omega), b1⟩
end Go.Proofs.Ytfigjgefnmkkiaa.bkt
