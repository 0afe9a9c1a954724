/- The walk of custkeep.BucketFull. -/
import Derived.Test.YtfigjgefnmkkiaaBkLives
namespace Go.Proofs.Ytfigjgefnmkkiaa.bkt
open Go.ChangeShapes Go.WideShapes Go.ChangeAt Go.RowKit Go.BigFrame
open Go.Proofs.Ytfigjgefnmkkiaa Go.Proofs.Ytfigjgefnmkkiaa.boxes Go.Proofs.Ytfigjgefnmkkiaa.rwr
open Go.Proofs.Ytfigjgefnmkkiaa.rws (Knd Own)

set_option maxRecDepth 20000 in
set_option maxHeartbeats 4000000 in
theorem full_walk (b : Bu) (t : Int) (w : World) : Calls Try.prog 7 #[.agg (Bu.cells b), .int .i64 t] w fun e w' => e = .returned (.bool true) ∧ Below w.heap.size w w' := by
  have CL := fun W => level_any b t W
  have CB := fun W => right_any b W
  have CV := lives
  have HN : Hid (lerr b t ≠ 0 → lval b t = 0) := fun h => if_neg h
  have HY : Hid (lerr b t = 0 → chk b = 0 ∧ 0 ≤ t - b.a ∧ t - b.a ≤ 1099511627776 ∧ b.h ≤ lval b t ∧ lval b t ≤ b.m ∧ (b.r = 0 ∨ t - b.a < b.m ∨ lval b t = b.m)) := fun h => by
    obtain ⟨h1, h2, h3⟩ := full h
    obtain ⟨c1, c2, c3⟩ := lerr_zero.1 h
    obtain ⟨k1, k2, k3, k4⟩ := chk_zero.1 c1
    have e : lval b t = lv b t := if_pos h
    rw [e]
    exact ⟨c1, by omega, by omega, h1, h2, h3⟩
  obtain ⟨r, m, h, a⟩ := b
  generalize chk _ = k at *
  generalize lerr _ _ = L at *
  generalize lval _ _ = V at *
  dsimp only [Bu.cells] at *
  have b0 := (Below.refl w.heap.size w).alloc (Nat.le_refl _) (.cells (BC r m h a) 23)
  have G0 := Blk.new w (BC r m h a) 23
  go_enter Try.func7, Try.ntmps7
  go_upto_region 1 with fail
  generalize hW : w.alloc (Obj.cells (BC r m h a) 23) = W at *
  clear hW
  go_wp2_with (refine blk_load _ rfl 23 _ rfl w.heap.size rfl _ _ G0 _ Try.underlying23 rfl 4 bu_info rfl ?_)
  refine (CL _).mono ?_
  rintro e w1 ⟨rfl, z⟩
  have G1 := G0.below z G0.lt
  have b1 := b0.trans (z.mono b0.size)
  clear G0 b0 z CL
  go_wp2_with fail
  refine (CV _).mono ?_
  rintro e w2 ⟨rfl, z⟩
  have G2 := G1.below z G1.lt
  have b2 := b1.trans (z.mono b1.size)
  clear G1 b1 z
  by_cases hL : L = 0
  rotate_left
  · have hLb : (L != 0) = true := by simpa using hL
    have eV := HN.out hL
    subst eV
    clear HN HY
    go_wp2_with fail
    refine (CV _).mono ?_
    rintro e w3 ⟨rfl, z⟩
    go_wp2_with fail
    go_ret
    exact ⟨rfl, b2.trans (z.mono b2.size)⟩
  subst hL
  obtain ⟨rfl, t1, t2, v1, v2, v3⟩ := HY.out rfl
  clear HN HY
  have c2 := G2.cell
  have i1 : wrap64 (t - a) = t - a := by unfold wrap64; omega
  rcases v3 with rfl | v3 | rfl
  · go_wp2_with fail
    refine (CB _).mono ?_
    rintro e w3 ⟨rfl, z⟩
    go_wp2_with fail
    go_ret
    exact ⟨rfl, b2.trans (z.mono b2.size)⟩
  · by_cases hr : r = 0
    · subst hr
      go_wp2_with fail
      refine (CB _).mono ?_
      rintro e w3 ⟨rfl, z⟩
      go_wp2_with fail
      go_ret
      exact ⟨rfl, b2.trans (z.mono b2.size)⟩
    · go_wp2_with fail
      refine (CB _).mono ?_
      rintro e w3 ⟨rfl, z⟩
      go_wp2_with fail
      go_ret
      exact ⟨rfl, b2.trans (z.mono b2.size)⟩
  · by_cases hr : r = 0
    · subst hr
      go_wp2_with fail
      refine (CB _).mono ?_
      rintro e w3 ⟨rfl, z⟩
      go_wp2_with fail
      go_ret
      exact ⟨rfl, b2.trans (z.mono b2.size)⟩
    · by_cases ht : t - a < V
      all_goals go_wp2_with fail
      all_goals refine (CB _).mono ?_
      all_goals rintro e w3 ⟨rfl, z⟩
      all_goals go_wp2_with fail
      all_goals go_ret
      all_goals exact ⟨rfl, b2.trans (z.mono b2.size)⟩
end Go.Proofs.Ytfigjgefnmkkiaa.bkt
