/- custkeep.portsLives: a port that is wanted, and one of its kind. -/
import Derived.Test.YtajhdpkiafaebaaDoorPtLet
namespace Go.Proofs.YtajhdpkiafaebaaDoor.plv
open Go.ChangeShapes Go.WideShapes Go.ChangeAt Go.RowKit Go.BigFrame
open Go.Proofs.YtajhdpkiafaebaaDoor Go.Proofs.YtajhdpkiafaebaaDoor.pm Go.Proofs.YtajhdpkiafaebaaDoor.pt Go.Proofs.YtajhdpkiafaebaaDoor.pa Go.Proofs.YtajhdpkiafaebaaDoor.boxes

theorem perr_lv : perr 1024 = 0 := by decide
theorem l1 : le 1024 0 1025 = 0 := by
  rcases le_cases 1024 0 1025 with ⟨_, h⟩ | ⟨_, _, h⟩ | ⟨_, _, _, _, h⟩ | ⟨h, _⟩
  · rw [perr_lv] at h; cases h
  · omega
  · cases h
  · exact h
theorem k1 : lkw 1024 0 1025 = 1 := by
  have h := le_lk (by decide) l1
  have := h.self ⟨1, ⟨by decide, by decide⟩, by decide⟩
  omega
theorem m1 : lb 1024 0 1025 = 1024 ∧ lt 1024 0 1025 = 2 ∧ lp 1024 0 1025 = 1025 := by
  obtain ⟨a, b, c⟩ := le_ones l1
  rw [k1] at b c
  exact ⟨a, b, c⟩
theorem l2 : le 1024 2 1025 = 0 := by
  rcases le_cases 1024 2 1025 with ⟨_, h⟩ | ⟨_, _, h⟩ | ⟨_, _, _, _, h⟩ | ⟨h, _⟩
  · rw [perr_lv] at h; cases h
  · omega
  · cases h
  · exact h
theorem f2 {j : Nat} (h : F 2 j) : j ≠ 1 := fun e => by
  subst e
  exact absurd h.2 (by decide)
theorem k2 : lkw 1024 2 1025 = 3 := by
  have h := le_lk (by decide) l2
  have hs : ¬ ∃ k, F 2 k ∧ (k : Int) = 1025 - 1024 := fun ⟨k, hk, e⟩ => f2 hk (by omega)
  have h3 : F 2 3 := ⟨by decide, by decide⟩
  obtain ⟨a, b⟩ := h.kind hs ⟨3, h3, by decide⟩
  have c := b 3 h3 (by decide)
  have d := f2 h.free
  have e : ((1025 : Int) % 2).toNat = 1 := by decide
  rw [e] at a
  omega
theorem m2 : lb 1024 2 1025 = 1024 ∧ lt 1024 2 1025 = 10 ∧ lp 1024 2 1025 = 1027 := by
  obtain ⟨a, b, c⟩ := le_ones l2
  rw [k2] at b c
  exact ⟨a, b, c⟩
theorem lives (w : World) (hT : Tb w) : Calls Tryd.prog 14 #[] w fun e w' => e = .returned (.bool true) ∧ Below w.heap.size w w' := by
  have C1 := plt.let_any 1024 0 1025 (by decide) w hT
  have C2 := fun u hT => plt.let_any 1024 2 1025 (by decide) u hT
  rw [l1, m1.1, m1.2.1, m1.2.2] at C1
  rw [l2, m2.1, m2.2.1, m2.2.2] at C2
  go_enter Tryd.func14, Tryd.ntmps14
  go_wp2_with fail
  refine C1.mono ?_
  rintro e w1 ⟨rfl, b1⟩
  have t1 := hT.below b1
  clear C1 hT
  have dA := (Below.refl w1.heap.size w1).alloc (Nat.le_refl _) (.cells Z2 24)
  go_upto_region 2 with (refine blk_store _ rfl 24 _ _ rfl w1.heap.size _ rfl rfl _ _ (Blk.new w1 Z2 24) 2 pt_info rfl rfl (pt_one _ _) ?_; intro W2 X2 p2)
  have d2 := p2.below dA (Nat.le_refl _)
  have b2 := b1.trans (d2.mono b1.size)
  have t2 := t1.below d2
  have c2 := X2.cell
  clear dA p2 d2 b1 t1
  generalize w1.heap.size = X at *
  go_wp2_with fail
  refine (C2 _ t2).mono ?_
  rintro e w3 ⟨rfl, z⟩
  have b3 := b2.trans (z.mono b2.size)
  clear C2 t2 c2 X2 b2 z
  have dA := (Below.refl w3.heap.size w3).alloc (Nat.le_refl _) (.cells Z2 24)
  go_upto_region 3 with (refine blk_store _ rfl 24 _ _ rfl w3.heap.size _ rfl rfl _ _ (Blk.new w3 Z2 24) 2 pt_info rfl rfl (pt_one _ _) ?_; intro W4 X4 p4)
  have d4 := p4.below dA (Nat.le_refl _)
  have b4 := b3.trans (d4.mono b3.size)
  clear dA p4 d4 b3 X4
  go_wp2_with fail
  go_ret
  exact ⟨rfl, b4⟩
end Go.Proofs.YtajhdpkiafaebaaDoor.plv
