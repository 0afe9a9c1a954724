/- What package ports' End answers. -/
import Derived.Test.YtajhdpkiafaebaaDoorPtAns
import Derived.Test.YtajhdpkiafaebaaDoorPtIn1
namespace Go.Proofs.YtajhdpkiafaebaaDoor.pte
open Go.ChangeShapes Go.WideShapes Go.ChangeAt Go.RowKit Go.BigFrame
open Go.Proofs.YtajhdpkiafaebaaDoor Go.Proofs.YtajhdpkiafaebaaDoor.pm Go.Proofs.YtajhdpkiafaebaaDoor.pp Go.Proofs.YtajhdpkiafaebaaDoor.pt Go.Proofs.YtajhdpkiafaebaaDoor.pt1 Go.Proofs.YtajhdpkiafaebaaDoor.pa Go.Proofs.YtajhdpkiafaebaaDoor.boxes

theorem not_let {b : Int} {t : Nat} {p : Int} (h : ¬ Let_ b t p) : t &&& bo (p - b) = 0 := by
  refine Classical.byContradiction fun hn => h ?_
  obtain ⟨j, h1, h2⟩ := and_iff.1 hn
  have h3 := (bo_bit _ _).1 h2
  refine ⟨by omega, by omega, ?_⟩
  rw [show (p - b).toNat = j by omega]; exact h1
theorem is_let {b : Int} {t : Nat} {p : Int} (h : Let_ b t p) : t &&& bo (p - b) ≠ 0 ∧ bo (p - b) = 2 ^ (p - b).toNat := by
  obtain ⟨h1, h2, h3⟩ := h
  refine ⟨and_iff.2 ⟨(p - b).toNat, h3, (bo_bit _ _).2 ⟨by omega, by omega⟩⟩, ?_⟩
  unfold bo; rw [if_pos (by omega)]
set_option maxHeartbeats 2000000 in
theorem end_any (b : Int) (t : Nat) (p : Int) (ht : t < 18446744073709551616) (w : World) :
    Calls Tryd.prog 8 #[.agg (PC b t), .int .i64 p] w fun e w' => e = .returned (.tuple #[.agg (PC (eb b t p) (et b t p)), .int .i64 (ee b t p)]) ∧ Below w.heap.size w w' := by
  have F0 := (Blk.new w (PC b t) 24).alloc (.cells Z2 24)
  have G0 := Blk.newAt (w.alloc (.cells (PC b t) 24)) Z2 24 (b := w.heap.size + 1) (by simp)
  have b0 := (((Below.refl w.heap.size w).alloc (Nat.le_refl _) (.cells (PC b t) 24))).alloc (by simp) (.cells Z2 24)
  have c0 := F0.cell
  have CC := fun u => check_any b t u
  rcases ee_cases b t p with ⟨e1, h⟩ | ⟨e1, h, h2⟩ | ⟨e1, h, h2⟩
  · obtain ⟨z1, z2⟩ := ee_zeros (b := b) (t := t) (p := p) (by rw [e1]; decide)
    rw [e1, z1, z2]
    rw [h] at CC
    clear e1 h z1 z2
    go_enter Tryd.func8, Tryd.ntmps8
    go_wp2_with fail
    refine (CC _).mono ?_
    rintro e w1 ⟨rfl, z⟩
    have b1 := b0.trans (z.mono b0.size)
    have G1 := G0.below z G0.lt
    clear c0 F0 G0 b0 z
    go_wp2_with (refine blk_store _ rfl 24 _ _ rfl (w.heap.size + 1) Z2 rfl rfl _ _ G1 2 pt_info rfl rfl (pt_one _ _) ?_; intro W3 K3 p3)
    have d1 := p3.below b1 (by omega)
    exact blk_ret2 rfl rfl (w.heap.size + 1) Z2 24 rfl K3 _ Tryd.underlying24 rfl 2 pt_info rfl ⟨rfl, d1⟩
  all_goals
    have hb := (perr_cases b).resolve_right (by rw [h]; rintro ⟨h, _⟩; cases h)
    obtain ⟨_, hb0, hb1, _⟩ := hb
    have CB := fun u => bitOf_any b p hb0 hb1 u
    rw [h] at CC
  · obtain ⟨z1, z2⟩ := ee_zeros (b := b) (t := t) (p := p) (by rw [e1]; decide)
    have A1 : bits .and .u64 (t : Int) (bo (p - b) : Int) = ((t &&& bo (p - b) : Nat) : Int) := bits_and_u64_nat _ _ ht (bo_lt _)
    rw [not_let h2] at A1
    rw [e1, z1, z2]
    clear e1 h h2 z1 z2
    generalize bo (p - b) = B at *
    go_enter Tryd.func8, Tryd.ntmps8
    go_wp2_with fail
    refine (CC _).mono ?_
    rintro e w1 ⟨rfl, z⟩
    have b1 := b0.trans (z.mono b0.size)
    have G1 := G0.below z G0.lt
    have c1 := (F0.below z F0.lt).cell
    clear c0 F0 G0 b0 z
    go_wp2_with fail
    refine (CB _).mono ?_
    rintro e w2 ⟨rfl, rfl⟩
    go_wp2_with (refine blk_store _ rfl 24 _ _ rfl (w.heap.size + 1) Z2 rfl rfl _ _ G1 2 pt_info rfl rfl (pt_one _ _) ?_; intro W3 K3 p3)
    have d1 := p3.below b1 (by omega)
    exact blk_ret2 rfl rfl (w.heap.size + 1) Z2 24 rfl K3 _ Tryd.underlying24 rfl 2 pt_info rfl ⟨rfl, d1⟩
  · obtain ⟨z1, z2⟩ := ee_ones e1
    obtain ⟨hl1, hl2⟩ := is_let h2
    have A1 : bits .and .u64 (t : Int) (bo (p - b) : Int) = ((t &&& bo (p - b) : Nat) : Int) := bits_and_u64_nat _ _ ht (bo_lt _)
    have A2 : bits .andNot .u64 (t : Int) (bo (p - b) : Int) = ((t &&& (18446744073709551615 - bo (p - b)) : Nat) : Int) := u64_andNot_nat _ _ ht (bo_lt _)
    have hn : (((t &&& bo (p - b) : Nat) : Int) == 0) = false := by simpa using hl1
    rw [e1, z1, z2]
    have ec : cl t (p - b).toNat = t &&& (18446744073709551615 - bo (p - b)) := by rw [hl2]; rfl
    rw [ec]
    clear e1 h h2 z1 z2 hl1 hl2 ec
    generalize t &&& (18446744073709551615 - bo (p - b)) = N2 at *
    generalize t &&& bo (p - b) = N1 at *
    generalize bo (p - b) = B at *
    go_enter Tryd.func8, Tryd.ntmps8
    go_wp2_with fail
    refine (CC _).mono ?_
    rintro e w1 ⟨rfl, z⟩
    have b1 := b0.trans (z.mono b0.size)
    have G1 := G0.below z G0.lt
    have c1 := (F0.below z F0.lt).cell
    clear c0 F0 G0 b0 z
    go_wp2_with fail
    refine (CB _).mono ?_
    rintro e w2 ⟨rfl, rfl⟩
    go_wp2_with (refine blk_store _ rfl 24 _ _ rfl (w.heap.size + 1) (PC b N2) rfl rfl _ _ G1 2 pt_info rfl rfl (pt_one _ _) ?_; intro W3 K3 p3)
    have d1 := p3.below b1 (by omega)
    exact blk_ret2 rfl rfl (w.heap.size + 1) (PC b N2) 24 rfl K3 _ Tryd.underlying24 rfl 2 pt_info rfl ⟨rfl, d1⟩
end Go.Proofs.YtajhdpkiafaebaaDoor.pte
