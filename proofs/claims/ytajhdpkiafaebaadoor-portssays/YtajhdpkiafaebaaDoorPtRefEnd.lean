/- What the document's answer ends: custref.PortsEnd. -/
import Derived.Test.YtajhdpkiafaebaaDoorPtAns
import Derived.Test.YtajhdpkiafaebaaDoorPtIn1
import Derived.Test.YtajhdpkiafaebaaDoorPtRef
namespace Go.Proofs.YtajhdpkiafaebaaDoor.pre
open Go.ChangeShapes Go.WideShapes Go.ChangeAt Go.RowKit Go.BigFrame
open Go.Proofs.YtajhdpkiafaebaaDoor Go.Proofs.YtajhdpkiafaebaaDoor.pm Go.Proofs.YtajhdpkiafaebaaDoor.pp Go.Proofs.YtajhdpkiafaebaaDoor.pl Go.Proofs.YtajhdpkiafaebaaDoor.pt Go.Proofs.YtajhdpkiafaebaaDoor.pt1 Go.Proofs.YtajhdpkiafaebaaDoor.pa Go.Proofs.YtajhdpkiafaebaaDoor.ptr Go.Proofs.YtajhdpkiafaebaaDoor.boxes Go.Proofs.YtajhdpkiafaebaaDoor.rwr
open Go.Proofs.YtajhdpkiafaebaaDoor.rws (Knd Own)

set_option maxHeartbeats 4000000 in
theorem end_any (b : Int) (t : Nat) (p : Int) (ht : t < 18446744073709551616) (w : World) :
    Calls Tryd.prog 9 #[.agg (PC b t), .int .i64 p] w fun e w' => e = .returned (.tuple #[.agg (PC (eb b t p) (et b t p)), .int .i64 (ee b t p)]) ∧ Below w.heap.size w w' := by
  have F0 := (Blk.new w (PC b t) 24).alloc (.cells Z2 24)
  have G0 := Blk.newAt (w.alloc (.cells (PC b t) 24)) Z2 24 (b := w.heap.size + 1) (by simp)
  have b0 := (((Below.refl w.heap.size w).alloc (Nat.le_refl _) (.cells (PC b t) 24))).alloc (by simp) (.cells Z2 24)
  have c0 := F0.cell
  have CC := fun u => right_any b t u
  rcases ee_cases b t p with ⟨e1, h⟩ | ⟨e1, h, h2⟩ | ⟨e1, h, h2⟩
  · obtain ⟨z1, z2⟩ := ee_zeros (b := b) (t := t) (p := p) (by rw [e1]; decide)
    rw [e1, z1, z2]
    rw [h] at CC
    clear e1 h z1 z2
    go_enter Tryd.func9, Tryd.ntmps9
    go_wp2_with fail
    refine (CC _).mono ?_
    rintro e w1 ⟨rfl, z⟩
    have b1 := b0.trans (z.mono b0.size)
    have G1 := G0.below z G0.lt
    clear c0 F0 G0 b0 z
    go_wp2_with (refine blk_store _ rfl 24 _ _ rfl (w.heap.size + 1) Z2 rfl rfl _ _ G1 2 pt_info rfl rfl (pt_one _ _) ?_; intro W3 K3 p3)
    have d1 := p3.below b1 (by omega)
    exact blk_ret2 rfl rfl (w.heap.size + 1) Z2 24 rfl K3 _ Tryd.underlying24 rfl 2 pt_info rfl ⟨rfl, d1⟩
  all_goals
    have hb := (perr_cases b).resolve_right (by rw [h]; rintro ⟨h, _⟩; cases h)
    obtain ⟨_, hb0, hb1, hb2⟩ := hb
    have CB := fun u => between_any p b (b + 63) u
    have CF := fun u => free_any b t ht hb0 hb1 u
    have hw : IntKind.i64.wrap (b + 63) = b + 63 := by rw [IntKind.wrap_i64]; omega
    rw [h] at CC
  · obtain ⟨z1, z2⟩ := ee_zeros (b := b) (t := t) (p := p) (by rw [e1]; decide)
    rw [e1, z1, z2]
    by_cases hr : b ≤ p ∧ p ≤ b + 63
    · have hbt : (decide (b ≤ p) && decide (p ≤ b + 63)) = true := by
        rw [Bool.and_eq_true, decide_eq_true_eq, decide_eq_true_eq]; exact hr
      rw [hbt] at CB
      have hm : p ∈ FL b t 64 := FL_mem.2 ⟨(p - b).toNat, ⟨by omega, by
        cases hq : t.testBit (p - b).toNat
        · rfl
        · exact absurd ⟨hr.1, by omega, hq⟩ h2⟩, by omega⟩
      have hmd : decide (p ∈ FL b t 64) = true := decide_eq_true hm
      have hl64 := FL_le b t 64
      clear e1 h h2 z1 z2 hbt hr hm
      generalize FL b t 64 = L at *
      go_enter Tryd.func9, Tryd.ntmps9
      go_wp2_with fail
      refine (CC _).mono ?_
      rintro e w1 ⟨rfl, z⟩
      have b1 := b0.trans (z.mono b0.size)
      have G1 := G0.below z G0.lt
      have F1 := F0.below z F0.lt
      have c1 := F1.cell
      clear c0 F0 G0 b0 z CC
      go_wp2_with fail
      refine (CB _).mono ?_
      rintro e w2 ⟨rfl, rfl⟩
      go_wp2_with fail
      refine (CF _).mono ?_
      rintro e w3 ⟨v3, rfl, o3, z⟩
      have b3 := b1.trans (z.mono b1.size)
      have G3 := G1.below z G1.lt
      have r3 := Own.rd o3
      have CN := contains_any v3 L p _ r3 (by omega)
      rw [hmd] at CN
      obtain ⟨sa, sc, e3⟩ := r3.form
      obtain ⟨n, hn⟩ : ∃ n, n = L.length := ⟨_, rfl⟩
      rw [← hn] at e3
      subst e3
      clear G1 F1 c1 z CF o3 r3 hn hl64 hmd
      go_wp2_with fail
      refine CN.mono ?_
      rintro e w4 ⟨rfl, z⟩
      have b4 := b3.trans (z.mono b3.size)
      have G4 := G3.below z G3.lt
      clear CN z b3 G3
      go_wp2_with (refine blk_store _ rfl 24 _ _ rfl (w.heap.size + 1) Z2 rfl rfl _ _ G4 2 pt_info rfl rfl (pt_one _ _) ?_; intro W3 K3 p3)
      have d1 := p3.below b4 (by omega)
      exact blk_ret2 rfl rfl (w.heap.size + 1) Z2 24 rfl K3 _ Tryd.underlying24 rfl 2 pt_info rfl ⟨rfl, d1⟩
    · have hbt : (decide (b ≤ p) && decide (p ≤ b + 63)) = false := by
        rw [Bool.and_eq_false_iff, decide_eq_false_iff_not, decide_eq_false_iff_not]; omega
      rw [hbt] at CB
      clear e1 h h2 z1 z2 hbt hr CF
      go_enter Tryd.func9, Tryd.ntmps9
      go_wp2_with fail
      refine (CC _).mono ?_
      rintro e w1 ⟨rfl, z⟩
      have b1 := b0.trans (z.mono b0.size)
      have G1 := G0.below z G0.lt
      have c1 := (F0.below z F0.lt).cell
      clear c0 F0 G0 b0 z CC
      go_wp2_with fail
      refine (CB _).mono ?_
      rintro e w2 ⟨rfl, rfl⟩
      go_wp2_with (refine blk_store _ rfl 24 _ _ rfl (w.heap.size + 1) Z2 rfl rfl _ _ G1 2 pt_info rfl rfl (pt_one _ _) ?_; intro W3 K3 p3)
      have d1 := p3.below b1 (by omega)
      exact blk_ret2 rfl rfl (w.heap.size + 1) Z2 24 rfl K3 _ Tryd.underlying24 rfl 2 pt_info rfl ⟨rfl, d1⟩
  · obtain ⟨z1, z2⟩ := ee_ones e1
    rw [e1, z1, z2]
    obtain ⟨hr1, hr2, hbit⟩ := h2
    have hbt : (decide (b ≤ p) && decide (p ≤ b + 63)) = true := by
      rw [Bool.and_eq_true, decide_eq_true_eq, decide_eq_true_eq]; omega
    rw [hbt] at CB
    obtain ⟨k, rfl⟩ : ∃ k : Nat, p = b + (k : Int) := ⟨(p - b).toNat, by omega⟩
    have hkk : (b + (k : Int) - b).toNat = k := by omega
    rw [hkk] at hbit ⊢
    have hk : k < 64 := by omega
    have hm : ¬ (b + (k : Int)) ∈ FL b t 64 := fun h => by
      obtain ⟨j, hj, e⟩ := FL_mem.1 h
      have : j = k := by omega
      subst this
      rw [hj.2] at hbit; cases hbit
    have hmd : decide ((b + (k : Int)) ∈ FL b t 64) = false := decide_eq_false hm
    have hl64 := FL_le b t 64
    have hA1 : IntKind.i64.wrap (b + (k : Int) - b) = (k : Int) := by rw [IntKind.wrap_i64]; omega
    have hA2 : IntKind.u64.wrap ((2 : Int) ^ k) = (2 : Int) ^ k := by rw [shl_nat hk]; simp
    have hA3 : IntKind.u64.wrap ((t : Int) - (2 : Int) ^ k) = (cl t k : Int) := by
      have e := cl_sub ht hk hbit
      have e2 := Nat.ge_two_pow_of_testBit hbit
      rw [show (2 : Int) ^ k = ((2 ^ k : Nat) : Int) by simp]
      rw [← e, IntKind.wrap_u64]
      generalize 2 ^ k = PW at *
      omega
    clear e1 h z1 z2 hbt hm hkk hbit ht
    generalize cl t k = ST at *
    generalize FL b t 64 = L at *
    go_enter Tryd.func9, Tryd.ntmps9
    go_wp2_with fail
    refine (CC _).mono ?_
    rintro e w1 ⟨rfl, z⟩
    have b1 := b0.trans (z.mono b0.size)
    have G1 := G0.below z G0.lt
    have F1 := F0.below z F0.lt
    have c1 := F1.cell
    clear c0 F0 G0 b0 z CC
    go_wp2_with fail
    refine (CB _).mono ?_
    rintro e w2 ⟨rfl, rfl⟩
    go_wp2_with fail
    refine (CF _).mono ?_
    rintro e w3 ⟨v3, rfl, o3, z⟩
    have b3 := b1.trans (z.mono b1.size)
    have G3 := G1.below z G1.lt
    have F3 := F1.below z F1.lt
    have r3 := Own.rd o3
    have CN := contains_any v3 L (b + (k : Int)) _ r3 (by omega)
    rw [hmd] at CN
    obtain ⟨sa, sc, e3⟩ := r3.form
    obtain ⟨n, hn⟩ : ∃ n, n = L.length := ⟨_, rfl⟩
    rw [← hn] at e3
    subst e3
    clear G1 F1 c1 b1 z CF o3 r3 hn hl64 hmd CB
    go_wp2_with fail
    refine CN.mono ?_
    rintro e w4 ⟨rfl, z⟩
    have b4 := b3.trans (z.mono b3.size)
    have G4 := G3.below z G3.lt
    have F4 := F3.below z F3.lt
    clear CN z b3 G3 F3
    have c5 := F4.cell
    have cG := G4.cell
    have fG := G4.free
    have hlt := G4.lt
    have hk0 : (0 : Int) ≤ (k : Int) := by omega
    have K5 : Blk ((w4.setCell ⟨w.heap.size + 1, 0, none⟩ (.int .i64 b)).setCell ⟨w.heap.size + 1, 1, none⟩ (.int .u64 (ST : Int))).drew (w.heap.size + 1) (PC b ST) 24 := ((G4.setCell 0 (.int .i64 b)).setCell 1 (.int .u64 (ST : Int))).drew
    have d5 : Below w.heap.size w ((w4.setCell ⟨w.heap.size + 1, 0, none⟩ (.int .i64 b)).setCell ⟨w.heap.size + 1, 1, none⟩ (.int .u64 (ST : Int))).drew := ((but_setCell _ _ _ _).below ((but_setCell _ _ _ _).below b4 (by omega)) (by omega)).trans ((ab.Ab.drew _).mono (by simp [World.setCell]; omega))
    go_upto_region 6 with fail
    go_region
    all_goals go_wp2_with fail
    all_goals exact blk_ret2 rfl rfl (w.heap.size + 1) (PC b ST) 24 rfl K5 _ Tryd.underlying24 rfl 2 pt_info rfl ⟨rfl, d5⟩
end Go.Proofs.YtajhdpkiafaebaaDoor.pre
