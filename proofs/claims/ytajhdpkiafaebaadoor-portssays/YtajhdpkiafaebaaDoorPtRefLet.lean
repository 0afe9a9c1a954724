/- What the document's answer lets: custref.PortsLet. -/
import Derived.Test.YtajhdpkiafaebaaDoorPtAns
import Derived.Test.YtajhdpkiafaebaaDoorPtIn1
import Derived.Test.YtajhdpkiafaebaaDoorPtRef
namespace Go.Proofs.YtajhdpkiafaebaaDoor.prl
open Go.ChangeShapes Go.WideShapes Go.ChangeAt Go.RowKit Go.BigFrame
open Go.Proofs.YtajhdpkiafaebaaDoor Go.Proofs.YtajhdpkiafaebaaDoor.pm Go.Proofs.YtajhdpkiafaebaaDoor.pp Go.Proofs.YtajhdpkiafaebaaDoor.pl Go.Proofs.YtajhdpkiafaebaaDoor.pt Go.Proofs.YtajhdpkiafaebaaDoor.pt1 Go.Proofs.YtajhdpkiafaebaaDoor.pa Go.Proofs.YtajhdpkiafaebaaDoor.ptr Go.Proofs.YtajhdpkiafaebaaDoor.boxes Go.Proofs.YtajhdpkiafaebaaDoor.rwr
open Go.Proofs.YtajhdpkiafaebaaDoor.rws (Knd Own)

theorem kd_is {b w : Int} (h0 : 64 ≤ b) (h1 : b % 64 = 0) (h2 : 0 ≤ w) (k : Nat) : kd w (b + (k : Int)) = decide (k % 2 = (w % 2).toNat) := by
  unfold kd
  rw [Int.tmod_eq_emod_of_nonneg (by omega), Int.tmod_eq_emod_of_nonneg h2]
  rw [Bool.eq_iff_iff, beq_iff_eq, decide_eq_true_eq]
  omega
theorem FL_ne {b : Int} {t : Nat} (ht : t < 18446744073709551616) : (FL b t 64).length = 0 ↔ t = 18446744073709551615 := by rw [FL_len, nf_zero ht]
set_option maxHeartbeats 4000000 in
theorem let_any (b : Int) (t : Nat) (p : Int) (ht : t < 18446744073709551616) (w : World) :
    Calls Tryd.prog 7 #[.agg (PC b t), .int .i64 p] w fun e w' => e = .returned (.tuple #[.agg (PC (lb b t p) (lt b t p)), .int .i64 (lp b t p), .int .i64 (le b t p)]) ∧ Below w.heap.size w w' := by
  have F0 := ((Blk.new w (PC b t) 24).alloc (.cells #[.int .i64 p] 3)).alloc (.cells Z2 24)
  have V0 := (Blk.newAt (w.alloc (.cells (PC b t) 24)) #[.int .i64 p] 3 (b := w.heap.size + 1) (by simp)).alloc (.cells Z2 24)
  have G0 := Blk.newAt ((w.alloc (.cells (PC b t) 24)).alloc (.cells #[.int .i64 p] 3)) Z2 24 (b := w.heap.size + 2) (by simp)
  have b0 := ((((Below.refl w.heap.size w).alloc (Nat.le_refl _) (.cells (PC b t) 24))).alloc (by simp) (.cells #[.int .i64 p] 3)).alloc (by simp; omega) (.cells Z2 24)
  have c0 := F0.cell
  have CC := fun u => right_any b t u
  have CB := fun u => between_any p 0 65535 u
  rcases le_cases b t p with ⟨e1, h⟩ | ⟨e1, h, h2⟩ | ⟨e1, h, h2, h3, hf⟩ | ⟨e1, h, h2, h3, hn⟩
  · obtain ⟨z1, z2, z3⟩ := le_zeros (b := b) (t := t) (w := p) (by rw [e1]; decide)
    rw [e1, z1, z2, z3]
    rw [h] at CC
    clear e1 h z1 z2 z3
    go_enter Tryd.func7, Tryd.ntmps7
    go_wp2_with fail
    refine (CC _).mono ?_
    rintro e w1 ⟨rfl, z⟩
    have b1 := b0.trans (z.mono b0.size)
    have G1 := G0.below z G0.lt
    clear c0 F0 V0 G0 b0 z
    go_wp2_with (refine blk_store _ rfl 24 _ _ rfl (w.heap.size + 2) Z2 rfl rfl _ _ G1 2 pt_info rfl rfl (pt_one _ _) ?_; intro W3 K3 p3)
    have d1 := p3.below b1 (by omega)
    exact blk_ret3 rfl rfl (w.heap.size + 2) Z2 24 rfl K3 _ Tryd.underlying24 rfl 2 pt_info rfl ⟨rfl, d1⟩
  · obtain ⟨z1, z2, z3⟩ := le_zeros (b := b) (t := t) (w := p) (by rw [e1]; decide)
    have hb : (decide (0 ≤ p) && decide (p ≤ 65535)) = false := by
      rw [Bool.and_eq_false_iff, decide_eq_false_iff_not, decide_eq_false_iff_not]; omega
    rw [hb] at CB
    rw [e1, z1, z2, z3]
    rw [h] at CC
    clear e1 h z1 z2 z3 h2 hb
    go_enter Tryd.func7, Tryd.ntmps7
    go_wp2_with fail
    refine (CC _).mono ?_
    rintro e w1 ⟨rfl, z⟩
    have b1 := b0.trans (z.mono b0.size)
    have G1 := G0.below z G0.lt
    have c1 := (V0.below z V0.lt).cell
    clear c0 F0 V0 G0 b0 z
    go_wp2_with fail
    refine (CB _).mono ?_
    rintro e w2 ⟨rfl, rfl⟩
    go_wp2_with (refine blk_store _ rfl 24 _ _ rfl (w.heap.size + 2) Z2 rfl rfl _ _ G1 2 pt_info rfl rfl (pt_one _ _) ?_; intro W3 K3 p3)
    have d1 := p3.below b1 (by omega)
    exact blk_ret3 rfl rfl (w.heap.size + 2) Z2 24 rfl K3 _ Tryd.underlying24 rfl 2 pt_info rfl ⟨rfl, d1⟩
  all_goals
    have hbp := (perr_cases b).resolve_right (by rw [h]; rintro ⟨h, _⟩; cases h)
    obtain ⟨_, hb0, hb1, hb2⟩ := hbp
    have hb : (decide (0 ≤ p) && decide (p ≤ 65535)) = true := by
      rw [Bool.and_eq_true, decide_eq_true_eq, decide_eq_true_eq]; omega
    rw [hb] at CB
    rw [h] at CC
    have CF := fun u => free_any b t ht hb0 hb1 u
  · obtain ⟨z1, z2, z3⟩ := le_zeros (b := b) (t := t) (w := p) (by rw [e1]; decide)
    have hl0 : (FL b t 64).length = 0 := (FL_ne ht).2 hf
    rw [e1, z1, z2, z3]
    clear e1 h z1 z2 z3 hb hf
    generalize FL b t 64 = L at *
    go_enter Tryd.func7, Tryd.ntmps7
    go_wp2_with fail
    refine (CC _).mono ?_
    rintro e w1 ⟨rfl, z⟩
    have b1 := b0.trans (z.mono b0.size)
    have G1 := G0.below z G0.lt
    have F1 := F0.below z F0.lt
    have c1 := (V0.below z V0.lt).cell
    clear c0 F0 V0 G0 b0 z CC
    go_wp2_with fail
    refine (CB _).mono ?_
    rintro e w2 ⟨rfl, rfl⟩
    have c2 := F1.cell
    clear c1 CB
    go_wp2_with fail
    refine (CF _).mono ?_
    rintro e w3 ⟨v3, rfl, o3, z⟩
    have b3 := b1.trans (z.mono b1.size)
    have G3 := G1.below z G1.lt
    obtain ⟨sa, sc, e3⟩ := (Own.rd o3).form
    rw [hl0] at e3
    subst e3
    clear c2 F1 G1 b1 z CF o3 hl0
    go_wp2_with (refine blk_store _ rfl 24 _ _ rfl (w.heap.size + 2) Z2 rfl rfl _ _ G3 2 pt_info rfl rfl (pt_one _ _) ?_; intro W3 K3 p3)
    have d1 := p3.below b3 (by omega)
    exact blk_ret3 rfl rfl (w.heap.size + 2) Z2 24 rfl K3 _ Tryd.underlying24 rfl 2 pt_info rfl ⟨rfl, d1⟩
  · obtain ⟨z1, z2, z3⟩ := le_ones e1
    have hlk := le_lk ht e1
    have hl0 : 0 < (FL b t 64).length := by
      have : (FL b t 64).length ≠ 0 := fun e => hn ((FL_ne ht).1 e)
      omega
    have hl64 := FL_le b t 64
    have hk := hlk.free.1
    have HS : Hid (p ∈ FL b t 64 → p = b + (lkw b t p : Int)) := fun h => ref_self ht h hlk
    have HK : Hid (∀ i, ¬ p ∈ FL b t 64 → At (FL b t 64) (kd p) i → 0 ≤ i → ∃ k : Nat, i = k ∧ (FL b t 64)[k]? = some (b + (lkw b t p : Int))) := fun i hq ha h0 => ref_kind (kd p) (kd_is hb0 hb2 h2) hq ha h0 hlk
    have HM : Hid (∀ i, ¬ p ∈ FL b t 64 → At (FL b t 64) (kd p) i → i < 0 → (FL b t 64)[0]? = some (b + (lkw b t p : Int))) := fun i hq ha h0 => ref_least (kd p) (kd_is hb0 hb2 h2) hq ha h0 hl0 hlk
    have hA1 : IntKind.i64.wrap (b + (lkw b t p : Int) - b) = (lkw b t p : Int) := by rw [IntKind.wrap_i64]; omega
    have hA2 : IntKind.u64.wrap ((2 : Int) ^ lkw b t p) = (2 : Int) ^ lkw b t p := by rw [shl_nat hk]; simp
    have hA3 : IntKind.u64.wrap ((t : Int) + (2 : Int) ^ lkw b t p) = (st t (lkw b t p) : Int) := by
      rw [show (2 : Int) ^ lkw b t p = ((2 ^ lkw b t p : Nat) : Int) by simp]
      have e := st_add ht hlk.free
      have e2 := st_lt ht hk
      rw [← e] at e2 ⊢
      rw [IntKind.wrap_u64]
      generalize 2 ^ lkw b t p = PW at *
      omega
    rw [e1, z1, z2, z3]
    clear e1 h z1 z2 z3 hlk hn hb ht
    generalize st t (lkw b t p) = ST at *
    obtain ⟨L, hL⟩ : ∃ L, L = FL b t 64 := ⟨_, rfl⟩
    rw [← hL] at HS HK HM CF hl0 hl64
    clear hL
    generalize lkw b t p = k at *
    go_enter Tryd.func7, Tryd.ntmps7
    go_wp2_with fail
    refine (CC _).mono ?_
    rintro e w1 ⟨rfl, z⟩
    have b1 := b0.trans (z.mono b0.size)
    have G1 := G0.below z G0.lt
    have F1 := F0.below z F0.lt
    have V1 := V0.below z V0.lt
    have c1 := V1.cell
    clear c0 F0 V0 G0 b0 z CC
    go_wp2_with fail
    refine (CB _).mono ?_
    rintro e w2 ⟨rfl, rfl⟩
    have c2 := F1.cell
    clear c1 CB
    go_wp2_with fail
    refine (CF _).mono ?_
    rintro e w3 ⟨v3, rfl, o3, z⟩
    have b3 := b1.trans (z.mono b1.size)
    have G3 := G1.below z G1.lt
    have F3 := F1.below z F1.lt
    have V3 := V1.below z V1.lt
    have r3 := Own.rd o3
    have CI := fun u hu hv => indexf_any v3 L p (w.heap.size + 1) 3 u hu (by omega) hv
    have CN := fun u hu => contains_any v3 L p u hu (by omega)
    obtain ⟨sa, sc, e3⟩ := r3.form
    obtain ⟨n, hn⟩ : ∃ n, L.length = n := ⟨_, rfl⟩
    have HL0 : Hid (∃ x, L[0]? = some x) := ⟨_, List.getElem?_eq_getElem hl0⟩
    rw [hn] at e3 hl0 hl64
    have HN : Hid (L.length = n) := hn
    subst e3
    clear c2 F1 G1 b1 z CF o3 hn V1
    obtain ⟨g, off, rfl, hg, hcx⟩ := num_cells r3 (by rw [HN.out]; exact hl0)
    obtain ⟨x0, hx0⟩ := HL0.out
    have cx0 := hcx 0 x0 hx0
    rw [Nat.add_zero] at cx0
    have hn0 : (0 : Int) < (n : Int) := by omega
    have hne : ((n : Int) == 0) = false := by simp; omega
    go_wp2_with fail
    refine (CI _ r3 V3).mono ?_
    rintro e w4 ⟨i, rfl, hat, z⟩
    have r4 := r3.below z
    have hc4 : ∀ (j : Nat) x, L[j]? = some x → w4.cell? ⟨g, off + j, none⟩ = some (.int .i64 x) := fun j x hj => (z.cell (p := ⟨g, off + j, none⟩) hg).trans (hcx j x hj)
    have b4 := b3.trans (z.mono b3.size)
    have G4 := G3.below z G3.lt
    have F4 := F3.below z F3.lt
    have V4 := V3.below z V3.lt
    have HAt : Hid (At L (kd p) i) := hat
    have cV4 := V4.cell
    clear CI hat z r3 hcx b3 G3 F3 V3 cx0
    go_upto_if 34 with fail
    go_cut [9] (fun s9 wx => ∃ x : Int, s9 = .int .i64 x ∧ Hid (¬ p ∈ L → x = b + (k : Int)) ∧ wx = w4)
    case first =>
      by_cases hi : 0 ≤ i
      · obtain ⟨q, y, rfl, hy, _, _⟩ := HAt.out.yes hi
        have cy := hc4 q y hy
        have hqn : (q : Int) < (n : Int) := by
          have := (List.getElem?_eq_some_iff.1 hy).1
          rw [HN.out] at this; omega
        have HY : Hid (¬ p ∈ L → y = b + (k : Int)) := fun hm => by
          obtain ⟨q2, e2, h2⟩ := HK.out (q : Int) hm HAt.out hi
          have : q2 = q := by omega
          subst this
          rw [hy] at h2
          exact Option.some.inj h2
        clear hc4 HK HM HS HL0 HAt
        go_wp2_with fail
        go_meet
        case rel => exact ⟨y, rfl, HY, rfl⟩
      · have HY : Hid (¬ p ∈ L → x0 = b + (k : Int)) := fun hm => by
          have := HM.out i hm HAt.out (by omega)
          rw [hx0] at this
          exact Option.some.inj this
        clear hc4 HK HM HS HL0 HAt
        go_wp2_with fail
        go_meet
        case rel => exact ⟨x0, rfl, HY, rfl⟩
    case rest =>
      obtain ⟨x, rfl, HX, hwc⟩ := hcut
      subst hwc
      clear HK HM hc4 HAt HL0
      go_wp2_with fail
      refine (CN _ r4).mono ?_
      rintro e w5 ⟨rfl, z⟩
      have b5 := b4.trans (z.mono b4.size)
      have G5 := G4.below z G4.lt
      have F5 := F4.below z F4.lt
      have cV5 := (V4.below z V4.lt).cell
      clear CN z r4 b4 G4 F4 V4 cV4
      go_upto_if 41 with fail
      go_cut [9] (fun s9 wx => s9 = .int .i64 (b + (k : Int)) ∧ wx = w5)
      case first =>
        by_cases hm : p ∈ L
        · have hmd : decide (p ∈ L) = true := decide_eq_true hm
          have HP : Hid (p = b + (k : Int)) := HS.out hm
          rw [hmd]
          clear HX HS hm hmd
          go_wp2_with fail
          go_meet
          case rel => exact ⟨by rw [HP.out], rfl⟩
        · have hmd : decide (p ∈ L) = false := decide_eq_false hm
          have HP : Hid (x = b + (k : Int)) := HX.out hm
          rw [hmd]
          clear HX HS hm hmd
          go_wp2_with fail
          go_meet
          case rel => exact ⟨by rw [HP.out], rfl⟩
      case rest =>
        obtain ⟨rfl, hwc⟩ := hcut
        subst hwc
        clear HX HS
        have c5 := F5.cell
        have cG := G5.cell
        have fG := G5.free
        have hlt := G5.lt
        have hk0 : (0 : Int) ≤ (k : Int) := by omega
        have K5 : Blk ((wc.setCell ⟨w.heap.size + 2, 0, none⟩ (.int .i64 b)).setCell ⟨w.heap.size + 2, 1, none⟩ (.int .u64 (ST : Int))).drew (w.heap.size + 2) (PC b ST) 24 := ((G5.setCell 0 (.int .i64 b)).setCell 1 (.int .u64 (ST : Int))).drew
        have d5 : Below w.heap.size w ((wc.setCell ⟨w.heap.size + 2, 0, none⟩ (.int .i64 b)).setCell ⟨w.heap.size + 2, 1, none⟩ (.int .u64 (ST : Int))).drew := ((but_setCell _ _ _ _).below ((but_setCell _ _ _ _).below b5 (by omega)) (by omega)).trans ((ab.Ab.drew _).mono (by simp [World.setCell]; omega))
        go_upto_region 15 with fail
        go_region
        all_goals go_wp2_with fail
        all_goals exact blk_ret3 rfl rfl (w.heap.size + 2) (PC b ST) 24 rfl K5 _ Tryd.underlying24 rfl 2 pt_info rfl ⟨rfl, d5⟩
end Go.Proofs.YtajhdpkiafaebaaDoor.prl
