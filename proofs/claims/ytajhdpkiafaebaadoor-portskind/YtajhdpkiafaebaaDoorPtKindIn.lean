/- The walk through custkeep.PortsKind. -/
import Derived.Test.YtajhdpkiafaebaaDoorPtLives
import Derived.Test.YtajhdpkiafaebaaDoorPtEnd
import Derived.Test.YtajhdpkiafaebaaDoorPtRef
namespace Go.Proofs.YtajhdpkiafaebaaDoor.pki
open Go.ChangeShapes Go.WideShapes Go.ChangeAt Go.RowKit Go.BigFrame
open Go.Proofs.YtajhdpkiafaebaaDoor Go.Proofs.YtajhdpkiafaebaaDoor.pm Go.Proofs.YtajhdpkiafaebaaDoor.pp Go.Proofs.YtajhdpkiafaebaaDoor.pt Go.Proofs.YtajhdpkiafaebaaDoor.pt1 Go.Proofs.YtajhdpkiafaebaaDoor.pa Go.Proofs.YtajhdpkiafaebaaDoor.boxes

/-- is there one of the kind, is there the one itself, among the first n? -/
def sm (t q n : Nat) : Bool := (List.range n).any fun j => !t.testBit j && decide (j % 2 = q)
def sf (t : Nat) (v : Int) (n : Nat) : Bool := (List.range n).any fun j => !t.testBit j && decide ((j : Int) = v)
theorem sm_succ (t q n : Nat) : sm t q (n + 1) = (sm t q n || (!t.testBit n && decide (n % 2 = q))) := by
  unfold sm; rw [List.range_succ, List.any_append]; simp
theorem sf_succ (t : Nat) (v : Int) (n : Nat) : sf t v (n + 1) = (sf t v n || (!t.testBit n && decide ((n : Int) = v))) := by
  unfold sf; rw [List.range_succ, List.any_append]; simp
theorem sm_iff (t q : Nat) : sm t q 64 = true ↔ ∃ k, F t k ∧ k % 2 = q := by
  unfold sm
  rw [List.any_eq_true]
  constructor
  · rintro ⟨j, hj, h⟩
    rw [Bool.and_eq_true] at h
    exact ⟨j, ⟨List.mem_range.1 hj, by simpa using h.1⟩, by simpa using h.2⟩
  · rintro ⟨j, hj, h⟩
    exact ⟨j, List.mem_range.2 hj.1, by rw [hj.2]; simpa using h⟩
theorem sf_iff (t : Nat) (v : Int) : sf t v 64 = true ↔ ∃ k, F t k ∧ (k : Int) = v := by
  unfold sf
  rw [List.any_eq_true]
  constructor
  · rintro ⟨j, hj, h⟩
    rw [Bool.and_eq_true] at h
    exact ⟨j, ⟨List.mem_range.1 hj, by simpa using h.1⟩, by simpa using h.2⟩
  · rintro ⟨j, hj, h⟩
    exact ⟨j, List.mem_range.2 hj.1, by rw [hj.2]; simpa using h⟩
/-- what is let is of the kind, is the one itself -/
theorem out_kind {b w : Int} {t r : Nat} (hb : b % 64 = 0) (h : Lk t (w - b) (w % 2).toNat r) (hs : sm t (w % 2).toNat 64 = true) : (b + (r : Int)) % 2 = w % 2 := by
  have h1 := (sm_iff _ _).1 hs
  by_cases h2 : ∃ k, F t k ∧ (k : Int) = w - b
  · have := h.self h2; omega
  · have := (h.kind h2 h1).1; omega
theorem out_self {b w : Int} {t q r : Nat} (h : Lk t (w - b) q r) (hs : sf t (w - b) 64 = true) : b + (r : Int) = w := by
  have := h.self ((sf_iff _ _).1 hs); omega
theorem bit_is {t : Nat} (ht : t < 18446744073709551616) (i : Nat) : (bits BinOp.and IntKind.u64 ((t : Int) / 2 ^ i) 1 == 0) = !t.testBit i := by
  have h1 := Nat.div_le_self t (2 ^ i)
  rw [show ((t : Int) / 2 ^ i) = ((t / 2 ^ i : Nat) : Int) by simp]
  rw [show bits BinOp.and IntKind.u64 ((t / 2 ^ i : Nat) : Int) 1 = ((t / 2 ^ i &&& 1 : Nat) : Int) from bits_and_u64_nat _ 1 (by omega) (by decide), Nat.and_one_is_mod, Nat.testBit_eq_decide_div_mod_eq]
  have h2 : t / 2 ^ i % 2 = 0 ∨ t / 2 ^ i % 2 = 1 := by omega
  rcases h2 with h | h <;> rw [h] <;> rfl
set_option maxRecDepth 20000 in
set_option maxHeartbeats 8000000 in
theorem walk (b : Int) (t : Nat) (p : Int) (ht : t < 18446744073709551616) (w : World) (hT : Tb w) :
    Calls Tryd.prog 5 #[.agg (PC b t), .int .i64 p] w fun e w' => e = .returned (.bool true) ∧ Below w.heap.size w w' := by
  have F0 := Blk.new w (PC b t) 24
  have b0 := (Below.refl w.heap.size w).alloc (Nat.le_refl _) (.cells (PC b t) 24)
  have c0 := F0.cell
  have t0 := hT.below b0
  have CL := plt.let_any b t p ht _ t0
  by_cases he : le b t p = 0
  · obtain ⟨z1, z2, z3⟩ := le_ones he
    have hlk := le_lk ht he
    have hbp : 64 ≤ b ∧ b ≤ 65472 ∧ b % 64 = 0 ∧ perr b = 0 ∧ 0 ≤ p ∧ p ≤ 65535 := by
      rcases le_cases b t p with ⟨e, _⟩ | ⟨e, _⟩ | ⟨e, _⟩ | ⟨_, h, h2, h3, _⟩
      · rw [e] at he; cases he
      · rw [e] at he; cases he
      · rw [e] at he; cases he
      · rcases perr_cases b with ⟨_, x, y, z⟩ | ⟨x, _⟩
        · exact ⟨x, y, z, h, h2, h3⟩
        · rw [x] at h; cases h
    obtain ⟨hb0, hb1, hb2, hpe, hp0, hp1⟩ := hbp
    rw [he, z1, z2, z3] at CL
    have hk := hlk.free.1
    have CE := fun u => pte.end_any b (st t (lkw b t p)) (b + (lkw b t p : Int)) (st_lt ht hk) u
    have hkk : (b + (lkw b t p : Int) - b).toNat = lkw b t p := by omega
    have e1 : ee b (st t (lkw b t p)) (b + (lkw b t p : Int)) = 0 := by
      unfold ee
      rw [if_neg (by rw [hpe]; decide), if_pos ⟨by omega, by omega, by rw [hkk, st_bit]; simp⟩]
    obtain ⟨e2, e3⟩ := ee_ones e1
    rw [hkk, cl_st ht hlk.free] at e3
    rw [e1, e2, e3] at CE
    have HK : Hid (sm t (p % 2).toNat 64 = true → (b + (lkw b t p : Int)) % 2 = p % 2) := out_kind hb2 hlk
    have HS : Hid (sf t (p - b) 64 = true → b + (lkw b t p : Int) = p) := out_self hlk
    have HM : Hid (∀ n, sm t (p % 2).toNat (n + 1) = (sm t (p % 2).toNat n || (!t.testBit n && decide (n % 2 = (p % 2).toNat)))) := sm_succ _ _
    have HF : Hid (∀ n, sf t (p - b) (n + 1) = (sf t (p - b) n || (!t.testBit n && decide ((n : Int) = p - b)))) := sf_succ _ _
    have HM0 : Hid (sm t (p % 2).toNat 0 = false) := (rfl : _ = _)
    have HF0 : Hid (sf t (p - b) 0 = false) := (rfl : _ = _)
    clear he z1 z2 z3 hlk e1 e2 e3 hkk hT
    generalize st t (lkw b t p) = ST at *
    generalize lkw b t p = k at *
    generalize hS1 : sm t (p % 2).toNat = S1 at *
    generalize hS2 : sf t (p - b) = S2 at *
    clear hS1 hS2
    go_enter Tryd.func5, Tryd.ntmps5
    go_wp2_with fail
    refine CL.mono ?_
    rintro e w1 ⟨rfl, z⟩
    have b1 := b0.trans (z.mono b0.size)
    have F1 := F0.below z F0.lt
    have t1 := t0.below (z.mono (Nat.le_refl _))
    clear c0 F0 b0 z CL t0
    have dA := (Below.refl w1.heap.size w1).alloc (Nat.le_refl _) (.cells Z2 24)
    go_upto_region 2 with (refine blk_store _ rfl 24 _ _ rfl w1.heap.size _ rfl rfl _ _ (Blk.new w1 Z2 24) 2 pt_info rfl rfl (pt_one _ _) ?_; intro W2 X2 p2)
    have d2 := p2.below dA (Nat.le_refl _)
    have b2 := b1.trans (d2.mono b1.size)
    have F2 := F1.below d2 F1.lt
    have t2 := t1.below d2
    clear dA p2 d2 b1 F1 t1
    generalize w1.heap.size = X at *
    go_wp2_with fail
    refine (plv.lives _ t2).mono ?_
    rintro e w3 ⟨rfl, z⟩
    have b3 := b2.trans (z.mono b2.size)
    have F3 := F2.below z F2.lt
    have X3 := X2.below z X2.lt
    have c3 := F3.cell
    clear F2 X2 b2 z t2
    go_wp2_with fail
    go_loopw [8, 9, 32] (fun s8 s9 s32 wr => ∃ i : Nat, s32 = .int .i64 (i : Int) ∧ i ≤ 64 ∧ s8 = .bool (S1 i) ∧ s9 = .bool (S2 i) ∧ wr = w3) (fun _ _ s _ => 64 - (intOf s).toNat)
    case atStart => exact ⟨0, rfl, by omega, by rw [HM0.out], by rw [HF0.out], rfl⟩
    case round =>
      obtain ⟨i, rfl, hi, rfl, rfl, hwr⟩ := hrel
      subst hwr
      by_cases hlt : i < 64
      · have hlt' : (i : Int) < 64 := by omega
        have hi0 : (0 : Int) ≤ (i : Int) := by omega
        have HB : Hid _ := bit_is ht i
        have HM1 := HM.out i
        have HF1 := HF.out i
        have hwi : IntKind.i64.wrap (b + (i : Int)) = b + (i : Int) := by rw [IntKind.wrap_i64]; omega
        have hbi : 0 ≤ b + (i : Int) := by omega
        have HPar : Hid (((b + (i : Int)) % 2 == p % 2) = decide (i % 2 = (p % 2).toNat)) := by
          show _ = _
          rw [Bool.eq_iff_iff, beq_iff_eq, decide_eq_true_eq]; omega
        have HSel : Hid ((b + (i : Int) == p) = decide ((i : Int) = p - b)) := by
          show _ = _
          rw [Bool.eq_iff_iff, beq_iff_eq, decide_eq_true_eq]; omega
        have hpn : 0 ≤ p := hp0
        generalize decide (i % 2 = (p % 2).toNat) = PA at *
        generalize decide ((i : Int) = p - b) = SE at *
        go_upto_region 9 with fail
        rw [HB.out]
        generalize t.testBit i = TB at *
        have HM2 : Hid (S1 (i + 1) = (S1 i || (!TB && PA))) := HM1
        have HF2 : Hid (S2 (i + 1) = (S2 i || (!TB && SE))) := HF1
        clear HM HF HM0 HF0 HK HS HM1 HF1 HB CE
        obtain ⟨s1, hs1⟩ : ∃ s, S1 i = s := ⟨_, rfl⟩
        obtain ⟨s2, hs2⟩ : ∃ s, S2 i = s := ⟨_, rfl⟩
        rw [hs1] at HM2 ⊢
        rw [hs2] at HF2 ⊢
        clear hs1 hs2
        go_cut [8] (fun s8 wx => s8 = .bool (S1 (i + 1)) ∧ wx = wr)
        case first =>
          clear HF2 HSel
          cases s1
          · cases TB
            · have hpar := HPar.out
              clear HPar
              cases PA
              · go_wp2_with fail
                go_meet
                case rel => exact ⟨by rw [HM2.out]; rfl, rfl⟩
              · go_wp2_with fail
                go_meet
                case rel => exact ⟨by rw [HM2.out]; rfl, rfl⟩
            · clear HPar
              go_wp2_with fail
              go_meet
              case rel => exact ⟨by rw [HM2.out]; rfl, rfl⟩
          · clear HPar
            go_wp2_with fail
            go_meet
            case rel => exact ⟨by rw [HM2.out]; rfl, rfl⟩
        case rest =>
          obtain ⟨rfl, hwc⟩ := hcut
          subst hwc
          obtain ⟨n1, hn1⟩ : ∃ s, S1 (i + 1) = s := ⟨_, rfl⟩
          have HN1 : Hid (S1 (i + 1) = n1) := hn1
          rw [hn1]
          clear hn1 HM2 HPar
          cases s2
          · cases TB
            · have hsel := HSel.out
              clear HSel
              cases SE
              · skip
                go_wp2_with fail
                go_roundw
                case rel => exact ⟨i + 1, by go_num, by omega, by rw [HN1.out], by rw [HF2.out]; rfl, by trivial⟩
                case measure => simp [intOf]; omega
              · skip
                go_wp2_with fail
                go_roundw
                case rel => exact ⟨i + 1, by go_num, by omega, by rw [HN1.out], by rw [HF2.out]; rfl, by trivial⟩
                case measure => simp [intOf]; omega
            · clear HSel
              go_wp2_with fail
              go_roundw
              case rel => exact ⟨i + 1, by go_num, by omega, by rw [HN1.out], by rw [HF2.out]; rfl, by trivial⟩
              case measure => simp [intOf]; omega
          · clear HSel
            go_wp2_with fail
            go_roundw
            case rel => exact ⟨i + 1, by go_num, by omega, by rw [HN1.out], by rw [HF2.out]; rfl, by trivial⟩
            case measure => simp [intOf]; omega
      · have hlt' : ¬ (i : Int) < 64 := by omega
        have e : i = 64 := by omega
        obtain ⟨W, hW⟩ : ∃ W, W = wr := ⟨_, rfl⟩
        subst hW
        clear HM HF HM0 HF0
        obtain ⟨s1, hs1⟩ : ∃ s, S1 i = s := ⟨_, rfl⟩
        obtain ⟨s2, hs2⟩ : ∃ s, S2 i = s := ⟨_, rfl⟩
        rw [hs1, hs2]
        rw [e] at hs1 hs2
        rw [hs1] at HK
        rw [hs2] at HS
        clear hs1 hs2 e
        have cX := X3.cell
        go_wp2_with fail
        refine (CE _).mono ?_
        rintro e w4 ⟨rfl, z⟩
        have b4 := b3.trans (z.mono b3.size)
        have F4 := F3.below z F3.lt
        clear c3 cX X3 F3 b3 z CE
        have dA := (Below.refl w4.heap.size w4).alloc (Nat.le_refl _) (.cells Z2 24)
        go_upto_region 13 with (refine blk_store _ rfl 24 _ _ rfl w4.heap.size _ rfl rfl _ _ (Blk.new w4 Z2 24) 2 pt_info rfl rfl (pt_one _ _) ?_; intro W5 Y5 p5)
        have d5 := p5.below dA (Nat.le_refl _)
        have b5 := b4.trans (d5.mono b4.size)
        have c5 := (F4.below d5 F4.lt).cell
        have cY := Y5.cell
        have hbk : 0 ≤ b + (k : Int) := by omega
        clear dA p5 d5 b4 F4
        generalize w4.heap.size = Y at *
        cases s1
        · clear HK
          cases s2
          · clear HS
            go_wp2_with fail
            go_ret
            exact ⟨rfl, b5⟩
          · have hs := HS.out rfl
            have hsb : (b + (k : Int) == p) = true := by simpa using hs
            clear HS hs
            go_wp2_with fail
            go_ret
            exact ⟨rfl, b5⟩
        · have hk2 := HK.out rfl
          have hkb : ((b + (k : Int)) % 2 == p % 2) = true := by simpa using hk2
          clear HK hk2
          cases s2
          · clear HS
            go_wp2_with fail
            go_ret
            exact ⟨rfl, b5⟩
          · have hs := HS.out rfl
            have hsb : (b + (k : Int) == p) = true := by simpa using hs
            clear HS hs
            go_wp2_with fail
            go_ret
            exact ⟨rfl, b5⟩
  · obtain ⟨z1, z2, z3⟩ := le_zeros he
    have hne : (le b t p != 0) = true := by simpa using he
    rw [z1, z2, z3] at CL
    clear he z1 z2 z3 hT
    generalize le b t p = LE at *
    go_enter Tryd.func5, Tryd.ntmps5
    go_wp2_with fail
    refine CL.mono ?_
    rintro e w1 ⟨rfl, z⟩
    have b1 := b0.trans (z.mono b0.size)
    have t1 := t0.below (z.mono (Nat.le_refl _))
    clear c0 F0 b0 z CL t0
    have dA := (Below.refl w1.heap.size w1).alloc (Nat.le_refl _) (.cells Z2 24)
    go_upto_region 2 with (refine blk_store _ rfl 24 _ _ rfl w1.heap.size _ rfl rfl _ _ (Blk.new w1 Z2 24) 2 pt_info rfl rfl (pt_one _ _) ?_; intro W2 X2 p2)
    have d2 := p2.below dA (Nat.le_refl _)
    have b2 := b1.trans (d2.mono b1.size)
    have t2 := t1.below d2
    clear dA p2 d2 b1 t1 X2
    generalize w1.heap.size = X at *
    go_wp2_with fail
    refine (plv.lives _ t2).mono ?_
    rintro e w3 ⟨rfl, z⟩
    have b3 := b2.trans (z.mono b2.size)
    have t3 := t2.below z
    clear b2 z t2
    go_wp2_with fail
    refine (plv.lives _ t3).mono ?_
    rintro e w4 ⟨rfl, z⟩
    have b4 := b3.trans (z.mono b3.size)
    clear b3 z t3
    go_wp2_with fail
    go_ret
    exact ⟨rfl, b4⟩
end Go.Proofs.YtajhdpkiafaebaaDoor.pki
