/- What package ports' Let, End and Free answer. -/
import Derived.Test.YtajhdpkiafaebaaDoorPtAns
import Derived.Test.YtajhdpkiafaebaaDoorPtIn1
import Derived.Test.YtajhdpkiafaebaaDoorPtTz
import Derived.Test.YtajhdpkiafaebaaDoorPtOnes
namespace Go.Proofs.YtajhdpkiafaebaaDoor.plt
open Go.ChangeShapes Go.WideShapes Go.ChangeAt Go.RowKit Go.BigFrame
open Go.Proofs.YtajhdpkiafaebaaDoor Go.Proofs.YtajhdpkiafaebaaDoor.pm Go.Proofs.YtajhdpkiafaebaaDoor.pp Go.Proofs.YtajhdpkiafaebaaDoor.pt Go.Proofs.YtajhdpkiafaebaaDoor.pt1 Go.Proofs.YtajhdpkiafaebaaDoor.pa Go.Proofs.YtajhdpkiafaebaaDoor.boxes

theorem ones_bit (j : Nat) : (18446744073709551615 : Nat).testBit j = decide (j < 64) := by
  rw [show 18446744073709551615 = fr 0 from rfl, fr_bit (by decide), Nat.zero_testBit]
  simp
theorem not_fr {t : Nat} (ht : t < 18446744073709551616) : bits BinOp.xor IntKind.u64 (if IntKind.u64.signed = true then -1 else IntKind.u64.max) (t : Int) = (fr t : Int) := by
  have h1 : 18446744073709551615 ^^^ t < 18446744073709551616 := Nat.xor_lt_two_pow (n := 64) (by decide) ht
  have h2 : 18446744073709551615 ^^^ t = fr t := ext64 h1 (fr_lt t) fun j hj => by
    rw [Nat.testBit_xor, ones_bit, fr_bit ht]
    simp [hj]
  rw [← h2]
  exact u64_xor_nat 18446744073709551615 t (by decide) ht
theorem or3_best (t : Nat) (v : Int) (q : Nat) : or3 (fr t &&& bo v) (fr t &&& bl q) (fr t) = best t v q := rfl
theorem free_any (b : Int) (t : Nat) (ht : t < 18446744073709551616) (w : World) : Calls Tryd.prog 10 #[.agg (PC b t)] w fun e w' => e = .returned (.tuple #[.int .i64 (fn b t), .int .i64 (perr b)]) ∧ Below w.heap.size w w' := by
  have F0 := Blk.new w (PC b t) 24
  have b0 := (Below.refl w.heap.size w).alloc (Nat.le_refl _) (.cells (PC b t) 24)
  have c0 := F0.cell
  have CC := fun u => check_any b t u
  have CO := fun u => pto.ones_any t ht u
  rcases perr_cases b with ⟨h, _⟩ | ⟨h, _⟩
  · have e : fn b t = (nf t : Int) := by unfold fn; rw [if_pos h]
    have hn := nf_le t
    have hs : IntKind.i64.wrap (64 - ((64 - nf t : Nat) : Int)) = (nf t : Int) := by rw [IntKind.wrap_i64]; omega
    rw [e]
    rw [h] at CC ⊢
    clear e h hn
    generalize nf t = N at *
    generalize 64 - N = K at *
    go_enter Tryd.func10, Tryd.ntmps10
    go_wp2_with fail
    refine (CC _).mono ?_
    rintro e w1 ⟨rfl, z⟩
    have b1 := b0.trans (z.mono b0.size)
    have c1 := (F0.below z F0.lt).cell
    clear c0 F0 z
    go_wp2_with fail
    refine (CO _).mono ?_
    rintro e w2 ⟨rfl, rfl⟩
    go_wp2_with fail
    go_ret2
    exact ⟨rfl, b1⟩
  · have e : fn b t = 0 := by unfold fn; rw [if_neg (by rw [h]; decide)]
    rw [e]
    rw [h] at CC ⊢
    clear e h
    go_enter Tryd.func10, Tryd.ntmps10
    go_wp2_with fail
    refine (CC _).mono ?_
    rintro e w1 ⟨rfl, z⟩
    have b1 := b0.trans (z.mono b0.size)
    clear c0 F0 z
    go_wp2_with fail
    go_ret2
    exact ⟨rfl, b1⟩
set_option maxHeartbeats 2000000 in
theorem let_any (b : Int) (t : Nat) (p : Int) (ht : t < 18446744073709551616) (w : World) (hT : Tb w) :
    Calls Tryd.prog 6 #[.agg (PC b t), .int .i64 p] w fun e w' => e = .returned (.tuple #[.agg (PC (lb b t p) (lt b t p)), .int .i64 (lp b t p), .int .i64 (le b t p)]) ∧ Below w.heap.size w w' := by
  have F0 := (Blk.new w (PC b t) 24).alloc (.cells Z2 24)
  have G0 := Blk.newAt (w.alloc (.cells (PC b t) 24)) Z2 24 (b := w.heap.size + 1) (by simp)
  have b0 := (((Below.refl w.heap.size w).alloc (Nat.le_refl _) (.cells (PC b t) 24))).alloc (by simp) (.cells Z2 24)
  have c0 := F0.cell
  have CC := fun u => check_any b t u
  have t0 := hT.below b0
  rcases le_cases b t p with ⟨e1, h⟩ | ⟨e1, h, h2⟩ | ⟨e1, h, h2, h3, rfl⟩ | ⟨e1, h, h2, h3, hn⟩
  · obtain ⟨z1, z2, z3⟩ := le_zeros (b := b) (t := t) (w := p) (by rw [e1]; decide)
    rw [e1, z1, z2, z3]
    rw [h] at CC
    clear e1 h z1 z2 z3 hT t0
    go_enter Tryd.func6, Tryd.ntmps6
    go_wp2_with fail
    refine (CC _).mono ?_
    rintro e w1 ⟨rfl, z⟩
    have b1 := b0.trans (z.mono b0.size)
    have G1 := G0.below z G0.lt
    clear c0 F0 G0 b0 CC z
    go_wp2_with (refine blk_store _ rfl 24 _ _ rfl (w.heap.size + 1) Z2 rfl rfl _ _ G1 2 pt_info rfl rfl (pt_one _ _) ?_; intro W3 K3 p3)
    have d1 := p3.below b1 (by omega)
    exact blk_ret3 rfl rfl (w.heap.size + 1) Z2 24 rfl K3 _ Tryd.underlying24 rfl 2 pt_info rfl ⟨rfl, d1⟩
  · obtain ⟨z1, z2, z3⟩ := le_zeros (b := b) (t := t) (w := p) (by rw [e1]; decide)
    rw [e1, z1, z2, z3]
    rw [h] at CC
    clear e1 h z1 z2 z3 hT t0
    go_enter Tryd.func6, Tryd.ntmps6
    go_wp2_with fail
    refine (CC _).mono ?_
    rintro e w1 ⟨rfl, z⟩
    have b1 := b0.trans (z.mono b0.size)
    have G1 := G0.below z G0.lt
    clear c0 F0 G0 b0 CC z
    by_cases h4 : p < 0
    · clear h2
      go_wp2_with (refine blk_store _ rfl 24 _ _ rfl (w.heap.size + 1) Z2 rfl rfl _ _ G1 2 pt_info rfl rfl (pt_one _ _) ?_; intro W3 K3 p3)
      have d1 := p3.below b1 (by omega)
      exact blk_ret3 rfl rfl (w.heap.size + 1) Z2 24 rfl K3 _ Tryd.underlying24 rfl 2 pt_info rfl ⟨rfl, d1⟩
    · have h5 : 65535 < p := by omega
      clear h2
      go_wp2_with (refine blk_store _ rfl 24 _ _ rfl (w.heap.size + 1) Z2 rfl rfl _ _ G1 2 pt_info rfl rfl (pt_one _ _) ?_; intro W3 K3 p3)
      have d1 := p3.below b1 (by omega)
      exact blk_ret3 rfl rfl (w.heap.size + 1) Z2 24 rfl K3 _ Tryd.underlying24 rfl 2 pt_info rfl ⟨rfl, d1⟩
  · obtain ⟨z1, z2, z3⟩ := le_zeros (b := b) (t := 18446744073709551615) (w := p) (by rw [e1]; decide)
    rw [e1, z1, z2, z3]
    rw [h] at CC
    clear e1 h z1 z2 z3 hT t0
    go_enter Tryd.func6, Tryd.ntmps6
    go_wp2_with fail
    refine (CC _).mono ?_
    rintro e w1 ⟨rfl, z⟩
    have b1 := b0.trans (z.mono b0.size)
    have G1 := G0.below z G0.lt
    have c1 := (F0.below z F0.lt).cell
    clear c0 F0 G0 b0 CC z
    go_wp2_with (refine blk_store _ rfl 24 _ _ rfl (w.heap.size + 1) Z2 rfl rfl _ _ G1 2 pt_info rfl rfl (pt_one _ _) ?_; intro W3 K3 p3)
    have d1 := p3.below b1 (by omega)
    exact blk_ret3 rfl rfl (w.heap.size + 1) Z2 24 rfl K3 _ Tryd.underlying24 rfl 2 pt_info rfl ⟨rfl, d1⟩
  · obtain ⟨z1, z2, z3⟩ := le_ones e1
    rw [e1, z1, z2, z3]
    have hb := (perr_cases b).resolve_right (by rw [h]; rintro ⟨h, _⟩; cases h)
    obtain ⟨_, hb0, hb1, _⟩ := hb
    rw [h] at CC
    have hlk := le_lk ht e1
    have HX : Hid (bits BinOp.xor IntKind.u64 (if IntKind.u64.signed = true then -1 else IntKind.u64.max) (t : Int) = (fr t : Int)) := not_fr ht
    have hq : (p % 2).toNat < 2 := by omega
    have hbn := best_ne ht hn (p - b) (p % 2).toNat
    have hbl := best_lt t (p - b) (p % 2).toNat
    have ekw : Lib.ctz 64 (best t (p - b) (p % 2).toNat) = lkw b t p := rfl
    have hf1 : fr t ≠ 0 := by rw [ne_eq, fr_zero ht]; exact hn
    have hf0 : ((fr t : Int) == 0) = false := by simpa using hf1
    have A1 : bits .and .u64 (fr t : Int) (bo (p - b) : Int) = ((fr t &&& bo (p - b) : Nat) : Int) := bits_and_u64_nat _ _ (fr_lt t) (bo_lt _)
    have A2 : bits .and .u64 (fr t : Int) (bl (p % 2).toNat : Int) = ((fr t &&& bl (p % 2).toNat : Nat) : Int) := bits_and_u64_nat _ _ (fr_lt t) (bl_lt _)
    have eo := or3_best t (p - b) (p % 2).toNat
    have CO := fun u F => or_any (w.heap.size + 1) (fr t &&& bo (p - b)) (fr t &&& bl (p % 2).toNat) (fr t) 22 u F
    have hk := hlk.free.1
    have A3 : bits .or .u64 (t : Int) ((2 ^ lkw b t p : Nat) : Int) = (st t (lkw b t p) : Int) := bits_or_u64_nat _ _ ht (pow_lt hk)
    have CB := fun u => bitOf_any b p hb0 hb1 u
    have CL := fun u => bitsLike_any p u
    have CT := fun u hu => ptz.tz_any (best t (p - b) (p % 2).toNat) hbn hbl u hu
    have CB2 := fun u => bitOf_any b (b + (lkw b t p : Int)) hb0 hb1 u
    have ebo : bo (b + (lkw b t p : Int) - b) = 2 ^ lkw b t p := by rw [show b + (lkw b t p : Int) - b = ((lkw b t p : Nat) : Int) by omega]; exact bo_nat hk
    rw [ebo] at CB2
    rw [ekw] at CT
    have hw : IntKind.i64.wrap (b + (lkw b t p : Int)) = b + (lkw b t p : Int) := by rw [IntKind.wrap_i64]; omega
    have COR := fun (g : Nat) u F => or_any g (fr t &&& bo (p - b)) (fr t &&& bl (p % 2).toNat) (fr t) 22 u F
    rw [eo] at COR
    clear e1 h z1 z2 z3 hlk hq hbn hbl ekw hf1 eo CO ebo hn
    generalize best t (p - b) (p % 2).toNat = BE at *
    generalize fr t &&& bo (p - b) = N1 at *
    generalize fr t &&& bl (p % 2).toNat = N2 at *
    generalize bo (p - b) = B1 at *
    generalize bl (p % 2).toNat = L1 at *
    generalize fr t = FR at *
    generalize st t (lkw b t p) = ST at *
    generalize 2 ^ lkw b t p = PW at *
    generalize lkw b t p = k at *
    clear ht
    go_enter Tryd.func6, Tryd.ntmps6
    go_wp2_with fail
    refine (CC _).mono ?_
    rintro e w1 ⟨rfl, z⟩
    have b1 := b0.trans (z.mono b0.size)
    have G1 := G0.below z G0.lt
    have F1 := F0.below z F0.lt
    have t1 := t0.below (z.mono (Nat.le_refl _))
    have c1 := F1.cell
    clear c0 F0 G0 b0 CC z hT t0
    go_upto_region 7 with fail
    rw [HX.out]
    go_wp2_with fail
    refine (CB _).mono ?_
    rintro e w2 ⟨rfl, rfl⟩
    go_wp2_with fail
    refine (CL _).mono ?_
    rintro e w2 ⟨rfl, rfl⟩
    have S2 := Blk.new w2 #[.int .u64 (N1 : Int), .int .u64 (N2 : Int), .int .u64 (FR : Int)] 22
    have F2 := F1.alloc (.cells #[.int .u64 (N1 : Int), .int .u64 (N2 : Int), .int .u64 (FR : Int)] 22)
    have G2 := G1.alloc (.cells #[.int .u64 (N1 : Int), .int .u64 (N2 : Int), .int .u64 (FR : Int)] 22)
    have a2 := (Below.refl w2.heap.size w2).alloc (Nat.le_refl _) (.cells #[.int .u64 (N1 : Int), .int .u64 (N2 : Int), .int .u64 (FR : Int)] 22)
    have t2 := t1.below a2
    have b2 := b1.trans (a2.mono b1.size)
    have CO2 := COR _ _ S2
    clear F1 G1 b1 c1 t1 HX COR a2
    go_wp2_with fail
    refine CO2.mono ?_
    rintro e w3 ⟨rfl, rfl⟩
    generalize hW : w2.alloc (.cells #[.int .u64 (N1 : Int), .int .u64 (N2 : Int), .int .u64 (FR : Int)] 22) = V at *
    clear CO2 S2 CB CL A1 A2 hW
    go_upto_region 10 with fail
    have nn := ab.ne V
    have cF := ab.cells F2
    refine ab.region (by kernel_rfl) (by kernel_rfl) ?_
    repeat (go_big_quiet_step ((go_at_call 18; exact ab.call_same (CT _ (t2.below (cls.In.h _))))))
    refine wpQuiet_nil ?_
    intro _ hx
    obtain ⟨y, rfl⟩ := hx
    have F3 := F2.below y.h F2.lt
    have G3 := G2.below y.h G2.lt
    have b3 := b2.trans (Below.mono y.h b2.size)
    clear cF nn F2 G2 b2 t2 CT
    generalize y.W = V3 at *
    go_upto_region 11 with fail
    have c3 := F3.cell
    have cG := G3.cell
    have fG := G3.free
    have hlt := G3.lt
    have K5 : Blk ((V3.setCell ⟨w.heap.size + 1, 0, none⟩ (.int .i64 b)).setCell ⟨w.heap.size + 1, 1, none⟩ (.int .u64 (ST : Int))).drew (w.heap.size + 1) (PC b ST) 24 := ((G3.setCell 0 (.int .i64 b)).setCell 1 (.int .u64 (ST : Int))).drew
    have d5 : Below w.heap.size w ((V3.setCell ⟨w.heap.size + 1, 0, none⟩ (.int .i64 b)).setCell ⟨w.heap.size + 1, 1, none⟩ (.int .u64 (ST : Int))).drew := ((but_setCell _ _ _ _).below ((but_setCell _ _ _ _).below b3 (by omega)) (by omega)).trans ((ab.Ab.drew _).mono (by simp [World.setCell]; omega))
    go_region_with (go_at_call 16; refine (CB2 _).mono ?_; rintro e w5 ⟨rfl, rfl⟩)
    all_goals go_wp2_with fail
    all_goals exact blk_ret3 rfl rfl (w.heap.size + 1) (PC b ST) 24 rfl K5 _ Tryd.underlying24 rfl 2 pt_info rfl ⟨by simp [Act.put], d5⟩
end Go.Proofs.YtajhdpkiafaebaaDoor.plt
