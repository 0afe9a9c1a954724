/- The reference's own: custref.Span, box, Meets, RuleRight, RulesRight, FlowRight. -/
import Derived.Test.YtfcnabpbpbhacaaRuBox
import Derived.Test.YtfcnabpbpbhacaaRuCheck
import Derived.Test.YtfcnabpbpbhacaaNetR
namespace Go.Proofs.Ytfcnabpbpbhacaa.ru
open Go.ChangeShapes Go.WideShapes Go.ChangeAt Go.RowKit Go.BigFrame
open Go.Proofs.Ytfcnabpbpbhacaa Go.Proofs.Ytfcnabpbpbhacaa.pm Go.Proofs.Ytfcnabpbpbhacaa.pf Go.Proofs.Ytfcnabpbpbhacaa.boxes Go.Proofs.Ytfcnabpbpbhacaa.rwr
open Go.Proofs.Ytfcnabpbpbhacaa.rws (Knd Own)

set_option maxRecDepth 20000 in
theorem span_any (a n : Nat) (w : World) (hn : n ≤ 32) (ha : a < 4294967296) : Calls Try.prog 40 #[.agg (NC a n)] w fun e w' => e = .returned (.tuple #[.int .i64 (a : Int), .int .i64 ((a : Int) + 2 ^ (32 - n) - 1)]) ∧ Below w.heap.size w w' := by
  have G0 := Blk.new w (NC a n) 32
  have b0 := (Below.refl w.heap.size w).alloc (Nat.le_refl _) (.cells (NC a n) 32)
  have HP : Hid (∀ i, i ≤ 32 → 0 < (2 : Int) ^ i ∧ (2 : Int) ^ i ≤ 4294967296 ∧ (2 : Int) ^ (i + 1) = 2 ^ i * 2) := fun i hi => by
    rw [pow_nat, pow_nat]
    have h : (2 : Nat) ^ i ≤ 2 ^ 32 := Nat.pow_le_pow_right (by decide) hi
    have h0 := Nat.two_pow_pos i
    have e : (2 : Nat) ^ (i + 1) = 2 ^ i * 2 := Nat.pow_succ 2 i
    rw [e]
    generalize 2 ^ i = X at *
    omega
  obtain ⟨g, hg⟩ : ∃ g : Nat → Int, g = fun i => (2 : Int) ^ i := ⟨_, rfl⟩
  have H0 : Hid (g 0 = 1) := by rw [hg]; exact (rfl : (2 : Int) ^ 0 = 1)
  have hgi : ∀ i, (2 : Int) ^ i = g i := fun i => by rw [hg]
  rw [hgi]
  simp only [hgi] at HP
  clear hg hgi
  have HE := HP.out (32 - n) (by omega)
  have hk : (32 : Int) - (n : Int) = ((32 - n : Nat) : Int) := by omega
  obtain ⟨k, hk2⟩ : ∃ k, k = 32 - n := ⟨_, rfl⟩
  rw [← hk2] at hk HE ⊢
  have hk32 : k ≤ 32 := by omega
  have hw1 : wrap64 ((a : Int) + g k) = (a : Int) + g k := by unfold wrap64; omega
  have hw2 : wrap64 ((a : Int) + g k - 1) = (a : Int) + g k - 1 := by unfold wrap64; omega
  have hw3 : wrap64 (a : Int) = (a : Int) := by unfold wrap64; omega
  clear hk2
  generalize hV : w.alloc (.cells (NC a n) 32) = V at *
  have HV : Hid (w.alloc (.cells (NC a n) 32) = V) := hV
  clear hV
  go_enter Try.func40, Try.ntmps40
  go_upto_region 1 with fail
  rw [HV.out]
  have c0 := G0.cell
  go_wp2_with fail
  go_loopw [4, 8] (fun s4 s8 wr => ∃ i : Nat, s4 = .int .i64 (g i) ∧ s8 = .int .i64 (i : Int) ∧ i ≤ k ∧ wr = V) (fun _ s _ => k - (intOf s).toNat)
  case atStart => exact ⟨0, by rw [H0.out], rfl, Nat.zero_le _, rfl⟩
  case round =>
    obtain ⟨i, rfl, rfl, hi, rfl⟩ := hrel
    by_cases hlt : i < k
    · have hlt' : (i : Int) < (k : Int) := by omega
      obtain ⟨p1, p2, p3⟩ := HP.out i (by omega)
      have HG : Hid (g (i + 1) = g i * 2) := p3
      clear p3 HP H0
      go_wp2_with fail
      go_roundw
      case rel => exact ⟨i + 1, by rw [HG.out], by go_num, by omega, by trivial⟩
      case measure => simp [intOf]; omega
    · obtain rfl : i = k := by omega
      clear HP H0
      go_wp2_with fail
      go_quiet (fail)
      go_wp2_with fail
      go_ret2
      exact ⟨rfl, b0.trans ⟨rfl, rfl, rfl, Nat.le_refl _, fun _ _ => rfl⟩⟩
/-- a rule's bounds, as they lie -/
abbrev BX (l h : Nat → Int) : Array Value := #[.int .i64 (l 0), .int .i64 (h 0), .int .i64 (l 1), .int .i64 (h 1), .int .i64 (l 2), .int .i64 (h 2), .int .i64 (l 3), .int .i64 (h 3), .int .i64 (l 4), .int .i64 (h 4)]
abbrev PX (x y : Int) : Array Value := #[.int .i64 x, .int .i64 y]
theorem px_info : (Try.prog.info? 51).map (·.size) = some 2 := by kernel_rfl
theorem bx_info : (Try.prog.info? 52).map (·.size) = some 10 := by kernel_rfl
theorem px_one (x y : Int) : (PX x y).all (·.oneCell') = true := by simp [Value.oneCell']
theorem bx_one (l h : Nat → Int) : (BX l h).all (·.oneCell') = true := by simp [Value.oneCell']
abbrev ZB : Array Value := #[.int .i64 0, .int .i64 0, .int .i64 0, .int .i64 0, .int .i64 0, .int .i64 0, .int .i64 0, .int .i64 0, .int .i64 0, .int .i64 0]
set_option maxRecDepth 20000 in
set_option maxHeartbeats 4000000 in
theorem box_any (r : Ru) (w : World) (hr : okR r = true) (hf : fits r) : Calls Try.prog 28 #[.agg (Ru.cells r)] w fun e w' => e = .returned (.agg (BX (lo r) (hi r))) ∧ Below w.heap.size w w' := by
  obtain ⟨h1, h2, _⟩ := okR_iff.1 hr
  have CS : ∀ (a : Nat) (l : Int), isN a l = true → a < 4294967296 → ∀ W, Calls Try.prog 40 #[.agg (NC a l)] W fun e w' => e = .returned (.tuple #[.int .i64 (a : Int), .int .i64 ((a : Int) + 2 ^ (32 - l.toNat) - 1)]) ∧ Below W.heap.size W w' := fun a l h ha W => by
    simp only [isN, Bool.and_eq_true, decide_eq_true_eq] at h
    obtain ⟨⟨h0, h1⟩, _⟩ := h
    obtain ⟨n, rfl⟩ : ∃ n : Nat, l = (n : Int) := ⟨l.toNat, by omega⟩
    rw [Int.toNat_natCast]
    exact span_any a n W (by omega) ha
  have C1 : ∀ W, Calls Try.prog 40 #[.agg (NC r.fa r.fl)] W fun e w' => e = .returned (.tuple #[.int .i64 (lo r 0), .int .i64 (hi r 0)]) ∧ Below W.heap.size W w' := CS _ _ h1 hf.1
  have C2 : ∀ W, Calls Try.prog 40 #[.agg (NC r.ta r.tl)] W fun e w' => e = .returned (.tuple #[.int .i64 (lo r 1), .int .i64 (hi r 1)]) ∧ Below W.heap.size W w' := CS _ _ h2 hf.2
  have HI : Hid (hi r 2 = if r.pr = 0 then 255 else r.pr) := rfl
  have HL : Hid (lo r 2 = r.pr) := rfl
  have HT : Hid (lo r 3 = r.a ∧ hi r 3 = r.b ∧ lo r 4 = r.c ∧ hi r 4 = r.d) := ⟨rfl, rfl, rfl, rfl⟩
  generalize lo r = l at *
  generalize hi r = h at *
  obtain ⟨fa, fl, ta, tl, pr, a, b, c, d, ps⟩ := r
  dsimp only [Ru.cells] at *
  clear hr h1 h2 CS hf
  have G0 := (Blk.new w (XC fa fl ta tl pr a b c d ps) 34).alloc (.cells ZB 52)
  have Z0 := Blk.newAt (w.alloc (.cells (XC fa fl ta tl pr a b c d ps) 34)) ZB 52 (b := w.heap.size + 1) (by simp)
  have b0 := ((Below.refl w.heap.size w).alloc (Nat.le_refl _) (.cells (XC fa fl ta tl pr a b c d ps) 34)).alloc (by simp) (.cells ZB 52)
  generalize hV : (w.alloc (.cells (XC fa fl ta tl pr a b c d ps) 34)).alloc (.cells ZB 52) = V at *
  have HV : Hid ((w.alloc (.cells (XC fa fl ta tl pr a b c d ps) 34)).alloc (.cells ZB 52) = V) := hV
  clear hV
  go_enter Try.func28, Try.ntmps28
  go_upto_region 1 with fail
  rw [HV.out]
  have c0 := G0.cell
  go_wp2_with fail
  refine (C1 _).mono ?_
  rintro e w1 ⟨rfl, z1⟩
  have G1 := G0.below z1 G0.lt
  have Z1 := Z0.below z1 Z0.lt
  have b1 := b0.trans (z1.mono b0.size)
  clear c0 G0 Z0 b0 C1 z1
  have c1 := G1.cell
  go_upto_region 2 with fail
  go_wp2_with fail
  refine (C2 _).mono ?_
  rintro e w2 ⟨rfl, z2⟩
  have G2 := G1.below z2 G1.lt
  have Z2 := Z1.below z2 Z1.lt
  have b2 := b1.trans (z2.mono b1.size)
  clear c1 G1 Z1 b1 C2 z2
  have c2 := G2.cell
  have N2 := Blk.new w2 (PX 0 0) 51
  have dA := (Below.refl w2.heap.size w2).alloc (Nat.le_refl _) (.cells (PX 0 0) 51)
  have lt1 := G2.lt
  have lt2 := Z2.lt
  go_upto_region 4 with (refine blk_store _ rfl 51 _ _ rfl w2.heap.size (PX pr pr) rfl rfl _ _ N2 2 px_info rfl rfl (px_one pr pr) ?_; intro w3 N3 p3)
  have d3 := p3.below dA (Nat.le_refl _)
  have G3 := G2.below d3 lt1
  have Z3 := Z2.below d3 lt2
  have b3 := b2.trans (d3.mono b2.size)
  clear c2 G2 Z2 b2 dA p3 N2 d3
  have c3 := G3.cell
  generalize w2.heap.size = x2 at *
  by_cases h0 : pr = 0
  · subst h0
    have HI2 : Hid (h 2 = 255) := by show _ = _; rw [HI.out]; rfl
    clear HI
    go_upto_region 6 with (refine blk_store _ rfl 51 _ _ rfl x2 (PX 0 255) rfl rfl _ _ N3 2 px_info rfl rfl (px_one 0 255) ?_; intro w4 N4 p4)
    have G4 := p4.blk G3 (by omega)
    have Z4 := p4.blk Z3 (by omega)
    have b4 := p4.below b3 (by omega)
    have c4 := G4.cell
    clear c3 G3 Z3 b3 N3
    go_wp2_with (first
      | (refine blk_load _ rfl 51 _ rfl x2 rfl _ _ N4 _ Try.underlying51 rfl 2 px_info rfl ?_)
      | (refine blk_store _ rfl 52 _ _ rfl (w.heap.size + 1) #[.int .i64 (l 0), .int .i64 (h 0), .int .i64 (l 1), .int .i64 (h 1), .int .i64 0, .int .i64 255, .int .i64 a, .int .i64 b, .int .i64 c, .int .i64 d] rfl rfl _ _ Z4 10 bx_info rfl rfl (by simp [Value.oneCell']) ?_; intro w5 Z5 p5))
    have b5 := p5.below b4 (by omega)
    refine blk_one rfl rfl (w.heap.size + 1) #[.int .i64 (l 0), .int .i64 (h 0), .int .i64 (l 1), .int .i64 (h 1), .int .i64 0, .int .i64 255, .int .i64 a, .int .i64 b, .int .i64 c, .int .i64 d] 52 rfl Z5 _ Try.underlying52 rfl 10 bx_info rfl ⟨?_, b5⟩
    obtain ⟨t1, t2, t3, t4⟩ := HT.out
    have t0 := HL.out
    have t5 := HI2.out
    show Ending.returned (.agg _) = .returned (.agg (BX l h))
    unfold BX
    rw [t0, t5, t1, t2, t3, t4]
  · have HI2 : Hid (h 2 = pr) := by show _ = _; rw [HI.out, if_neg h0]
    clear HI
    go_upto_region 6 with fail
    go_wp2_with (first
      | (refine blk_load _ rfl 51 _ rfl x2 rfl _ _ N3 _ Try.underlying51 rfl 2 px_info rfl ?_)
      | (refine blk_store _ rfl 52 _ _ rfl (w.heap.size + 1) #[.int .i64 (l 0), .int .i64 (h 0), .int .i64 (l 1), .int .i64 (h 1), .int .i64 pr, .int .i64 pr, .int .i64 a, .int .i64 b, .int .i64 c, .int .i64 d] rfl rfl _ _ Z3 10 bx_info rfl rfl (by simp [Value.oneCell']) ?_; intro w5 Z5 p5))
    have b5 := p5.below b3 (by omega)
    refine blk_one rfl rfl (w.heap.size + 1) #[.int .i64 (l 0), .int .i64 (h 0), .int .i64 (l 1), .int .i64 (h 1), .int .i64 pr, .int .i64 pr, .int .i64 a, .int .i64 b, .int .i64 c, .int .i64 d] 52 rfl Z5 _ Try.underlying52 rfl 10 bx_info rfl ⟨?_, b5⟩
    obtain ⟨t1, t2, t3, t4⟩ := HT.out
    have t0 := HL.out
    have t5 := HI2.out
    show Ending.returned (.agg _) = .returned (.agg (BX l h))
    unfold BX
    rw [t0, t5, t1, t2, t3, t4]
end Go.Proofs.Ytfcnabpbpbhacaa.ru
