/- The walk through custlaw.PortsSays. -/
import Derived.Test.YtajhdpkiafaebaaDoorPtLet
import Derived.Test.YtajhdpkiafaebaaDoorPtEnd
import Derived.Test.YtajhdpkiafaebaaDoorPtRefLet
import Derived.Test.YtajhdpkiafaebaaDoorPtRefEnd
namespace Go.Proofs.YtajhdpkiafaebaaDoor.psi
open Go.ChangeShapes Go.WideShapes Go.ChangeAt Go.RowKit Go.BigFrame
open Go.Proofs.YtajhdpkiafaebaaDoor Go.Proofs.YtajhdpkiafaebaaDoor.pm Go.Proofs.YtajhdpkiafaebaaDoor.pp Go.Proofs.YtajhdpkiafaebaaDoor.pl Go.Proofs.YtajhdpkiafaebaaDoor.pt Go.Proofs.YtajhdpkiafaebaaDoor.pt1 Go.Proofs.YtajhdpkiafaebaaDoor.pa Go.Proofs.YtajhdpkiafaebaaDoor.ptr Go.Proofs.YtajhdpkiafaebaaDoor.boxes Go.Proofs.YtajhdpkiafaebaaDoor.rwr
open Go.Proofs.YtajhdpkiafaebaaDoor.rws (Knd Own)

set_option maxRecDepth 20000 in
set_option maxHeartbeats 8000000 in
theorem walk (b : Int) (t : Nat) (p : Int) (ht : t < 18446744073709551616) (w : World) (hT : Tb w) :
    Calls Tryd.prog 3 #[.agg (PC b t), .int .i64 p] w fun e w' => e = .returned (.bool true) ∧ Below w.heap.size w w' := by
  have F0 := Blk.new w (PC b t) 24
  have b0 := (Below.refl w.heap.size w).alloc (Nat.le_refl _) (.cells (PC b t) 24)
  have c0 := F0.cell
  have CL := plt.let_any b t p ht _ (hT.below b0)
  have CR := fun u => prl.let_any b t p ht u
  have CE := fun u => pte.end_any b t p ht u
  have CQ := fun u => pre.end_any b t p ht u
  have CF := fun u => plt.free_any b t ht u
  have CP := fun u => right_any b t u
  have CK := fun u => check_any b t u
  have HV : Hid ((perr b = 0 ∧ fn b t = ((FL b t 64).length : Int) ∧ ∀ u, Calls Tryd.prog 12 #[.agg (PC b t)] u fun e w' => ∃ v, e = .returned v ∧ Own NK w' u.heap.size v (FL b t 64) ∧ Below u.heap.size u w') ∨ (perr b = 1 ∧ fn b t = 0)) := by
    rcases perr_cases b with ⟨h, h0, h1, _⟩ | ⟨h, _⟩
    · exact Or.inl ⟨h, by unfold fn; rw [if_pos h, FL_len], fun u => ptr.free_any b t ht h0 h1 u⟩
    · exact Or.inr ⟨h, by unfold fn; rw [if_neg (by rw [h]; decide)]⟩
  generalize FL b t 64 = L at *
  generalize fn b t = FN at *
  generalize perr b = PE at *
  generalize lb b t p = LB at *
  generalize lt b t p = LT at *
  generalize lp b t p = LP at *
  generalize le b t p = LE at *
  generalize eb b t p = EB at *
  generalize et b t p = ET at *
  generalize ee b t p = EE at *
  clear hT ht
  go_enter Tryd.func3, Tryd.ntmps3
  go_wp2_with fail
  refine CL.mono ?_
  rintro e w1 ⟨rfl, z⟩
  have b1 := b0.trans (z.mono b0.size)
  have F1 := F0.below z F0.lt
  clear c0 F0 b0 z CL
  have dA := (Below.refl w1.heap.size w1).alloc (Nat.le_refl _) (.cells Z2 24)
  go_upto_region 2 with (refine blk_store _ rfl 24 _ _ rfl w1.heap.size _ rfl rfl _ _ (Blk.new w1 Z2 24) 2 pt_info rfl rfl (pt_one _ _) ?_; intro W2 X2 p2)
  have d2 := p2.below dA (Nat.le_refl _)
  have b2 := b1.trans (d2.mono b1.size)
  have F2 := F1.below d2 F1.lt
  have c2 := F2.cell
  clear dA p2 d2 b1 F1
  generalize w1.heap.size = X at *
  go_wp2_with fail
  refine (CR _).mono ?_
  rintro e w3 ⟨rfl, z⟩
  have b3 := b2.trans (z.mono b2.size)
  have F3 := F2.below z F2.lt
  have X3 := X2.below z X2.lt
  clear c2 F2 X2 b2 z CR
  have dA := (Below.refl w3.heap.size w3).alloc (Nat.le_refl _) (.cells Z2 24)
  go_upto_region 3 with (refine blk_store _ rfl 24 _ _ rfl w3.heap.size _ rfl rfl _ _ (Blk.new w3 Z2 24) 2 pt_info rfl rfl (pt_one _ _) ?_; intro W4 Y4 p4)
  have d4 := p4.below dA (Nat.le_refl _)
  have b4 := b3.trans (d4.mono b3.size)
  have F4 := F3.below d4 F3.lt
  have X4 := X3.below d4 X3.lt
  have c4 := F4.cell
  clear dA p4 d4 b3 F3 X3
  generalize w3.heap.size = Y at *
  go_wp2_with fail
  refine (CE _).mono ?_
  rintro e w5 ⟨rfl, z⟩
  have b5 := b4.trans (z.mono b4.size)
  have F5 := F4.below z F4.lt
  have X5 := X4.below z X4.lt
  have Y5 := Y4.below z Y4.lt
  clear c4 F4 X4 Y4 b4 z CE
  have dA := (Below.refl w5.heap.size w5).alloc (Nat.le_refl _) (.cells Z2 24)
  go_upto_region 4 with (refine blk_store _ rfl 24 _ _ rfl w5.heap.size _ rfl rfl _ _ (Blk.new w5 Z2 24) 2 pt_info rfl rfl (pt_one _ _) ?_; intro W6 U6 p6)
  have d6 := p6.below dA (Nat.le_refl _)
  have b6 := b5.trans (d6.mono b5.size)
  have F6 := F5.below d6 F5.lt
  have X6 := X5.below d6 X5.lt
  have Y6 := Y5.below d6 Y5.lt
  have c6 := F6.cell
  clear dA p6 d6 b5 F5 X5 Y5
  generalize w5.heap.size = U at *
  go_wp2_with fail
  refine (CQ _).mono ?_
  rintro e w7 ⟨rfl, z⟩
  have b7 := b6.trans (z.mono b6.size)
  have F7 := F6.below z F6.lt
  have X7 := X6.below z X6.lt
  have Y7 := Y6.below z Y6.lt
  have U7 := U6.below z U6.lt
  clear c6 F6 X6 Y6 U6 b6 z CQ
  have dA := (Below.refl w7.heap.size w7).alloc (Nat.le_refl _) (.cells Z2 24)
  go_upto_region 5 with (refine blk_store _ rfl 24 _ _ rfl w7.heap.size _ rfl rfl _ _ (Blk.new w7 Z2 24) 2 pt_info rfl rfl (pt_one _ _) ?_; intro W8 V8 p8)
  have d8 := p8.below dA (Nat.le_refl _)
  have b8 := b7.trans (d8.mono b7.size)
  have F8 := F7.below d8 F7.lt
  have X8 := X7.below d8 X7.lt
  have Y8 := Y7.below d8 Y7.lt
  have U8 := U7.below d8 U7.lt
  have c8 := F8.cell
  clear dA p8 d8 b7 F7 X7 Y7 U7
  generalize w7.heap.size = V at *
  go_wp2_with fail
  refine (CF _).mono ?_
  rintro e w9 ⟨rfl, z⟩
  have b9 := b8.trans (z.mono b8.size)
  have F9 := F8.below z F8.lt
  have X9 := X8.below z X8.lt
  have Y9 := Y8.below z Y8.lt
  have U9 := U8.below z U8.lt
  have V9 := V8.below z V8.lt
  have c9 := F9.cell
  clear c8 F8 X8 Y8 U8 V8 b8 z CF
  go_wp2_with fail
  refine (CP _).mono ?_
  rintro e wa ⟨rfl, z⟩
  have ba := b9.trans (z.mono b9.size)
  have Fa := F9.below z F9.lt
  have Xa := X9.below z X9.lt
  have Ya := Y9.below z Y9.lt
  have Ua := U9.below z U9.lt
  have Va := V9.below z V9.lt
  have cF := Fa.cell
  clear c9 F9 X9 Y9 U9 V9 b9 z
  rcases HV.out with ⟨rfl, hfn, CV⟩ | ⟨rfl, rfl⟩
  · have HFN : Hid (FN = (L.length : Int)) := hfn
    clear HV hfn
    go_wp2_with fail
    refine (CV _).mono ?_
    rintro e wb ⟨v, rfl, ov, z⟩
    obtain ⟨sa, sc, ev⟩ := (Own.rd ov).form
    obtain ⟨n, hn⟩ : ∃ n, n = L.length := ⟨_, rfl⟩
    rw [← hn] at ev
    rw [← hn] at HFN
    have e1 : FN = (n : Int) := HFN.out
    subst ev e1
    clear HFN hn ov CV
    have bb := ba.trans (z.mono ba.size)
    have Fb := Fa.below z Fa.lt
    have cFb := Fb.cell
    have cX := (Xa.below z Xa.lt).cell
    have cY := (Ya.below z Ya.lt).cell
    have cU := (Ua.below z Ua.lt).cell
    have cV := (Va.below z Va.lt).cell
    clear cF Fa Xa Ya Ua Va ba z
    go_wp2_with fail
    refine (CP _).mono ?_
    rintro e wc ⟨rfl, z⟩
    have bc := bb.trans (z.mono bb.size)
    have cFc := (Fb.below z Fb.lt).cell
    clear z bb Fb
    go_wp2_with fail
    refine (CK _).mono ?_
    rintro e wd ⟨rfl, z⟩
    have bd := bc.trans (z.mono bc.size)
    clear z bc
    go_wp2_with fail
    go_ret
    exact ⟨rfl, bd⟩
  · have cX := Xa.cell
    have cY := Ya.cell
    have cU := Ua.cell
    have cV := Va.cell
    clear HV Xa Ya Ua Va
    go_wp2_with fail
    refine (CP _).mono ?_
    rintro e wc ⟨rfl, z⟩
    have bc := ba.trans (z.mono ba.size)
    have cFc := (Fa.below z Fa.lt).cell
    clear z ba Fa
    go_wp2_with fail
    refine (CK _).mono ?_
    rintro e wd ⟨rfl, z⟩
    have bd := bc.trans (z.mono bc.size)
    clear z bc
    go_wp2_with fail
    go_ret
    exact ⟨rfl, bd⟩
end Go.Proofs.YtajhdpkiafaebaaDoor.psi
