/- The walk through custlaw.AgesTakes. -/
import Derived.Test.YtehiipnafckjbaaAgTake
import Derived.Test.YtehiipnafckjbaaAgRef2
import Derived.Test.YtehiipnafckjbaaAgRef3
import Derived.Deep.DeepCutAuto
namespace Go.Proofs.Ytehiipnafckjbaa.agti
open Go.ChangeShapes Go.WideShapes Go.ChangeAt Go.RowKit Go.BigFrame
open Go.Proofs.Ytehiipnafckjbaa Go.Proofs.Ytehiipnafckjbaa.am Go.Proofs.Ytehiipnafckjbaa.ag Go.Proofs.Ytehiipnafckjbaa.ai Go.Proofs.Ytehiipnafckjbaa.ash Go.Proofs.Ytehiipnafckjbaa.agc Go.Proofs.Ytehiipnafckjbaa.agi Go.Proofs.Ytehiipnafckjbaa.agt Go.Proofs.Ytehiipnafckjbaa.agr Go.Proofs.Ytehiipnafckjbaa.boxes Go.Proofs.Ytehiipnafckjbaa.rwr
open Go.Proofs.Ytehiipnafckjbaa.rws (Knd Own)

theorem nil_rd (u : World) : Rd SK u (.slice none 0 0) [] := Own.rd (Own.nil SK u 0)
theorem own_old {w : World} {B g : Nat} {v : Value} {l : List Sy} (h : Own SK w B v l) (hg : w.heap.size ≤ g) : v.ownBlock ≠ some g := fun e => by
  have := (World.ownsRow.lt h g e).2
  omega
/-- what is told where all is well with the rooms -/
theorem takes_math {n : Int} {l : List Sy} (now : Int) (h : aerr n l = 0) :
    (te n l now = 1 ∧ tn n l now = 0 ∧ tr n l now = 0 ∧ tl n l now = [] ∧ qe l now = 1) ∨
    (te n l now = 6 ∧ tn n l now = 0 ∧ tr n l now = 0 ∧ tl n l now = [] ∧ qe l now = 0 ∧ n ≤ (lf l : Int)) ∨
    (te n l now = 0 ∧ tn n l now = n ∧ tr n l now = (lf l : Int) ∧ tl n l now = l ++ [⟨(lf l : Int), now⟩] ∧ qe l now = 0 ∧ (lf l : Int) < n ∧ qn n l now = n ∧ ql l (lf l) now = l ++ [⟨(lf l : Int), now⟩]) := by
  obtain ⟨m, rfl, h1, h64, hok, hlm⟩ := aerr_nat h
  rcases te_cases m l now with ⟨a, b⟩ | ⟨a, b, c⟩ | ⟨a, b, c⟩
  · left
    rcases ce_cases m l now with ⟨_, y⟩ | ⟨x, _, y⟩ | ⟨x, _⟩
    · exact absurd h y
    · obtain ⟨z1, z2, z3⟩ := te_zeros (n := m) (l := l) (now := now) (by rw [a]; exact b)
      exact ⟨by rw [a, x], z1, z2, z3, (q_late y m 0).1⟩
    · exact absurd x b
  · right; left
    obtain ⟨z1, z2, z3⟩ := te_zeros (n := m) (l := l) (now := now) (by rw [a]; decide)
    have := lf_full hok (by omega)
    exact ⟨a, z1, z2, z3, (q_no (ce_aerr b).2 m 0).1, by omega⟩
  · right; right
    obtain ⟨z1, z2, z3⟩ := te_ones a
    obtain ⟨y1, y2, y3⟩ := q_no (ce_aerr b).2 m (lf l)
    have := lf_room hok (by omega)
    exact ⟨a, z1, z2, z3, y1, by omega, y2, by rw [y3, wo_none (lf_spec l).1]⟩
theorem ne_nn (n : Int) : (rs n = true ∧ ne n = 0 ∧ nn n = n ∧ 1 ≤ n) ∨ (rs n = false ∧ ne n = 1 ∧ nn n = 0) := by
  cases h : rs n
  · exact Or.inr ⟨rfl, by unfold ne; rw [h]; rfl, by unfold nn; rw [h]; rfl⟩
  · exact Or.inl ⟨rfl, by unfold ne; rw [h]; rfl, by unfold nn; rw [h]; rfl, (rs_iff.1 h).1⟩
set_option maxRecDepth 20000 in
set_option maxHeartbeats 8000000 in
theorem walk (size n : Int) (v : Value) (l : List Sy) (now : Int) (w : World) (hr : Rd SK w v l) :
    Calls Try.prog 3 #[.int .i64 size, .agg (AC n v), .int .i64 now] w fun e w' => e = .returned (.bool true) ∧ Below w.heap.size w w' := by
  have F0 := Blk.new w (AC n v) 24
  have b0 := (Below.refl w.heap.size w).alloc (Nat.le_refl _) (.cells (AC n v) 24)
  have hz0 : (w.alloc (.cells (AC n v) 24)).heap.size = w.heap.size + 1 := by simp
  obtain ⟨V, HV⟩ : ∃ V, Hid (w.alloc (.cells (AC n v) 24) = V) := ⟨_, rfl⟩
  rw [HV.out] at F0 b0 hz0
  have HR : Hid (∀ u, Below w.heap.size w u → Rd SK u v l) := fun u hu => hr.below hu
  have CN := fun u => new_any size u
  have CB := fun u => between_any size 1 64 u
  have hrs : (decide (1 ≤ size) && decide (size ≤ 64)) = rs size := rfl
  rw [hrs] at CB
  have HNN : Hid ((rs size = true ∧ ne size = 0 ∧ nn size = size ∧ 1 ≤ size) ∨ (rs size = false ∧ ne size = 1 ∧ nn size = 0)) := ne_nn size
  have CC := fun u hu => agc.check_any n v l u hu
  have CA := fun u hu => agrr.right_any n v l u hu
  have CT := fun u hu => take_any n v l now u hu
  have HTM : Hid (aerr n l = 0 → (te n l now = 1 ∧ tn n l now = 0 ∧ tr n l now = 0 ∧ tl n l now = [] ∧ qe l now = 1) ∨
    (te n l now = 6 ∧ tn n l now = 0 ∧ tr n l now = 0 ∧ tl n l now = [] ∧ qe l now = 0 ∧ n ≤ (lf l : Int)) ∨
    (te n l now = 0 ∧ tn n l now = n ∧ tr n l now = (lf l : Int) ∧ tl n l now = l ++ [⟨(lf l : Int), now⟩] ∧ qe l now = 0 ∧ (lf l : Int) < n ∧ qn n l now = n ∧ ql l (lf l) now = l ++ [⟨(lf l : Int), now⟩])) := takes_math now
  have HTE : Hid (aerr n l ≠ 0 → te n l now = aerr n l ∧ tn n l now = 0 ∧ tr n l now = 0 ∧ tl n l now = []) := fun h => by
    have e1 : ce n l now = aerr n l := by unfold ce; rw [if_neg h]
    have e2 : te n l now = aerr n l := by unfold te; rw [e1, if_neg h]
    obtain ⟨a, b, c⟩ := te_zeros (n := n) (l := l) (now := now) (by rw [e2]; exact h)
    exact ⟨e2, a, b, c⟩
  have HL64 : Hid (aerr n l = 0 → l.length ≤ 64) := fun h => by
    obtain ⟨m, _, _, h64, _, hlm⟩ := aerr_nat h
    omega
  obtain ⟨sa, sc, rfl⟩ := hr.form
  have c0 := F0.cell
  clear hr hrs
  generalize rs size = RSZ at *
  generalize ne size = GE at *
  generalize nn size = WS at *
  generalize te n l now = TE at *
  generalize tn n l now = TN at *
  generalize tr n l now = TR at *
  generalize tl n l now = TL at *
  generalize aerr n l = AE at *
  generalize hlm : l.length = m at *
  go_enter Try.func3, Try.ntmps3
  go_upto_region 1 with fail
  rw [HV.out]
  go_wp2_with fail
  refine (CN _).mono ?_
  rintro e w1 ⟨rfl, z⟩
  have b1 := b0.trans (z.mono (by omega))
  have F1 := F0.below z F0.lt
  have dA := (Below.refl w1.heap.size w1).alloc (Nat.le_refl _) (.cells Z2 24)
  clear CN F0 b0 z c0 HV hz0
  go_upto_region 2 with (refine blk_store _ rfl 24 _ _ rfl w1.heap.size _ rfl rfl _ _ (Blk.new w1 Z2 24) 2 ag_info rfl rfl (ag_one _ _ _ _) ?_; intro w2 X2 p2)
  have d2 := p2.below dA (Nat.le_refl _)
  have b2 := b1.trans (d2.mono b1.size)
  have F2 := F1.below d2 F1.lt
  clear dA p2 d2 b1 F1
  generalize w1.heap.size = x7 at *
  have dA := (Below.refl w2.heap.size w2).alloc (Nat.le_refl _) (.cells Z2 24)
  go_upto_region 3 with (refine blk_store _ rfl 24 _ _ rfl w2.heap.size Z2 rfl rfl _ _ (Blk.new w2 Z2 24) 2 ag_info rfl rfl (ag_one _ _ _ _) ?_; intro w3 Y3 p3)
  have d3 := p3.below dA (Nat.le_refl _)
  have b3 := b2.trans (d3.mono b2.size)
  have F3 := F2.below d3 F2.lt
  have X3 := X2.below d3 X2.lt
  have x9n : x7 ≠ w2.heap.size := by have := X2.lt; omega
  have x9w : w.heap.size < w2.heap.size := F2.lt
  clear dA p3 d3 b2 F2 X2
  generalize w2.heap.size = x9 at *
  go_wp2_with fail
  refine (CB _).mono ?_
  rintro e w3 ⟨rfl, rfl⟩
  go_upto_if 23 with fail
  go_cut [] (fun wx => Blk wx w.heap.size (AC n (.slice sa m sc)) 24 ∧ Blk wx x7 (AC WS (.slice none 0 0)) 24 ∧ Blk wx x9 (AC WS (.slice none 0 0)) 24 ∧ Below w.heap.size w wx)
  case first =>
    have cY := Y3.cell
    have fY := Y3.free
    rcases HNN.out with ⟨rfl, rfl, rfl, h1⟩ | ⟨rfl, rfl, rfl⟩
    · clear CB HNN
      go_wp2_with fail
      go_meet
      case rel => exact ⟨(but_setCell _ _ _ _).blk F3 (by omega), (but_setCell _ _ _ _).blk X3 (by omega), Y3.setCell _ _, (but_setCell _ _ _ _).below b3 (by omega)⟩
    · clear CB HNN
      go_wp2_with fail
      go_meet
      case rel => exact ⟨F3, X3, Y3, b3⟩
  case rest =>
    obtain ⟨F4, X4, Y4, b4⟩ := hcut
    clear F3 X3 Y3 b3 CB
    go_upto_region 5 with fail
    go_cut [52] (fun c wx => c = .bool false ∧ Blk wx w.heap.size (AC n (.slice sa m sc)) 24 ∧ Below w.heap.size w wx)
    case first =>
      have nn := ab.ne wc
      have caF := ab.cells F4
      have caX := ab.cells X4
      have caY := ab.cells Y4
      have CS := fun x : cls.In (ab.Ab wc) => ab.call (x := x) (same_any WS (.slice none 0 0) (.slice none 0 0) [] x.W (nil_rd _) (nil_rd _))
      have CC' := fun x : cls.In (ab.Ab wc) => ab.call (x := x) (CC x.W (HR.out _ (b4.trans (Below.mono x.h b4.size))))
      have CA' := fun x : cls.In (ab.Ab wc) => ab.call (x := x) (CA x.W (HR.out _ (b4.trans (Below.mono x.h b4.size))))
      rcases HNN.out with ⟨rfl, rfl, rfl, h1⟩ | ⟨rfl, rfl, rfl⟩
      · have hd : decide (0 < WS) = true := decide_eq_true (by omega)
        clear HNN CC CA CT HTM HTE HL64
        refine ab.region (by kernel_rfl) (by kernel_rfl) ?_
        repeat (go_big_quiet_step (first | (go_at_call 10; exact CS _) | (go_at_call 11; exact CC' _) | (go_at_call 12; exact CA' _)))
        refine wpQuiet_nil ?_
        intro _ hx
        obtain ⟨x, rfl⟩ := hx
        go_wp2_with fail
        go_meet
        case rel => exact ⟨rfl, F4.below x.h F4.lt, b4.trans (Below.mono x.h b4.size)⟩
      · clear HNN CC CA CT HTM HTE HL64
        refine ab.region (by kernel_rfl) (by kernel_rfl) ?_
        repeat (go_big_quiet_step (first | (go_at_call 10; exact CS _) | (go_at_call 11; exact CC' _) | (go_at_call 12; exact CA' _)))
        refine wpQuiet_nil ?_
        intro _ hx
        obtain ⟨x, rfl⟩ := hx
        go_wp2_with fail
        go_meet
        case rel => exact ⟨rfl, F4.below x.h F4.lt, b4.trans (Below.mono x.h b4.size)⟩
    case rest =>
      obtain ⟨rfl, FF, BEL⟩ := hcut
      have cF := FF.cell
      clear F4 X4 Y4 b4 CC HNN
      go_wp2_with fail
      refine (CT _ (HR.out _ BEL)).mono ?_
      rintro e w5 ⟨v5, rfl, o5, z⟩
      have b5 := BEL.trans (z.mono BEL.size)
      have F5 := FF.below z FF.lt
      obtain ⟨sa5, sc5, e5⟩ := (Own.rd o5).form
      obtain ⟨q5, hq5⟩ : ∃ q, q = TL.length := ⟨_, rfl⟩
      rw [← hq5] at e5
      subst e5
      have HQ5 : Hid (q5 = TL.length) := hq5
      have dA := (Below.refl w5.heap.size w5).alloc (Nat.le_refl _) (.cells Z2 24)
      clear z hq5
      go_upto_region 8 with (refine blk_store _ rfl 24 _ _ rfl w5.heap.size _ rfl rfl _ _ (Blk.new w5 Z2 24) 2 ag_info rfl rfl (ag_one _ _ _ _) ?_; intro w6 X6 p6)
      have d6 := p6.below dA (Nat.le_refl _)
      have b6 := b5.trans (d6.mono b5.size)
      have F6 := F5.below d6 F5.lt
      have o6 := o5.kept d6
      clear dA p6 d6 b5 F5 o5
      generalize w5.heap.size = x10 at *
      have c6 := F6.cell
      go_wp2_with fail
      refine (CA _ (HR.out _ b6)).mono ?_
      rintro e w7 ⟨rfl, z⟩
      have b7 := b6.trans (z.mono b6.size)
      have F7 := F6.below z F6.lt
      have X7 := X6.below z X6.lt
      have o7 := o6.kept z
      clear z b6 F6 X6 o6 c6 CA CT FF BEL cF
      have c7 := F7.cell
      by_cases hA : AE = 0
      · subst hA
        have CI := fun u hu k => isTaken_any n (.slice sa m sc) l (k : Int) u (HR.out u hu)
        have CQ := fun u hu k => touched_any n (.slice sa m sc) l k now u (HR.out u hu) (by rw [hlm]; have := HL64.out rfl; omega)
        have hm64 : m ≤ 64 := HL64.out rfl
        have HM := HTM.out rfl
        have HT : Hid (∀ k : Nat, tk l k = false → (∀ j : Nat, j < k → tk l j = true) → lf l = k) := fun k h1 h2 => lf_eq ⟨h1, h2⟩
        have HRn : Hid (∀ k : Nat, (∀ j : Nat, j < k → tk l j = true) → k ≤ m) := fun k h => by rw [← hlm]; exact run_le h
        have HMH : Hid _ := HM
        obtain ⟨W, hW⟩ : ∃ W, W = w7 := ⟨_, rfl⟩
        subst hW
        clear HM HTM HTE HL64 hlm
        go_wp2_with fail
        clear c7
        go_loopw [14] (fun s14 wr => ∃ k : Nat, s14 = .int .i64 (k : Int) ∧ Hid (∀ j : Nat, j < k → tk l j = true) ∧ Below W.heap.size W wr) (fun s _ => m + 1 - (intOf s).toNat)
        case atStart => exact ⟨0, rfl, fun j hj => absurd hj (by omega), Below.refl _ _⟩
        case round =>
          obtain ⟨k, rfl, HK, bel⟩ := hrel
          have b8 := b7.trans (bel.mono b7.size)
          have F8 := F7.below bel F7.lt
          have X8 := X7.below bel X7.lt
          have o8 := o7.kept bel
          have c8 := F8.cell
          have hk := HRn.out k HK.out
          have CIk := CI _ b8 k
          cases ht : tk l k
          · have HE : Hid (lf l = k) := HT.out k ht HK.out
            rw [ht] at CIk
            clear ht HK HT HRn CI
            have HM2 : Hid ((TE = 1 ∧ TN = 0 ∧ TR = 0 ∧ TL = [] ∧ qe l now = 1) ∨ (TE = 6 ∧ TN = 0 ∧ TR = 0 ∧ TL = [] ∧ qe l now = 0 ∧ n ≤ (k : Int)) ∨ (TE = 0 ∧ TN = n ∧ TR = (k : Int) ∧ TL = l ++ [⟨(k : Int), now⟩] ∧ qe l now = 0 ∧ (k : Int) < n ∧ qn n l now = n ∧ ql l k now = l ++ [⟨(k : Int), now⟩])) := by
              have := HMH.out
              rw [HE.out] at this
              exact this
            clear HMH HE
            go_wp2_with fail
            refine CIk.mono ?_
            rintro e w9 ⟨rfl, z⟩
            have b9 := b8.trans (z.mono b8.size)
            have F9 := F8.below z F8.lt
            have X9 := X8.below z X8.lt
            have o9 := o8.kept z
            clear z b8 F8 X8 o8 c8 CIk bel b7 F7 X7 o7
            have b10 := b9.alloc b9.size (.cells Z2 24)
            have F10 := F9.alloc (.cells Z2 24)
            have X10 := X9.alloc (.cells Z2 24)
            have o10 := o9.alloc (.cells Z2 24)
            have Y10 := Blk.new w9 Z2 24
            have x10y : x10 < w9.heap.size := X9.lt
            have wy : w.heap.size < w9.heap.size := F9.lt
            have neX := own_old o9 (Nat.le_refl _)
            clear b9 F9 X9 o9
            obtain ⟨w10, HW10⟩ : ∃ V, Hid (w9.alloc (.cells Z2 24) = V) := ⟨_, rfl⟩
            rw [HW10.out] at b10 F10 X10 o10 Y10
            have c10 := F10.cell
            have CQ10 := CQ _ b10 (k : Int)
            go_upto_region 14 with fail
            rw [HW10.out]
            clear HW10 CQ
            generalize w9.heap.size = y15 at *
            generalize qe l now = QE at *
            generalize qn n l now = QN at *
            have HQL : Hid (ql l k now = ql l k now) := rfl
            generalize ql l k now = QL at *
            clear HQL
            go_wp2_with fail
            refine CQ10.mono ?_
            rintro e w11 ⟨v11, rfl, o11, z⟩
            have b11 := b10.trans (z.mono b10.size)
            have F11 := F10.below z F10.lt
            have X11 := X10.below z X10.lt
            have Y11 := Y10.below z Y10.lt
            have p11 := o10.kept z
            have ne11 := own_ne o11 Y10.lt
            obtain ⟨sa11, sc11, e11⟩ := (Own.rd o11).form
            obtain ⟨q11, hq11⟩ : ∃ q, q = QL.length := ⟨_, rfl⟩
            rw [← hq11] at e11
            subst e11
            clear hq11 CQ10 z b10 F10 X10 o10 Y10 c10
            go_upto_region 15 with (refine blk_store _ rfl 24 _ _ rfl y15 _ rfl rfl _ _ Y11 2 ag_info rfl rfl (ag_one _ _ _ _) ?_; intro w12 Y12 p12)
            have o12 := Own.rd (o11.but p12 ne11)
            have r12 := Own.rd (p11.but p12 neX)
            have X12 := p12.blk X11 (by omega)
            have F12 := p12.blk F11 (by omega)
            have b12 := p12.below b11 (by omega)
            clear p12 o11 p11 X11 F11 b11 Y11 ne11 neX
            have cX := X12.cell
            have cY := Y12.cell
            have cF := F12.cell
            rcases HM2.out with ⟨rfl, rfl, rfl, rfl, rfl⟩ | ⟨rfl, rfl, rfl, rfl, rfl, h6⟩ | ⟨rfl, x2, rfl, rfl, rfl, h6, x7, rfl⟩
            · have CS := same_any 0 (.slice sa5 q5 sc5) (.slice none 0 0) [] _ r12 (nil_rd _)
              clear HM2 o12 r12
              go_wp2_with fail
              refine CS.mono ?_
              rintro e w13 ⟨rfl, z⟩
              have b13 := b12.trans (z.mono b12.size)
              go_wp2_with fail
              go_ret
              exact ⟨rfl, b13⟩
            · have CS := same_any 0 (.slice sa5 q5 sc5) (.slice none 0 0) [] _ r12 (nil_rd _)
              have hd : decide ((k : Int) < n) = false := decide_eq_false (by omega)
              clear HM2 o12 r12
              go_wp2_with fail
              refine CS.mono ?_
              rintro e w13 ⟨rfl, z⟩
              have b13 := b12.trans (z.mono b12.size)
              go_wp2_with fail
              go_ret
              exact ⟨rfl, b13⟩
            · replace x2 := x2.symm
              subst x2
              replace x7 := x7.symm
              subst x7
              have CS := same_any n (.slice sa5 q5 sc5) (.slice sa11 q11 sc11) (l ++ [⟨(k : Int), now⟩]) _ r12 o12
              have hd : decide ((k : Int) < n) = true := decide_eq_true h6
              clear HM2 o12 r12
              go_wp2_with fail
              refine CS.mono ?_
              rintro e w13 ⟨rfl, z⟩
              have b13 := b12.trans (z.mono b12.size)
              go_wp2_with fail
              go_ret
              exact ⟨rfl, b13⟩
          · have HK' : Hid (∀ j : Nat, j < k + 1 → tk l j = true) := fun j hj => by
              by_cases e : j = k
              · rw [e]; exact ht
              · exact HK.out j (by omega)
            have hk' := HRn.out (k + 1) HK'.out
            rw [ht] at CIk
            clear ht HK HT HRn CI CQ F8 X8 o8
            go_wp2_with fail
            refine CIk.mono ?_
            rintro e w9 ⟨rfl, z⟩
            have b9 := bel.trans (z.mono bel.size)
            go_wp2_with fail
            go_roundw
            case rel => exact ⟨k + 1, by go_num, HK', b9⟩
            case measure => simp [intOf]; omega
      · obtain ⟨x1, x2, x3, x4⟩ := HTE.out hA
        replace x1 := x1.symm
        subst x1 x2 x3 x4
        have hd : (AE == 0) = false := by simpa using hA
        have CS := fun u h => same_any 0 (.slice sa5 q5 sc5) (.slice none 0 0) [] u h (nil_rd u)
        have CS7 := CS _ (Own.rd o7)
        have cX := X7.cell
        clear HTM HTE HL64 hA HR CS F7 o7 HQ5
        go_wp2_with fail
        refine CS7.mono ?_
        rintro e w9 ⟨rfl, z⟩
        have b9 := b7.trans (z.mono b7.size)
        go_wp2_with fail
        go_ret
        exact ⟨rfl, b9⟩
end Go.Proofs.Ytehiipnafckjbaa.agti
