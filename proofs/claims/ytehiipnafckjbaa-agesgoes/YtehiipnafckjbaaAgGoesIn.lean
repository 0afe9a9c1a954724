/- The walk through custlaw.AgesGoes. -/
import Derived.Test.YtehiipnafckjbaaAgGoesMath
namespace Go.Proofs.Ytehiipnafckjbaa.aggi
open Go.ChangeShapes Go.WideShapes Go.ChangeAt Go.RowKit Go.BigFrame
open Go.Proofs.Ytehiipnafckjbaa Go.Proofs.Ytehiipnafckjbaa.am Go.Proofs.Ytehiipnafckjbaa.ag Go.Proofs.Ytehiipnafckjbaa.ai Go.Proofs.Ytehiipnafckjbaa.ash Go.Proofs.Ytehiipnafckjbaa.agl Go.Proofs.Ytehiipnafckjbaa.agu Go.Proofs.Ytehiipnafckjbaa.agx Go.Proofs.Ytehiipnafckjbaa.agr Go.Proofs.Ytehiipnafckjbaa.agv Go.Proofs.Ytehiipnafckjbaa.aggm Go.Proofs.Ytehiipnafckjbaa.boxes Go.Proofs.Ytehiipnafckjbaa.rwr
open Go.Proofs.Ytehiipnafckjbaa.rws (Knd Own)

set_option maxRecDepth 20000 in
set_option maxHeartbeats 20000000 in
theorem walk (n : Int) (v : Value) (l : List Sy) (r now : Int) (w : World) (hr : Rd SK w v l) :
    Calls Try.prog 4 #[.agg (AC n v), .int .i64 r, .int .i64 now] w fun e w' => e = .returned (.bool true) ∧ Below w.heap.size w w' := by
  have F0 := Blk.new w (AC n v) 24
  have b0 := (Below.refl w.heap.size w).alloc (Nat.le_refl _) (.cells (AC n v) 24)
  obtain ⟨V, HV⟩ : ∃ V, Hid (w.alloc (.cells (AC n v) 24) = V) := ⟨_, rfl⟩
  rw [HV.out] at F0 b0
  have HR : Hid (∀ u, Below w.heap.size w u → Rd SK u v l) := fun u hu => hr.below hu
  have CU := fun u hu => touch_any n v l r now u hu
  have CL := fun u hu => leave_any n v l r u hu
  have CX := fun u hu => expire_any n v l now u hu
  have CA := fun u hu => agrr.right_any n v l u hu
  have HA : Hid (aerr n l ≠ 0 → (ue n l r now = aerr n l ∧ un n l r now = 0 ∧ ul n l r now = []) ∧ (le n l r = aerr n l ∧ ln n l r = 0 ∧ ll n l r = []) ∧ xn n l = 0 ∧ xl n l now = [] ∧ xg n l now = []) := goes_no
  have HO : Hid (aerr n l = 0 → l.length ≤ 64 ∧ Ok n l ∧ xn n l = n ∧ xl n l now = fs now l ∧ xg n l now = fo now l ∧
    ((tk l r = true ∧ ue n l r now = qe l now ∧ un n l r now = qn n l now ∧ ul n l r now = ql l r now ∧ le n l r = 0 ∧ ln n l r = n ∧ ll n l r = wo l r) ∨
     (tk l r = false ∧ le n l r = 7 ∧ ln n l r = 0 ∧ ll n l r = [] ∧ un n l r now = 0 ∧ ul n l r now = [] ∧ ((qe l now = 0 ∧ ue n l r now = 7) ∨ (qe l now = 1 ∧ ue n l r now = 1 ∧ qn n l now = 0 ∧ ql l r now = []))))) := goes_ok
  obtain ⟨sa, sc, rfl⟩ := hr.form
  have c0 := F0.cell
  have hle : l.length ≤ sc := (rd_cap hr).2
  clear hr
  generalize ue n l r now = UE at *
  generalize un n l r now = UN at *
  generalize ul n l r now = UL at *
  generalize le n l r = LE at *
  generalize ln n l r = LN at *
  generalize ll n l r = LL at *
  generalize xn n l = XN at *
  generalize xl n l now = XL at *
  generalize xg n l now = XG at *
  generalize aerr n l = AE at *
  generalize hlm : l.length = m at *
  go_enter Try.func4, Try.ntmps4
  go_upto_region 1 with fail
  rw [HV.out]
  clear HV
  go_wp2_with fail
  refine (CU _ (HR.out _ b0)).mono ?_
  rintro e w1 ⟨v1, rfl, o1, z⟩
  obtain ⟨sa1, sc1, ef⟩ := (Own.rd o1).form
  obtain ⟨q1, hq⟩ : ∃ q, q = UL.length := ⟨_, rfl⟩
  rw [← hq] at ef
  subst ef
  have F_1 := F0.below z F0.lt
  have bel_1 := b0.trans (z.mono b0.size)
  clear F0 b0 z c0 hq
  have dA := (Below.refl w1.heap.size w1).alloc (Nat.le_refl _) (.cells Z2 24)
  go_upto_region 2 with (refine blk_store _ rfl 24 _ _ rfl w1.heap.size _ rfl rfl _ _ (Blk.new w1 Z2 24) 2 ag_info rfl rfl (ag_one _ _ _ _) ?_; intro w2 X p)
  have d := p.below dA (Nat.le_refl _)
  have R := (Own.rd o1).below d
  have F_2 := F_1.below d F_1.lt
  have bel_2 := bel_1.trans (d.mono bel_1.size)
  clear F_1 bel_1 dA p d o1 CU
  generalize w1.heap.size = x7 at *
  have cF := F_2.cell
  go_wp2_with fail
  refine (CL _ (HR.out _ bel_2)).mono ?_
  rintro e w3 ⟨v3, rfl, o3, z⟩
  obtain ⟨sa3, sc3, ef⟩ := (Own.rd o3).form
  obtain ⟨q3, hq⟩ : ∃ q, q = LL.length := ⟨_, rfl⟩
  rw [← hq] at ef
  subst ef
  have F_3 := F_2.below z F_2.lt
  have X_3 := X.below z X.lt
  have R_3 := R.below z
  have bel_3 := bel_2.trans (z.mono bel_2.size)
  clear F_2 X R bel_2 z cF hq
  have dA := (Below.refl w3.heap.size w3).alloc (Nat.le_refl _) (.cells Z2 24)
  go_upto_region 3 with (refine blk_store _ rfl 24 _ _ rfl w3.heap.size _ rfl rfl _ _ (Blk.new w3 Z2 24) 2 ag_info rfl rfl (ag_one _ _ _ _) ?_; intro w4 Y p)
  have d := p.below dA (Nat.le_refl _)
  have Q := (Own.rd o3).below d
  have F_4 := F_3.below d F_3.lt
  have X_4 := X_3.below d X_3.lt
  have R_4 := R_3.below d
  have bel_4 := bel_3.trans (d.mono bel_3.size)
  clear F_3 X_3 R_3 bel_3 dA p d o3 CL
  generalize w3.heap.size = x9 at *
  have cF := F_4.cell
  go_wp2_with fail
  refine (CX _ (HR.out _ bel_4)).mono ?_
  rintro e w5 ⟨v5, g5, rfl, o5, o6, z⟩
  obtain ⟨sa5, sc5, ef⟩ := (Own.rd o5).form
  obtain ⟨q5, hq⟩ : ∃ q, q = XL.length := ⟨_, rfl⟩
  rw [← hq] at ef
  subst ef
  obtain ⟨ga, gc, eg⟩ := (Own.rd o6).form
  obtain ⟨qg, hqg⟩ : ∃ q, q = XG.length := ⟨_, rfl⟩
  rw [← hqg] at eg
  subst eg
  have HQG : Hid (qg = XG.length) := hqg
  have F_5 := F_4.below z F_4.lt
  have X_5 := X_4.below z X_4.lt
  have Y_5 := Y.below z Y.lt
  have R_5 := R_4.below z
  have Q_5 := Q.below z
  have bel_5 := bel_4.trans (z.mono bel_4.size)
  clear F_4 X_4 Y R_4 Q bel_4 z cF hq hqg
  have dA := (Below.refl w5.heap.size w5).alloc (Nat.le_refl _) (.cells Z2 24)
  go_upto_region 4 with (refine blk_store _ rfl 24 _ _ rfl w5.heap.size _ rfl rfl _ _ (Blk.new w5 Z2 24) 2 ag_info rfl rfl (ag_one _ _ _ _) ?_; intro w6 Z p)
  have d := p.below dA (Nat.le_refl _)
  have P := (Own.rd o5).below d
  have G := (Own.rd o6).below d
  have F_6 := F_5.below d F_5.lt
  have X_6 := X_5.below d X_5.lt
  have Y_6 := Y_5.below d Y_5.lt
  have R_6 := R_5.below d
  have Q_6 := Q_5.below d
  have bel_6 := bel_5.trans (d.mono bel_5.size)
  clear F_5 X_5 Y_5 R_5 Q_5 bel_5 dA p d o5 o6 CX
  generalize w5.heap.size = x11 at *
  have cF := F_6.cell
  go_wp2_with fail
  refine (CA _ (HR.out _ bel_6)).mono ?_
  rintro e w7 ⟨rfl, z⟩
  have F_7 := F_6.below z F_6.lt
  have X_7 := X_6.below z X_6.lt
  have Y_7 := Y_6.below z Y_6.lt
  have Z_7 := Z.below z Z.lt
  have R_7 := R_6.below z
  have Q_7 := Q_6.below z
  have P_7 := P.below z
  have G_7 := G.below z
  have bel_7 := bel_6.trans (z.mono bel_6.size)
  clear F_6 X_6 Y_6 Z R_6 Q_6 P G bel_6 z cF CA
  by_cases hA : AE = 0
  · subst hA
    obtain ⟨hm64, hok, xq, rfl, rfl, hcase⟩ := HO.out rfl
    replace xq := xq.symm
    subst xq
    have HC : Hid _ := hcase
    have HG : Hid (∀ i, i < m → l[i]? = some (ax l i)) := fun i hi => ax_get (by rw [hlm]; exact hi)
    have HW : Hid (∀ i, i < m → wo (l.take (i + 1)) r = if (ax l i).r = r then wo (l.take i) r else wo (l.take i) r ++ [ax l i]) := fun i hi => wo_one (by rw [hlm]; exact hi)
    have HWl : Hid (∀ i, (wo (l.take i) r).length ≤ i) := fun i => wo_le l i r
    have HFS : Hid (∀ i, i < m → fs now (l.take (i + 1)) = if (ax l i).a < now then fs now (l.take i) else fs now (l.take i) ++ [ax l i]) := fun i hi => fs_one (by rw [hlm]; exact hi)
    have HFO : Hid (∀ i, i < m → fo now (l.take (i + 1)) = if (ax l i).a < now then fo now (l.take i) ++ [(ax l i).r] else fo now (l.take i)) := fun i hi => fo_one (by rw [hlm]; exact hi)
    have HFSl : Hid (∀ i, (fs now (l.take i)).length ≤ i) := fun i => fs_le l i now
    have HFOl : Hid (∀ i, (fo now (l.take i)).length ≤ i) := fun i => fo_le l i now
    have HTk : Hid (l.take m = l) := by rw [← hlm]; exact List.take_length
    have HX : Hid (∀ u, Below w.heap.size w u → 0 < m → ∃ b off, sa = some ⟨b, off, none⟩ ∧ b < u.heap.size ∧ ∀ j x, l[j]? = some x → ∀ i, i < SK.k → u.cell? ⟨b, off + j * SK.k + i, none⟩ = (SK.enc x)[i]?) := fun u hu hp => rd_spot (HR.out u hu) (by rw [hlm]; exact hp)
    have CI := fun u hu => isTaken_any n (.slice sa m sc) l r u (HR.out u hu)
    have CT := touched_any n (.slice sa m sc) l r now _ (HR.out _ bel_7) (by rw [hlm]; omega)
    clear HO HA hcase hok hlm HR
    have cF := F_7.cell
    go_wp2_with fail
    refine (CT).mono ?_
    rintro e w8 ⟨v8, rfl, o8, z⟩
    obtain ⟨sa8, sc8, ef⟩ := (Own.rd o8).form
    obtain ⟨q8, hq⟩ : ∃ q, q = (ql l r now).length := ⟨_, rfl⟩
    rw [← hq] at ef
    subst ef
    have F_8 := F_7.below z F_7.lt
    have X_8 := X_7.below z X_7.lt
    have Y_8 := Y_7.below z Y_7.lt
    have Z_8 := Z_7.below z Z_7.lt
    have R_8 := R_7.below z
    have Q_8 := Q_7.below z
    have P_8 := P_7.below z
    have G_8 := G_7.below z
    have bel_8 := bel_7.trans (z.mono bel_7.size)
    clear F_7 X_7 Y_7 Z_7 R_7 Q_7 P_7 G_7 bel_7 z cF CT hq
    have V8 := Own.rd o8
    generalize qe l now = QE at *
    generalize qn n l now = QN at *
    obtain ⟨QL, hQL⟩ : ∃ q, q = ql l r now := ⟨_, rfl⟩
    rw [← hQL] at V8 o8 HC
    clear hQL o8
    have dA := (Below.refl w8.heap.size w8).alloc (Nat.le_refl _) (.cells Z2 24)
    go_upto_region 8 with (refine blk_store _ rfl 24 _ _ rfl w8.heap.size _ rfl rfl _ _ (Blk.new w8 Z2 24) 2 ag_info rfl rfl (ag_one _ _ _ _) ?_; intro w9 T9 p)
    have d := p.below dA (Nat.le_refl _)
    have x15 : Hid (w9.heap.size = w8.heap.size + 1) := by show w9.heap.size = _; rw [p.size]; simp
    clear dA p
    have dA := (Below.refl w9.heap.size w9).alloc (Nat.le_refl _) (.cells Z2 24)
    go_upto_region 9 with (refine blk_store _ rfl 24 _ _ rfl w9.heap.size Z2 rfl rfl _ _ (Blk.new w9 Z2 24) 2 ag_info rfl rfl (ag_one _ _ _ _) ?_; intro w10 Q10 p)
    have d2 := p.below dA (Nat.le_refl _)
    have T10 := T9.below d2 T9.lt
    have d10 := d.trans (d2.mono (by rw [x15.out]; omega))
    have s10 : Hid (w10.heap.size = w9.heap.size + 1) := by show w10.heap.size = _; rw [p.size]; simp
    clear dA p d d2 T9
    rw [x15.out] at Q10 s10 ⊢
    clear x15
    have cF := (F_8.below d10 F_8.lt).cell
    have CI10 := CI _ (bel_8.trans (d10.mono bel_8.size))
    clear CI
    go_wp2_with fail
    refine CI10.mono ?_
    rintro e w11 ⟨rfl, z⟩
    have T11 := T10.below z T10.lt
    have Q11 := Q10.below z Q10.lt
    have d11 := d10.trans (z.mono d10.size)
    have lt17 : w8.heap.size + 1 < w11.heap.size := Q11.lt
    clear z T10 Q10 d10 s10 CI10 cF
    have cF := (F_8.below d11 F_8.lt).cell
    go_upto_if 92 with fail
    go_cut [16, 18] (fun s16 s18 wx => ∃ (a1 a2 : Option Addr) (k1 k2 c1 c2 : Nat), s16 = .int .i64 UE ∧ s18 = .int .i64 LE ∧ Blk wx w8.heap.size (AC UN (.slice a1 k1 c1)) 24 ∧ Rd SK wx (.slice a1 k1 c1) UL ∧ Blk wx (w8.heap.size + 1) (AC LN (.slice a2 k2 c2)) 24 ∧ Rd SK wx (.slice a2 k2 c2) LL ∧ Below w8.heap.size w8 wx)
    case first =>
      rcases HC.out with ⟨ht, x1, x2, rfl, rfl, x3, rfl⟩ | ⟨ht, rfl, rfl, rfl, rfl, rfl, ⟨rfl, rfl⟩ | ⟨rfl, rfl, rfl, rfl⟩⟩
      · replace x1 := x1.symm
        replace x2 := x2.symm
        replace x3 := x3.symm
        subst x1 x2 x3
        rw [ht]
        clear HC ht HFS HFO HFSl HFOl HQG
        have cTs : True := trivial
        go_upto_region 11 with (refine blk_store _ rfl 24 _ _ rfl (w8.heap.size + 1) (AC n (.slice none 0 0)) rfl rfl _ _ Q11 2 ag_info rfl rfl (ag_one _ _ _ _) ?_; intro w12 Q12 p)
        have T12 := p.blk T11 (by omega)
        have d12 := p.below d11 (by omega)
        have lt18 : w8.heap.size + 1 < w12.heap.size := Q12.lt
        clear p T11 Q11 d11 cF lt17
        have cF := (F_8.below d12 F_8.lt).cell
        go_wp2_with fail
        clear cF
        go_loopw [99] (fun s99 wr => ∃ (i : Nat) (a : Option Addr) (k c : Nat), s99 = .int .i64 (i : Int) ∧ i ≤ m ∧ Blk wr (w8.heap.size + 1) (AC n (.slice a k c)) 24 ∧ Own SK wr (w8.heap.size + 2) (.slice a k c) (wo (l.take i) r) ∧ Blk wr w8.heap.size (AC QN (.slice sa8 q8 sc8)) 24 ∧ Below w8.heap.size w8 wr ∧ w8.heap.size + 2 ≤ wr.heap.size) (fun s _ => m - (intOf s).toNat)
        case atStart => exact ⟨0, none, 0, 0, rfl, Nat.zero_le _, Q12, Own.nil _ _ _, T12, d12, by omega⟩
        case round =>
          clear Q12 T12 d12 lt18
          obtain ⟨i, a, k, c, rfl, hi, Q, O, T, d, hz⟩ := hrel
          by_cases hlt : i < m
          · have hlt' : (i : Int) < (m : Int) := by omega
            have gi := HG.out i hlt
            have bw := bel_8.trans (d.mono bel_8.size)
            obtain ⟨b, off, rfl, hb2, hx⟩ := HX.out _ bw (by omega)
            have hw := HW.out i hlt
            have hl := HWl.out i
            obtain ⟨⟨sr, sv⟩, hs⟩ : ∃ s, ax l i = s := ⟨_, rfl⟩
            rw [hs] at gi hw
            obtain ⟨A, HAl⟩ : ∃ A, Hid (wr.alloc (.cells #[.int .i64 sr, .int .i64 sv] 41) = A) := ⟨_, rfl⟩
            have S2 := Blk.new wr #[.int .i64 sr, .int .i64 sv] 41
            have O2 := O.alloc (.cells #[.int .i64 sr, .int .i64 sv] 41)
            have Q2 := Q.alloc (.cells #[.int .i64 sr, .int .i64 sv] 41)
            have T2 := T.alloc (.cells #[.int .i64 sr, .int .i64 sv] 41)
            have d2 := d.alloc d.size (.cells #[.int .i64 sr, .int .i64 sv] 41)
            have hz2 : w8.heap.size + 2 ≤ (wr.alloc (.cells #[.int .i64 sr, .int .i64 sv] 41)).heap.size := by simp; omega
            rw [HAl.out] at S2 O2 Q2 T2 d2 hz2
            have cS := S2.cell
            clear hs HX HG HW HWl HTk bw Q O T d hz
            by_cases e : sr = r
            · have HW' : Hid (wo (l.take (i + 1)) r = wo (l.take i) r) := hw.trans (if_pos e)
              have hd : (sr != r) = false := by simpa using e
              clear hw e
              go_upto_region 14 with (refine rd_load SK _ rfl _ rfl b off l hx i _ rfl rfl _ gi #[.int .i64 sr, .int .i64 sv] rfl _ Try.underlying41 rfl ?_)
              rw [HAl.out]
              go_wp2_with fail
              go_roundw
              case rel => exact ⟨i + 1, a, k, c, by go_num, by omega, Q2, by rw [HW'.out]; exact O2, T2, d2, hz2⟩
              case measure => simp [intOf]; omega
            · have HW' : Hid (wo (l.take (i + 1)) r = wo (l.take i) r ++ [⟨sr, sv⟩]) := hw.trans (if_neg e)
              have hd : (sr != r) = true := by simpa using e
              clear hw e
              generalize wo (l.take i) r = gl at *
              go_upto_region 14 with (refine rd_load SK _ rfl _ rfl b off l hx i _ rfl rfl _ gi #[.int .i64 sr, .int .i64 sv] rfl _ Try.underlying41 rfl ?_)
              rw [HAl.out]
              have O3 := O2.alloc (.cells #[.int .i64 sr, .int .i64 sv] 41)
              have L3 := Blk.new A #[.int .i64 sr, .int .i64 sv] 41
              have Q3 := Q2.alloc (.cells #[.int .i64 sr, .int .i64 sv] 41)
              have T3 := T2.alloc (.cells #[.int .i64 sr, .int .i64 sv] 41)
              have d3 := d2.alloc d2.size (.cells #[.int .i64 sr, .int .i64 sv] 41)
              have q1 : gl.length + 1 ≤ maxLen := by unfold maxLen; omega
              have q2 : (gl.length + 1) * SK.by_ ≤ 140737488355328 := by show (gl.length + 1) * 16 ≤ _; omega
              have q3 : w8.heap.size + 2 ≤ (A.alloc (.cells #[.int .i64 sr, .int .i64 sv] 41)).heap.size := by simp; omega
              have cQ := Q2.cell
              clear O2 hl T2 d2
              go_wp2_with (first | (refine blk_load _ rfl 41 _ rfl wr.heap.size rfl _ _ S2 _ Try.underlying41 rfl 2 sy_info rfl ?_) | (at_builtin; refine rws.app_one SK _ rfl _ _ rfl (w8.heap.size + 2) _ gl rfl O3 A.heap.size 1 ⟨sr, sv⟩ 41 rfl L3 q1 q2 q3 ?_; intro v6 w6 o6 l6 _; obtain ⟨a6, c6, e6⟩ := (Own.rd o6).form; obtain ⟨k6, hk6⟩ : ∃ q, q = (gl ++ [(⟨sr, sv⟩ : Sy)]).length := ⟨_, rfl⟩; rw [← hk6] at e6; subst e6; clear hk6; have Q6 := Q3.below l6 (by omega); have cQ6 := Q6.cell; have fQ6 := Q6.free))
              have ne6 := own_ne o6 (show w8.heap.size + 1 < w8.heap.size + 2 by omega)
              have T6 := T3.below l6 (by omega)
              have d6 := d3.trans (l6.mono (by omega))
              have z6 := l6.size
              clear O3 L3 Q3 T3 d3 q1 q2 cQ S2 cS Q2 l6
              go_wp2_with fail
              go_roundw
              case rel => exact ⟨i + 1, a6, k6, c6, by go_num, by omega, Q6.setCell 1 _, by rw [HW'.out]; exact o6.setCell ne6, (but_setCell _ _ _ _).blk T6 (by omega), (but_setCell _ _ _ _).below d6 (by omega), by simp; omega⟩
              case measure => simp [intOf]; omega
          · have hlt' : ¬ (i : Int) < (m : Int) := by omega
            have ei : i = m := by omega
            have HO1 : Hid (Rd SK wr (.slice a k c) (wo l r)) := by
              have := Own.rd O
              rw [ei, HTk.out] at this
              exact this
            have V1 := V8.below d
            clear ei HX HG HW HWl HTk O
            go_wp2_with fail
            go_meet
            case rel => exact ⟨sa8, a, q8, k, sc8, c, rfl, rfl, T, V1, Q, HO1.out, d⟩
      · rw [ht]
        clear HC ht HFS HFO HFSl HFOl HQG HW HWl HG HX HTk
        go_wp2_with (refine blk_store _ rfl 24 _ _ rfl w8.heap.size Z2 rfl rfl _ _ T11 2 ag_info rfl rfl (ag_one _ _ _ _) ?_; intro w12 T12 p)
        have Q12 := p.blk Q11 (by omega)
        have d12 := p.below d11 (Nat.le_refl _)
        clear p T11 Q11 d11 cF
        go_wp2_with fail
        go_meet
        case rel => exact ⟨none, none, 0, 0, 0, 0, rfl, rfl, T12, nil_rd _, Q12, nil_rd _, d12⟩
      · rw [ht]
        have V1 := V8.below d11
        clear HC ht HFS HFO HFSl HFOl HQG HW HWl HG HX HTk cF
        go_wp2_with fail
        go_meet
        case rel => exact ⟨sa8, none, q8, 0, sc8, 0, rfl, rfl, T11, V1, Q11, nil_rd _, d11⟩
    case rest =>
      obtain ⟨a1, a2, k1, k2, c1, c2, rfl, rfl, T, V1, Q, V2, d⟩ := hcut
      have F1 := F_8.below d F_8.lt
      have X1 := X_8.below d X_8.lt
      have Y1 := Y_8.below d Y_8.lt
      have Z1 := Z_8.below d Z_8.lt
      have R1 := R_8.below d
      have Q1 := Q_8.below d
      have P1 := P_8.below d
      have G1 := G_8.below d
      have bU := bel_8.trans (d.mono bel_8.size)
      have hQG := HQG.out
      clear F_8 X_8 Y_8 Z_8 R_8 Q_8 P_8 G_8 bel_8 d V8 T11 Q11 d11 cF HC HW HWl HQG
      obtain ⟨U, hU⟩ : ∃ U, U = wc := ⟨_, rfl⟩
      subst hU
      have HQG : Hid (qg = (fo now l).length) := hQG
      clear hQG
      generalize w8.heap.size = x15 at *
      have cF := F1.cell
      have dA := (Below.refl U.heap.size U).alloc (Nat.le_refl _) (.cells Z2 24)
      go_upto_region 20 with (refine blk_store _ rfl 24 _ _ rfl U.heap.size (AC n (.slice none 0 0)) rfl rfl _ _ (Blk.new U Z2 24) 2 ag_info rfl rfl (ag_one _ _ _ _) ?_; intro w20 W20 p)
      have d20 := p.below dA (Nat.le_refl _)
      have z20 : Hid (w20.heap.size = U.heap.size + 1) := by show w20.heap.size = _; rw [p.size]; simp
      clear dA p cF
      have cF := (F1.below d20 F1.lt).cell
      go_wp2_with fail
      clear cF
      go_loopw [22, 123] (fun s22 s123 wr => ∃ (i : Nat) (a g : Option Addr) (k c kg cg : Nat), s123 = .int .i64 (i : Int) ∧ s22 = .slice g kg cg ∧ i ≤ m ∧ Blk wr U.heap.size (AC n (.slice a k c)) 24 ∧ Own SK wr (U.heap.size + 1) (.slice a k c) (fs now (l.take i)) ∧ Own NK wr (U.heap.size + 1) (.slice g kg cg) (fo now (l.take i)) ∧ Below U.heap.size U wr ∧ U.heap.size + 1 ≤ wr.heap.size) (fun _ s _ => m - (intOf s).toNat)
      case atStart => exact ⟨0, none, none, 0, 0, 0, 0, rfl, rfl, Nat.zero_le _, W20, Own.nil _ _ _, Own.nil _ _ _, d20, by rw [z20.out]; omega⟩
      case round =>
        clear W20 d20 z20
        obtain ⟨i, a, g, k, c, kg, cg, rfl, rfl, hi, W, O, N, d, hz⟩ := hrel
        by_cases hlt : i < m
        · have hlt' : (i : Int) < (m : Int) := by omega
          have gi := HG.out i hlt
          have bw := bU.trans (d.mono bU.size)
          obtain ⟨b, off, rfl, hb2, hx⟩ := HX.out _ bw (by omega)
          have hfs := HFS.out i hlt
          have hfo := HFO.out i hlt
          have hl1 := HFSl.out i
          have hl2 := HFOl.out i
          obtain ⟨⟨sr, sv⟩, hs⟩ : ∃ s, ax l i = s := ⟨_, rfl⟩
          rw [hs] at gi hfs hfo
          obtain ⟨A, HAl⟩ : ∃ A, Hid (wr.alloc (.cells #[.int .i64 sr, .int .i64 sv] 41) = A) := ⟨_, rfl⟩
          have S2 := Blk.new wr #[.int .i64 sr, .int .i64 sv] 41
          have O2 := O.alloc (.cells #[.int .i64 sr, .int .i64 sv] 41)
          have N2 := N.alloc (.cells #[.int .i64 sr, .int .i64 sv] 41)
          have W2 := W.alloc (.cells #[.int .i64 sr, .int .i64 sv] 41)
          have d2 := d.alloc d.size (.cells #[.int .i64 sr, .int .i64 sv] 41)
          have hz2 : U.heap.size + 1 ≤ (wr.alloc (.cells #[.int .i64 sr, .int .i64 sv] 41)).heap.size := by simp; omega
          rw [HAl.out] at S2 O2 N2 W2 d2 hz2
          have cS := S2.cell
          clear hs HX HG HFS HFO HFSl HFOl HTk bw O N W d hz F1 X1 Y1 Z1 R1 Q1 P1 G1 T V1 Q V2 HQG bU
          by_cases e : sv < now
          · have HS' : Hid (fs now (l.take (i + 1)) = fs now (l.take i)) := hfs.trans (if_pos e)
            have HO' : Hid (fo now (l.take (i + 1)) = fo now (l.take i) ++ [sr]) := hfo.trans (if_pos e)
            have hd : decide (sv < now) = true := decide_eq_true e
            clear hfs hfo e
            generalize fo now (l.take i) = gl at *
            go_upto_region 24 with (refine rd_load SK _ rfl _ rfl b off l hx i _ rfl rfl _ gi #[.int .i64 sr, .int .i64 sv] rfl _ Try.underlying41 rfl ?_)
            rw [HAl.out]
            have O3 := O2.alloc (.cells #[.int .i64 sr] 3)
            have N3 := N2.alloc (.cells #[.int .i64 sr] 3)
            have L3 := Blk.new A #[.int .i64 sr] 3
            have W3 := W2.alloc (.cells #[.int .i64 sr] 3)
            have d3 := d2.alloc d2.size (.cells #[.int .i64 sr] 3)
            have q1 : gl.length + 1 ≤ maxLen := by unfold maxLen; omega
            have q2 : (gl.length + 1) * NK.by_ ≤ 140737488355328 := by show (gl.length + 1) * 8 ≤ _; omega
            have q3 : U.heap.size + 1 ≤ (A.alloc (.cells #[.int .i64 sr] 3)).heap.size := by simp; omega
            have kn := (kinds_ne O3 N3).1
            clear O2 N2 hl1 hl2 W2 d2
            go_wp2_with (at_builtin; refine rws.app_one NK _ rfl _ _ rfl (U.heap.size + 1) _ gl rfl N3 A.heap.size 1 sr 3 rfl L3 q1 q2 q3 ?_; intro v6 w6 n6 l6 g6; obtain ⟨a6, c6, e6⟩ := (Own.rd n6).form; obtain ⟨k6, hk6⟩ : ∃ q, q = (gl ++ [sr]).length := ⟨_, rfl⟩; rw [← hk6] at e6; subst e6; clear hk6)
            have W6 := W3.below l6 (by omega)
            have o6 := own_grown O3 g6 kn
            have d6 := d3.trans (l6.mono (by omega))
            have z6 := l6.size
            clear O3 N3 L3 W3 d3 q1 q2 S2 cS l6 g6 kn
            go_wp2_with fail
            go_roundw
            case rel => exact ⟨i + 1, a, a6, k, c, k6, c6, by go_num, rfl, by omega, W6, by rw [HS'.out]; exact o6, by rw [HO'.out]; exact n6, d6, by omega⟩
            case measure => simp [intOf]; omega
          · have HS' : Hid (fs now (l.take (i + 1)) = fs now (l.take i) ++ [⟨sr, sv⟩]) := hfs.trans (if_neg e)
            have HO' : Hid (fo now (l.take (i + 1)) = fo now (l.take i)) := hfo.trans (if_neg e)
            have hd : decide (sv < now) = false := decide_eq_false e
            clear hfs hfo e
            generalize fs now (l.take i) = gl at *
            go_upto_region 24 with (refine rd_load SK _ rfl _ rfl b off l hx i _ rfl rfl _ gi #[.int .i64 sr, .int .i64 sv] rfl _ Try.underlying41 rfl ?_)
            rw [HAl.out]
            have O3 := O2.alloc (.cells #[.int .i64 sr, .int .i64 sv] 41)
            have N3 := N2.alloc (.cells #[.int .i64 sr, .int .i64 sv] 41)
            have L3 := Blk.new A #[.int .i64 sr, .int .i64 sv] 41
            have W3 := W2.alloc (.cells #[.int .i64 sr, .int .i64 sv] 41)
            have d3 := d2.alloc d2.size (.cells #[.int .i64 sr, .int .i64 sv] 41)
            have q1 : gl.length + 1 ≤ maxLen := by unfold maxLen; omega
            have q2 : (gl.length + 1) * SK.by_ ≤ 140737488355328 := by show (gl.length + 1) * 16 ≤ _; omega
            have q3 : U.heap.size + 1 ≤ (A.alloc (.cells #[.int .i64 sr, .int .i64 sv] 41)).heap.size := by simp; omega
            have kn := (kinds_ne O3 N3).2
            have cW := W2.cell
            clear O2 N2 hl1 hl2 d2
            go_wp2_with (first | (refine blk_load _ rfl 41 _ rfl wr.heap.size rfl _ _ S2 _ Try.underlying41 rfl 2 sy_info rfl ?_) | (at_builtin; refine rws.app_one SK _ rfl _ _ rfl (U.heap.size + 1) _ gl rfl O3 A.heap.size 1 ⟨sr, sv⟩ 41 rfl L3 q1 q2 q3 ?_; intro v6 w6 o6 l6 g6; obtain ⟨a6, c6, e6⟩ := (Own.rd o6).form; obtain ⟨k6, hk6⟩ : ∃ q, q = (gl ++ [(⟨sr, sv⟩ : Sy)]).length := ⟨_, rfl⟩; rw [← hk6] at e6; subst e6; clear hk6; have W6 := W3.below l6 (by omega); have cW6 := W6.cell; have fW6 := W6.free))
            have ne6 := own_ne o6 (show U.heap.size < U.heap.size + 1 by omega)
            have n6 := own_grown N3 g6 kn
            have nn6 := own_ne n6 (show U.heap.size < U.heap.size + 1 by omega)
            have d6 := d3.trans (l6.mono (by omega))
            have z6 := l6.size
            clear O3 N3 L3 W3 d3 q1 q2 cW S2 cS W2 l6 g6 kn
            go_wp2_with fail
            go_roundw
            case rel => exact ⟨i + 1, a6, g, k6, c6, kg, cg, by go_num, rfl, by omega, W6.setCell 1 _, by rw [HS'.out]; exact o6.setCell ne6, by rw [HO'.out]; exact n6.setCell nn6, (but_setCell _ _ _ _).below d6 (Nat.le_refl _), by simp; omega⟩
            case measure => simp [intOf]; omega
        · have hlt' : ¬ (i : Int) < (m : Int) := by omega
          have ei : i = m := by omega
          have HO1 : Hid (Rd SK wr (.slice a k c) (fs now l) ∧ Rd NK wr (.slice g kg cg) (fo now l)) := by
            have h1 := Own.rd O
            have h2 := Own.rd N
            rw [ei, HTk.out] at h1 h2
            exact ⟨h1, h2⟩
          have hfl := HFOl.out m
          rw [HTk.out] at hfl
          have HFl : Hid ((fo now l).length ≤ 1000) := by show _ ≤ 1000; omega
          have CS := fun n u v1 v2 l h1 h2 => same_any n v1 v2 l u h1 h2
          have CE := fun u v1 v2 h1 h2 => ints_same v1 v2 (fo now l) u h1 h2 HFl.out
          clear ei HX HG HFS HFO HFSl HFOl HTk O N hfl F1
          obtain ⟨O1, N1⟩ := HO1.out
          have X2 := X1.below d X1.lt
          have T2 := T.below d T.lt
          have Y2 := Y1.below d Y1.lt
          have Q2 := Q.below d Q.lt
          have Z3 := Z1.below d Z1.lt
          have R2 := R1.below d
          have V3 := V1.below d
          have S2 := Q1.below d
          have V4 := V2.below d
          have P2 := P1.below d
          have G2 := G1.below d
          have bE := bU.trans (d.mono bU.size)
          have cX := X2.cell
          have cT := T2.cell
          have C1 := CS UN _ _ _ UL R2 V3
          clear X1 T Y1 Q Z1 R1 V1 Q1 V2 P1 G1 bU d HO1 HQG X2 T2 R2 V3
          go_wp2_with fail
          refine C1.mono ?_
          rintro e wa ⟨rfl, z⟩
          have Y5 := Y2.below z Y2.lt
          have Q5 := Q2.below z Q2.lt
          have Z5 := Z3.below z Z3.lt
          have W5 := W.below z W.lt
          have S5 := S2.below z
          have V5 := V4.below z
          have P5 := P2.below z
          have O5 := O1.below z
          have G5 := G2.below z
          have N5 := N1.below z
          have b5 := bE.trans (z.mono bE.size)
          have cY := Y5.cell
          have cQ := Q5.cell
          have C2 := CS LN _ _ _ LL S5 V5
          clear C1 cX cT Y2 Q2 Z3 W S2 V4 P2 O1 G2 N1 bE z Y5 Q5 S5 V5
          go_wp2_with fail
          refine C2.mono ?_
          rintro e wb ⟨rfl, z⟩
          have Z6 := Z5.below z Z5.lt
          have W6 := W5.below z W5.lt
          have P6 := P5.below z
          have O6 := O5.below z
          have G6 := G5.below z
          have N6 := N5.below z
          have b6 := b5.trans (z.mono b5.size)
          have cZ := Z6.cell
          have cW := W6.cell
          have C3 := CS n _ _ _ _ P6 O6
          clear C2 cY cQ Z5 W5 P5 O5 G5 N5 b5 z Z6 W6 P6 O6 CS
          go_wp2_with fail
          refine C3.mono ?_
          rintro e wd ⟨rfl, z⟩
          have b7 := b6.trans (z.mono b6.size)
          have C4 := CE _ _ _ (G6.below z) (N6.below z)
          clear C3 cZ cW b6 z G6 N6 CE
          go_wp2_with fail
          refine C4.mono ?_
          rintro e we ⟨rfl, z⟩
          have b8 := b7.trans (z.mono b7.size)
          clear C4 b7 z
          go_wp2_with fail
          go_ret
          exact ⟨rfl, b8⟩
  · obtain ⟨⟨x1, rfl, rfl⟩, ⟨x2, rfl, rfl⟩, rfl, rfl, rfl⟩ := HA.out hA
    replace x1 := x1.symm
    subst x1
    replace x2 := x2.symm
    subst x2
    have hd : (AE != 0) = true := by simpa using hA
    have e0 : qg = 0 := by rw [HQG.out]; rfl
    subst e0
    have CS := fun u s q c h => same_any 0 (.slice s q c) (.slice none 0 0) [] u h (nil_rd u)
    clear HO HA hA HQG HR
    have c1 := X_7.cell
    have c2 := Y_7.cell
    have c3 := Z_7.cell
    clear F_7 G_7
    go_wp2_with fail
    refine (CS _ _ _ _ R_7).mono ?_
    rintro e w8 ⟨rfl, z⟩
    have X_8 := X_7.below z X_7.lt
    have Y_8 := Y_7.below z Y_7.lt
    have Z_8 := Z_7.below z Z_7.lt
    have R_8 := R_7.below z
    have Q_8 := Q_7.below z
    have P_8 := P_7.below z
    have bel_8 := bel_7.trans (z.mono bel_7.size)
    clear X_7 Y_7 Z_7 R_7 Q_7 P_7 bel_7 z c1 c2 c3
    have c2 := Y_8.cell
    go_wp2_with fail
    refine (CS _ _ _ _ Q_8).mono ?_
    rintro e w9 ⟨rfl, z⟩
    have X_9 := X_8.below z X_8.lt
    have Y_9 := Y_8.below z Y_8.lt
    have Z_9 := Z_8.below z Z_8.lt
    have R_9 := R_8.below z
    have Q_9 := Q_8.below z
    have P_9 := P_8.below z
    have bel_9 := bel_8.trans (z.mono bel_8.size)
    clear X_8 Y_8 Z_8 R_8 Q_8 P_8 bel_8 z c2
    have c3 := Z_9.cell
    go_wp2_with fail
    refine (CS _ _ _ _ P_9).mono ?_
    rintro e w10 ⟨rfl, z⟩
    have bE := bel_9.trans (z.mono bel_9.size)
    go_wp2_with fail
    go_ret
    exact ⟨rfl, bE⟩
end Go.Proofs.Ytehiipnafckjbaa.aggi
