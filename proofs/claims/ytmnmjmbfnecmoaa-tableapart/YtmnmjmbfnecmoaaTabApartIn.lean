/- The walk through custkeep.TableApart. -/
import Derived.Test.YtmnmjmbfnecmoaaTabLives
import Derived.Test.YtmnmjmbfnecmoaaTabRef2
namespace Go.Proofs.Ytmnmjmbfnecmoaa.tai
open Go.ChangeShapes Go.WideShapes Go.ChangeAt Go.RowKit Go.BigFrame
open Go.Proofs.Ytmnmjmbfnecmoaa Go.Proofs.Ytmnmjmbfnecmoaa.tm Go.Proofs.Ytmnmjmbfnecmoaa.tb Go.Proofs.Ytmnmjmbfnecmoaa.tsh Go.Proofs.Ytmnmjmbfnecmoaa.tg Go.Proofs.Ytmnmjmbfnecmoaa.tp Go.Proofs.Ytmnmjmbfnecmoaa.tr Go.Proofs.Ytmnmjmbfnecmoaa.tk Go.Proofs.Ytmnmjmbfnecmoaa.boxes Go.Proofs.Ytmnmjmbfnecmoaa.rwr
open Go.Proofs.Ytmnmjmbfnecmoaa.rws (Knd Own)

theorem same_ask {l m : List St} {o : Nat} (h : terr l = 0) (hm : terr m = 0) (hv : ∀ v, Val m o v ↔ Val l o v) : gv m o = gv l o ∧ fe m o = fe l o := by
  rcases fe_val h o with ⟨a, b⟩ | ⟨a, b, c⟩
  · obtain ⟨d, e⟩ := fe_yes hm ((hv _).2 b)
    exact ⟨e, by rw [d, a]⟩
  · obtain ⟨d, e⟩ := fe_no hm fun v hx => c v ((hv v).1 hx)
    exact ⟨by rw [e, b], by rw [d, a]⟩
theorem apart_put {l : List St} {k o : Nat} (h : terr l = 0) (hne : o ≠ k) (y : Int) (hp : pe l k = 0) : terr (pl l k y) = 0 ∧ gv (pl l k y) o = gv l o ∧ fe (pl l k y) o = fe l o := by
  rcases put_spec h k y with ⟨a, _⟩ | ⟨_, _, a, _, _, b⟩
  · rw [hp] at a; exact absurd a (by decide)
  · exact ⟨a, same_ask h a fun v => by rw [b, if_neg hne]⟩
theorem apart_rem {l : List St} {k o : Nat} (h : terr l = 0) (hne : o ≠ k) (hf : fe l k = 0) : terr (rl l k) = 0 ∧ gv (rl l k) o = gv l o ∧ fe (rl l k) o = fe l o := by
  obtain ⟨a, _, _, b⟩ := rem_spec h k hf
  exact ⟨a, same_ask h a fun v => by rw [b]; exact ⟨fun h => h.2, fun h => ⟨hne, h⟩⟩⟩
set_option maxHeartbeats 2000000 in
theorem clo1 (v : Value) (l : List St) (k : Nat) (y : Int) (a0 a1 a2 : Nat) (t1 t2 : TypeId) (w : World) (hr : Rd SK w v l) (A0 : Blk w a0 #[v] 24) (A1 : Blk w a1 #[.int .u64 (k : Int)] t1) (A2 : Blk w a2 #[.int .i64 y] t2) :
    Calls Try.prog 22 #[.pointer (some ⟨a0, 0, none⟩), .pointer (some ⟨a1, 0, none⟩), .pointer (some ⟨a2, 0, none⟩)] w fun e w' => ∃ v', e = .returned (.tuple #[.agg #[v'], .int .i64 (pe l k)]) ∧ Own SK w' w.heap.size v' (pl l k y) ∧ Below w.heap.size w w' := by
  have F0 := Blk.new w Z1 24
  have d0 := (Below.refl w.heap.size w).alloc (Nat.le_refl _) (.cells Z1 24)
  have r0 := hr.below d0
  have c0 := (A0.alloc (.cells Z1 24)).cell
  have c1 := (A1.alloc (.cells Z1 24)).cell
  have c2 := (A2.alloc (.cells Z1 24)).cell
  have C := put_any v l k y _ r0
  obtain ⟨sa, sc, rfl⟩ := hr.form
  clear hr r0 A0 A1 A2
  generalize pe l k = PE at *
  generalize pl l k y = PL at *
  generalize l.length = n at *
  go_enter Try.func22, Try.ntmps22
  go_wp2_with fail
  refine C.mono ?_
  rintro e w1 ⟨v1, rfl, o1, l1⟩
  obtain ⟨sa1, sc1, rfl⟩ := (Own.rd o1).form
  have F1 := F0.below l1 F0.lt
  have d1 := d0.trans (l1.mono d0.size)
  have ne1 := tl.own_ne o1 F0.lt
  clear C F0 d0 c0 c1 c2 l1
  go_wp2_with (refine blk_store _ rfl 24 _ _ rfl w.heap.size _ rfl rfl _ _ F1 1 tb_info rfl rfl (tb_one _ _ _) ?_; intro W3 K3 p3)
  have d3 := p3.below d1 (Nat.le_refl _)
  have o3 := (o1.but p3 ne1).mono (show w.heap.size ≤ (w.alloc (.cells Z1 24)).heap.size by simp)
  exact blk_ret2 rfl rfl w.heap.size _ 24 rfl K3 _ Try.underlying24 rfl 1 tb_info rfl ⟨_, rfl, o3, d3⟩
set_option maxHeartbeats 2000000 in
theorem clo2 (v : Value) (l : List St) (k : Nat) (a0 a1 : Nat) (t1 : TypeId) (w : World) (hr : Rd SK w v l) (A0 : Blk w a0 #[v] 24) (A1 : Blk w a1 #[.int .u64 (k : Int)] t1) :
    Calls Try.prog 23 #[.pointer (some ⟨a0, 0, none⟩), .pointer (some ⟨a1, 0, none⟩)] w fun e w' => ∃ v', e = .returned (.tuple #[.agg #[v'], .int .i64 (fe l k)]) ∧ Own SK w' w.heap.size v' (rl l k) ∧ Below w.heap.size w w' := by
  have F0 := Blk.new w Z1 24
  have d0 := (Below.refl w.heap.size w).alloc (Nat.le_refl _) (.cells Z1 24)
  have r0 := hr.below d0
  have c0 := (A0.alloc (.cells Z1 24)).cell
  have c1 := (A1.alloc (.cells Z1 24)).cell
  have C := remove_any v l k _ r0
  obtain ⟨sa, sc, rfl⟩ := hr.form
  clear hr r0 A0 A1
  generalize fe l k = FE at *
  generalize rl l k = RL at *
  generalize l.length = n at *
  go_enter Try.func23, Try.ntmps23
  go_wp2_with fail
  refine C.mono ?_
  rintro e w1 ⟨v1, rfl, o1, l1⟩
  obtain ⟨sa1, sc1, rfl⟩ := (Own.rd o1).form
  have F1 := F0.below l1 F0.lt
  have d1 := d0.trans (l1.mono d0.size)
  have ne1 := tl.own_ne o1 F0.lt
  clear C F0 d0 c0 c1 l1
  go_wp2_with (refine blk_store _ rfl 24 _ _ rfl w.heap.size _ rfl rfl _ _ F1 1 tb_info rfl rfl (tb_one _ _ _) ?_; intro W3 K3 p3)
  have d3 := p3.below d1 (Nat.le_refl _)
  have o3 := (o1.but p3 ne1).mono (show w.heap.size ≤ (w.alloc (.cells Z1 24)).heap.size by simp)
  exact blk_ret2 rfl rfl w.heap.size _ 24 rfl K3 _ Try.underlying24 rfl 1 tb_info rfl ⟨_, rfl, o3, d3⟩
set_option maxRecDepth 20000 in
set_option maxHeartbeats 8000000 in
theorem walk (v : Value) (l : List St) (k o : Nat) (y : Int) (w : World) (hr : Rd SK w v l) (hk : Ky l) (hkk : k < 18446744073709551616) :
    Calls Try.prog 7 #[.agg #[v], .int .u64 (k : Int), .int .u64 (o : Int), .int .i64 y] w fun e w' => e = .returned (.bool true) ∧ Below w.heap.size w w' := by
  have C1 := fun u hu => get_any v l o u hu
  have K1 := fun u hu => clo1 v l k y w.heap.size (w.heap.size + 1) (w.heap.size + 2) 25 3 u hu
  have K2 := fun u hu => clo2 v l k w.heap.size (w.heap.size + 1) 25 u hu
  have G1 := fun u x hu => get_any x (pl l k y) o u hu
  have G2 := fun u x hu => get_any x (rl l k) o u hu
  have T1 := fun u x hu => rr.right_any x (pl l k y) u hu (put_ky hk hkk y)
  have T2 := fun u x hu => rr.right_any x (rl l k) u hu (rem_ky hk k)
  have HT : Hid (fe l o = 0 ∨ fe l o = 7 → terr l = 0) := fun h => by
    rcases fe_cases l o with ⟨a, b, _⟩ | ⟨_, a, _⟩ | ⟨_, a, _⟩
    · rcases terr_cases l with ⟨c, _⟩ | ⟨c, _⟩ | ⟨c, _⟩
      · rw [c] at a; rcases h with h | h <;> omega
      · rw [c] at a; rcases h with h | h <;> omega
      · exact c
    · exact a
    · exact a
  have HP : Hid (terr l = 0 → o ≠ k → pe l k = 0 → terr (pl l k y) = 0 ∧ gv (pl l k y) o = gv l o ∧ fe (pl l k y) o = fe l o) := fun a b c => apart_put a b y c
  have HR : Hid (terr l = 0 → o ≠ k → fe l k = 0 → terr (rl l k) = 0 ∧ gv (rl l k) o = gv l o ∧ fe (rl l k) o = fe l o) := fun a b c => apart_rem a b c
  generalize fe l o = FO at *
  generalize gv l o = GO at *
  generalize pe l k = PE at *
  generalize pl l k y = PL at *
  generalize fe l k = FE at *
  generalize rl l k = RL at *
  have F0 := ((Blk.new w #[v] 24).alloc (.cells #[.int .u64 (k : Int)] 25)).alloc (.cells #[.int .i64 y] 3)
  have F1 := (Blk.newAt (w.alloc (.cells #[v] 24)) #[.int .u64 (k : Int)] 25 (b := w.heap.size + 1) (by simp)).alloc (.cells #[.int .i64 y] 3)
  have F2 := Blk.newAt ((w.alloc (.cells #[v] 24)).alloc (.cells #[.int .u64 (k : Int)] 25)) #[.int .i64 y] 3 (b := w.heap.size + 2) (by simp)
  have d0 := (((Below.refl w.heap.size w).alloc (Nat.le_refl _) (.cells #[v] 24)).alloc (by simp) (.cells #[.int .u64 (k : Int)] 25)).alloc (by simp; omega) (.cells #[.int .i64 y] 3)
  have r0 := hr.below d0
  obtain ⟨sa, sc, rfl⟩ := hr.form
  clear hr hk hkk
  generalize hn : l.length = n at *
  clear hn
  obtain ⟨V, HV⟩ : ∃ V, Hid (((w.alloc (.cells #[.slice sa n sc] 24)).alloc (.cells #[.int .u64 (k : Int)] 25)).alloc (.cells #[.int .i64 y] 3) = V) := ⟨_, rfl⟩
  rw [HV.out] at F0 F1 F2 d0 r0
  have c0 := F0.cell
  go_enter Try.func7, Try.ntmps7
  go_upto_region 1 with fail
  rw [HV.out]
  go_wp2_with fail
  refine (C1 _ r0).mono ?_
  rintro e w1 ⟨rfl, l1⟩
  have A0 := F0.below l1 F0.lt
  have A1 := F1.below l1 F1.lt
  have A2 := F2.below l1 F2.lt
  have d1 := d0.trans (l1.mono d0.size)
  have r1 := r0.below l1
  clear F0 F1 F2 d0 r0 l1 c0 C1 HV
  go_wp2_with fail
  refine (tl.lives _).mono ?_
  rintro e w2 ⟨rfl, l2⟩
  replace A0 := A0.below l2 A0.lt
  replace A1 := A1.below l2 A1.lt
  replace A2 := A2.below l2 A2.lt
  replace d1 := d1.trans (l2.mono d1.size)
  replace r1 := r1.below l2
  clear l2
  have ck := A1.cell 0
  by_cases hko : k = o
  · subst hko
    clear HT HP HR K1 K2 G1 G2 T1 T2 A0 A1 A2 r1
    go_wp2_with fail
    refine (tl.lives _).mono ?_
    rintro e w4 ⟨rfl, l4⟩
    have d4 := d1.trans (l4.mono d1.size)
    go_wp2_with fail
    go_ret
    exact ⟨rfl, d4⟩
  have hko' : ((k : Int) == (o : Int)) = false := by simp; omega
  by_cases hfo : FO = 0 ∨ FO = 7
  · have ht := HT.out hfo
    have HP' : Hid (PE = 0 → terr PL = 0 ∧ gv PL o = GO ∧ fe PL o = FO) := HP.out ht (fun e => hko e.symm)
    have HR' : Hid (FE = 0 → terr RL = 0 ∧ gv RL o = GO ∧ fe RL o = FO) := HR.out ht (fun e => hko e.symm)
    have hq : (FO != 0) = false ∨ ((FO != 0) = true ∧ (FO != 7) = false) := by
      rcases hfo with rfl | rfl
      · exact Or.inl rfl
      · exact Or.inr ⟨rfl, rfl⟩
    have HQ : Hid ((FO != 0) = false ∨ ((FO != 0) = true ∧ (FO != 7) = false)) := hq
    clear HT HP HR ht hfo hko
    have ix0 : ∀ u, (Instr.index 49 (.agg #[.func (.func 22) #[] #[.pointer (some ⟨w.heap.size, 0, none⟩), .pointer (some ⟨w.heap.size + 1, 0, none⟩), .pointer (some ⟨w.heap.size + 2, 0, none⟩)], .func (.func 23) #[] #[.pointer (some ⟨w.heap.size, 0, none⟩), .pointer (some ⟨w.heap.size + 1, 0, none⟩)]]) (.int .i64 0)).run Try.prog u = .ok (.func (.func 22) #[] #[.pointer (some ⟨w.heap.size, 0, none⟩), .pointer (some ⟨w.heap.size + 1, 0, none⟩), .pointer (some ⟨w.heap.size + 2, 0, none⟩)]) u := fun u => by simp [Instr.index, run_underlying Try.underlying49, asIntOf, go_sem]
    have ix1 : ∀ u, (Instr.index 49 (.agg #[.func (.func 22) #[] #[.pointer (some ⟨w.heap.size, 0, none⟩), .pointer (some ⟨w.heap.size + 1, 0, none⟩), .pointer (some ⟨w.heap.size + 2, 0, none⟩)], .func (.func 23) #[] #[.pointer (some ⟨w.heap.size, 0, none⟩), .pointer (some ⟨w.heap.size + 1, 0, none⟩)]]) (.int .i64 1)).run Try.prog u = .ok (.func (.func 23) #[] #[.pointer (some ⟨w.heap.size, 0, none⟩), .pointer (some ⟨w.heap.size + 1, 0, none⟩)]) u := fun u => by simp [Instr.index, run_underlying Try.underlying49, asIntOf, go_sem]
    rcases hq with hq | ⟨hq, hq2⟩
    all_goals
      go_wp2_with fail
      go_loopw [42] (fun s42 wr => ∃ i : Int, s42 = .int .i64 i ∧ (i = 0 ∨ i = 1 ∨ i = 2) ∧ Below w2.heap.size w2 wr) (fun i _ => 2 - (intOf i).toNat)
      case atStart => exact ⟨0, rfl, Or.inl rfl, Below.refl _ _⟩
      case round =>
        obtain ⟨i, rfl, hi, bel⟩ := hrel
        have d9 := d1.trans (bel.mono d1.size)
        replace A0 := A0.below bel A0.lt
        replace A1 := A1.below bel A1.lt
        replace A2 := A2.below bel A2.lt
        replace r1 := r1.below bel
        clear ck
        rcases hi with rfl | rfl | rfl
        · go_wp2_with fail
          refine (K1 _ r1 A0 A1 A2).mono ?_
          rintro e w4 ⟨v4, rfl, o4, l4⟩
          have a4' := Own.rd o4
          obtain ⟨sa4, sc4, rfl⟩ := a4'.form
          obtain ⟨n4, hn4⟩ : ∃ n, n = PL.length := ⟨_, rfl⟩
          rw [← hn4] at a4' ⊢
          have bel4' := bel.trans (l4.mono bel.size)
          clear l4 o4 hn4 A0 A1 A2 r1 bel
          have dA := (Below.refl w4.heap.size w4).alloc (Nat.le_refl _) (.cells Z1 24)
          go_upto_region 8 with (refine blk_store _ rfl 24 _ _ rfl w4.heap.size _ rfl rfl _ _ (Blk.new w4 Z1 24) 1 tb_info rfl rfl (tb_one _ _ _) ?_; intro w5 X5 p5)
          have l5 := p5.below dA (Nat.le_refl _)
          have a5 := a4'.below l5
          have bel5 := bel4'.trans (l5.mono bel4'.size)
          clear a4' bel4' dA p5 l5
          generalize w4.heap.size = x4 at *
          by_cases hp : PE = 0
          · obtain ⟨t1, t2, t3⟩ := HP'.out hp
            have G' := G1 _ _ a5
            have T' := fun u => T1 u (.slice sa4 n4 sc4)
            rw [t2, t3] at G'
            rw [t1] at T'
            subst hp
            have c5 := X5.cell
            clear t1 t2 t3 HP' HR' G1 G2 T1 T2 K1 K2
            go_wp2_with fail
            refine G'.mono ?_
            rintro e w6 ⟨rfl, l6⟩
            have a6 := a5.below l6
            have c6 := (X5.below l6 X5.lt).cell
            have bel6 := bel5.trans (l6.mono bel5.size)
            clear G' c5 X5 a5 bel5 l6
            go_wp2_with fail
            refine (T' _ a6).mono ?_
            rintro e w7 ⟨rfl, l7⟩
            have bel7 := bel6.trans (l7.mono bel6.size)
            clear T' c6 a6 bel6 l7
            go_wp2_with fail
            go_roundw
            case rel => exact ⟨1, rfl, by decide, bel7⟩
            case measure => simp [intOf]
          · have hp' : (PE != 0) = true := by simpa using hp
            clear HP' HR' G1 G2 T1 T2 K1 K2 hp
            go_wp2_with fail
            go_roundw
            case rel => exact ⟨1, rfl, by decide, bel5⟩
            case measure => simp [intOf]
        · go_wp2_with fail
          refine (K2 _ r1 A0 A1).mono ?_
          rintro e w4 ⟨v4, rfl, o4, l4⟩
          have a4' := Own.rd o4
          obtain ⟨sa4, sc4, rfl⟩ := a4'.form
          obtain ⟨n4, hn4⟩ : ∃ n, n = RL.length := ⟨_, rfl⟩
          rw [← hn4] at a4' ⊢
          have bel4' := bel.trans (l4.mono bel.size)
          clear l4 o4 hn4 A0 A1 A2 r1 bel
          have dA := (Below.refl w4.heap.size w4).alloc (Nat.le_refl _) (.cells Z1 24)
          go_upto_region 8 with (refine blk_store _ rfl 24 _ _ rfl w4.heap.size _ rfl rfl _ _ (Blk.new w4 Z1 24) 1 tb_info rfl rfl (tb_one _ _ _) ?_; intro w5 X5 p5)
          have l5 := p5.below dA (Nat.le_refl _)
          have a5 := a4'.below l5
          have bel5 := bel4'.trans (l5.mono bel4'.size)
          clear a4' bel4' dA p5 l5
          generalize w4.heap.size = x4 at *
          by_cases hp : FE = 0
          · obtain ⟨t1, t2, t3⟩ := HR'.out hp
            have G' := G2 _ _ a5
            have T' := fun u => T2 u (.slice sa4 n4 sc4)
            rw [t2, t3] at G'
            rw [t1] at T'
            subst hp
            have c5 := X5.cell
            clear t1 t2 t3 HP' HR' G1 G2 T1 T2 K1 K2
            go_wp2_with fail
            refine G'.mono ?_
            rintro e w6 ⟨rfl, l6⟩
            have a6 := a5.below l6
            have c6 := (X5.below l6 X5.lt).cell
            have bel6 := bel5.trans (l6.mono bel5.size)
            clear G' c5 X5 a5 bel5 l6
            go_wp2_with fail
            refine (T' _ a6).mono ?_
            rintro e w7 ⟨rfl, l7⟩
            have bel7 := bel6.trans (l7.mono bel6.size)
            clear T' c6 a6 bel6 l7
            go_wp2_with fail
            go_roundw
            case rel => exact ⟨2, rfl, by decide, bel7⟩
            case measure => simp [intOf]
          · have hp' : (FE != 0) = true := by simpa using hp
            clear HP' HR' G1 G2 T1 T2 K1 K2 hp
            go_wp2_with fail
            go_roundw
            case rel => exact ⟨2, rfl, by decide, bel5⟩
            case measure => simp [intOf]
        · clear HP' HR' G1 G2 T1 T2 K1 K2 A0 A1 A2 r1 ix0 ix1
          go_wp2_with fail
          go_ret
          exact ⟨rfl, d9⟩
  · have h1 : (FO != 0) = true := by simp; omega
    have h2 : (FO != 7) = true := by simp; omega
    clear HT HP HR K1 K2 G1 G2 T1 T2 A0 A1 A2 r1 hfo
    go_wp2_with fail
    refine (tl.lives _).mono ?_
    rintro e w4 ⟨rfl, l4⟩
    have d4 := d1.trans (l4.mono d1.size)
    go_wp2_with fail
    go_ret
    exact ⟨rfl, d4⟩
end Go.Proofs.Ytmnmjmbfnecmoaa.tai
