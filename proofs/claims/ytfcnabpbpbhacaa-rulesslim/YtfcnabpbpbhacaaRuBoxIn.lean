/- What custref.BoxIn answers. -/
import Derived.Test.YtfcnabpbpbhacaaRuRef2
import Derived.Test.YtfcnabpbpbhacaaSpecJ
import Derived.Test.YtfcnabpbpbhacaaTold
namespace Go.Proofs.Ytfcnabpbpbhacaa.ru
open Go.ChangeShapes Go.WideShapes Go.ChangeAt Go.RowKit Go.BigFrame
open Go.Proofs.Ytfcnabpbpbhacaa Go.Proofs.Ytfcnabpbpbhacaa.pm Go.Proofs.Ytfcnabpbpbhacaa.pf Go.Proofs.Ytfcnabpbpbhacaa.boxes Go.Proofs.Ytfcnabpbpbhacaa.rwr
open Go.Proofs.Ytfcnabpbpbhacaa.rws (Knd Own)

theorem bx_cell {W : World} {b : Nat} {l h : Nat → Int} {t : TypeId} (k : Blk W b (BX l h) t) (i : Nat) (hi : i < 5) : W.cell? ⟨b, i * 2, none⟩ = some (.int .i64 (l i)) ∧ W.cell? ⟨b, i * 2 + 1, none⟩ = some (.int .i64 (h i)) := by
  have : i = 0 ∨ i = 1 ∨ i = 2 ∨ i = 3 ∨ i = 4 := by omega
  rcases this with rfl | rfl | rfl | rfl | rfl <;> exact ⟨k.cell _, k.cell _⟩
theorem ixA (b i : Nat) (hi : i < 5) (u : World) : (Instr.indexAt 52 (.pointer (some ⟨b, 0, none⟩)) (.int .i64 (i : Int))).run Try.prog u = .ok (.pointer (some ⟨b, i * 2, none⟩)) u := by
  have z2 := Try.sizeOf51
  have : i = 0 ∨ i = 1 ∨ i = 2 ∨ i = 3 ∨ i = 4 := by omega
  rcases this with rfl | rfl | rfl | rfl | rfl <;>
    simp [Instr.indexAt, run_underlying Try.underlying52, Instr.sureAddr, asIntOf, go_sem, Addr.add, z2]
theorem ixP (b o : Nat) (u : World) : (Instr.indexAt 51 (.pointer (some ⟨b, o, none⟩)) (.int .i64 0)).run Try.prog u = .ok (.pointer (some ⟨b, o, none⟩)) u := by
  simp [Instr.indexAt, run_underlying Try.underlying51, Instr.sureAddr, asIntOf, go_sem, Addr.add]
theorem ixQ (b o : Nat) (u : World) : (Instr.indexAt 51 (.pointer (some ⟨b, o, none⟩)) (.int .i64 1)).run Try.prog u = .ok (.pointer (some ⟨b, o + 1, none⟩)) u := by
  simp [Instr.indexAt, run_underlying Try.underlying51, Instr.sureAddr, asIntOf, go_sem, Addr.add]
set_option maxRecDepth 20000 in
set_option maxHeartbeats 8000000 in
theorem boxIn_any (x y : Ru) (w : World) (hx : okR x = true) (hfx : fits x) (hy : okR y = true) (hfy : fits y) : Calls Try.prog 13 #[.agg (Ru.cells x), .agg (Ru.cells y)] w fun e w' => e = .returned (.bool (cov x y)) ∧ Below w.heap.size w w' := by
  have CX := fun W => box_any x W hx hfx
  have CY := fun W => box_any y W hy hfy
  have HM : Hid (cov x y = true ↔ ∀ i, i < 5 → lo x i ≤ lo y i ∧ hi y i ≤ hi x i) := cov_box hx hy
  have G0 := (Blk.new w (Ru.cells x) 34).alloc (.cells (Ru.cells y) 34)
  have F0 := Blk.newAt (w.alloc (.cells (Ru.cells x) 34)) (Ru.cells y) 34 (b := w.heap.size + 1) (by simp)
  have b0 := ((Below.refl w.heap.size w).alloc (Nat.le_refl _) (.cells (Ru.cells x) 34)).alloc (by simp) (.cells (Ru.cells y) 34)
  generalize hV : (w.alloc (.cells (Ru.cells x) 34)).alloc (.cells (Ru.cells y) 34) = V at *
  have HV : Hid ((w.alloc (.cells (Ru.cells x) 34)).alloc (.cells (Ru.cells y) 34) = V) := hV
  clear hV hx hy hfx hfy
  generalize lo x = L at *
  generalize hi x = H at *
  generalize lo y = l at *
  generalize hi y = h at *
  generalize cov x y = C at *
  obtain ⟨fa, fl, ta, tl, pr, a, b, c, d, ps⟩ := x
  obtain ⟨ga, gl, ua, ul, qr, e, f, g, k, qs⟩ := y
  dsimp only [Ru.cells] at *
  go_enter Try.func13, Try.ntmps13
  go_upto_region 1 with fail
  rw [HV.out]
  have ne : Nonempty (spc.In (ab.Ab V)) := ⟨⟨_, ab.Ab.refl V⟩⟩
  have c1 : ∀ (x : spc.In (ab.Ab V)) q, x.W.cell? ⟨w.heap.size, q, none⟩ = (XC fa fl ta tl pr a b c d ps)[q]? := fun x q => (Below.cell x.h (p := ⟨w.heap.size, q, none⟩) G0.lt).trans (G0.cell q)
  have c2 : ∀ (x : spc.In (ab.Ab V)) q, x.W.cell? ⟨w.heap.size + 1, q, none⟩ = (XC ga gl ua ul qr e f g k qs)[q]? := fun x q => (Below.cell x.h (p := ⟨w.heap.size + 1, q, none⟩) F0.lt).trans (F0.cell q)
  refine' lsn.toldJ 6 _ [(1, .agg (BX L H)), (3, .agg (BX l h)), (4, undef), (5, undef)] [(4, 5), (5, 6)]
    (fun q v W => ∃ n, v = .pointer (some ⟨n, 0, none⟩) ∧ V.heap.size ≤ n ∧ Blk W n ZB 52) (fun _ u _ v => u ≠ v) (ab.Ab V) (fun W W' => Below W.heap.size W W')
    (by kernel_rfl) (by simp only [List.take]; exact rfl) (by simp only [List.drop]; exact rfl) (by kernel_rfl) (by kernel_rfl) (ab.Ab.drew V)
    (fun q v W W' hb hs => (let ⟨n, e, z, kk⟩ := hs; ⟨n, e, z, kk.below hb kk.lt⟩)) (by simp only [spc.rep, List.lookup, Nat.zero_add, Nat.reduceAdd, Nat.reduceBEq]; exact rfl) ?_
  repeat (go_big_quiet_step (fail))
  refine wpQuiet_nil ⟨?_, ?_, ?_⟩
  · simp only [List.forall_mem_cons, List.not_mem_nil, false_imp_iff, implies_true, and_true]
    exact ⟨by rintro _ ⟨⟩; rfl, by rintro _ ⟨⟩; rfl⟩
  · simp only [List.forall_mem_cons, List.not_mem_nil, false_imp_iff, implies_true, and_true]
    refine ⟨?_, ?_, ?_, ?_⟩
    · rintro _ ⟨⟩ x u D hC - - -
      exact told.call1 28 _ _ _ rfl (by intro args w; simp [go_sem]) rfl ((CX u).mono fun e w3 ⟨he, hb⟩ => ⟨_, he, Below.trans hC (hb.mono (Below.size hC)), hb, rfl⟩)
    · rintro _ ⟨⟩ x u D hC - - -
      exact told.call1 28 _ _ _ rfl (by intro args w; simp [go_sem]) rfl ((CY u).mono fun e w3 ⟨he, hb⟩ => ⟨_, he, Below.trans hC (hb.mono (Below.size hC)), hb, rfl⟩)
    · rintro _ ⟨⟩ x u D hC hS - -
      have hS2 : D 5 → ∃ n, x 5 = .pointer (some ⟨n, 0, none⟩) ∧ V.heap.size ≤ n ∧ Blk u n ZB 52 := fun h => hS (5, 6) (by simp) h
      have hn : D 5 → x 5 ≠ .pointer (some ⟨u.heap.size, 0, none⟩) := fun h e => by
        obtain ⟨n, e2, _, k2⟩ := hS2 h
        rw [e2] at e
        simp only [Value.pointer.injEq, Option.some.injEq, Addr.mk.injEq, and_true] at e
        have := k2.lt
        omega
      simp [spc.yieldsTo, go_sem]
      exact ⟨Below.alloc hC (Below.size hC) _, (Below.refl _ _).alloc (Nat.le_refl _) _, ⟨Below.size hC, Blk.new _ _ _⟩, fun h => ⟨hn h, fun e => hn h e.symm⟩⟩
    · rintro _ ⟨⟩ x u D hC hS - -
      have hS2 : D 4 → ∃ n, x 4 = .pointer (some ⟨n, 0, none⟩) ∧ V.heap.size ≤ n ∧ Blk u n ZB 52 := fun h => hS (4, 5) (by simp) h
      have hn : D 4 → x 4 ≠ .pointer (some ⟨u.heap.size, 0, none⟩) := fun h e => by
        obtain ⟨n, e2, _, k2⟩ := hS2 h
        rw [e2] at e
        simp only [Value.pointer.injEq, Option.some.injEq, Addr.mk.injEq, and_true] at e
        have := k2.lt
        omega
      simp [spc.yieldsTo, go_sem]
      exact ⟨Below.alloc hC (Below.size hC) _, (Below.refl _ _).alloc (Nat.le_refl _) _, ⟨Below.size hC, Blk.new _ _ _⟩, fun h => ⟨hn h, fun e => hn h e.symm⟩⟩
  intro x W hC hS hR
  obtain ⟨n5, e5, z5, k5⟩ := hS (4, 5) (by simp)
  obtain ⟨n6, e6, z6, k6⟩ := hS (5, 6) (by simp)
  have hne := hR (4, 5) (by simp) (5, 6) (by simp) (by decide)
  simp only at e5 e6 hne
  rw [e5, e6] at hne
  have hne : n6 ≠ n5 := fun e => hne (by rw [e])
  have b1 := b0.trans (Below.mono hC b0.size)
  have lt0 := Below.size b0
  simp only [spc.jn, Act.put, List.setIfInBounds_toArray, List.set_cons_succ, List.set_cons_zero]
  rw [e5, e6]
  clear hS hR ne c1 c2 e5 e6 CX CY G0 F0
  refine blk_store _ rfl 52 _ _ rfl n5 (BX L H) rfl rfl _ _ k5 10 bx_info rfl rfl (bx_one L H) ?_
  intro W5 K5 p5
  have k6 := p5.blk k6 hne
  have b5 := p5.below b1 (by omega)
  refine blk_store _ rfl 52 _ _ rfl n6 (BX l h) rfl rfl _ _ k6 10 bx_info rfl rfl (bx_one l h) ?_
  intro W6 K6 p6
  have K5 := p6.blk K5 (Ne.symm hne)
  have b6 := p6.below b5 (by omega)
  clear p5 p6 k5 k6 b1 b5 hC z5 z6
  go_wp2_with fail
  go_loopw [12] (fun s12 wr => ∃ i : Nat, s12 = .int .i64 (i : Int) ∧ i ≤ 5 ∧ Hid (∀ j, j < i → L j ≤ l j ∧ h j ≤ H j) ∧ Blk wr n5 (BX L H) 52 ∧ Blk wr n6 (BX l h) 52 ∧ Below w.heap.size w wr) (fun s _ => 5 - (intOf s).toNat)
  case atStart => exact ⟨0, rfl, Nat.zero_le _, fun j hj => absurd hj (by omega), K5, K6, b6⟩
  case round =>
    clear K5 K6 b6
    obtain ⟨i, rfl, hi, HJ, K5, K6, b6⟩ := hrel
    by_cases hlt : i < 5
    · have hlt' : (i : Int) < 5 := by omega
      obtain ⟨q1, q2⟩ := bx_cell K5 i hlt
      obtain ⟨q3, q4⟩ := bx_cell K6 i hlt
      have x5 := ixA n5 i hlt
      have x6 := ixA n6 i hlt
      have y5 := ixP n5 (i * 2)
      have y6 := ixP n6 (i * 2)
      have y7 := ixQ n5 (i * 2)
      have y8 := ixQ n6 (i * 2)
      have HS : Hid (¬ (L i ≤ l i ∧ h i ≤ H i) → C = false) := fun hn => by
        cases e : C
        · rfl
        · exact absurd (HM.out.1 e i hlt) hn
      have HY : Hid ((L i ≤ l i ∧ h i ≤ H i) → ∀ j, j < i + 1 → L j ≤ l j ∧ h j ≤ H j) := fun hh j hj => by
        by_cases e : j = i
        · rw [e]; exact hh
        · exact HJ.out j (by omega)
      clear HM HJ
      generalize i * 2 = o at *
      generalize L i = A1 at *
      generalize H i = A2 at *
      generalize l i = B1 at *
      generalize h i = B2 at *
      by_cases h1 : B1 < A1
      · have HE : Hid (C = false) := HS.out (by omega)
        have hd : decide (B1 < A1) = true := decide_eq_true h1
        clear HS HY h1
        go_upto_region 5 with fail
        go_quiet (fail)
        go_wp2_with fail
        go_ret
        exact ⟨ret_bool (by rw [HE.out]), b6.trans ⟨rfl, rfl, rfl, Nat.le_refl _, fun _ _ => rfl⟩⟩
      · have hd : decide (B1 < A1) = false := decide_eq_false h1
        by_cases h2 : A2 < B2
        · have HE : Hid (C = false) := HS.out (by omega)
          have hd2 : decide (A2 < B2) = true := decide_eq_true h2
          clear HS HY h1 h2
          go_upto_region 5 with fail
          go_quiet (fail)
          go_wp2_with fail
          go_ret
          exact ⟨ret_bool (by rw [HE.out]), b6.trans ⟨rfl, rfl, rfl, Nat.le_refl _, fun _ _ => rfl⟩⟩
        · have HY2 := show Hid _ from HY.out ⟨by omega, by omega⟩
          have hd2 : decide (A2 < B2) = false := decide_eq_false h2
          clear HS HY h1 h2
          go_upto_region 5 with fail
          go_quiet (fail)
          go_wp2_with fail
          go_roundw
          case rel => exact ⟨i + 1, by go_num, by omega, HY2, K5.drewN _, K6.drewN _, b6.trans ⟨rfl, rfl, rfl, Nat.le_refl _, fun _ _ => rfl⟩⟩
          case measure => simp [intOf]; omega
    · obtain rfl : i = 5 := by omega
      have HE : Hid (C = true) := HM.out.2 HJ.out
      clear HM HJ
      go_wp2_with fail
      go_ret
      exact ⟨ret_bool (by rw [HE.out]), b6⟩
end Go.Proofs.Ytfcnabpbpbhacaa.ru
