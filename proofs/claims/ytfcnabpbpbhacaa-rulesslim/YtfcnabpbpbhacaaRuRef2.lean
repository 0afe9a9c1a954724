/- The reference's own: custref.RuleRight, FlowRight, RulesRight, Meets, Decided. -/
import Derived.Test.YtfcnabpbpbhacaaRuRef
namespace Go.Proofs.Ytfcnabpbpbhacaa.ru
open Go.ChangeShapes Go.WideShapes Go.ChangeAt Go.RowKit Go.BigFrame
open Go.Proofs.Ytfcnabpbpbhacaa Go.Proofs.Ytfcnabpbpbhacaa.pm Go.Proofs.Ytfcnabpbpbhacaa.pf Go.Proofs.Ytfcnabpbpbhacaa.boxes Go.Proofs.Ytfcnabpbpbhacaa.rwr
open Go.Proofs.Ytfcnabpbpbhacaa.rws (Knd Own)

set_option maxRecDepth 20000 in
theorem ruleRight_any (r : Ru) (w : World) (hf : fits r) : Calls Try.prog 26 #[.agg (Ru.cells r)] w fun e w' => e = .returned (.bool (okR r)) ∧ Below w.heap.size w w' := by
  obtain ⟨fa, fl, ta, tl, pr, a, b, c, d, ps⟩ := r
  obtain ⟨f1, f2⟩ := hf
  dsimp only at f1 f2
  unfold okR
  dsimp only [Ru.cells]
  have C1 := fun W => isNetR_any fa fl W f1
  have C2 := fun W => isNetR_any ta tl W f2
  have C3 := fun W => between_any pr 0 255 W
  have C4 := fun W => between_any a 0 b W
  have C5 := fun W => between_any c 0 d W
  generalize isN fa fl = x1 at *
  generalize isN ta tl = x2 at *
  clear f1 f2
  have b0 := (Below.refl w.heap.size w).alloc (Nat.le_refl _) (.cells (XC fa fl ta tl pr a b c d ps) 34)
  have G0 := Blk.new w (XC fa fl ta tl pr a b c d ps) 34
  go_enter Try.func26, Try.ntmps26
  go_upto_region 1 with fail
  generalize hW : w.alloc (Obj.cells (XC fa fl ta tl pr a b c d ps) 34) = W at *
  clear hW
  have c0 := G0.cell
  go_wp2_with fail
  refine (C1 _).mono ?_
  rintro e w1 ⟨rfl, z⟩
  have G0 := G0.below z G0.lt
  clear c0
  have c0 := G0.cell
  have b0 := b0.trans (z.mono b0.size)
  cases x1 with
  | false =>
    go_wp2_with fail
    go_ret
    exact ⟨ret_bool (by simp), b0⟩
  | true =>
    go_wp2_with fail
    refine (C2 _).mono ?_
    rintro e w1 ⟨rfl, z⟩
    have G0 := G0.below z G0.lt
    clear c0
    have c0 := G0.cell
    have b0 := b0.trans (z.mono b0.size)
    cases x2 with
    | false =>
      go_wp2_with fail
      go_ret
      exact ⟨ret_bool (by simp), b0⟩
    | true =>
      by_cases h1 : 0 ≤ pr ∧ pr ≤ 255
      rotate_left
      · rw [decide_eq_false h1] at C3
        go_wp2_with fail
        refine (C3 _).mono ?_
        rintro e w1 ⟨rfl, rfl⟩
        go_wp2_with fail
        go_ret
        exact ⟨ret_bool (by rw [show okP pr = false from (by simp [okP]; omega)]; simp), b0⟩
      rw [decide_eq_true h1] at C3
      go_wp2_with fail
      refine (C3 _).mono ?_
      rintro e w1 ⟨rfl, rfl⟩
      by_cases h2 : 0 ≤ a ∧ a ≤ b
      rotate_left
      · rw [decide_eq_false h2] at C4
        go_wp2_with fail
        refine (C4 _).mono ?_
        rintro e w1 ⟨rfl, rfl⟩
        go_wp2_with fail
        go_ret
        exact ⟨ret_bool (by rw [show okB a b = false from (by simp [okB]; omega)]; simp), b0⟩
      rw [decide_eq_true h2] at C4
      go_wp2_with fail
      refine (C4 _).mono ?_
      rintro e w1 ⟨rfl, rfl⟩
      by_cases h3 : b < 65536
      rotate_left
      · go_wp2_with fail
        go_ret
        exact ⟨ret_bool (by rw [show okB a b = false from (by simp [okB]; omega)]; simp), b0⟩
      by_cases h4 : 0 ≤ c ∧ c ≤ d
      rotate_left
      · rw [decide_eq_false h4] at C5
        go_wp2_with fail
        refine (C5 _).mono ?_
        rintro e w1 ⟨rfl, rfl⟩
        go_wp2_with fail
        go_ret
        exact ⟨ret_bool (by rw [show okB c d = false from (by simp [okB]; omega)]; simp), b0⟩
      rw [decide_eq_true h4] at C5
      go_wp2_with fail
      refine (C5 _).mono ?_
      rintro e w1 ⟨rfl, rfl⟩
      by_cases h5 : d < 65536
      rotate_left
      · go_wp2_with fail
        go_ret
        exact ⟨ret_bool (by rw [show okB c d = false from (by simp [okB]; omega)]; simp; omega), b0⟩
      go_wp2_with fail
      go_ret
      exact ⟨ret_bool (by rw [show okP pr = true from (by simp [okP]; omega), show okB a b = true from (by simp [okB]; omega), show okB c d = true from (by simp [okB]; omega)]; rfl), b0⟩
set_option maxRecDepth 20000 in
theorem flowRight_any (f : Fw) (w : World) : Calls Try.prog 23 #[.agg (Fw.cells f)] w fun e w' => e = .returned (.bool (okF f)) ∧ Below w.heap.size w w' := by
  obtain ⟨f, t, q, x, y⟩ := f
  unfold okF
  dsimp only [Fw.cells]
  have C3 := fun W => between_any q 0 255 W
  have C4 := fun W => between_any x 0 65535 W
  have C5 := fun W => between_any y 0 65535 W
  have b0 := (Below.refl w.heap.size w).alloc (Nat.le_refl _) (.cells (#[.int .u32 (f : Int), .int .u32 (t : Int), .int .i64 q, .int .i64 x, .int .i64 y]) 25)
  have G0 := Blk.new w (#[.int .u32 (f : Int), .int .u32 (t : Int), .int .i64 q, .int .i64 x, .int .i64 y]) 25
  go_enter Try.func23, Try.ntmps23
  go_upto_region 1 with fail
  generalize hW : w.alloc (Obj.cells (#[.int .u32 (f : Int), .int .u32 (t : Int), .int .i64 q, .int .i64 x, .int .i64 y]) 25) = W at *
  clear hW
  have c0 := G0.cell
  by_cases h1 : 0 ≤ q ∧ q ≤ 255
  rotate_left
  · rw [decide_eq_false h1] at C3
    go_wp2_with fail
    refine (C3 _).mono ?_
    rintro e w1 ⟨rfl, rfl⟩
    go_wp2_with fail
    go_ret
    exact ⟨ret_bool (by rw [show okP q = false from (by simp [okP]; omega)]; simp), b0⟩
  rw [decide_eq_true h1] at C3
  go_wp2_with fail
  refine (C3 _).mono ?_
  rintro e w1 ⟨rfl, rfl⟩
  by_cases h2 : 0 ≤ x ∧ x ≤ 65535
  rotate_left
  · rw [decide_eq_false h2] at C4
    go_wp2_with fail
    refine (C4 _).mono ?_
    rintro e w1 ⟨rfl, rfl⟩
    go_wp2_with fail
    go_ret
    exact ⟨ret_bool (by rw [show okB x x = false from (by simp [okB]; omega)]; simp), b0⟩
  rw [decide_eq_true h2] at C4
  go_wp2_with fail
  refine (C4 _).mono ?_
  rintro e w1 ⟨rfl, rfl⟩
  by_cases h3 : 0 ≤ y ∧ y ≤ 65535
  rotate_left
  · rw [decide_eq_false h3] at C5
    go_wp2_with fail
    refine (C5 _).mono ?_
    rintro e w1 ⟨rfl, rfl⟩
    go_wp2_with fail
    go_ret
    exact ⟨ret_bool (by rw [show okB y y = false from (by simp [okB]; omega)]; simp), b0⟩
  rw [decide_eq_true h3] at C5
  go_wp2_with fail
  refine (C5 _).mono ?_
  rintro e w1 ⟨rfl, rfl⟩
  go_wp2_with fail
  go_ret
  exact ⟨ret_bool (by rw [show okP q = true from (by simp [okP]; omega), show okB x x = true from (by simp [okB]; omega), show okB y y = true from (by simp [okB]; omega)]; rfl), b0⟩
set_option maxRecDepth 20000 in
set_option maxHeartbeats 4000000 in
theorem rulesRight_any (v : Value) (l : List Ru) (w : World) (h : Rd UK w v l) (hf : ∀ x ∈ l, fits x) : Calls Try.prog 11 #[v] w fun e w' => e = .returned (.int .i64 (chk l)) ∧ Below w.heap.size w w' := by
  have hml := rd_len h
  by_cases h64 : 64 < l.length
  · have HE : Hid (chk l = 2) := by show _ = _; unfold chk; rw [if_pos h64]
    obtain ⟨sa, sc, rfl⟩ := h.form
    clear h hf
    generalize chk l = E at *
    generalize l.length = m at *
    have hg : (64 : Int) < (m : Int) := by omega
    go_enter Try.func11, Try.ntmps11
    go_wp2_with fail
    go_ret
    exact ⟨ret_int (by rw [HE.out]), Below.refl _ _⟩
  · have HN : Hid (∀ i x, l[i]? = some x → okR x = false → chk l = 4) := fun i x hx ho => chk_no (by omega) hx ho
    have HY : Hid ((∀ j, j < l.length → ∃ x, l[j]? = some x ∧ okR x = true) → chk l = 0) := fun h => chk_yes (by omega) h
    have HG : Hid (∀ i, i < l.length → ∃ x, l[i]? = some x ∧ fits x) := gets hf
    obtain ⟨sa, sc, rfl⟩ := h.form
    have HX : Hid (∀ u, Below w.heap.size w u → 0 < l.length → ∃ b off, sa = some ⟨b, off, none⟩ ∧ b < u.heap.size ∧ ∀ j x, l[j]? = some x → ∀ i, i < UK.k → u.cell? ⟨b, off + j * UK.k + i, none⟩ = (UK.enc x)[i]?) := fun u hu hp => rd_spot (h.below hu) hp
    clear h hf
    generalize chk l = E at *
    generalize hm : l.length = m at *
    clear hm
    have hg : ¬ (64 : Int) < (m : Int) := by omega
    go_enter Try.func11, Try.ntmps11
    go_wp2_with fail
    go_loopw [10] (fun s10 wr => ∃ i : Nat, s10 = .int .i64 (i : Int) ∧ i ≤ m ∧ Hid (∀ j, j < i → ∃ x, l[j]? = some x ∧ okR x = true) ∧ Below w.heap.size w wr) (fun s _ => m - (intOf s).toNat)
    case atStart => exact ⟨0, rfl, Nat.zero_le _, fun j hj => absurd hj (by omega), Below.refl _ _⟩
    case round =>
      obtain ⟨i, rfl, hi, HJ, bel⟩ := hrel
      by_cases hlt : i < m
      · have hlt' : (i : Int) < (m : Int) := by omega
        obtain ⟨x, gx, fx⟩ := HG.out i hlt
        obtain ⟨b, off, rfl, hb2, hx⟩ := HX.out wr bel (by omega)
        have HNx : Hid (okR x = false → E = 4) := fun ho => HN.out i x gx ho
        have HYx : Hid (okR x = true → ∀ j, j < i + 1 → ∃ y, l[j]? = some y ∧ okR y = true) := fun ho j hj => by
          by_cases e : j = i
          · exact ⟨x, by rw [e]; exact gx, ho⟩
          · exact HJ.out j (by omega)
        have CX := fun W => ruleRight_any x W fx
        generalize okR x = ok at *
        have Z := Blk.new wr ZU 34
        have dA := (Below.refl wr.heap.size wr).alloc (Nat.le_refl _) (.cells ZU 34)
        clear HN HY HG HX HJ fx
        go_upto_region 6 with (first
          | (refine rd_load UK _ rfl _ rfl b off l hx i _ rfl rfl _ gx (Ru.cells x) rfl _ Try.underlying34 rfl ?_)
          | (refine blk_store _ rfl 34 _ _ rfl wr.heap.size (Ru.cells x) rfl rfl _ _ Z 10 ru_info rfl rfl (ru_one x) ?_; intro W3 k3 p3))
        have d3 := p3.below dA (Nat.le_refl _)
        have b3 := bel.trans (d3.mono bel.size)
        go_wp2_with (refine blk_load _ rfl 34 _ rfl wr.heap.size rfl _ _ k3 _ Try.underlying34 rfl 10 ru_info rfl ?_)
        refine (CX _).mono ?_
        rintro e w4 ⟨rfl, z4⟩
        have b4 := b3.trans (z4.mono b3.size)
        cases ok with
        | false =>
          go_wp2_with fail
          go_ret
          exact ⟨ret_int (by rw [HNx.out (by trivial)]), b4⟩
        | true =>
          go_wp2_with fail
          go_roundw
          case rel => exact ⟨i + 1, by go_num, by omega, HYx.out (by trivial), b4⟩
          case measure => simp [intOf]; omega
      · have hlt' : ¬ (i : Int) < (m : Int) := by omega
        have ei : i = m := by omega
        have HE : Hid (E = 0) := HY.out fun j hj => HJ.out j (by omega)
        clear HN HY HG HX HJ ei
        go_wp2_with fail
        go_ret
        exact ⟨ret_int (by rw [HE.out]), bel⟩
theorem ixb (l h : Nat → Int) (i : Nat) (hi : i < 5) (u : World) : (Instr.index 52 (.agg (BX l h)) (.int .i64 (i : Int))).run Try.prog u = .ok (.agg (PX (l i) (h i))) u := by
  have c2 : Try.prog.cellsOf 51 = 2 := by kernel_rfl
  have a2 := Try.isAgg51
  have z2 := Try.sizeOf51
  have : i = 0 ∨ i = 1 ∨ i = 2 ∨ i = 3 ∨ i = 4 := by omega
  rcases this with rfl | rfl | rfl | rfl | rfl <;>
    simp [Instr.index, run_underlying Try.underlying52, asIntOf, go_sem, a2, z2]
/-- a flow's numbers, as they lie -/
abbrev NX (n : Nat → Int) : Array Value := #[.int .i64 (n 0), .int .i64 (n 1), .int .i64 (n 2), .int .i64 (n 3), .int .i64 (n 4)]
theorem nx_cell {W : World} {b : Nat} {n : Nat → Int} {t : TypeId} (k : Blk W b (NX n) t) (i : Nat) (hi : i < 5) : W.cell? ⟨b, i, none⟩ = some (.int .i64 (n i)) := by
  have : i = 0 ∨ i = 1 ∨ i = 2 ∨ i = 3 ∨ i = 4 := by omega
  rcases this with rfl | rfl | rfl | rfl | rfl <;> exact k.cell _
set_option maxRecDepth 20000 in
set_option maxHeartbeats 4000000 in
theorem meetsR_any (r : Ru) (f : Fw) (w : World) (hr : okR r = true) (hfr : fits r) (hp : okP f.pr = true) (hf : fitsF f) : Calls Try.prog 24 #[.agg (Ru.cells r), .agg (Fw.cells f)] w fun e w' => e = .returned (.bool (mts f r)) ∧ Below w.heap.size w w' := by
  have CB := fun W => box_any r W hr hfr
  have HM : Hid (mts f r = true ↔ ∀ i, i < 5 → lo r i ≤ ns f i ∧ ns f i ≤ hi r i) := mts_box hr hp
  have G0 := (Blk.new w (Ru.cells r) 34).alloc (.cells (Fw.cells f) 25)
  have F0 := Blk.newAt (w.alloc (.cells (Ru.cells r) 34)) (Fw.cells f) 25 (b := w.heap.size + 1) (by simp)
  have b0 := ((Below.refl w.heap.size w).alloc (Nat.le_refl _) (.cells (Ru.cells r) 34)).alloc (by simp) (.cells (Fw.cells f) 25)
  obtain ⟨hf1, hf2⟩ := hf
  generalize hV : (w.alloc (.cells (Ru.cells r) 34)).alloc (.cells (Fw.cells f) 25) = V at *
  have HV : Hid ((w.alloc (.cells (Ru.cells r) 34)).alloc (.cells (Fw.cells f) 25) = V) := hV
  have hw1 : wrap64 (f.f : Int) = (f.f : Int) := by unfold wrap64; omega
  have hw2 : wrap64 (f.t : Int) = (f.t : Int) := by unfold wrap64; omega
  have c0 := F0.cell
  have N0 := Blk.new V (NX (ns f)) 3
  have G1 := G0.alloc (.cells (NX (ns f)) 3)
  have b1 := b0.alloc b0.size (.cells (NX (ns f)) 3)
  have lt0 := G0.lt
  clear hV hf1 hf2 hp hr hfr
  go_enter Try.func24, Try.ntmps24
  go_upto_region 1 with fail
  rw [HV.out]
  go_wp2_with fail
  change Code.wp _ _ _ _ (V.alloc (.cells (NX (ns f)) 3))
  generalize V.alloc (.cells (NX (ns f)) 3) = U at *
  clear c0 F0 G0 b0 hw1 hw2
  generalize ns f = N at *
  generalize lo r = L at *
  generalize hi r = H at *
  generalize V.heap.size = nb at *
  go_loopw [22] (fun s22 wr => ∃ i : Nat, s22 = .int .i64 (i : Int) ∧ i ≤ 5 ∧ Hid (∀ j, j < i → L j ≤ N j ∧ N j ≤ H j) ∧ Blk wr w.heap.size (Ru.cells r) 34 ∧ Blk wr nb (NX N) 3 ∧ Below w.heap.size w wr) (fun s _ => 5 - (intOf s).toNat)
  case atStart => exact ⟨0, rfl, Nat.zero_le _, fun j hj => absurd hj (by omega), G1, N0, b1⟩
  case round =>
    clear G1 N0 b1
    obtain ⟨i, rfl, hi, HJ, G2, N2, b2⟩ := hrel
    by_cases hlt : i < 5
    · have hlt' : (i : Int) < 5 := by omega
      have cn := nx_cell N2 i hlt
      have ix := ixb L H i hlt
      have CW := fun W => between_any (N i) (L i) (H i) W
      have HS : Hid (¬ (L i ≤ N i ∧ N i ≤ H i) → mts f r = false) := fun h => by
        cases e : mts f r
        · rfl
        · exact absurd (HM.out.1 e i hlt) h
      have HY : Hid ((L i ≤ N i ∧ N i ≤ H i) → ∀ j, j < i + 1 → L j ≤ N j ∧ N j ≤ H j) := fun h j hj => by
        by_cases e : j = i
        · rw [e]; exact h
        · exact HJ.out j (by omega)
      clear HM HJ
      generalize N i = n at *
      generalize L i = l at *
      generalize H i = u at *
      go_upto_region 4 with fail
      go_wp2_with (refine blk_load _ rfl 34 _ rfl w.heap.size rfl _ _ G2 _ Try.underlying34 rfl 10 ru_info rfl ?_)
      refine (CB _).mono ?_
      rintro e w3 ⟨rfl, z3⟩
      have G3 := G2.below z3 G2.lt
      have N3 := N2.below z3 N2.lt
      have b3 := b2.trans (z3.mono b2.size)
      have Z3 := Blk.new w3 (PX 0 0) 51
      have dA := (Below.refl w3.heap.size w3).alloc (Nat.le_refl _) (.cells (PX 0 0) 51)
      clear cn G2 N2 b2 z3
      go_upto_region 5 with (refine blk_store _ rfl 51 _ _ rfl w3.heap.size (PX l u) rfl rfl _ _ Z3 2 px_info rfl rfl (px_one l u) ?_; intro w4 Z4 p4)
      have d4 := p4.below dA (Nat.le_refl _)
      have G4 := G3.below d4 G3.lt
      have N4 := N3.below d4 N3.lt
      have b4 := b3.trans (d4.mono b3.size)
      have c4 := Z4.cell
      clear G3 N3 b3 Z3 dA p4 d4 ix
      by_cases hk : l ≤ n ∧ n ≤ u
      · have HY2 := show Hid _ from HY.out hk
        rw [decide_eq_true hk] at CW
        clear HY HS
        go_wp2_with fail
        refine (CW _).mono ?_
        rintro e w5 ⟨rfl, rfl⟩
        go_wp2_with fail
        go_roundw
        case rel => exact ⟨i + 1, by go_num, by omega, HY2, G4, N4, b4⟩
        case measure => simp [intOf]; omega
      · have HE : Hid (mts f r = false) := HS.out hk
        rw [decide_eq_false hk] at CW
        clear HY HS hk
        go_wp2_with fail
        refine (CW _).mono ?_
        rintro e w5 ⟨rfl, rfl⟩
        go_wp2_with fail
        go_ret
        exact ⟨ret_bool (by rw [HE.out]), b4⟩
    · obtain rfl : i = 5 := by omega
      have HE : Hid (mts f r = true) := HM.out.2 HJ.out
      clear HM HJ
      go_wp2_with fail
      go_ret
      exact ⟨ret_bool (by rw [HE.out]), b2⟩
end Go.Proofs.Ytfcnabpbpbhacaa.ru
