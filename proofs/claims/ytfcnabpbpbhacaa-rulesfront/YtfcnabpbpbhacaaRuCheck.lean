/- What package rules' Check, Decide and Covers answer. -/
import Derived.Test.YtfcnabpbpbhacaaRuShelf
import Derived.Test.YtfcnabpbpbhacaaTold
namespace Go.Proofs.Ytfcnabpbpbhacaa.ru
open Go.ChangeShapes Go.WideShapes Go.ChangeAt Go.RowKit Go.BigFrame
open Go.Proofs.Ytfcnabpbpbhacaa Go.Proofs.Ytfcnabpbpbhacaa.pm Go.Proofs.Ytfcnabpbpbhacaa.pf Go.Proofs.Ytfcnabpbpbhacaa.boxes Go.Proofs.Ytfcnabpbpbhacaa.rwr
open Go.Proofs.Ytfcnabpbpbhacaa.rws (Knd Own)

abbrev ZU : Array Value := #[.int .u32 0, .int .i64 0, .int .u32 0, .int .i64 0, .int .i64 0, .int .i64 0, .int .i64 0, .int .i64 0, .int .i64 0, .bool false]
theorem chk_no {l : List Ru} {x : Ru} {i : Nat} (hm : l.length ≤ 64) (hx : l[i]? = some x) (h : okR x = false) : chk l = 4 := by
  unfold chk
  rw [if_neg (by omega), if_neg]
  rw [List.all_eq_true]
  intro ha
  rw [ha x (List.mem_of_getElem? hx)] at h
  exact absurd h (by decide)
theorem chk_yes {l : List Ru} (hm : l.length ≤ 64) (h : ∀ j, j < l.length → ∃ x, l[j]? = some x ∧ okR x = true) : chk l = 0 := by
  rw [chk_zero]
  refine ⟨hm, fun r hr => ?_⟩
  obtain ⟨j, hj, e⟩ := List.getElem_of_mem hr
  obtain ⟨x, hx, ho⟩ := h j hj
  rw [List.getElem?_eq_getElem hj, e] at hx
  rw [Option.some.inj hx]; exact ho
theorem gets {l : List Ru} (hf : ∀ x ∈ l, fits x) : ∀ i, i < l.length → ∃ x, l[i]? = some x ∧ fits x := fun i hi => ⟨l[i], List.getElem?_eq_getElem hi, hf _ (List.getElem_mem hi)⟩
set_option maxRecDepth 20000 in
set_option maxHeartbeats 4000000 in
theorem check_any (v : Value) (l : List Ru) (w : World) (h : Rd UK w v l) (hf : ∀ x ∈ l, fits x) : Calls Try.prog 10 #[v] w fun e w' => e = .returned (.int .i64 (chk l)) ∧ Below w.heap.size w w' := by
  have hml := rd_len h
  by_cases h64 : 64 < l.length
  · have HE : Hid (chk l = 2) := by show _ = _; unfold chk; rw [if_pos h64]
    obtain ⟨sa, sc, rfl⟩ := h.form
    clear h hf
    generalize chk l = E at *
    generalize l.length = m at *
    have hg : (64 : Int) < (m : Int) := by omega
    go_enter Try.func10, Try.ntmps10
    go_wp2_with fail
    go_ret
    exact ⟨ret_int (by rw [HE.out]), Below.refl _ _⟩
  · have HN : Hid (∀ i x, l[i]? = some x → okR x = false → chk l = 4) := fun i x hx ho => chk_no (by omega) hx ho
    have HY : Hid ((∀ j, j < l.length → ∃ x, l[j]? = some x ∧ okR x = true) → chk l = 0) := fun h => chk_yes (by omega) h
    have HG : Hid (∀ i, i < l.length → ∃ x, l[i]? = some x ∧ fits x) := gets hf
    obtain ⟨sa, sc, rfl⟩ := h.form
    have HX : Hid (∀ u, Below w.heap.size w u → 0 < l.length → ∃ b off, sa = some ⟨b, off, none⟩ ∧ b < u.heap.size ∧ ∀ j x, l[j]? = some x → ∀ i, i < UK.k → u.cell? ⟨b, off + j * UK.k + i, none⟩ = (UK.enc x)[i]?) := fun u hu hp => rd_spot (h.below hu) hp
    clear h hf
    generalize chk l = E at *
    generalize hm : l.length = m at *
    clear hm
    have hg : ¬ (64 : Int) < (m : Int) := by omega
    go_enter Try.func10, Try.ntmps10
    go_wp2_with fail
    go_loopw [10] (fun s10 wr => ∃ i : Nat, s10 = .int .i64 (i : Int) ∧ i ≤ m ∧ Hid (∀ j, j < i → ∃ x, l[j]? = some x ∧ okR x = true) ∧ Below w.heap.size w wr) (fun s _ => m - (intOf s).toNat)
    case atStart => exact ⟨0, rfl, Nat.zero_le _, fun j hj => absurd hj (by omega), Below.refl _ _⟩
    case round =>
      obtain ⟨i, rfl, hi, HJ, bel⟩ := hrel
      by_cases hlt : i < m
      · have hlt' : (i : Int) < (m : Int) := by omega
        obtain ⟨x, gx, fx⟩ := HG.out i hlt
        obtain ⟨b, off, rfl, hb2, hx⟩ := HX.out wr bel (by omega)
        have HNx : Hid (okR x = false → E = 4) := fun ho => HN.out i x gx ho
        have HYx : Hid (okR x = true → ∀ j, j < i + 1 → ∃ y, l[j]? = some y ∧ okR y = true) := fun ho j hj => by
          by_cases e : j = i
          · exact ⟨x, by rw [e]; exact gx, ho⟩
          · exact HJ.out j (by omega)
        have CX := fun W => isRule_any x W fx
        generalize okR x = ok at *
        have Z := Blk.new wr ZU 34
        have dA := (Below.refl wr.heap.size wr).alloc (Nat.le_refl _) (.cells ZU 34)
        clear HN HY HG HX HJ fx
        go_upto_region 6 with (first
          | (refine rd_load UK _ rfl _ rfl b off l hx i _ rfl rfl _ gx (Ru.cells x) rfl _ Try.underlying34 rfl ?_)
          | (refine blk_store _ rfl 34 _ _ rfl wr.heap.size (Ru.cells x) rfl rfl _ _ Z 10 ru_info rfl rfl (ru_one x) ?_; intro W3 k3 p3))
        have d3 := p3.below dA (Nat.le_refl _)
        have b3 := bel.trans (d3.mono bel.size)
        go_wp2_with (refine blk_load _ rfl 34 _ rfl wr.heap.size rfl _ _ k3 _ Try.underlying34 rfl 10 ru_info rfl ?_)
        refine (CX _).mono ?_
        rintro e w4 ⟨rfl, z4⟩
        have b4 := b3.trans (z4.mono b3.size)
        cases ok with
        | false =>
          go_wp2_with fail
          go_ret
          exact ⟨ret_int (by rw [HNx.out (by trivial)]), b4⟩
        | true =>
          go_wp2_with fail
          go_roundw
          case rel => exact ⟨i + 1, by go_num, by omega, HYx.out (by trivial), b4⟩
          case measure => simp [intOf]; omega
      · have hlt' : ¬ (i : Int) < (m : Int) := by omega
        have ei : i = m := by omega
        have HE : Hid (E = 0) := HY.out fun j hj => HJ.out j (by omega)
        clear HN HY HG HX HJ ei
        go_wp2_with fail
        go_ret
        exact ⟨ret_int (by rw [HE.out]), bel⟩
theorem ret_three {a a' : Bool} {b b' c c' : Int} (h1 : a = a') (h2 : b = b') (h3 : c = c') : Ending.returned (.tuple #[.bool a, .int .i64 b, .int .i64 c]) = .returned (.tuple #[.bool a', .int .i64 b', .int .i64 c']) := by rw [h1, h2, h3]
theorem ret_be {a a' : Bool} {c c' : Int} (h1 : a = a') (h3 : c = c') : Ending.returned (.tuple #[.bool a, .int .i64 c]) = .returned (.tuple #[.bool a', .int .i64 c']) := by rw [h1, h3]
set_option maxRecDepth 20000 in
set_option maxHeartbeats 4000000 in
theorem decide_any (v : Value) (l : List Ru) (f : Fw) (o : Bool) (w : World) (h : Rd UK w v l) (hl : ∀ x ∈ l, fits x) (hf : fitsF f) : Calls Try.prog 8 #[v, .agg (Fw.cells f), .bool o] w fun e w' => e = .returned (.tuple #[.bool (dpas l f o), .int .i64 (didx l f), .int .i64 (derr l f)]) ∧ Below w.heap.size w w' := by
  have G0 := Blk.new w (Fw.cells f) 25
  have b0 := (Below.refl w.heap.size w).alloc (Nat.le_refl _) (.cells (Fw.cells f) 25)
  have r0 := h.below b0
  have CC := check_any v l _ r0 hl
  have CF := fun W => isFlow_any f W
  have CI : Hid (∀ u, Below (w.alloc (.cells (Fw.cells f) 25)).heap.size (w.alloc (.cells (Fw.cells f) 25)) u → Calls Try.prog 20 #[v, .func (.func 21) #[] #[.pointer (some ⟨w.heap.size, 0, none⟩)]] u fun e w' => e = .returned (.int .i64 (fst f l)) ∧ Below u.heap.size u w') := fun u hu => index_any v l f w.heap.size u (r0.below hu) hl (G0.below hu G0.lt) hf
  have HE : Hid (derr l f = if chk l ≠ 0 then chk l else if okF f = true then 0 else 1) := rfl
  have HD : Hid (dpas l f o = if derr l f = 0 then pas f l o else false) := rfl
  have HJ : Hid (didx l f = if derr l f = 0 then fst f l else 0) := rfl
  have HQ : Hid (fst f l < 0 → fst f l = -1 ∧ pas f l o = o) := fun h => ⟨(fst_none h).1, (fst_none h).2.1 o⟩
  have HP : Hid (∀ i : Nat, fst f l = (i : Int) → ∃ r, l[i]? = some r ∧ pas f l o = r.ps) := fun i hi => by
    obtain ⟨r, h1, _, h2⟩ := fst_some hi
    exact ⟨r, h1, h2 o⟩
  have HB : Hid (fst f l < (l.length : Int)) := (fst_ge f l).2
  have hml := rd_len h
  obtain ⟨sa, sc, rfl⟩ := h.form
  have HX : Hid (∀ u, Below w.heap.size w u → 0 < l.length → ∃ b off, sa = some ⟨b, off, none⟩ ∧ b < u.heap.size ∧ ∀ j x, l[j]? = some x → ∀ i, i < UK.k → u.cell? ⟨b, off + j * UK.k + i, none⟩ = (UK.enc x)[i]?) := fun u hu hp => rd_spot (h.below hu) hp
  generalize dpas l f o = DP at *
  generalize didx l f = DI at *
  generalize derr l f = DE at *
  generalize fst f l = n at *
  generalize pas f l o = po at *
  generalize okF f = fo at *
  generalize hV : w.alloc (.cells (Fw.cells f) 25) = V at *
  have HV : Hid (w.alloc (.cells (Fw.cells f) 25) = V) := hV
  clear hV h r0 hl hf
  generalize hm : l.length = m at *
  clear hm
  obtain ⟨E, hE⟩ : ∃ E, E = chk l := ⟨_, rfl⟩
  rw [← hE] at CC HE
  clear hE
  go_enter Try.func8, Try.ntmps8
  go_upto_region 1 with fail
  rw [HV.out]
  go_wp2_with fail
  refine CC.mono ?_
  rintro e w1 ⟨rfl, z1⟩
  have b1 := b0.trans (z1.mono b0.size)
  have G1 := G0.below z1 G0.lt
  clear CC
  by_cases hE0 : E = 0
  · subst hE0
    go_upto_region 4 with fail
    go_wp2_with (refine blk_load _ rfl 25 _ rfl w.heap.size rfl _ _ G1 _ Try.underlying25 rfl 5 fw_info rfl ?_)
    refine (CF _).mono ?_
    rintro e w2 ⟨rfl, z2⟩
    have b2 := b1.trans (z2.mono b1.size)
    have v2 := z1.trans (z2.mono z1.size)
    clear CF
    cases fo with
    | false =>
      go_wp2_with fail
      go_ret3
      have e1 : DE = 1 := by rw [HE.out]; simp
      have e2 : DP = false := by rw [HD.out, e1]; simp
      have e3 : DI = 0 := by rw [HJ.out, e1]; simp
      exact ⟨ret_three e2.symm e3.symm e1.symm, b2⟩
    | true =>
      have HE1 : Hid (DE = 0) := by show _ = _; rw [HE.out]; simp
      have HD1 : Hid (DP = po) := by show _ = _; rw [HD.out, HE1.out]; simp
      have HJ1 : Hid (DI = n) := by show _ = _; rw [HJ.out, HE1.out]; simp
      clear HE HD HJ
      go_wp2_with fail
      refine (CI.out _ v2).mono ?_
      rintro e w3 ⟨rfl, z3⟩
      have b3 := b2.trans (z3.mono b2.size)
      clear CI
      by_cases hn : n < 0
      · have HN1 : Hid (n = -1) := (HQ.out hn).1
        have HN2 : Hid (po = o) := (HQ.out hn).2
        clear HQ HP HB HX
        go_wp2_with fail
        go_ret3
        exact ⟨ret_three (HD1.out.trans HN2.out).symm (HJ1.out.trans HN1.out).symm HE1.out.symm, b3⟩
      · obtain ⟨i, rfl⟩ : ∃ i : Nat, n = (i : Int) := ⟨n.toNat, by omega⟩
        obtain ⟨r, gr, hr⟩ := HP.out i rfl
        have hlt : (i : Int) < (m : Int) := HB.out
        have hR : Hid (po = r.ps) := hr
        obtain ⟨b, off, rfl, hb2, hx⟩ := HX.out w3 b3 (by omega)
        have cp : w3.cell? ⟨b, off + i * 10 + 9, none⟩ = some (.bool r.ps) := hx i r gr 9 (by decide)
        clear hr HQ HP HB HX hx
        go_wp2_with fail
        go_ret3
        exact ⟨ret_three (HD1.out.trans hR.out).symm HJ1.out.symm HE1.out.symm, b3⟩
  · go_wp2_with fail
    go_ret3
    have e1 : DE = E := by rw [HE.out, if_pos hE0]
    have e2 : DP = false := by rw [HD.out, e1, if_neg hE0]
    have e3 : DI = 0 := by rw [HJ.out, e1, if_neg hE0]
    exact ⟨ret_three e2.symm e3.symm e1.symm, b1⟩
set_option maxRecDepth 20000 in
set_option maxHeartbeats 4000000 in
theorem covers2_any (x y : Ru) (w : World) (hx : fits x) (hy : fits y) : Calls Try.prog 12 #[.agg (Ru.cells x), .agg (Ru.cells y)] w fun e w' => e = .returned (.tuple #[.bool (ccov x y), .int .i64 (cerr x y)]) ∧ Below w.heap.size w w' := by
  have b0 := ((Below.refl w.heap.size w).alloc (Nat.le_refl _) (.cells (Ru.cells x) 34)).alloc (by simp) (.cells (Ru.cells y) 34)
  have G0 := (Blk.new w (Ru.cells x) 34).alloc (.cells (Ru.cells y) 34)
  have G1 := Blk.newAt (w.alloc (.cells (Ru.cells x) 34)) (Ru.cells y) 34 (b := w.heap.size + 1) (by simp)
  have CV := fun W => covers_any x y W hx hy
  have CC : Hid (∀ (v : Value) (W : World), Rd UK W v [x, y] → Calls Try.prog 10 #[v] W fun e w' => e = .returned (.int .i64 (cerr x y)) ∧ Below W.heap.size W w') := fun v W h => by
    rw [← chk_two]
    exact check_any v [x, y] W h (fun r hr => by
      simp only [List.mem_cons, List.not_mem_nil, or_false] at hr
      rcases hr with rfl | rfl
      · exact hx
      · exact hy)
  have HD : Hid (ccov x y = if cerr x y = 0 then cov x y else false) := by
    show _ = _
    unfold ccov cerr
    cases okR x <;> cases okR y <;> simp
  generalize ccov x y = DP at *
  generalize cerr x y = E at *
  generalize cov x y = c at *
  generalize hV : (w.alloc (.cells (Ru.cells x) 34)).alloc (.cells (Ru.cells y) 34) = V at *
  have HV : Hid ((w.alloc (.cells (Ru.cells x) 34)).alloc (.cells (Ru.cells y) 34) = V) := hV
  clear hV hx hy
  go_enter Try.func12, Try.ntmps12
  go_upto_region 1 with fail
  rw [HV.out]
  go_wp2_with (first
    | (refine blk_load _ rfl 34 _ rfl w.heap.size rfl _ _ G0 _ Try.underlying34 rfl 10 ru_info rfl ?_)
    | (refine blk_load _ rfl 34 _ rfl (w.heap.size + 1) rfl _ _ G1 _ Try.underlying34 rfl 10 ru_info rfl ?_))
  have O2 := Own.lit UK V V.heap.size (Nat.le_refl _) [x, y] (by show (2 : Nat) ≤ maxLen; decide) #[.int .u32 (x.fa : Int), .int .i64 x.fl, .int .u32 (x.ta : Int), .int .i64 x.tl, .int .i64 x.pr, .int .i64 x.a, .int .i64 x.b, .int .i64 x.c, .int .i64 x.d, .bool x.ps, .int .u32 (y.fa : Int), .int .i64 y.fl, .int .u32 (y.ta : Int), .int .i64 y.tl, .int .i64 y.pr, .int .i64 y.a, .int .i64 y.b, .int .i64 y.c, .int .i64 y.d, .bool y.ps] rfl
  have dA := (Below.refl V.heap.size V).alloc (Nat.le_refl _) (.cells #[.int .u32 (x.fa : Int), .int .i64 x.fl, .int .u32 (x.ta : Int), .int .i64 x.tl, .int .i64 x.pr, .int .i64 x.a, .int .i64 x.b, .int .i64 x.c, .int .i64 x.d, .bool x.ps, .int .u32 (y.fa : Int), .int .i64 y.fl, .int .u32 (y.ta : Int), .int .i64 y.tl, .int .i64 y.pr, .int .i64 y.a, .int .i64 y.b, .int .i64 y.c, .int .i64 y.d, .bool y.ps] 34)
  refine (CC.out _ _ (Own.rd O2)).mono ?_
  rintro e w1 ⟨rfl, z1⟩
  have d1 := dA.trans (z1.mono dA.size)
  have G2 := G0.below d1 G0.lt
  have G3 := G1.below d1 G1.lt
  have b1 := b0.trans (d1.mono b0.size)
  clear CC O2 dA z1 d1 G0 G1
  by_cases hE0 : E = 0
  · subst hE0
    have HD1 : Hid (DP = c) := by show _ = _; rw [HD.out]; simp
    clear HD
    go_wp2_with (first
      | (refine blk_load _ rfl 34 _ rfl w.heap.size rfl _ _ G2 _ Try.underlying34 rfl 10 ru_info rfl ?_)
      | (refine blk_load _ rfl 34 _ rfl (w.heap.size + 1) rfl _ _ G3 _ Try.underlying34 rfl 10 ru_info rfl ?_))
    refine (CV _).mono ?_
    rintro e w2 ⟨rfl, z2⟩
    go_wp2_with fail
    go_ret2
    exact ⟨ret_be HD1.out.symm rfl, b1.trans (z2.mono b1.size)⟩
  · have HD1 : Hid (DP = false) := by show _ = _; rw [HD.out, if_neg hE0]
    clear HD
    go_wp2_with fail
    go_ret2
    exact ⟨ret_be HD1.out.symm rfl, b1⟩
end Go.Proofs.Ytfcnabpbpbhacaa.ru
