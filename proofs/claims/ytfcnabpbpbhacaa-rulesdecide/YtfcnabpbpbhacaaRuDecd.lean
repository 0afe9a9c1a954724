/- What custref.Decided answers. -/
import Derived.Test.YtfcnabpbpbhacaaRuRef2
namespace Go.Proofs.Ytfcnabpbpbhacaa.ru
open Go.ChangeShapes Go.WideShapes Go.ChangeAt Go.RowKit Go.BigFrame
open Go.Proofs.Ytfcnabpbpbhacaa Go.Proofs.Ytfcnabpbpbhacaa.pm Go.Proofs.Ytfcnabpbpbhacaa.pf Go.Proofs.Ytfcnabpbpbhacaa.boxes Go.Proofs.Ytfcnabpbpbhacaa.rwr
open Go.Proofs.Ytfcnabpbpbhacaa.rws (Knd Own)

theorem fst_at {f : Fw} {l : List Ru} {i : Nat} {x : Ru} (hx : l[i]? = some x) (hm : mts f x = true) (hb : ∀ j, j < i → ∃ y, l[j]? = some y ∧ mts f y = false) : fst f l = (i : Int) ∧ ∀ o, pas f l o = x.ps := by
  have hl := (List.getElem?_eq_some_iff.1 hx).1
  have e : l.findIdx? (mts f) = some i := by
    rw [List.findIdx?_eq_some_iff_getElem]
    refine ⟨hl, ?_, fun j hj => ?_⟩
    · have : l[i] = x := by rw [List.getElem?_eq_getElem hl] at hx; exact Option.some.inj hx
      rw [this]; exact hm
    · obtain ⟨y, hy, hn⟩ := hb j hj
      have hjl : j < l.length := by omega
      have : l[j] = y := by rw [List.getElem?_eq_getElem hjl] at hy; exact Option.some.inj hy
      rw [this, hn]; decide
  have e2 : fst f l = (i : Int) := by unfold fst; rw [e]
  obtain ⟨y, hy, _, hp⟩ := fst_some e2
  rw [hx] at hy
  rw [Option.some.inj hy]
  exact ⟨e2, hp⟩
theorem fst_nil {f : Fw} {l : List Ru} (hb : ∀ j, j < l.length → ∃ y, l[j]? = some y ∧ mts f y = false) : fst f l = -1 ∧ ∀ o, pas f l o = o := by
  have h : fst f l < 0 := by
    by_cases h0 : 0 ≤ fst f l
    · obtain ⟨i, hi⟩ : ∃ i : Nat, fst f l = (i : Int) := ⟨(fst f l).toNat, by omega⟩
      obtain ⟨x, hx, hm, _⟩ := fst_some hi
      obtain ⟨y, hy, hn⟩ := hb i (List.getElem?_eq_some_iff.1 hx).1
      rw [hx] at hy
      rw [Option.some.inj hy, hn] at hm
      exact absurd hm (by decide)
    · omega
  exact ⟨(fst_none h).1, (fst_none h).2.1⟩
set_option maxRecDepth 20000 in
set_option maxHeartbeats 8000000 in
theorem decided_any (v : Value) (l : List Ru) (f : Fw) (o : Bool) (w : World) (h : Rd UK w v l) (hl : ∀ x ∈ l, fits x) (hf : fitsF f) : Calls Try.prog 9 #[v, .agg (Fw.cells f), .bool o] w fun e w' => e = .returned (.tuple #[.bool (dpas l f o), .int .i64 (didx l f), .int .i64 (derr l f)]) ∧ Below w.heap.size w w' := by
  have G0 := Blk.new w (Fw.cells f) 25
  have b0 := (Below.refl w.heap.size w).alloc (Nat.le_refl _) (.cells (Fw.cells f) 25)
  have CC := rulesRight_any v l _ (h.below b0) hl
  have CF := fun W => flowRight_any f W
  have HE : Hid (derr l f = if chk l ≠ 0 then chk l else if okF f = true then 0 else 1) := rfl
  have HD : Hid (dpas l f o = if derr l f = 0 then pas f l o else false) := rfl
  have HJ : Hid (didx l f = if derr l f = 0 then fst f l else 0) := rfl
  have HA : Hid (∀ (i : Nat) x, l[i]? = some x → mts f x = true → (∀ j, j < i → ∃ y, l[j]? = some y ∧ mts f y = false) → fst f l = (i : Int) ∧ pas f l o = x.ps) := fun i x hx hm hb => ⟨(fst_at hx hm hb).1, (fst_at hx hm hb).2 o⟩
  have HN : Hid ((∀ j, j < l.length → ∃ y, l[j]? = some y ∧ mts f y = false) → fst f l = -1 ∧ pas f l o = o) := fun hb => ⟨(fst_nil hb).1, (fst_nil hb).2 o⟩
  have HG : Hid (chk l = 0 → okF f = true → ∀ i, i < l.length → ∃ x, l[i]? = some x ∧ ∀ W, Calls Try.prog 24 #[.agg (Ru.cells x), .agg (Fw.cells f)] W fun e w' => e = .returned (.bool (mts f x)) ∧ Below W.heap.size W w') := fun hc ho i hi => by
    obtain ⟨x, hx, fx⟩ := gets hl i hi
    refine ⟨x, hx, fun W => meetsR_any x f W ((chk_zero.1 hc).2 x (List.mem_of_getElem? hx)) fx ?_ hf⟩
    simp only [okF, Bool.and_eq_true] at ho
    exact ho.1.1
  have hml := rd_len h
  obtain ⟨sa, sc, rfl⟩ := h.form
  have hle : l.length ≤ sc := (rd_cap h).2
  have HX : Hid (∀ u, Below w.heap.size w u → 0 < l.length → ∃ b off, sa = some ⟨b, off, none⟩ ∧ b < u.heap.size ∧ ∀ j x, l[j]? = some x → ∀ i, i < UK.k → u.cell? ⟨b, off + j * UK.k + i, none⟩ = (UK.enc x)[i]?) := fun u hu hp => rd_spot (h.below hu) hp
  generalize dpas l f o = DP at *
  generalize didx l f = DI at *
  generalize derr l f = DE at *
  generalize fst f l = n at *
  generalize pas f l o = po at *
  generalize okF f = fo at *
  generalize hV : w.alloc (.cells (Fw.cells f) 25) = V at *
  have HV : Hid (w.alloc (.cells (Fw.cells f) 25) = V) := hV
  clear hV h hl hf
  generalize hm : l.length = m at *
  clear hm
  obtain ⟨E, hE⟩ : ∃ E, E = chk l := ⟨_, rfl⟩
  rw [← hE] at CC HE HG
  clear hE
  go_enter Try.func9, Try.ntmps9
  go_upto_region 1 with fail
  rw [HV.out]
  go_wp2_with fail
  refine CC.mono ?_
  rintro e w1 ⟨rfl, z1⟩
  have b1 := b0.trans (z1.mono b0.size)
  have G1 := G0.below z1 G0.lt
  clear CC
  by_cases hE0 : E = 0
  · subst hE0
    go_upto_region 4 with fail
    go_wp2_with (refine blk_load _ rfl 25 _ rfl w.heap.size rfl _ _ G1 _ Try.underlying25 rfl 5 fw_info rfl ?_)
    refine (CF _).mono ?_
    rintro e w2 ⟨rfl, z2⟩
    have b2 := b1.trans (z2.mono b1.size)
    have G2 := G1.below z2 G1.lt
    clear CF G0 G1 z1 z2 b0 b1
    cases fo with
    | false =>
      go_wp2_with fail
      go_ret3
      have e1 : DE = 1 := by rw [HE.out]; simp
      have e2 : DP = false := by rw [HD.out, e1]; simp
      have e3 : DI = 0 := by rw [HJ.out, e1]; simp
      exact ⟨ret_three e2.symm e3.symm e1.symm, b2⟩
    | true =>
      have HE1 : Hid (DE = 0) := by show _ = _; rw [HE.out]; simp
      have HD1 : Hid (DP = po) := by show _ = _; rw [HD.out, HE1.out]; simp
      have HJ1 : Hid (DI = n) := by show _ = _; rw [HJ.out, HE1.out]; simp
      have HG1 := show Hid _ from HG.out (by trivial) (by trivial)
      clear HE HD HJ HG
      go_wp2_with fail
      go_loopw [22] (fun s22 wr => ∃ i : Nat, s22 = .int .i64 (i : Int) ∧ i ≤ m ∧ Hid (∀ j, j < i → ∃ y, l[j]? = some y ∧ mts f y = false) ∧ Blk wr w.heap.size (Fw.cells f) 25 ∧ Below w.heap.size w wr) (fun s _ => m - (intOf s).toNat)
      case atStart => exact ⟨0, rfl, Nat.zero_le _, fun j hj => absurd hj (by omega), G2, b2⟩
      case round =>
        clear G2 b2
        obtain ⟨i, rfl, hi, HB, G3, b3⟩ := hrel
        by_cases hlt : i < m
        · have hlt' : (i : Int) < (m : Int) := by omega
          obtain ⟨x, gx, CM⟩ := HG1.out i hlt
          obtain ⟨b, off, rfl, hb2, hx⟩ := HX.out wr b3 (by omega)
          have HA1 : Hid (mts f x = true → n = (i : Int) ∧ po = x.ps) := fun hm => HA.out i x gx hm HB.out
          have HB1 : Hid (mts f x = false → ∀ j, j < i + 1 → ∃ y, l[j]? = some y ∧ mts f y = false) := fun hm j hj => by
            by_cases e : j = i
            · exact ⟨x, by rw [e]; exact gx, hm⟩
            · exact HB.out j (by omega)
          generalize mts f x = mm at *
          have Z := Blk.new wr ZU 34
          have dA := (Below.refl wr.heap.size wr).alloc (Nat.le_refl _) (.cells ZU 34)
          clear HG1 HX HA HN HB
          go_upto_region 9 with (first
            | (refine rd_load UK _ rfl _ rfl b off l hx i _ rfl rfl _ gx (Ru.cells x) rfl _ Try.underlying34 rfl ?_)
            | (refine blk_store _ rfl 34 _ _ rfl wr.heap.size (Ru.cells x) rfl rfl _ _ Z 10 ru_info rfl rfl (ru_one x) ?_; intro W3 k3 p3))
          have d3 := p3.below dA (Nat.le_refl _)
          have b4 := b3.trans (d3.mono b3.size)
          have G4 := G3.below d3 G3.lt
          clear Z dA hx p3 d3 b3 G3
          go_wp2_with (first
            | (refine blk_load _ rfl 34 _ rfl wr.heap.size rfl _ _ k3 _ Try.underlying34 rfl 10 ru_info rfl ?_)
            | (refine blk_load _ rfl 25 _ rfl w.heap.size rfl _ _ G4 _ Try.underlying25 rfl 5 fw_info rfl ?_))
          refine (CM _).mono ?_
          rintro e w5 ⟨rfl, z5⟩
          have b5 := b4.trans (z5.mono b4.size)
          have G5 := G4.below z5 G4.lt
          have k5 := k3.below z5 k3.lt
          clear CM b4 G4 k3 z5
          cases mm with
          | true =>
            obtain ⟨h1, h2⟩ := HA1.out (by trivial)
            have HP1 : Hid (n = (i : Int)) := h1
            have HP2 : Hid (po = x.ps) := h2
            have c5 := k5.cell
            clear h1 h2 HA1 HB1
            go_wp2_with fail
            go_ret3
            exact ⟨ret_three (HD1.out.trans HP2.out).symm (HJ1.out.trans HP1.out).symm HE1.out.symm, b5⟩
          | false =>
            have HB2 := show Hid _ from HB1.out (by trivial)
            clear HA1 HB1
            go_wp2_with fail
            go_roundw
            case rel => exact ⟨i + 1, by go_num, by omega, HB2, G5, b5⟩
            case measure => simp [intOf]; omega
        · have hlt' : ¬ (i : Int) < (m : Int) := by omega
          obtain ⟨h1, h2⟩ := HN.out (fun j hj => HB.out j (by omega))
          have HP1 : Hid (n = -1) := h1
          have HP2 : Hid (po = o) := h2
          clear h1 h2 HG1 HX HA HN HB
          go_wp2_with fail
          go_ret3
          exact ⟨ret_three (HD1.out.trans HP2.out).symm (HJ1.out.trans HP1.out).symm HE1.out.symm, b3⟩
  · go_wp2_with fail
    go_ret3
    have e1 : DE = E := by rw [HE.out, if_pos hE0]
    have e2 : DP = false := by rw [HD.out, e1, if_neg hE0]
    have e3 : DI = 0 := by rw [HJ.out, e1, if_neg hE0]
    exact ⟨ret_three e2.symm e3.symm e1.symm, b1⟩
set_option maxRecDepth 20000 in
set_option maxHeartbeats 8000000 in
theorem decide_walk (v : Value) (l : List Ru) (f : Fw) (o : Bool) (w : World) (h : Rd UK w v l) (hl : ∀ x ∈ l, fits x) (hf : fitsF f) :
    Calls Try.prog 3 #[v, .agg (Fw.cells f), .bool o] w fun e w' => e = .returned (.bool true) ∧ Below w.heap.size w w' := by
  have G0 := Blk.new w (Fw.cells f) 25
  have b0 := (Below.refl w.heap.size w).alloc (Nat.le_refl _) (.cells (Fw.cells f) 25)
  have R0 := h.below b0
  have KV1 : ∀ u, Rd UK u v l → _ := fun u hu => decide_any v l f o u hu hl hf
  have KV2 : ∀ u, Rd UK u v l → _ := fun u hu => decided_any v l f o u hu hl hf
  have KV3 : ∀ u, Rd UK u v l → _ := fun u hu => check_any v l u hu hl
  have KV4 : ∀ u, Rd UK u v l → _ := fun u hu => rulesRight_any v l u hu hl
  generalize dpas l f o = DP at *
  generalize didx l f = DI at *
  generalize derr l f = DE at *
  generalize chk l = E at *
  generalize hV : w.alloc (.cells (Fw.cells f) 25) = V at *
  have HV : Hid (w.alloc (.cells (Fw.cells f) 25) = V) := hV
  clear hV h hl hf
  obtain ⟨sa, sc, rfl⟩ := R0.form
  generalize l.length = m at *
  go_enter Try.func3, Try.ntmps3
  go_upto_region 1 with fail
  rw [HV.out]
  go_wp2_with (refine blk_load _ rfl 25 _ rfl w.heap.size rfl _ _ G0 _ Try.underlying25 rfl 5 fw_info rfl ?_)
  refine (KV1 _ R0).mono ?_
  rintro e w1 ⟨rfl, z1⟩
  have b1 := b0.trans (z1.mono b0.size)
  have R1 := R0.below z1
  have G1 := G0.below z1 G0.lt
  clear R0 G0 b0 z1 KV1
  go_upto_region 2 with fail
  go_wp2_with (refine blk_load _ rfl 25 _ rfl w.heap.size rfl _ _ G1 _ Try.underlying25 rfl 5 fw_info rfl ?_)
  refine (KV2 _ R1).mono ?_
  rintro e w2 ⟨rfl, z2⟩
  have b2 := b1.trans (z2.mono b1.size)
  have R2 := R1.below z2
  clear R1 G1 b1 z2 KV2
  go_wp2_with fail
  refine (KV3 _ R2).mono ?_
  rintro e w3 ⟨rfl, z3⟩
  have b3 := b2.trans (z3.mono b2.size)
  have R3 := R2.below z3
  clear R2 b2 z3 KV3
  go_wp2_with fail
  refine (KV4 _ R3).mono ?_
  rintro e w4 ⟨rfl, z4⟩
  have b4 := b3.trans (z4.mono b3.size)
  clear R3 b3 z4 KV4
  go_wp2_with fail
  go_ret
  exact ⟨rfl, b4⟩
end Go.Proofs.Ytfcnabpbpbhacaa.ru
