/- What custref's AgesRight answers. -/
import Derived.Test.YtehiipnafckjbaaAgCheck
namespace Go.Proofs.Ytehiipnafckjbaa.agrr
open Go.ChangeShapes Go.WideShapes Go.ChangeAt Go.RowKit Go.BigFrame
open Go.Proofs.Ytehiipnafckjbaa Go.Proofs.Ytehiipnafckjbaa.am Go.Proofs.Ytehiipnafckjbaa.ag Go.Proofs.Ytehiipnafckjbaa.ai Go.Proofs.Ytehiipnafckjbaa.ash Go.Proofs.Ytehiipnafckjbaa.boxes Go.Proofs.Ytehiipnafckjbaa.rwr
open Go.Proofs.Ytehiipnafckjbaa.rws (Knd Own)

set_option maxRecDepth 20000 in
set_option maxHeartbeats 4000000 in
theorem right_any (n : Int) (v : Value) (l : List Sy) (w : World) (h : Rd SK w v l) : Calls Try.prog 12 #[.agg (AC n v)] w fun e w' => e = .returned (.int .i64 (aerr n l)) ∧ Below w.heap.size w w' := by
  have F0 := Blk.new w (AC n v) 24
  have b0 := (Below.refl w.heap.size w).alloc (Nat.le_refl _) (.cells (AC n v) 24)
  have hz0 : (w.alloc (.cells (AC n v) 24)).heap.size = w.heap.size + 1 := by simp
  obtain ⟨V, HV⟩ : ∃ V, Hid (w.alloc (.cells (AC n v) 24) = V) := ⟨_, rfl⟩
  rw [HV.out] at F0 b0 hz0
  have CB := fun u => between_any n 1 64 u
  have c0 := F0.cell
  have hrs : (decide (1 ≤ n) && decide (n ≤ 64)) = rs n := rfl
  rw [hrs] at CB
  clear hrs
  cases hb : rs n
  · have HE : Hid (aerr n l = 1) := aerr_arg hb
    obtain ⟨sa, sc, rfl⟩ := h.form
    rw [hb] at CB
    clear h F0 hb
    generalize aerr n l = E at *
    generalize l.length = m at *
    go_enter Try.func12, Try.ntmps12
    go_upto_region 1 with fail
    rw [HV.out]
    go_wp2_with fail
    refine (CB _).mono ?_
    rintro e w1 ⟨rfl, rfl⟩
    go_wp2_with fail
    go_ret
    exact ⟨ret_int (by rw [HE.out]), b0⟩
  · have hn := rs_iff.1 hb
    rw [hb] at CB
    have HI : Hid (Ok n l ↔ ∀ i, i < l.length → Oka n l i) := ok_iff
    have HE : Hid ((Ok n l → aerr n l = 0) ∧ (¬ Ok n l → aerr n l = 4)) := ⟨aerr_ok hb, aerr_form hb⟩
    have HG : Hid (∀ i, i < l.length → l[i]? = some (ax l i)) := fun i hi => ax_get hi
    have CB2 := fun a u => between_any a 0 (n - 1) u
    have hwr : IntKind.i64.wrap (n - 1) = n - 1 := by rw [IntKind.wrap_i64]; omega
    have hml := rd_len h
    obtain ⟨sa, sc, rfl⟩ := h.form
    have HX : Hid (∀ u, Below w.heap.size w u → 0 < l.length → ∃ b off, sa = some ⟨b, off, none⟩ ∧ b < u.heap.size ∧ ∀ j x, l[j]? = some x → ∀ i, i < SK.k → u.cell? ⟨b, off + j * SK.k + i, none⟩ = (SK.enc x)[i]?) := fun u hu hp => rd_spot (h.below hu) hp
    have hle : l.length ≤ sc := (rd_cap h).2
    clear h hb
    generalize aerr n l = E at *
    generalize hm : l.length = m at *
    clear hm
    go_enter Try.func12, Try.ntmps12
    go_upto_region 1 with fail
    rw [HV.out]
    go_wp2_with fail
    refine (CB _).mono ?_
    rintro e V ⟨rfl, rfl⟩
    go_wp2_with fail
    clear c0 CB
    go_loopw [14] (fun s14 wr => ∃ i : Nat, s14 = .int .i64 (i : Int) ∧ i ≤ m ∧ Hid (∀ j, j < i → Oka n l j) ∧ Below V.heap.size V wr) (fun s _ => m - (intOf s).toNat)
    case atStart => exact ⟨0, rfl, Nat.zero_le _, fun j hj => absurd hj (by omega), Below.refl _ _⟩
    case round =>
      obtain ⟨i, rfl, hi, HJ, bel⟩ := hrel
      have b1 := b0.trans (bel.mono (by omega))
      have F1 := F0.below bel F0.lt
      by_cases hlt : i < m
      · have hlt' : (i : Int) < (m : Int) := by omega
        have gi := HG.out i hlt
        obtain ⟨b, off, rfl, hb2, hx⟩ := HX.out wr b1 (by omega)
        have HN : Hid (¬ Oka n l i → E = 4) := fun hn => HE.out.2 fun hr => hn (HI.out.1 hr i hlt)
        have HY : Hid (Oka n l i → ∀ j, j < i + 1 → Oka n l j) := fun hi j hj => by
          by_cases e : j = i
          · rw [e]; exact hi
          · exact HJ.out j (by omega)
        obtain ⟨⟨sr, sv⟩, hs⟩ : ∃ s, ax l i = s := ⟨_, rfl⟩
        have HS1 : Hid (Oka n l i ↔ 0 ≤ sr ∧ sr < n ∧ ∀ j, j < i → (ax l j).r ≠ sr ∧ (ax l j).a ≤ sv) := by
          show Oka n l i ↔ _
          unfold Oka; rw [hs]
        rw [hs] at gi
        obtain ⟨A, HA⟩ : ∃ A, Hid (wr.alloc (.cells #[.int .i64 sr, .int .i64 sv] 41) = A) := ⟨_, rfl⟩
        have S2 := Blk.new wr #[.int .i64 sr, .int .i64 sv] 41
        have F2 := F1.alloc (.cells #[.int .i64 sr, .int .i64 sv] 41)
        have b2 := bel.alloc bel.size (.cells #[.int .i64 sr, .int .i64 sv] 41)
        have hBi := bel.size
        rw [HA.out] at S2 F2 b2
        have cS := S2.cell
        have cF := F2.cell
        have CB2' := fun u => CB2 sr u
        have bA := b0.trans (b2.mono (by omega))
        clear hs HJ bel b1 CB2
        by_cases h1 : 0 ≤ sr ∧ sr ≤ n - 1
        · have e1 : (decide (0 ≤ sr) && decide (sr ≤ n - 1)) = true := by simp [h1]
          rw [e1] at CB2'
          have HS2 : Hid ((∀ j, j < i → (ax l j).r ≠ sr ∧ (ax l j).a ≤ sv) → ∀ j, j < i + 1 → Oka n l j) := fun h => HY.out (HS1.out.2 ⟨by omega, by omega, h⟩)
          have HN2 : Hid ((¬ ∀ j, j < i → (ax l j).r ≠ sr ∧ (ax l j).a ≤ sv) → E = 4) := fun h => HN.out fun o => h (HS1.out.1 o).2.2
          clear HN HY HS1 e1 HE HI
          go_upto_region 6 with (refine rd_load SK _ rfl _ rfl b off l hx i _ rfl rfl _ gi #[.int .i64 sr, .int .i64 sv] rfl _ Try.underlying41 rfl ?_)
          rw [HA.out]
          go_wp2_with fail
          refine (CB2' _).mono ?_
          rintro e A ⟨rfl, rfl⟩
          go_wp2_with fail
          clear CB2' cF cS
          generalize wr.heap.size = aB at *
          have hAl := S2.lt
          go_loopw [31] (fun s31 wr => ∃ j : Nat, s31 = .int .i64 (j : Int) ∧ j ≤ i ∧ Hid (∀ q, q < j → (ax l q).r ≠ sr ∧ (ax l q).a ≤ sv) ∧ Below A.heap.size A wr) (fun s _ => i - (intOf s).toNat)
          case atStart => exact ⟨0, rfl, Nat.zero_le _, fun j hj => absurd hj (by omega), Below.refl _ _⟩
          case round =>
            obtain ⟨j, rfl, hj, HK, bel⟩ := hrel
            have b4 := bA.trans (bel.mono bA.size)
            have b5 := b2.trans (bel.mono b2.size)
            have S4 := S2.below bel S2.lt
            by_cases hji : j < i
            · have hji' : (j : Int) < (i : Int) := by omega
              have gj := HG.out j (by omega)
              obtain ⟨b', off', e', hb3, hx3⟩ := HX.out wr b4 (by omega)
              simp only [Option.some.injEq, Addr.mk.injEq, and_true] at e'
              obtain ⟨rfl, rfl⟩ := e'
              have HK2 : Hid ((ax l j).r ≠ sr ∧ (ax l j).a ≤ sv → ∀ q, q < j + 1 → (ax l q).r ≠ sr ∧ (ax l q).a ≤ sv) := fun h q hq => by
                by_cases e : q = j
                · rw [e]; exact h
                · exact HK.out q (by omega)
              have HN3 : Hid (¬ ((ax l j).r ≠ sr ∧ (ax l j).a ≤ sv) → E = 4) := fun h => HN2.out fun hh => h (hh j hji)
              generalize ax l j = s at *
              obtain ⟨tr, ta⟩ := s
              obtain ⟨C, HC⟩ : ∃ C, Hid (wr.alloc (.cells #[.int .i64 tr, .int .i64 ta] 41) = C) := ⟨_, rfl⟩
              have S5 := S4.alloc (.cells #[.int .i64 tr, .int .i64 ta] 41)
              have T5 := Blk.new wr #[.int .i64 tr, .int .i64 ta] 41
              have b6 := b4.alloc b4.size (.cells #[.int .i64 tr, .int .i64 ta] 41)
              have b7 := bel.alloc bel.size (.cells #[.int .i64 tr, .int .i64 ta] 41)
              rw [HC.out] at S5 T5 b6 b7
              have c5 := S5.cell
              have d5 := T5.cell
              clear HK S4 b4 b5 bel HX HG HS2 HN2 hx
              by_cases h2 : tr = sr
              · have HE4 : Hid (E = 4) := HN3.out fun h => h.1 h2
                have hd2 : (tr == sr) = true := by simpa using h2
                clear HK2 HN3 h2
                go_upto_region 11 with (refine rd_load SK _ rfl _ rfl b off l hx3 j _ rfl rfl _ gj #[.int .i64 tr, .int .i64 ta] rfl _ Try.underlying41 rfl ?_)
                rw [HC.out]
                go_wp2_with fail
                go_ret
                exact ⟨ret_int (by rw [HE4.out]), b6⟩
              · have hd2 : (tr == sr) = false := by simpa using h2
                by_cases h3 : sv < ta
                · have HE4 : Hid (E = 4) := HN3.out fun h => by have := h.2; simp only at this; omega
                  have hd3 : decide (sv < ta) = true := decide_eq_true h3
                  clear HK2 HN3 h2
                  go_upto_region 11 with (refine rd_load SK _ rfl _ rfl b off l hx3 j _ rfl rfl _ gj #[.int .i64 tr, .int .i64 ta] rfl _ Try.underlying41 rfl ?_)
                  rw [HC.out]
                  go_wp2_with fail
                  go_ret
                  exact ⟨ret_int (by rw [HE4.out]), b6⟩
                · have HK3 : Hid (∀ q, q < j + 1 → (ax l q).r ≠ sr ∧ (ax l q).a ≤ sv) := HK2.out ⟨h2, by simp only; omega⟩
                  have hd3 : decide (sv < ta) = false := decide_eq_false h3
                  clear HK2 HN3 h2 h3
                  go_upto_region 11 with (refine rd_load SK _ rfl _ rfl b off l hx3 j _ rfl rfl _ gj #[.int .i64 tr, .int .i64 ta] rfl _ Try.underlying41 rfl ?_)
                  rw [HC.out]
                  go_wp2_with fail
                  go_roundw
                  case rel => exact ⟨j + 1, by go_num, by omega, HK3, b7⟩
                  case measure => simp [intOf]; omega
            · have hji' : ¬ (j : Int) < (i : Int) := by omega
              have HY2 : Hid (∀ j, j < i + 1 → Oka n l j) := HS2.out fun q hq => HK.out q (by omega)
              clear HK HS2 HN2 HX HG S4
              go_wp2_with fail
              go_roundw
              case rel => exact ⟨i + 1, by go_num, by omega, HY2, b5⟩
              case measure => simp [intOf]; omega
        · have e1 : (decide (0 ≤ sr) && decide (sr ≤ n - 1)) = false := by
            rw [Bool.and_eq_false_iff, decide_eq_false_iff_not, decide_eq_false_iff_not]; omega
          rw [e1] at CB2'
          have HE4 : Hid (E = 4) := HN.out fun o => h1 ⟨(HS1.out.1 o).1, by have := (HS1.out.1 o).2.1; omega⟩
          clear HN HY HS1 e1 HE HI HX HG
          go_upto_region 6 with (refine rd_load SK _ rfl _ rfl b off l hx i _ rfl rfl _ gi #[.int .i64 sr, .int .i64 sv] rfl _ Try.underlying41 rfl ?_)
          rw [HA.out]
          go_wp2_with fail
          refine (CB2' _).mono ?_
          rintro e A ⟨rfl, rfl⟩
          go_wp2_with fail
          go_ret
          exact ⟨ret_int (by rw [HE4.out]), bA⟩
      · have hlt' : ¬ (i : Int) < (m : Int) := by omega
        have HE0 : Hid (E = 0) := HE.out.1 (HI.out.2 fun j hj => HJ.out j (by omega))
        clear HE HI HJ HG HX
        go_wp2_with fail
        go_ret
        exact ⟨ret_int (by rw [HE0.out]), b1⟩
end Go.Proofs.Ytehiipnafckjbaa.agrr
