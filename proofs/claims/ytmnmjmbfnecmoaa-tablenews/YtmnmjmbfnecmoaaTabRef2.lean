/- What custref's TableRight answers. -/
import Derived.Test.YtmnmjmbfnecmoaaTabRef1
import Derived.Test.YtmnmjmbfnecmoaaTabShelf
namespace Go.Proofs.Ytmnmjmbfnecmoaa.rr
open Go.ChangeShapes Go.WideShapes Go.ChangeAt Go.RowKit Go.BigFrame
open Go.Proofs.Ytmnmjmbfnecmoaa Go.Proofs.Ytmnmjmbfnecmoaa.tm Go.Proofs.Ytmnmjmbfnecmoaa.tb Go.Proofs.Ytmnmjmbfnecmoaa.ti Go.Proofs.Ytmnmjmbfnecmoaa.rh Go.Proofs.Ytmnmjmbfnecmoaa.boxes Go.Proofs.Ytmnmjmbfnecmoaa.rwr
open Go.Proofs.Ytmnmjmbfnecmoaa.rws (Knd Own)

/-- how many of the first ones are not used -/
def fc (l : List St) (i : Nat) : Nat := i - cnt (l.take i)
theorem fc_step {l : List St} {i : Nat} (h : i < l.length) : fc l (i + 1) = fc l i + (if (ax l i).u then 0 else 1) := by
  have h1 := cnt_take h
  have h2 := cnt_le (l.take i)
  rw [List.length_take] at h2
  unfold fc
  cases hu : (ax l i).u <;> rw [hu] at h1 <;> simp at h1 ⊢ <;> omega
theorem fc_zero (l : List St) : fc l 0 = 0 := Nat.zero_sub _
theorem fc_le (l : List St) (i : Nat) : fc l i ≤ i := Nat.sub_le _ _
theorem fc_end (l : List St) : fc l l.length = 0 ↔ ¬ ∃ j, j < l.length ∧ (ax l j).u = false := by
  rw [← free_iff]
  unfold fc
  rw [List.take_length]
  have := cnt_le l
  omega
set_option maxRecDepth 20000 in
set_option maxHeartbeats 8000000 in
theorem right_any (v : Value) (l : List St) (w : World) (h : Rd SK w v l) (hk : ∀ i, (ax l i).k < 18446744073709551616) : Calls Try.prog 13 #[.agg #[v]] w fun e w' => e = .returned (.int .i64 (terr l)) ∧ Below w.heap.size w w' := by
  have F0 := Blk.new w #[v] 24
  have b0 := (Below.refl w.heap.size w).alloc (Nat.le_refl _) (.cells #[v] 24)
  have r0 := h.below b0
  obtain ⟨V, HV⟩ : ∃ V, Hid (w.alloc (.cells #[v] 24) = V) := ⟨_, rfl⟩
  rw [HV.out] at F0 b0 r0
  have c0 := F0.cell
  have CB := fun u => rbits_any l.length u
  by_cases hb : bn l.length = 0
  · have HE : Hid (terr l = 1) := terr_arg hb
    obtain ⟨sa, sc, rfl⟩ := h.form
    rw [hb] at CB
    clear h r0 F0 hb hk
    generalize terr l = E at *
    generalize l.length = n at *
    go_enter Try.func13, Try.ntmps13
    go_upto_region 1 with fail
    rw [HV.out]
    go_wp2_with fail
    refine (CB _).mono ?_
    rintro e V ⟨rfl, rfl⟩
    go_wp2_with fail
    go_ret
    exact ⟨ret_int (by rw [HE.out]), b0⟩
  · have hbd := bn_bd hb
    obtain ⟨b, off, sc, rfl, hlt, hm', hsc, hx⟩ := rd_at h (by omega)
    have CH := fun u i => homeOf_any (bn l.length) (ax l i).k u (by omega) (bn_le _) (hk i)
    have HO : Hid (Rt (hl l) l ↔ (∃ j, j < l.length ∧ (ax l j).u = false) ∧ ∀ j, j < l.length → Okr (hl l) l j) := rt_okr (hl_lt hb)
    have HF : Hid (fc l l.length = 0 ↔ ¬ ∃ j, j < l.length ∧ (ax l j).u = false) := fc_end l
    have HE : Hid ((Rt (hl l) l → terr l = 0) ∧ (¬ Rt (hl l) l → terr l = 4)) := ⟨terr_ok hb, terr_form hb⟩
    have HS : Hid (∀ i, i < l.length → fc l (i + 1) = fc l i + (if (ax l i).u then 0 else 1)) := fun i hi => fc_step hi
    have HH : Hid (∀ k, hl l k < l.length) := hl_lt hb
    have hxV : ∀ j x, l[j]? = some x → ∀ i, i < SK.k → V.cell? ⟨b, off + j * SK.k + i, none⟩ = (SK.enc x)[i]? := fun j y hj i hi => (b0.cell (p := ⟨b, off + j * SK.k + i, none⟩) hlt).trans (hx j y hj i hi)
    have hbV : b < V.heap.size := Nat.lt_of_lt_of_le hlt b0.size
    have hG : ∀ i, i < l.length → l[i]? = some (ax l i) := fun i hi => ax_get hi
    have HX : Hid (∀ j, j < l.length → V.cell? ⟨b, off + j * 3, none⟩ = some (.bool (ax l j).u) ∧ V.cell? ⟨b, off + j * 3 + 1, none⟩ = some (.int .u64 ((ax l j).k : Int))) := fun j hj => ⟨cell_u hxV hj, cell_k hxV hj⟩
    have hmb : ∀ i, hmb (bn l.length) (ax l i).k = hl l (ax l i).k := fun _ => rfl
    simp only [hmb] at CH
    have hB0 : (((bn l.length : Nat) : Int) == 0) = false := by simp; omega
    have HZ := fc_zero l
    have HC := fc_le l
    clear hmb h r0 hx hb hk
    generalize terr l = E at *
    generalize bn l.length = B at *
    generalize fc l = C at *
    generalize hn : l.length = n at *
    have HLn : Hid (l.length = n) := hn
    clear hn
    go_enter Try.func13, Try.ntmps13
    go_upto_region 1 with fail
    rw [HV.out]
    go_wp2_with fail
    refine (CB _).mono ?_
    rintro e V ⟨rfl, rfl⟩
    go_wp2_with fail
    clear CB
    go_loopw [5, 21] (fun s5 s21 wr => ∃ i : Nat, s21 = .int .i64 (i : Int) ∧ i ≤ n ∧ s5 = .int .i64 (C i : Int) ∧ Hid (∀ j, j < i → Okr (hl l) l j) ∧ Below V.heap.size V wr) (fun _ i _ => n - (intOf i).toNat)
    case atStart => exact ⟨0, rfl, Nat.zero_le _, by rw [HZ]; rfl, fun j hj => absurd hj (by omega), Below.refl _ _⟩
    case round =>
      obtain ⟨i, rfl, hi, rfl, HJ, bel⟩ := hrel
      by_cases hlt : i < n
      · have hlt' : (i : Int) < (n : Int) := by omega
        have gi := hG i hlt
        have z : ∀ (j : Nat) x, l[j]? = some x → ∀ i, i < SK.k → wr.cell? ⟨b, off + j * SK.k + i, none⟩ = (SK.enc x)[i]? := fun j y hj i hi => (bel.cell (p := ⟨b, off + j * SK.k + i, none⟩) hbV).trans (hxV j y hj i hi)
        have HJi : Hid (Okr (hl l) l i → ∀ j, j < i + 1 → Okr (hl l) l j) := fun hi j hj => by
          by_cases e : j = i
          · rw [e]; exact hi
          · exact HJ.out j (by omega)
        have HN : Hid (¬ Okr (hl l) l i → E = 4) := fun hn => HE.out.2 fun hr => hn ((HO.out.1 hr).2 i hlt)
        have hS := HS.out i hlt
        have hC := HC i
        have CHi := fun u => CH u i
        have hh := HH.out (ax l i).k
        have HK : Hid (∀ su sk sv, ax l i = ⟨su, sk, sv⟩ → (Okr (hl l) l i ↔ (su = false → ax l i = z0) ∧ (su = true → (∀ q, q < n → On (hl l sk) i q → (ax l q).u = true ∧ (ax l q).k ≠ sk) ∧ ∀ q, q < n → q ≠ i → (ax l q).u = true → (ax l q).k ≠ sk))) := fun su sk sv hs => by
          unfold Okr; rw [HLn.out, hs]
        obtain ⟨⟨su, sk, sv⟩, hs⟩ : ∃ s, ax l i = s := ⟨_, rfl⟩
        have HK2 : Hid (Okr (hl l) l i ↔ (su = false → (⟨su, sk, sv⟩ : St) = z0) ∧ (su = true → (∀ q, q < n → On (hl l sk) i q → (ax l q).u = true ∧ (ax l q).k ≠ sk) ∧ ∀ q, q < n → q ≠ i → (ax l q).u = true → (ax l q).k ≠ sk)) := by
          have := HK.out su sk sv hs
          rw [hs] at this; exact this
        obtain ⟨A, HA⟩ : ∃ A, Hid (wr.alloc (.cells #[.bool su, .int .u64 (sk : Int), .int .i64 sv] 40) = A) := ⟨_, rfl⟩
        have A0 := Blk.new wr #[.bool su, .int .u64 (sk : Int), .int .i64 sv] 40
        have B0 := (Below.refl wr.heap.size wr).alloc (Nat.le_refl _) (.cells #[.bool su, .int .u64 (sk : Int), .int .i64 sv] 40)
        have belA := bel.trans (B0.mono bel.size)
        rw [HA.out] at A0 belA
        have bA := b0.trans (belA.mono b0.size)
        have FA := F0.below belA F0.lt
        have cA := A0.cell
        have fA := FA.cell
        rw [hs] at gi hS CHi hh
        have HOk : Hid (Okr (hl l) l i → ∀ j, j < i + 1 → Okr (hl l) l j) := HJi
        clear HK HJ HJi hs B0 hG CH HS
        cases su
        · have HS' : Hid (C (i + 1) = C i + 1) := hS
          clear hS
          by_cases hz : sk = 0 ∧ sv = 0
          · obtain ⟨rfl, rfl⟩ := hz
            have HJ : Hid (∀ j, j < i + 1 → Okr (hl l) l j) := HOk.out (HK2.out.2 ⟨fun _ => rfl, fun h => by cases h⟩)
            clear HOk HK2 HN CHi hh HE HO HF
            go_upto_region 9 with (refine rd_load SK _ rfl _ rfl b off l z i _ rfl rfl _ gi #[.bool false, .int .u64 0, .int .i64 0] rfl _ Try.underlying40 rfl ?_)
            rw [show ((0 : Nat) : Int) = 0 from rfl] at HA cA
            rw [HA.out]
            go_wp2_with fail
            go_roundw
            case rel => exact ⟨i + 1, by go_num, by omega, by rw [HS'.out]; go_num, HJ, belA⟩
            case measure => simp [intOf]; omega
          · have hE : E = 4 := HN.out fun h => hz (by
              have := (HK2.out.1 h).1 rfl
              simp only [z0, St.mk.injEq, true_and] at this
              exact this)
            have HE4 : Hid (E = 4) := hE
            have hq : (((sk : Int) != 0) = true) ∨ ((((sk : Int) != 0) = false) ∧ ((sv != 0) = true)) := by
              by_cases h1 : sk = 0
              · subst h1
                refine Or.inr ⟨rfl, ?_⟩
                simpa using fun h2 => hz ⟨rfl, h2⟩
              · exact Or.inl (by simpa using h1)
            clear HOk HK2 HN CHi hh HE HO HF hz hE
            rcases hq with h1 | ⟨h1, h2⟩
            all_goals
              go_upto_region 9 with (refine rd_load SK _ rfl _ rfl b off l z i _ rfl rfl _ gi #[.bool false, .int .u64 (sk : Int), .int .i64 sv] rfl _ Try.underlying40 rfl ?_)
              rw [HA.out]
              go_wp2_with fail
              go_ret
              exact ⟨ret_int (by rw [HE4.out]), bA⟩
        · have HS' : Hid (C (i + 1) = C i) := hS
          have HP : Hid ((∀ q, q < n → On (hl l sk) i q → (ax l q).u = true ∧ (ax l q).k ≠ sk) → (∀ q, q < n → q ≠ i → (ax l q).u = true → (ax l q).k ≠ sk) → ∀ j, j < i + 1 → Okr (hl l) l j) := fun h1 h2 => HOk.out (HK2.out.2 ⟨(fun h => by cases h), fun _ => ⟨h1, h2⟩⟩)
          have HQ : Hid ((¬ ∀ q, q < n → On (hl l sk) i q → (ax l q).u = true ∧ (ax l q).k ≠ sk) → E = 4) := fun h => HN.out fun o => h ((HK2.out.1 o).2 rfl).1
          have HR : Hid ((¬ ∀ q, q < n → q ≠ i → (ax l q).u = true → (ax l q).k ≠ sk) → E = 4) := fun h => HN.out fun o => h ((HK2.out.1 o).2 rfl).2
          clear HOk HK2 HN hS HE HO HF
          have HW : Hid ((On (hl l sk) i (hl l sk) ∨ hl l sk = i) ∧ ∀ q, ¬ On (hl l sk) (hl l sk) q) := way_begin hh hlt
          have HT : Hid (∀ q, q < n → On (hl l sk) i q → (On (hl l sk) i (nx n q) ∨ nx n q = i) ∧ (∀ q', q' < n → On (hl l sk) (nx n q) q' → On (hl l sk) q q' ∨ q' = q) ∧ stp n (nx n q) i + 1 = stp n q i) := fun q hq ho => way_step hh hlt hq ho
          have HHm : Hid (hl l sk < n) := hh
          clear hh
          simp only [hl] at CHi HP HQ HR HW HT HHm
          generalize hm l.length sk = h0 at *
          go_upto_region 9 with (refine rd_load SK _ rfl _ rfl b off l z i _ rfl rfl _ gi #[.bool true, .int .u64 (sk : Int), .int .i64 sv] rfl _ Try.underlying40 rfl ?_)
          rw [HA.out]
          go_wp2_with fail
          refine (CHi _).mono ?_
          rintro e A ⟨rfl, rfl⟩
          go_wp2_with fail
          clear z bel gi
          generalize wr.heap.size = aB at *
          go_loopw [8] (fun s8 wr => ∃ q : Nat, s8 = .int .i64 (q : Int) ∧ q < n ∧ Hid (On h0 i q ∨ q = i) ∧ Hid (∀ q', q' < n → On h0 q q' → (ax l q').u = true ∧ (ax l q').k ≠ sk) ∧ Below A.heap.size A wr) (fun s _ => stp n (intOf s).toNat i)
          case atStart => exact ⟨h0, rfl, HHm.out, HW.out.1, fun q' _ ho => absurd ho (HW.out.2 q'), Below.refl _ _⟩
          case round =>
            obtain ⟨q, rfl, hq, HI, HY, bel2⟩ := hrel
            have b2 := belA.trans (bel2.mono belA.size)
            have bb := b0.trans (b2.mono b0.size)
            have bel2' := bel2
            have F2 := F0.below b2 F0.lt
            have A2 := A0.below bel2 A0.lt
            have c2 := F2.cell
            have cA2 := A2.cell
            clear bel2 fA cA FA CHi
            by_cases hqi : q = i
            · subst hqi
              have HY' : Hid (∀ q', q' < n → On h0 q q' → (ax l q').u = true ∧ (ax l q').k ≠ sk) := HY
              have HP' : Hid ((∀ q', q' < n → q' ≠ q → (ax l q').u = true → (ax l q').k ≠ sk) → ∀ j, j < q + 1 → Okr (hl l) l j) := HP.out HY.out
              clear HP HQ HW HT HY HI
              go_wp2_with fail
              go_loopw [71] (fun s71 wr => ∃ j : Nat, s71 = .int .i64 (j : Int) ∧ j ≤ n ∧ Hid (∀ q', q' < j → q' ≠ q → (ax l q').u = true → (ax l q').k ≠ sk) ∧ Below V.heap.size V wr ∧ Blk wr aB #[.bool true, .int .u64 (sk : Int), .int .i64 sv] 40) (fun s _ => n - (intOf s).toNat)
              case atStart => exact ⟨0, rfl, Nat.zero_le _, fun q' h => absurd h (by omega), b2, A2⟩
              case round =>
                clear b2 bb F2 A2 c2 cA2
                obtain ⟨j, rfl, hj, HM, b3, A3⟩ := hrel
                by_cases hjn : j < n
                · have hjn' : (j : Int) < (n : Int) := by omega
                  have gj : l[j]? = some (ax l j) := ax_get (by rw [HLn.out]; exact hjn)
                  have z3 : ∀ (j : Nat) x, l[j]? = some x → ∀ i, i < SK.k → wr.cell? ⟨b, off + j * SK.k + i, none⟩ = (SK.enc x)[i]? := fun j y hj i hi => (b3.cell (p := ⟨b, off + j * SK.k + i, none⟩) hbV).trans (hxV j y hj i hi)
                  have HM' : Hid ((j ≠ q → (ax l j).u = true → (ax l j).k ≠ sk) → ∀ q', q' < j + 1 → q' ≠ q → (ax l q').u = true → (ax l q').k ≠ sk) := fun h q' hq' => by
                    by_cases e : q' = j
                    · rw [e]; exact h
                    · exact HM.out q' (by omega)
                  have HR' : Hid (j ≠ q → (ax l j).u = true → (ax l j).k = sk → E = 4) := fun h1 h2 h3 => HR.out fun h => h j hjn h1 h2 h3
                  generalize ax l j = s at *
                  obtain ⟨tu, tk, tv⟩ := s
                  have B3 := (Below.refl wr.heap.size wr).alloc (Nat.le_refl _) (.cells #[.bool tu, .int .u64 (tk : Int), .int .i64 tv] 40)
                  have D3 := Blk.new wr #[.bool tu, .int .u64 (tk : Int), .int .i64 tv] 40
                  have A4 := A3.alloc (.cells #[.bool tu, .int .u64 (tk : Int), .int .i64 tv] 40)
                  have b4 := b3.trans (B3.mono b3.size)
                  have b5 := b0.trans (b4.mono b0.size)
                  have cD := D3.cell
                  have cA4 := A4.cell
                  clear HM HR B3 hxV
                  obtain ⟨W3, HW3⟩ : ∃ W3, Hid (wr.alloc (.cells #[.bool tu, .int .u64 (tk : Int), .int .i64 tv] 40) = W3) := ⟨_, rfl⟩
                  rw [HW3.out] at A4 b4 b5 cD cA4 D3
                  by_cases hjq : j = q
                  · have HM2 : Hid (∀ q', q' < j + 1 → q' ≠ q → (ax l q').u = true → (ax l q').k ≠ sk) := HM'.out fun h => absurd hjq h
                    subst hjq
                    clear HM' HR'
                    go_upto_region 21 with (refine rd_load SK _ rfl _ rfl b off l z3 j _ rfl rfl _ gj #[.bool tu, .int .u64 (tk : Int), .int .i64 tv] rfl _ Try.underlying40 rfl ?_)
                    rw [HW3.out]
                    go_wp2_with fail
                    go_roundw
                    case rel => exact ⟨j + 1, by go_num, by omega, HM2, b4, A4⟩
                    case measure => simp [intOf]; omega
                  · have hjq' : ((j : Int) != (q : Int)) = true := by simp; omega
                    cases tu
                    · have HM2 : Hid (∀ q', q' < j + 1 → q' ≠ q → (ax l q').u = true → (ax l q').k ≠ sk) := HM'.out fun _ h => by cases h
                      clear HM' HR' hjq
                      go_upto_region 21 with (refine rd_load SK _ rfl _ rfl b off l z3 j _ rfl rfl _ gj #[.bool false, .int .u64 (tk : Int), .int .i64 tv] rfl _ Try.underlying40 rfl ?_)
                      rw [HW3.out]
                      go_wp2_with fail
                      go_roundw
                      case rel => exact ⟨j + 1, by go_num, by omega, HM2, b4, A4⟩
                      case measure => simp [intOf]; omega
                    · by_cases hks : tk = sk
                      · have hE : E = 4 := HR'.out hjq rfl hks
                        have HE4 : Hid (E = 4) := hE
                        subst hks
                        clear HM' HR' hjq hE
                        go_upto_region 21 with (refine rd_load SK _ rfl _ rfl b off l z3 j _ rfl rfl _ gj #[.bool true, .int .u64 (tk : Int), .int .i64 tv] rfl _ Try.underlying40 rfl ?_)
                        rw [HW3.out]
                        go_wp2_with fail
                        go_ret
                        exact ⟨ret_int (by rw [HE4.out]), b5⟩
                      · have HM2 : Hid (∀ q', q' < j + 1 → q' ≠ q → (ax l q').u = true → (ax l q').k ≠ sk) := HM'.out fun _ _ => hks
                        have hks' : ((tk : Int) == (sk : Int)) = false := by simp; omega
                        clear HM' HR' hjq hks
                        go_upto_region 21 with (refine rd_load SK _ rfl _ rfl b off l z3 j _ rfl rfl _ gj #[.bool true, .int .u64 (tk : Int), .int .i64 tv] rfl _ Try.underlying40 rfl ?_)
                        rw [HW3.out]
                        go_wp2_with fail
                        go_roundw
                        case rel => exact ⟨j + 1, by go_num, by omega, HM2, b4, A4⟩
                        case measure => simp [intOf]; omega
                · have hjn' : ¬ (j : Int) < (n : Int) := by omega
                  have HJ2 : Hid (∀ j, j < q + 1 → Okr (hl l) l j) := HP'.out fun q' hq' => HM.out q' (by omega)
                  clear HM HP'
                  go_wp2_with fail
                  go_roundw
                  case rel => exact ⟨q + 1, by go_num, by omega, by rw [HS'.out], HJ2, b3⟩
                  case measure => simp [intOf]; omega
            · have hoq : On h0 i q := HI.out.resolve_right hqi
              have hqi' : ((q : Int) != (i : Int)) = true := by simp; omega
              obtain ⟨t1, t2, t3⟩ := HT.out q hq hoq
              have HT1 : Hid (On h0 i (nx n q) ∨ nx n q = i) := t1
              have HT2 : Hid ((ax l q).u = true ∧ (ax l q).k ≠ sk → ∀ q', q' < n → On h0 (nx n q) q' → (ax l q').u = true ∧ (ax l q').k ≠ sk) := fun h q' hq' ho => by
                rcases t2 q' hq' ho with c | c
                · exact HY.out q' hq' c
                · rw [c]; exact h
              have HT3 : Hid (stp n (nx n q) i + 1 = stp n q i) := t3
              have HQ' : Hid (¬ ((ax l q).u = true ∧ (ax l q).k ≠ sk) → E = 4) := fun h => HQ.out fun h2 => h (h2 q hq hoq)
              obtain ⟨cu, ck⟩ := HX.out q hq
              have cu2 := (b2.cell (p := ⟨b, off + q * 3, none⟩) hbV).trans cu
              have ck2 := (b2.cell (p := ⟨b, off + q * 3 + 1, none⟩) hbV).trans ck
              have hbl : b < wr.heap.size := Nat.lt_of_lt_of_le hbV b2.size
              have hq' : (q : Int) < (n : Int) := by omega
              have hmd := nx_tmod n q
              have hn0 : ¬ (n : Int) = 0 := by omega
              clear t1 t2 t3 HY HI HQ HW hoq cu ck hqi HP HR
              generalize (ax l q).k = kq at *
              generalize (ax l q).u = uq at *
              go_upto_region 16 with fail
              have nn := ab.ne wr
              have ca := ab.cells F2
              have cb := ab.cells A2
              have cu3 := ab.cell cu2 hbl
              have ck3 := ab.cell ck2 hbl
              clear c2 cA2
              cases uq
              · have hE : E = 4 := HQ'.out fun h => by cases h.1
                have HE4 : Hid (E = 4) := hE
                clear hE HQ' HT1 HT2 HT3
                refine ab.region (by kernel_rfl) (by kernel_rfl) ?_
                repeat (go_big_quiet_step (fail))
                refine wpQuiet_nil ?_
                intro _ hx
                obtain ⟨x, rfl⟩ := hx
                have b5 := bb.trans (Below.mono x.h bb.size)
                go_wp2_with fail
                go_ret
                exact ⟨ret_int (by rw [HE4.out]), b5⟩
              · by_cases hks : kq = sk
                · have hE : E = 4 := HQ'.out fun h => h.2 hks
                  have HE4 : Hid (E = 4) := hE
                  subst hks
                  clear hE HQ' HT1 HT2 HT3
                  refine ab.region (by kernel_rfl) (by kernel_rfl) ?_
                  repeat (go_big_quiet_step (fail))
                  refine wpQuiet_nil ?_
                  intro _ hx
                  obtain ⟨x, rfl⟩ := hx
                  have b5 := bb.trans (Below.mono x.h bb.size)
                  go_wp2_with fail
                  go_ret
                  exact ⟨ret_int (by rw [HE4.out]), b5⟩
                · have HT2' : Hid (∀ q', q' < n → On h0 (nx n q) q' → (ax l q').u = true ∧ (ax l q').k ≠ sk) := HT2.out ⟨rfl, hks⟩
                  have hks' : ((kq : Int) == (sk : Int)) = false := by simp; omega
                  clear HQ' HT2 hks
                  refine ab.region (by kernel_rfl) (by kernel_rfl) ?_
                  repeat (go_big_quiet_step (fail))
                  refine wpQuiet_nil ?_
                  intro _ hx
                  obtain ⟨x, rfl⟩ := hx
                  have b5 := bel2'.trans (Below.mono x.h bel2'.size)
                  go_wp2_with fail
                  go_roundw
                  case rel => exact ⟨nx n q, rfl, nx_lt hq, HT1, HT2', b5⟩
                  case measure => have := HT3.out; simp [intOf]; omega
      · have hlt' : ¬ (i : Int) < (n : Int) := by omega
        have e : i = n := by omega
        subst e
        have HA : Hid (C i = 0 ∧ E = 4 ∨ C i ≠ 0 ∧ E = 0) := by
          by_cases hc : C i = 0
          · exact Or.inl ⟨hc, HE.out.2 fun hr => (HF.out.1 hc) (HO.out.1 hr).1⟩
          · refine Or.inr ⟨hc, HE.out.1 (HO.out.2 ⟨?_, fun j hj => HJ.out j hj⟩)⟩
            exact Classical.byContradiction fun hx => hc (HF.out.2 hx)
        have bA := b0.trans (bel.mono b0.size)
        have hci := HC i
        clear HO HF HE HH HJ hG CH HS HX
        rcases HA.out with ⟨h1, rfl⟩ | ⟨h1, rfl⟩
        · rw [h1]
          clear HA
          go_wp2_with fail
          go_ret
          exact ⟨rfl, bA⟩
        · have h2 : ((C i : Int) == 0) = false := by simp; omega
          clear HA h1
          go_wp2_with fail
          go_ret
          exact ⟨rfl, bA⟩
end Go.Proofs.Ytmnmjmbfnecmoaa.rr
