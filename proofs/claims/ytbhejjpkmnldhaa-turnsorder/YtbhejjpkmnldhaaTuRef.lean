/- The reference's small functions: custref.Between, TurnsRight. -/
import Derived.Test.YtbhejjpkmnldhaaTuOut
namespace Go.Proofs.Ytbhejjpkmnldhaa.tu
open Go.ChangeShapes Go.WideShapes Go.ChangeAt Go.RowKit Go.BigFrame
open Go.Proofs.Ytbhejjpkmnldhaa Go.Proofs.Ytbhejjpkmnldhaa.boxes Go.Proofs.Ytbhejjpkmnldhaa.rwr Go.Proofs.Ytbhejjpkmnldhaa.rwat
open Go.Proofs.Ytbhejjpkmnldhaa.rws (Knd Own)

def btw (x a b : Int) : Bool := decide (a ≤ x) && decide (x ≤ b)
theorem between_any (x a b : Int) (w : World) :
    Calls Try.prog 16 #[.int .i64 x, .int .i64 a, .int .i64 b] w fun e w' => e = .returned (.bool (btw x a b)) ∧ w' = w := by
  unfold btw
  go_enter Try.func16, Try.ntmps16
  go_wp2
  all_goals go_ret
  all_goals exact ⟨by first | (simp_all; done) | (simp_all; omega), rfl⟩
theorem btw_wsz (x : Int) : (!btw x 1 1000000) = wsz x := by
  unfold btw wsz
  rw [Bool.eq_iff_iff]
  simp
/-- form's part of a queue -/
def lim (l : List Int) : Int := match l with
  | [] => 1
  | y :: _ => y
theorem wsv_lim (q : Qu) : (decide (q.sv < 0) || decide (lim q.l ≤ q.sv)) = wsv q := by
  unfold wsv lim
  cases q.l with
  | nil =>
    rw [Bool.eq_iff_iff]
    simp
    omega
  | cons y r => rfl
theorem any_take {α : Type} {l : List α} {p : α → Bool} {i : Nat} {x : α} (h : l[i]? = some x) : (l.take (i + 1)).any p = ((l.take i).any p || p x) := by
  rw [List.take_add_one, h, List.any_append]
  simp [Option.toList]
set_option maxRecDepth 20000 in
set_option maxHeartbeats 8000000 in
theorem right_any (v : Value) (L : List Qu) (w : World) (h : TRd w v L) : Calls Try.prog 10 #[v] w fun e w' => e = .returned (.int .i64 (chk L)) ∧ Below w.heap.size w w' := by
  have hq := h.len
  have CB := fun n u => between_any n 1 1000000 u
  obtain ⟨X, hr, hXl, hX⟩ := h
  obtain ⟨sa, sc, rfl⟩ := hr.form
  have HX : Hid (∀ u, Below w.heap.size w u → 0 < X.length → ∃ b off, sa = some ⟨b, off, none⟩ ∧ b < w.heap.size ∧ ∀ j x, X[j]? = some x → ∀ i, i < QK.k → u.cell? ⟨b, off + j * QK.k + i, none⟩ = (QK.enc x)[i]?) := fun u hu hp => by
    obtain ⟨b1, o1, e1, h1, h2⟩ := rd_spot hr hp
    exact ⟨b1, o1, e1, h1, fun j x hj i hi => (hu.cell (p := ⟨b1, o1 + j * QK.k + i, none⟩) h1).trans (h2 j x hj i hi)⟩
  have HG : Hid (∀ i, i < X.length → ∃ x q, X[i]? = some x ∧ L[i]? = some q ∧ x.sh = q.sh ∧ x.sv = q.sv ∧ Rd NK w x.sl q.l) := fun i hi => by
    obtain ⟨a, b, c⟩ := hX i _ _ (List.getElem?_eq_getElem hi) (List.getElem?_eq_getElem (by omega))
    exact ⟨X[i], L[i]'(by omega), List.getElem?_eq_getElem hi, List.getElem?_eq_getElem _, a, b, c⟩
  have HT : Hid (∀ (p : Qu → Bool) i q, L[i]? = some q → (L.take (i + 1)).any p = ((L.take i).any p || p q)) := fun _ _ _ h => any_take h
  have HT0 : Hid (L.take X.length = L) := by rw [hXl]; exact List.take_length
  have HC : Hid (chk L = if (decide (16 < X.length) || L.any long) then 2 else if L.any wnum then 1 else if L.any wsv then 4 else 0) := by rw [hXl]; rfl
  have hn : X.length ≤ 9223372036854775807 := by omega
  clear hr hX hXl hq
  generalize chk L = T at *
  generalize X.length = n at *
  have b0 := Below.refl w.heap.size w
  go_enter Try.func10, Try.ntmps10
  go_wp2_with fail
  go_loopw [3, 4, 5, 16] (fun s3 s4 s5 s16 wr => ∃ (i : Nat) (A B C : Bool), s3 = .bool A ∧ s4 = .bool B ∧ s5 = .bool C ∧ s16 = .int .i64 (i : Int) ∧ i ≤ n ∧ Hid (A = (decide (16 < n) || (L.take i).any long)) ∧ Hid (B = (L.take i).any wnum) ∧ Hid (C = (L.take i).any wsv) ∧ Below w.heap.size w wr) (fun _ _ _ s _ => n - (intOf s).toNat)
  case atStart => exact ⟨0, _, _, _, rfl, rfl, rfl, rfl, Nat.zero_le _, by show _ = _; rw [Bool.eq_iff_iff]; simp; omega, by show _ = _; simp, by show _ = _; simp, b0⟩
  case round =>
    clear b0
    obtain ⟨i, A, B, C, rfl, rfl, rfl, rfl, hi, HA, HB, HCc, bel⟩ := hrel
    by_cases hlt : i < n
    rotate_left
    · have hlt' : ¬ (i : Int) < (n : Int) := by omega
      have ei : i = n := by omega
      subst ei
      have hA := HA.out
      have hB := HB.out
      have hC := HCc.out
      rw [HT0.out] at hA hB hC
      have HR : Hid (T = if A then 2 else if B then 1 else if C then 4 else 0) := by show _ = _; rw [HC.out, hA, hB, hC]
      clear HX HG HT HT0 HC HA HB HCc hA hB hC CB
      cases A
      rotate_left
      · go_wp2_with fail
        go_ret
        exact ⟨ret_int (by rw [HR.out]; rfl), bel⟩
      cases B
      rotate_left
      · go_wp2_with fail
        go_ret
        exact ⟨ret_int (by rw [HR.out]; rfl), bel⟩
      cases C
      all_goals
        go_wp2_with fail
        go_ret
        exact ⟨ret_int (by rw [HR.out]; rfl), bel⟩
    have hlt' : (i : Int) < (n : Int) := by omega
    obtain ⟨x, q, hx, hq, q1, q2, rdx⟩ := HG.out i hlt
    obtain ⟨b1, o1, rfl, hb1, hx1⟩ := HX.out wr bel (by omega)
    have HA1 : Hid ((decide (16 < n) || (L.take (i + 1)).any long) = (A || decide (200 < q.l.length))) := by show _ = _; rw [HT.out long i q hq, HA.out, ← Bool.or_assoc]; rfl
    have HB1 : Hid ((L.take (i + 1)).any wnum = ((B || !btw q.sh 1 1000000) || q.l.any wsz)) := by show _ = _; rw [HT.out wnum i q hq, HB.out, btw_wsz, Bool.or_assoc]; rfl
    have HC1 : Hid ((L.take (i + 1)).any wsv = ((C || decide (q.sv < 0)) || decide (lim q.l ≤ q.sv))) := by show _ = _; rw [HT.out wsv i q hq, HCc.out, Bool.or_assoc, wsv_lim]
    have Zb := Blk.new wr (QC 0 0 (.slice none 0 0)) 41
    have dA := (Below.refl wr.heap.size wr).alloc (Nat.le_refl _) (.cells (QC 0 0 (.slice none 0 0)) 41)
    obtain ⟨sh, sv, xa, xn, xc⟩ := x
    dsimp only [Qv.cells, Qv.sl] at rdx q1 q2
    have HQN : Hid (xn = q.l.length) := rd_n rdx
    rw [← q1] at HB1
    rw [← q2] at HC1
    rw [← HQN.out] at HA1
    have hxl := rd_len rdx
    have HH : Hid (∀ u, Below w.heap.size w u → 0 < q.l.length → ∃ b off, xa = some ⟨b, off, none⟩ ∧ b < w.heap.size ∧ ∀ (j : Nat) x, q.l[j]? = some x → u.cell? ⟨b, off + j, none⟩ = some (.int .i64 x)) := fun u hu hp => by
      obtain ⟨b1, o1, e1, h1, h2⟩ := int_cells rdx hp
      exact ⟨b1, o1, e1, h1, fun j x hj => (hu.cell (p := ⟨b1, o1 + j, none⟩) h1).trans (h2 j x hj)⟩
    rw [← HQN.out] at HH hxl
    clear HX HG HT HT0 HC HA HB HCc q1 q2 rdx hq
    go_upto_region 5 with (first
      | (refine rd_load QK _ rfl _ rfl b1 o1 X hx1 i _ rfl rfl _ hx (QC sh sv (.slice xa xn xc)) rfl _ Try.underlying41 rfl ?_)
      | (refine blk_store _ rfl 41 _ _ rfl wr.heap.size (QC sh sv (.slice xa xn xc)) rfl rfl _ _ Zb 3 qv_info rfl rfl (qc_one _ _ _ _ _) ?_; intro W3 k3 p3))
    have z := p3.below dA (Nat.le_refl _)
    have h3r := z.size
    replace bel := bel.trans (z.mono bel.size)
    clear Zb dA p3 hx1 z hx
    generalize wr.heap.size = bx at *
    have ck := k3.cell
    dsimp only [Act.put]
    go_cut [3] (fun c wx => c = .bool (A || decide (200 < xn)) ∧ W3 = wx)
    case first =>
      cases A
      · by_cases e1 : 200 < xn
        · have e2 : (200 : Int) < (xn : Int) := by omega
          go_wp2_with fail
          go_meet
          case rel => exact ⟨by simp [e1], rfl⟩
        · have e2 : ¬ (200 : Int) < (xn : Int) := by omega
          go_wp2_with fail
          go_meet
          case rel => exact ⟨by simp [e1], rfl⟩
      · go_wp2_with fail
        go_meet
        case rel => exact ⟨by simp, rfl⟩
    case rest =>
      obtain ⟨rfl, hwc⟩ := hcut
      subst hwc
      generalize (A || decide (200 < xn)) = A1 at *
      go_upto_region 6 with fail
      go_cut [4] (fun c wx => c = .bool (B || !btw sh 1 1000000) ∧ W3 = wx)
      case first =>
        cases B
        · go_wp2_with fail
          refine (CB sh _).mono ?_
          rintro e W3 ⟨rfl, rfl⟩
          go_wp2_with fail
          go_meet
          case rel => exact ⟨by simp, rfl⟩
        · go_wp2_with fail
          go_meet
          case rel => exact ⟨by simp, rfl⟩
      case rest =>
        obtain ⟨rfl, hwc⟩ := hcut
        subst hwc
        generalize (B || !btw sh 1 1000000) = B0 at *
        have HT2 : Hid (∀ j y, q.l[j]? = some y → (q.l.take (j + 1)).any wsz = ((q.l.take j).any wsz || wsz y)) := fun _ _ h => any_take h
        have HJ : Hid (∀ j, j < xn → ∃ y, q.l[j]? = some y) := fun j hj => ⟨q.l[j]'(by rw [← HQN.out]; exact hj), List.getElem?_eq_getElem _⟩
        have HT3 : Hid (q.l.take xn = q.l) := by show _ = _; rw [HQN.out]; exact List.take_length
        have HB2 : Hid (B0 = (B0 || (q.l.take 0).any wsz)) := by show _ = _; simp
        have HM : Hid ((xn = 0 ∧ lim q.l = 1) ∨ (0 < xn ∧ ∃ y, q.l[0]? = some y ∧ lim q.l = y)) := by
          show _ ∨ _
          rw [HQN.out]
          cases q.l with
          | nil => exact Or.inl ⟨rfl, rfl⟩
          | cons y r => exact Or.inr ⟨by simp, y, rfl, rfl⟩
        clear HQN
        generalize q.l = l at *
        go_wp2_with fail
        go_loopw [4, 37] (fun s4 s37 wr => ∃ (j : Nat) (B1 : Bool), s4 = .bool B1 ∧ s37 = .int .i64 (j : Int) ∧ j ≤ xn ∧ Hid (B1 = (B0 || (l.take j).any wsz)) ∧ W3 = wr) (fun _ s _ => xn - (intOf s).toNat)
        case atStart => exact ⟨0, B0, rfl, rfl, Nat.zero_le _, HB2.out, rfl⟩
        case round =>
          obtain ⟨j, B1, rfl, rfl, hj, HBj, rfl⟩ := hrel
          by_cases hjl : j < xn
          · have hjl' : (j : Int) < (xn : Int) := by omega
            obtain ⟨y, hy⟩ := HJ.out j hjl
            obtain ⟨b5, o5, rfl, hb5, hc5⟩ := HH.out W3 bel (by omega)
            have c5 := hc5 j y hy
            have HN : Hid ((B1 || wsz y) = (B0 || (l.take (j + 1)).any wsz)) := by show _ = _; rw [HT2.out j y hy, HBj.out, Bool.or_assoc]
            have HW : Hid ((!btw y 1 1000000) = wsz y) := btw_wsz y
            clear HH hc5 hy HT2 HJ HT3 HM HBj HA1 HB1 HC1 HB2
            cases B1
            · go_wp2_with fail
              refine (CB y _).mono ?_
              rintro e W9 ⟨rfl, rfl⟩
              go_wp2_with fail
              go_roundw
              case rel => exact ⟨j + 1, _, rfl, by go_num, by omega, by rw [← HN.out, HW.out]; rfl, trivial⟩
              case measure => simp [intOf]; omega
            · go_wp2_with fail
              go_roundw
              case rel => exact ⟨j + 1, true, rfl, by go_num, by omega, by rw [← HN.out]; rfl, trivial⟩
              case measure => simp [intOf]; omega
          · have hjl' : ¬ (j : Int) < (xn : Int) := by omega
            have ej : j = xn := by omega
            subst ej
            have HBe : Hid ((L.take (i + 1)).any wnum = B1) := by show _ = _; rw [HB1.out, HBj.out, HT3.out]
            clear HT2 HJ HT3 HBj HB1 HB2 CB
            rcases HM.out with ⟨e0, hlim⟩ | ⟨e0, y, hy, hlim⟩
            · rw [hlim] at HC1
              clear HM HH hlim
              subst e0
              cases C
              · by_cases e1 : sv < 0
                · go_wp2_with fail
                  go_roundw
                  case rel => exact ⟨i + 1, _, _, _, rfl, rfl, rfl, by go_num, by omega, HA1.out.symm, HBe.out.symm, by show _ = _; rw [HC1.out]; simp [e1], bel⟩
                  case measure => simp [intOf]; omega
                · by_cases e2 : 1 ≤ sv
                  · go_wp2_with fail
                    go_roundw
                    case rel => exact ⟨i + 1, _, _, _, rfl, rfl, rfl, by go_num, by omega, HA1.out.symm, HBe.out.symm, by show _ = _; rw [HC1.out]; simp [e2], bel⟩
                    case measure => simp [intOf]; omega
                  · go_wp2_with fail
                    go_roundw
                    case rel => exact ⟨i + 1, _, _, _, rfl, rfl, rfl, by go_num, by omega, HA1.out.symm, HBe.out.symm, by show _ = _; rw [HC1.out]; simp; omega, bel⟩
                    case measure => simp [intOf]; omega
              · go_wp2_with fail
                go_roundw
                case rel => exact ⟨i + 1, _, _, _, rfl, rfl, rfl, by go_num, by omega, HA1.out.symm, HBe.out.symm, by show _ = _; rw [HC1.out]; rfl, bel⟩
                case measure => simp [intOf]; omega
            · rw [hlim] at HC1
              obtain ⟨b5, o5, rfl, hb5, hc5⟩ := HH.out W3 bel e0
              have c5 := hc5 0 y hy
              rw [Nat.add_zero] at c5
              have e00 : (0 : Int) < (j : Int) := by omega
              clear HM HH hlim hc5 hy
              cases C
              · by_cases e1 : sv < 0
                · go_wp2_with fail
                  go_roundw
                  case rel => exact ⟨i + 1, _, _, _, rfl, rfl, rfl, by go_num, by omega, HA1.out.symm, HBe.out.symm, by show _ = _; rw [HC1.out]; simp [e1], bel⟩
                  case measure => simp [intOf]; omega
                · by_cases e2 : y ≤ sv
                  · go_wp2_with fail
                    go_roundw
                    case rel => exact ⟨i + 1, _, _, _, rfl, rfl, rfl, by go_num, by omega, HA1.out.symm, HBe.out.symm, by show _ = _; rw [HC1.out]; simp [e2], bel⟩
                    case measure => simp [intOf]; omega
                  · go_wp2_with fail
                    go_roundw
                    case rel => exact ⟨i + 1, _, _, _, rfl, rfl, rfl, by go_num, by omega, HA1.out.symm, HBe.out.symm, by show _ = _; rw [HC1.out]; simp; omega, bel⟩
                    case measure => simp [intOf]; omega
              · go_wp2_with fail
                go_roundw
                case rel => exact ⟨i + 1, _, _, _, rfl, rfl, rfl, by go_num, by omega, HA1.out.symm, HBe.out.symm, by show _ = _; rw [HC1.out]; rfl, bel⟩
                case measure => simp [intOf]; omega
end Go.Proofs.Ytbhejjpkmnldhaa.tu
