/- What package table's isFound, fits and usedOf answer. -/
import Derived.Test.YtmnmjmbfnecmoaaTabIn2
namespace Go.Proofs.Ytmnmjmbfnecmoaa.ti
open Go.ChangeShapes Go.WideShapes Go.ChangeAt Go.RowKit Go.BigFrame
open Go.Proofs.Ytmnmjmbfnecmoaa Go.Proofs.Ytmnmjmbfnecmoaa.tm Go.Proofs.Ytmnmjmbfnecmoaa.tb Go.Proofs.Ytmnmjmbfnecmoaa.boxes Go.Proofs.Ytmnmjmbfnecmoaa.rwr
open Go.Proofs.Ytmnmjmbfnecmoaa.rws (Knd Own)

theorem isFound_any (v : Value) (l : List St) (i : Nat) (w : World) (h : Rd SK w v l) (hb : bn l.length ≠ 0) (hf : ∃ j, j < l.length ∧ (ax l j).u = false) (hi : i < l.length) : Calls Try.prog 29 #[v, .int .i64 (i : Int)] w fun e w' => e = .returned (.bool (decide (fnd (hl l) l (ax l i).k = i))) ∧ w' = w := by
  have CF := find_any v l (ax l i).k w h hb hf
  obtain ⟨b, off, sc, rfl, hlt, hm', hsc, hx⟩ := rd_at h (by omega)
  have ck := cell_k hx hi
  have hi' : (i : Int) < (l.length : Int) := by omega
  clear hx h hf hb
  generalize fnd (hl l) l (ax l i).k = R at *
  generalize (ax l i).k = k at *
  generalize l.length = n at *
  go_enter Try.func29, Try.ntmps29
  go_wp2_with fail
  refine CF.mono ?_
  rintro e w1 ⟨rfl, rfl⟩
  go_wp2_with fail
  go_ret
  exact ⟨ret_bool (by rw [Bool.eq_iff_iff]; simp <;> omega), rfl⟩
theorem fits_any (v : Value) (l : List St) (hole p : Nat) (w : World) (h : Rd SK w v l) (hb : bn l.length ≠ 0) (hh : hole < l.length) (hp : p < l.length) : Calls Try.prog 36 #[v, .int .i64 (hole : Int), .int .i64 (p : Int)] w fun e w' => e = .returned (.bool (fit l.length (hl l (ax l p).k) hole p)) ∧ w' = w := by
  have hbd := bn_bd hb
  obtain ⟨b, off, sc, rfl, hlt, hm', hsc, hx⟩ := rd_at h (by omega)
  have ck := cell_k hx hp
  have CH := fun u => homeIn_any (some ⟨b, off, none⟩) l.length sc (ax l p).k u hb
  have hk := hl_lt hb (ax l p).k
  have CW := fun a u ha => way_any (some ⟨b, off, none⟩) l.length sc a p u (by omega) (by omega) ha hp
  have CW1 := fun u => CW (hl l (ax l p).k) u hk
  have CW2 := fun u => CW hole u hh
  have hp' : (p : Int) < (l.length : Int) := by omega
  clear hx h hb CW hk hbd
  obtain ⟨B, HB⟩ : ∃ B, Hid (fit l.length (hl l (ax l p).k) hole p = B) := ⟨_, rfl⟩
  rw [HB.out]
  have HF : Hid (B = true ↔ stp l.length hole p ≤ stp l.length (hl l (ax l p).k) p) := by
    show B = true ↔ _
    rw [← HB.out]; unfold fit; rw [decide_eq_true_eq]
  clear HB
  simp only [hl] at *
  generalize hm l.length (ax l p).k = R at *
  generalize (ax l p).k = k at *
  generalize l.length = n at *
  generalize stp n R p = x at *
  generalize stp n hole p = y at *
  go_enter Try.func36, Try.ntmps36
  go_wp2_with fail
  refine (CH _).mono ?_
  rintro e w1 ⟨rfl, rfl⟩
  go_wp2_with fail
  refine (CW1 _).mono ?_
  rintro e w1 ⟨rfl, rfl⟩
  go_wp2_with fail
  refine (CW2 _).mono ?_
  rintro e w1 ⟨rfl, rfl⟩
  go_wp2_with fail
  go_ret
  exact ⟨ret_bool (by rw [Bool.eq_iff_iff, HF.out]; simp <;> omega), rfl⟩
set_option maxHeartbeats 1000000 in
theorem usedOf_any (v : Value) (l : List St) (w : World) (h : Rd SK w v l) (hs : l.length ≤ 1000) : Calls Try.prog 28 #[v] w fun e w' => e = .returned (.int .i64 (cnt l : Int)) ∧ Below w.heap.size w w' := by
  obtain ⟨sa, sc, rfl, hm', hf, hc⟩ := h
  have HT : Hid (cnt (l.take l.length) = cnt l ∧ ∀ i, i < l.length → cnt (l.take (i + 1)) = cnt (l.take i) + (if (ax l i).u then 1 else 0)) := ⟨by rw [List.take_length], fun i hi => cnt_take hi⟩
  have HB : Hid (∀ i, cnt (l.take i) ≤ 1000) := fun i => by have := cnt_le (l.take i); rw [List.length_take] at this; omega
  have hG : ∀ i, i < l.length → l[i]? = some (ax l i) := fun i hi => ax_get hi
  obtain ⟨C, HC⟩ : ∃ C : Nat → Nat, Hid (∀ i, cnt (l.take i) = C i) := ⟨fun i => cnt (l.take i), fun _ => rfl⟩
  have hz : C 0 = 0 := by rw [← HC.out 0]; rfl
  have HZ : Hid (C 0 = 0) := hz
  have HT' : Hid (C l.length = cnt l ∧ ∀ i, i < l.length → C (i + 1) = C i + (if (ax l i).u then 1 else 0)) := ⟨by rw [← HC.out]; exact HT.out.1, fun i hi => by rw [← HC.out, ← HC.out]; exact HT.out.2 i hi⟩
  have HB' : Hid (∀ i, C i ≤ 1000) := fun i => by rw [← HC.out]; exact HB.out i
  have HN : Hid (l.length = l.length) := rfl
  clear HT HB HC hz
  generalize cnt l = R at *
  generalize hn : l.length = n at *
  clear hn
  go_enter Try.func28, Try.ntmps28
  go_wp2_with fail
  go_loopw [3, 8] (fun s3 s8 wr => ∃ i : Nat, s8 = .int .i64 (i : Int) ∧ i ≤ n ∧ s3 = .int .i64 (C i : Int) ∧ Below w.heap.size w wr) (fun _ i _ => n - (intOf i).toNat)
  case atStart => exact ⟨0, rfl, Nat.zero_le _, by rw [HZ.out]; rfl, Below.refl _ _⟩
  case round =>
    obtain ⟨i, rfl, hi, rfl, bel⟩ := hrel
    by_cases hlt : i < n
    · have hlt' : (i : Int) < (n : Int) := by omega
      obtain ⟨b, off, rfl, hb, hx⟩ := hc (by omega)
      have z : ∀ (j : Nat) x, l[j]? = some x → ∀ i, i < SK.k → wr.cell? ⟨b, off + j * SK.k + i, none⟩ = (SK.enc x)[i]? := fun j y hj i hi => (bel.cell (p := ⟨b, off + j * SK.k + i, none⟩) hb).trans (hx j y hj i hi)
      have gi := hG i hlt
      have HS : Hid (C (i + 1) = C i + (if (ax l i).u then 1 else 0)) := HT'.out.2 i hlt
      have hb1 := HB'.out i
      generalize ax l i = s at *
      obtain ⟨su, sk, sv⟩ := s
      have bel1 := bel.trans (((Below.refl wr.heap.size wr).alloc (Nat.le_refl _) (.cells (St.cells ⟨su, sk, sv⟩) 40)).mono bel.size)
      clear hx hc hG HT' HB'
      cases su
      · go_wp2_with (refine rd_load SK _ rfl _ rfl b off l z i _ rfl rfl _ gi #[.bool false, .int .u64 (sk : Int), .int .i64 sv] rfl _ Try.underlying40 rfl ?_)
        go_roundw
        case rel => exact ⟨i + 1, by go_num, by omega, by rw [HS.out]; rfl, bel1⟩
        case measure => simp [intOf]; omega
      · go_wp2_with (refine rd_load SK _ rfl _ rfl b off l z i _ rfl rfl _ gi #[.bool true, .int .u64 (sk : Int), .int .i64 sv] rfl _ Try.underlying40 rfl ?_)
        go_roundw
        case rel => exact ⟨i + 1, by go_num, by omega, by rw [HS.out]; simp, bel1⟩
        case measure => simp [intOf]; omega
    · have hlt' : ¬ (i : Int) < (n : Int) := by omega
      have e : i = n := by omega
      have HE : Hid (C i = R) := by rw [e]; exact HT'.out.1
      clear hc hG HT' HB' e
      go_wp2_with fail
      go_ret
      exact ⟨ret_int (by rw [HE.out]), bel⟩
end Go.Proofs.Ytmnmjmbfnecmoaa.ti
