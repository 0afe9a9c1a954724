/- What package table's homeIn, find, isFound, fits and usedOf answer. -/
import Derived.Test.YtmnmjmbfnecmoaaTabIn1
namespace Go.Proofs.Ytmnmjmbfnecmoaa.ti
open Go.ChangeShapes Go.WideShapes Go.ChangeAt Go.RowKit Go.BigFrame
open Go.Proofs.Ytmnmjmbfnecmoaa Go.Proofs.Ytmnmjmbfnecmoaa.tm Go.Proofs.Ytmnmjmbfnecmoaa.tb Go.Proofs.Ytmnmjmbfnecmoaa.boxes Go.Proofs.Ytmnmjmbfnecmoaa.rwr
open Go.Proofs.Ytmnmjmbfnecmoaa.rws (Knd Own)

theorem homeIn_any (sa : Option Addr) (n sc k : Nat) (w : World) (h : bn n ≠ 0) : Calls Try.prog 37 #[.slice sa n sc, .int .u64 (k : Int)] w fun e w' => e = .returned (.int .i64 (hm n k : Int)) ∧ w' = w := by
  have CB := fun u => bits_any sa n sc u
  have CH := fun u => home_ok (bn n) k u (by omega) (bn_le n)
  unfold hm
  clear h
  generalize bn n = b at *
  generalize hmb b k = r at *
  go_enter Try.func37, Try.ntmps37
  go_wp2_with fail
  refine (CB _).mono ?_
  rintro e w1 ⟨rfl, rfl⟩
  go_wp2_with fail
  refine (CH _).mono ?_
  rintro e w1 ⟨rfl, rfl⟩
  go_wp2_with fail
  go_ret
  exact ⟨rfl, rfl⟩
set_option maxHeartbeats 1000000 in
theorem find_any (v : Value) (l : List St) (k : Nat) (w : World) (h : Rd SK w v l) (hb : bn l.length ≠ 0) (hf : ∃ j, j < l.length ∧ (ax l j).u = false) : Calls Try.prog 31 #[v, .int .u64 (k : Int)] w fun e w' => e = .returned (.int .i64 (fnd (hl l) l k : Int)) ∧ w' = w := by
  have hbd := bn_bd hb
  obtain ⟨b, off, sc, rfl, hlt, hm', hsc, hx⟩ := rd_at h (by omega)
  have CH := fun u => homeIn_any (some ⟨b, off, none⟩) l.length sc k u hb
  have CB := fun a u ha => behind_any (some ⟨b, off, none⟩) l.length sc a u (by omega) (by omega) ha
  have hH := hl_lt hb
  have hk := hH k
  obtain ⟨R, HR⟩ : ∃ R, Hid (fnd (hl l) l k = R) := ⟨_, rfl⟩
  rw [HR.out]
  have HE : Hid (∀ j, Fnd (hl l) l k j → R = j) := fun j hj => by rw [← HR.out]; exact fnd_eq (hH k) hj
  have HX : Hid (∀ j, j < l.length → w.cell? ⟨b, off + j * 3, none⟩ = some (.bool (ax l j).u) ∧ w.cell? ⟨b, off + j * 3 + 1, none⟩ = some (.int .u64 ((ax l j).k : Int))) := fun j hj => ⟨cell_u hx hj, cell_k hx hj⟩
  have HS : Hid (∀ j, j < l.length → (∀ q, q < l.length → On (hl l k) j q → (ax l q).u = true ∧ (ax l q).k ≠ k) → ((ax l j).u = true ∧ (ax l j).k ≠ k) → (∀ q, q < l.length → On (hl l k) (nx l.length j) q → (ax l q).u = true ∧ (ax l q).k ≠ k) ∧ stp l.length (hl l k) (nx l.length j) = stp l.length (hl l k) j + 1) := fun j hj h1 h2 =>
    run_step hk hj h1 h2 (by obtain ⟨u, u1, u2⟩ := hf; exact ⟨u, u1, fun c => by rw [u2] at c; cases c.1⟩)
  have HL : Hid (∀ j, stp l.length (hl l k) j < l.length) := fun j => stp_lt hk
  have HK : Hid (hl l k < l.length) := hk
  have hn0 : ¬ (l.length : Int) = 0 := by omega
  clear hx hf HR hbd hk hH hb h
  have HF : Hid (∀ j, j < l.length → ((ax l j).u = false ∨ (ax l j).k = k) → (∀ q, q < l.length → On (hm l.length k) j q → (ax l q).u = true ∧ (ax l q).k ≠ k) → R = j) := fun j h1 h2 h3 => HE.out j ⟨h1, h2, h3⟩
  clear HE
  simp only [hl] at *
  generalize hm l.length k = hm0 at *
  generalize hn : l.length = n at *
  clear hn
  go_enter Try.func31, Try.ntmps31
  go_wp2_with fail
  refine (CH _).mono ?_
  rintro e w1 ⟨rfl, rfl⟩
  go_wp2_with fail
  go_loop [5] (fun s => ∃ j : Nat, s = .int .i64 (j : Int) ∧ j < n ∧ Hid (∀ q, q < n → On hm0 j q → (ax l q).u = true ∧ (ax l q).k ≠ k)) (fun s => n - stp n hm0 (intOf s).toNat)
  case atStart => exact ⟨hm0, rfl, HK.out, fun q _ ho => by simp only [On] at ho; omega⟩
  case round =>
    obtain ⟨j, rfl, hj, HP⟩ := hrel
    obtain ⟨cu, ck⟩ := HX.out j hj
    have hj' : (j : Int) < (n : Int) := by omega
    have CB' := fun u => CB j u hj
    have HFj := HF.out j hj
    have HSj := HS.out j hj HP.out
    clear CB CH
    cases hu : (ax l j).u
    · have hR : R = j := HFj (Or.inl hu) HP.out
      have HR : Hid (R = j) := hR
      rw [hu] at cu
      clear HFj HSj hR hu
      generalize (ax l j).k = kj at *
      go_wp2_with fail
      go_ret
      exact ⟨ret_int (by rw [HR.out]), rfl⟩
    · rw [hu] at cu
      by_cases hk : (ax l j).k = k
      · have HR : Hid (R = j) := HFj (Or.inr hk) HP.out
        rw [hk] at ck
        clear HFj HSj hu hk
        go_wp2_with fail
        go_ret
        exact ⟨ret_int (by rw [HR.out]), rfl⟩
      · have HS' : Hid ((∀ q, q < n → On hm0 (nx n j) q → (ax l q).u = true ∧ (ax l q).k ≠ k) ∧ stp n hm0 (nx n j) = stp n hm0 j + 1) := HSj ⟨hu, hk⟩
        have hk' : (((ax l j).k : Int) != (k : Int)) = true := by simp; omega
        clear HFj HSj hu hk
        generalize (ax l j).k = kj at *
        go_wp2_with fail
        refine (CB' _).mono ?_
        rintro e w1 ⟨rfl, rfl⟩
        go_wp2_with fail
        go_round
        case rel => exact ⟨nx n j, rfl, nx_lt hj, HS'.out.1⟩
        case measure =>
          have h1 := HS'.out.2
          have h2 := HL.out j
          have h3 := HL.out (nx n j)
          simp [intOf]
          omega
end Go.Proofs.Ytmnmjmbfnecmoaa.ti
