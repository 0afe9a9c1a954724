/- What package ip's inner functions answer, and that they change nothing that was there. -/
import Derived.Test.YtlbpapngcgnepaaIpBase
import Derived.Test.YtlbpapngcgnepaaSumWalk
import Derived.Test.YtlbpapngcgnepaaBufMore
import Derived.Test.YtlbpapngcgnepaaBoxes
namespace Go.Proofs.Ytlbpapngcgnepaa.ipi
open Go.ChangeShapes Go.WideShapes Go.ChangeAt Go.RowKit
open Go.Proofs.Ytlbpapngcgnepaa.EM Go.Proofs.Ytlbpapngcgnepaa.ethb Go.Proofs.Ytlbpapngcgnepaa.SM Go.Proofs.Ytlbpapngcgnepaa.ipb Go.Proofs.Ytlbpapngcgnepaa.buf Go.Proofs.Ytlbpapngcgnepaa.boxes
open Go.Proofs.Ytlbpapngcgnepaa.sumw (Qd Qd.refl Qd.drewN Qd.trans)

theorem and_bit (n i : Nat) : n &&& 2 ^ i = 2 ^ i * (n / 2 ^ i % 2) := by
  apply Nat.eq_of_testBit_eq
  intro j
  rw [Nat.testBit_and, Nat.testBit_two_pow]
  by_cases h : i = j
  · subst h
    rw [Nat.testBit_two_pow_mul]
    simp [Nat.testBit_eq_decide_div_mod_eq]
  · have h0 : n / 2 ^ i % 2 = 0 ∨ n / 2 ^ i % 2 = 1 := by omega
    rcases h0 with h0 | h0
    · simp [h0, h]
    · rw [h0, Nat.mul_one, Nat.testBit_two_pow]
      simp [h]
theorem and_bit16 (x : Int) (i : Nat) (hi : i < 16) (m : Int) (hm : m = (2 ^ i : Nat)) (h0 : 0 ≤ x) (h1 : x ≤ 65535) : bits .and .u16 x m = m * (x / m % 2) := by
  subst hm
  have hp : (2 : Nat) ^ i ≤ 2 ^ 15 := Nat.pow_le_pow_right (by omega) (by omega)
  obtain ⟨n, rfl⟩ := Int.eq_ofNat_of_zero_le h0
  rw [u16_and_nat _ _ (by omega) (by omega), and_bit]
  simp
theorem and_low (x : Int) (h0 : 0 ≤ x) (h1 : x ≤ 65535) : bits .and .u16 x 8191 = x % 8192 := by
  obtain ⟨n, rfl⟩ := Int.eq_ofNat_of_zero_le h0
  have e := u16_and_nat n 8191 (by omega) (by omega)
  rw [show ((8191 : Nat) : Int) = 8191 from rfl] at e
  rw [e, show (8191 : Nat) = 2 ^ 13 - 1 from rfl, Nat.and_two_pow_sub_one_eq_mod]
  omega
theorem and_four (x : Int) (h0 : 0 ≤ x) (h1 : x ≤ 255) : bits .and .u8 x 15 = x % 16 := by
  obtain ⟨n, rfl⟩ := Int.eq_ofNat_of_zero_le h0
  have e := u8_and_nat n 15 (by omega) (by omega)
  rw [show ((15 : Nat) : Int) = 15 from rfl] at e
  rw [e, show (15 : Nat) = 2 ^ 4 - 1 from rfl, Nat.and_two_pow_sub_one_eq_mod]
  omega
theorem adr_or (a b : Int) (h0 : 0 ≤ a) (h1 : a ≤ 65535) (h2 : 0 ≤ b) (h3 : b ≤ 65535) : bits .or .u32 (a * 65536) b = 65536 * a + b := by
  rw [u32_or _ _ (by omega) (by omega) h2 (by omega), nat_join 16 _ _ (by omega) (by omega)]
  omega

theorem within_any (n m : Int) (w : World) :
    Calls Try.prog 65 #[.int .i64 n, .int .i64 m] w fun e w' => e = .returned (.bool (decide (0 ≤ n ∧ n ≤ m))) ∧ w' = w := by
  go_enter Try.func65, Try.ntmps65
  go_wp2
  all_goals go_ret
  all_goals exact ⟨by first | (simp_all; done) | (simp_all; omega), rfl⟩
theorem long_any (p : Pk) (w : World) (h : 20 + p.o.size + p.d.size ≤ 9223372036854775807) :
    Calls Try.prog 43 #[.agg p.cells] w fun e w' => e = .returned (.int .i64 (20 + p.o.size + p.d.size : Nat)) ∧ w' = w.alloc (.cells p.cells 24) := by
  go_enter Try.func43, Try.ntmps43
  go_wp2_with fail
  go_ret
  exact ⟨ret_int (by omega), rfl⟩
theorem index_at (s : ByteArray) (k : Nat) (h : k < s.size) (u : World) : (Instr.index 9 (.string s) (.int .i64 (k : Int))).run Try.prog u = .ok (.int .u8 (bt s k)) u := by
  rw [run_index_string u 9 s .i64 _ Try.underlying9, dif_pos ⟨by omega, by omega⟩]
  simp only [Int.toNat_natCast, bt_at s k h]
theorem piece_any (p : Pk) (w : World) (h : p.Ok) :
    Calls Try.prog 45 #[.agg p.cells] w fun e w' => e = .returned (.int .u16 p.fl) ∧ w' = w.alloc (.cells p.cells 24) := by
  have s0 := h.st0
  have s1 := h.st1
  have o1 : Hid (bits .or .u16 p.st 8192 = p.st + 8192) := by
    show _ = _
    rw [u16_or _ _ s0 (by omega) (by omega) (by omega), Nat.or_comm, nat_join 13 _ _ (by decide) (by omega)]; omega
  have form := h.form
  have E : Hid (p.fl = p.st + (if p.wh = true then 16384 else 0) + (if p.mo = true then 8192 else 0)) := (rfl : _ = _)
  obtain ⟨f, hf⟩ : ∃ f, f = p.fl := ⟨_, rfl⟩
  rw [← hf] at E ⊢
  clear h hf
  obtain ⟨tos, id, wh, mo, st, li, pr, fr, to, o, d⟩ := p
  simp only at s0 s1 o1 form E ⊢
  cases wh <;> cases mo
  · go_enter Try.func45, Try.ntmps45
    go_wp2_with fail
    go_ret
    exact ⟨ret_int (by rw [E.out]; simp), rfl⟩
  · go_enter Try.func45, Try.ntmps45
    go_wp2_with fail
    go_ret
    exact ⟨ret_int (by rw [E.out]; simp; exact o1.out), rfl⟩
  · have z := (form rfl).2
    clear form
    subst z
    go_enter Try.func45, Try.ntmps45
    go_wp2_with fail
    go_ret
    exact ⟨ret_int (by rw [E.out]; rfl), rfl⟩
  · exact absurd (form rfl).1 (by simp)
theorem appendWord_any (w : World) (B : Nat) (v : Value) (l : List UInt8) (n : Int) (hown : Own w B v l) (hl : l.length ≤ 70368744177664) (hB : B ≤ w.heap.size) (h0 : 0 ≤ n) (h1 : n ≤ 65535) :
    Calls Try.prog 44 #[v, .int .u16 n] w fun e w' => ∃ v', e = .returned v' ∧ Own w' B v' (l ++ [hi8 n, lo8 n]) ∧ Below B w w' := by
  have e0 := hi8_at n h0 h1
  have e1 := lo8_at n
  have hh : n / 256 < 256 := by omega
  go_enter Try.func44, Try.ntmps44
  go_wp2_with (at_builtin; refine app_own _ rfl _ _ rfl B _ l rfl (hown.alloc _) ⟨w.heap.size, 0, none⟩ 2 2 [hi8 n, lo8 n] rfl rfl ?c1 (by omega) (by simp; omega) ?_)
  case c1 =>
    intro j hj
    match j, hj with
    | 0, _ => simp [Addr.add]; omega
    | 1, _ => simp [Addr.add]; omega
  intro v' w' h1 h2
  go_wp2
  go_ret
  exact ⟨_, rfl, h1, ((Below.refl _ _).alloc hB _).trans h2⟩
theorem appendAddress_any (w : World) (B : Nat) (v : Value) (l : List UInt8) (a : Int) (hown : Own w B v l) (hl : l.length ≤ 35184372088832) (hB : B ≤ w.heap.size) (h0 : 0 ≤ a) (h1 : a ≤ 4294967295) :
    Calls Try.prog 46 #[v, .int .u32 a] w fun e w' => ∃ v', e = .returned v' ∧ Own w' B v' (l ++ adr a) ∧ Below B w w' := by
  have hq : a / 65536 < 65536 := by omega
  go_enter Try.func46, Try.ntmps46
  go_wp2_with fail
  refine (appendWord_any _ B v l (a / 65536) hown (by omega) hB (by omega) (by omega)).mono ?_
  rintro e w1 ⟨v1, rfl, o1, b1⟩
  go_wp2_with fail
  refine (appendWord_any _ B v1 _ (a % 65536) o1 (by simp; omega) (by have := b1.size; omega) (by omega) (by omega)).mono ?_
  rintro e w2 ⟨v2, rfl, o2, b2⟩
  go_wp2_with fail
  go_ret
  exact ⟨_, rfl, by simpa [adr] using o2, b1.trans b2⟩
end Go.Proofs.Ytlbpapngcgnepaa.ipi
