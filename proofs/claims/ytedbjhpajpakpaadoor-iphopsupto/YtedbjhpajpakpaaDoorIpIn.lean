/- What package ip's inner functions answer, and that they change nothing that was there. -/
import Derived.Test.YtedbjhpajpakpaaDoorIpBase
import Derived.Test.YtedbjhpajpakpaaDoorSumWalk
import Derived.Test.YtedbjhpajpakpaaDoorBufMore
import Derived.Test.YtedbjhpajpakpaaDoorBoxes
namespace Go.Proofs.YtedbjhpajpakpaaDoor.ipi
open Go.ChangeShapes Go.WideShapes Go.ChangeAt Go.RowKit
open Go.Proofs.YtedbjhpajpakpaaDoor.EM Go.Proofs.YtedbjhpajpakpaaDoor.ethb Go.Proofs.YtedbjhpajpakpaaDoor.SM Go.Proofs.YtedbjhpajpakpaaDoor.ipb Go.Proofs.YtedbjhpajpakpaaDoor.buf Go.Proofs.YtedbjhpajpakpaaDoor.boxes
open Go.Proofs.YtedbjhpajpakpaaDoor.sumw (Qd Qd.refl Qd.drewN Qd.trans)

theorem and_bit (n i : Nat) : n &&& 2 ^ i = 2 ^ i * (n / 2 ^ i % 2) := by
  apply Nat.eq_of_testBit_eq
  intro j
  rw [Nat.testBit_and, Nat.testBit_two_pow]
  by_cases h : i = j
  · subst h
    rw [Nat.testBit_two_pow_mul]
    simp [Nat.testBit_eq_decide_div_mod_eq]
  · have h0 : n / 2 ^ i % 2 = 0 ∨ n / 2 ^ i % 2 = 1 := by omega
    rcases h0 with h0 | h0
    · simp [h0, h]
    · rw [h0, Nat.mul_one, Nat.testBit_two_pow]
      simp [h]
theorem and_bit16 (x : Int) (i : Nat) (hi : i < 16) (m : Int) (hm : m = (2 ^ i : Nat)) (h0 : 0 ≤ x) (h1 : x ≤ 65535) : bits .and .u16 x m = m * (x / m % 2) := by
  subst hm
  have hp : (2 : Nat) ^ i ≤ 2 ^ 15 := Nat.pow_le_pow_right (by omega) (by omega)
  obtain ⟨n, rfl⟩ := Int.eq_ofNat_of_zero_le h0
  rw [u16_and_nat _ _ (by omega) (by omega), and_bit]
  simp
theorem and_low (x : Int) (h0 : 0 ≤ x) (h1 : x ≤ 65535) : bits .and .u16 x 8191 = x % 8192 := by
  obtain ⟨n, rfl⟩ := Int.eq_ofNat_of_zero_le h0
  have e := u16_and_nat n 8191 (by omega) (by omega)
  rw [show ((8191 : Nat) : Int) = 8191 from rfl] at e
  rw [e, show (8191 : Nat) = 2 ^ 13 - 1 from rfl, Nat.and_two_pow_sub_one_eq_mod]
  omega
theorem and_four (x : Int) (h0 : 0 ≤ x) (h1 : x ≤ 255) : bits .and .u8 x 15 = x % 16 := by
  obtain ⟨n, rfl⟩ := Int.eq_ofNat_of_zero_le h0
  have e := u8_and_nat n 15 (by omega) (by omega)
  rw [show ((15 : Nat) : Int) = 15 from rfl] at e
  rw [e, show (15 : Nat) = 2 ^ 4 - 1 from rfl, Nat.and_two_pow_sub_one_eq_mod]
  omega
theorem adr_or (a b : Int) (h0 : 0 ≤ a) (h1 : a ≤ 65535) (h2 : 0 ≤ b) (h3 : b ≤ 65535) : bits .or .u32 (a * 65536) b = 65536 * a + b := by
  rw [u32_or _ _ (by omega) (by omega) h2 (by omega), nat_join 16 _ _ (by omega) (by omega)]
  omega

theorem within_any (n m : Int) (w : World) :
    Calls Tryd.prog 52 #[.int .i64 n, .int .i64 m] w fun e w' => e = .returned (.bool (decide (0 ≤ n ∧ n ≤ m))) ∧ w' = w := by
  go_enter Tryd.func52, Tryd.ntmps52
  go_wp2
  all_goals go_ret
  all_goals exact ⟨by first | (simp_all; done) | (simp_all; omega), rfl⟩
theorem long_any (p : Pk) (w : World) (h : 20 + p.o.size + p.d.size ≤ 9223372036854775807) :
    Calls Tryd.prog 17 #[.agg p.cells] w fun e w' => e = .returned (.int .i64 (20 + p.o.size + p.d.size : Nat)) ∧ w' = w.alloc (.cells p.cells 31) := by
  go_enter Tryd.func17, Tryd.ntmps17
  go_wp2_with fail
  go_ret
  exact ⟨ret_int (by omega), rfl⟩
theorem index_at (s : ByteArray) (k : Nat) (h : k < s.size) (u : World) : (Instr.index 9 (.string s) (.int .i64 (k : Int))).run Tryd.prog u = .ok (.int .u8 (bt s k)) u := by
  rw [run_index_string u 9 s .i64 _ Tryd.underlying9, dif_pos ⟨by omega, by omega⟩]
  simp only [Int.toNat_natCast, bt_at s k h]
theorem headLong_any (s : ByteArray) (w : World) (h : 0 < s.size) :
    Calls Tryd.prog 37 #[.string s] w fun e w' => e = .returned (.int .i64 (hn s)) ∧ w' = w := by
  have hix := index_at s 0 h
  have b0 := bt_bd s 0
  have e := and_four (bt s 0) b0.1 b0.2
  have E : Hid (4 * (bt s 0 % 16) = (hn s : Int)) := by show _ = _; unfold hn; omega
  have h' : (0 : Int) < s.size := by omega
  simp only [Int.natCast_zero] at hix
  go_enter Tryd.func37, Tryd.ntmps37
  go_wp2_with fail
  go_ret
  exact ⟨ret_int (by rw [← E.out]), rfl⟩
theorem wordAt_any (s : ByteArray) (k : Nat) (w : World) (hs : s.size ≤ 281474976710656) (h : k + 1 < s.size) :
    Calls Tryd.prog 18 #[.string s, .int .i64 k] w fun e w' => e = .returned (.int .u16 (wd s k)) ∧ Qd w w' := by
  have hk0 : (k : Int) < s.size := by omega
  have hk1 : (k : Int) + 1 < s.size := by omega
  have b0 := bt_bd s k
  have b1 := bt_bd s (k + 1)
  have hix := index_at s k (by omega)
  have hix1 : ∀ u, (Instr.index 9 (.string s) (.int .i64 ((k : Int) + 1))).run Tryd.prog u = .ok (.int .u8 (bt s (k + 1))) u := fun u => by
    have := index_at s (k + 1) h u
    simpa using this
  have E : Hid (bits .or .u16 (bt s k * 256) (bt s (k + 1)) = wd s k) := word_or _ _ b0.1 b0.2 b1.1 b1.2
  go_enter Tryd.func18, Tryd.ntmps18
  go_wp2_with fail
  go_quiet (fail)
  go_wp2_with fail
  go_ret
  exact ⟨ret_int E.out, _, rfl⟩
theorem wordAt_int (s : ByteArray) (k : Int) (w : World) (hs : s.size ≤ 281474976710656) (h0 : 0 ≤ k) (h : k + 1 < s.size) :
    Calls Tryd.prog 18 #[.string s, .int .i64 k] w fun e w' => e = .returned (.int .u16 (wd s k.toNat)) ∧ Qd w w' := by
  obtain ⟨n, rfl⟩ := Int.eq_ofNat_of_zero_le h0
  exact wordAt_any s n w hs (by omega)
theorem addressAt_any (s : ByteArray) (k : Nat) (w : World) (hs : s.size ≤ 281474976710656) (h : k + 3 < s.size) :
    Calls Tryd.prog 53 #[.string s, .int .i64 k] w fun e w' => e = .returned (.int .u32 (65536 * wd s k + wd s (k + 2))) ∧ Qd w w' := by
  have b0 := wd_bd s k
  have b1 := wd_bd s (k + 2)
  have E : Hid (bits .or .u32 (wd s k * 65536) (wd s (k + 2)) = 65536 * wd s k + wd s (k + 2)) := adr_or _ _ b0.1 b0.2 b1.1 b1.2
  have hc := wordAt_int s ((k : Int) + 2) 
  have e2 : ((k : Int) + 2).toNat = k + 2 := by omega
  go_enter Tryd.func53, Tryd.ntmps53
  go_wp2_with fail
  refine (wordAt_any s k _ hs (by omega)).mono ?_
  rintro e w1 ⟨rfl, q1⟩
  go_wp2_with fail
  refine (hc _ hs (by omega) (by omega)).mono ?_
  rintro e w2 ⟨rfl, q2⟩
  rw [e2]
  go_wp2_with fail
  go_ret
  exact ⟨ret_int E.out, q1.trans q2⟩
theorem piece_any (p : Pk) (w : World) (h : p.Ok) :
    Calls Tryd.prog 34 #[.agg p.cells] w fun e w' => e = .returned (.int .u16 p.fl) ∧ w' = w.alloc (.cells p.cells 31) := by
  have s0 := h.st0
  have s1 := h.st1
  have o1 : Hid (bits .or .u16 p.st 8192 = p.st + 8192) := by
    show _ = _
    rw [u16_or _ _ s0 (by omega) (by omega) (by omega), Nat.or_comm, nat_join 13 _ _ (by decide) (by omega)]; omega
  have form := h.form
  have E : Hid (p.fl = p.st + (if p.wh = true then 16384 else 0) + (if p.mo = true then 8192 else 0)) := (rfl : _ = _)
  obtain ⟨f, hf⟩ : ∃ f, f = p.fl := ⟨_, rfl⟩
  rw [← hf] at E ⊢
  clear h hf
  obtain ⟨tos, id, wh, mo, st, li, pr, fr, to, o, d⟩ := p
  simp only at s0 s1 o1 form E ⊢
  cases wh <;> cases mo
  · go_enter Tryd.func34, Tryd.ntmps34
    go_wp2_with fail
    go_ret
    exact ⟨ret_int (by rw [E.out]; simp), rfl⟩
  · go_enter Tryd.func34, Tryd.ntmps34
    go_wp2_with fail
    go_ret
    exact ⟨ret_int (by rw [E.out]; simp; exact o1.out), rfl⟩
  · have z := (form rfl).2
    clear form
    subst z
    go_enter Tryd.func34, Tryd.ntmps34
    go_wp2_with fail
    go_ret
    exact ⟨ret_int (by rw [E.out]; rfl), rfl⟩
  · exact absurd (form rfl).1 (by simp)
theorem appendWord_any (w : World) (B : Nat) (v : Value) (l : List UInt8) (n : Int) (hown : Own w B v l) (hl : l.length ≤ 70368744177664) (hB : B ≤ w.heap.size) (h0 : 0 ≤ n) (h1 : n ≤ 65535) :
    Calls Tryd.prog 33 #[v, .int .u16 n] w fun e w' => ∃ v', e = .returned v' ∧ Own w' B v' (l ++ [hi8 n, lo8 n]) ∧ Below B w w' := by
  have e0 := hi8_at n h0 h1
  have e1 := lo8_at n
  have hh : n / 256 < 256 := by omega
  go_enter Tryd.func33, Tryd.ntmps33
  go_wp2_with (at_builtin; refine app_own _ rfl _ _ rfl B _ l rfl (hown.alloc _) ⟨w.heap.size, 0, none⟩ 2 2 [hi8 n, lo8 n] rfl rfl ?c1 (by omega) (by simp; omega) ?_)
  case c1 =>
    intro j hj
    match j, hj with
    | 0, _ => simp [Addr.add]; omega
    | 1, _ => simp [Addr.add]; omega
  intro v' w' h1 h2
  go_wp2
  go_ret
  exact ⟨_, rfl, h1, ((Below.refl _ _).alloc hB _).trans h2⟩
theorem appendAddress_any (w : World) (B : Nat) (v : Value) (l : List UInt8) (a : Int) (hown : Own w B v l) (hl : l.length ≤ 35184372088832) (hB : B ≤ w.heap.size) (h0 : 0 ≤ a) (h1 : a ≤ 4294967295) :
    Calls Tryd.prog 35 #[v, .int .u32 a] w fun e w' => ∃ v', e = .returned v' ∧ Own w' B v' (l ++ adr a) ∧ Below B w w' := by
  have hq : a / 65536 < 65536 := by omega
  go_enter Tryd.func35, Tryd.ntmps35
  go_wp2_with fail
  refine (appendWord_any _ B v l (a / 65536) hown (by omega) hB (by omega) (by omega)).mono ?_
  rintro e w1 ⟨v1, rfl, o1, b1⟩
  go_wp2_with fail
  refine (appendWord_any _ B v1 _ (a % 65536) o1 (by simp; omega) (by have := b1.size; omega) (by omega) (by omega)).mono ?_
  rintro e w2 ⟨v2, rfl, o2, b2⟩
  go_wp2_with fail
  go_ret
  exact ⟨_, rfl, by simpa [adr] using o2, b1.trans b2⟩
end Go.Proofs.YtedbjhpajpakpaaDoor.ipi
