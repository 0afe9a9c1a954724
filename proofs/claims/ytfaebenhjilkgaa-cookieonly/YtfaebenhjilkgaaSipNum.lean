/- What package sip's number and custref.eight answer: bytes as a number, the lowest first. -/
import Derived.Test.YtfaebenhjilkgaaSipTake
namespace Go.Proofs.Ytfaebenhjilkgaa.sipn
open Go.ChangeShapes Go.WideShapes Go.ChangeAt Go.RowKit Go.BigFrame
open Go.Proofs.Ytfaebenhjilkgaa Go.Proofs.Ytfaebenhjilkgaa.sipm Go.Proofs.Ytfaebenhjilkgaa.boxes Go.Proofs.Ytfaebenhjilkgaa.ethb Go.Proofs.Ytfaebenhjilkgaa.sipb Go.Proofs.Ytfaebenhjilkgaa.sipt
open Go.Proofs.Ytfaebenhjilkgaa.sumw (Qd Qd.refl Qd.drewN Qd.trans)

def val : List UInt8 → Nat
  | [] => 0
  | b :: r => val r * 256 + b.toNat
theorem val_lt : ∀ l : List UInt8, val l < 256 ^ l.length
  | [] => by simp [val]
  | b :: r => by
    have := val_lt r
    have hb := b.toNat_lt
    simp only [val, List.length_cons, Nat.pow_succ]
    omega
theorem val_snoc (b : UInt8) : ∀ l : List UInt8, val (l ++ [b]) = val l + b.toNat * 256 ^ l.length
  | [] => by simp [val]
  | c :: r => by
    have := val_snoc b r
    simp only [List.cons_append, val, this, List.length_cons, Nat.pow_succ, Nat.add_mul, Nat.mul_assoc]
    omega
theorem eight_val : ∀ l : List UInt8, l.length ≤ 8 → (eight l).toNat = val l
  | [], _ => rfl
  | b :: r, h => by
    have h1 := eight_val r (by simp at h; omega)
    have h2 := val_lt (b :: r)
    have h3 : 256 ^ (b :: r).length ≤ 256 ^ 8 := Nat.pow_le_pow_right (by decide) h
    have hb := b.toNat_lt
    have e : val (b :: r) = val r * 256 + b.toNat := rfl
    simp only [eight, UInt64.toNat_add, UInt64.toNat_mul, UInt64.toNat_ofNat', h1, e]
    have h256 : (256 : UInt64).toNat = 256 := rfl
    rw [h256]
    rw [e] at h2
    omega
theorem eight_cons (b : UInt8) (r : List UInt8) : (eight (b :: r)).toNat = ((eight r).toNat * 256 + b.toNat) % 18446744073709551616 := by
  have hb := b.toNat_lt
  have h256 : (256 : UInt64).toNat = 256 := rfl
  simp only [eight, UInt64.toNat_add, UInt64.toNat_mul, UInt64.toNat_ofNat', h256]
  omega
theorem at_list (s : ByteArray) (k : Nat) (h : k < s.size) : s.data.toList[k]? = some s[k] := by
  rw [Array.getElem?_toList]
  exact Array.getElem?_eq_getElem h
theorem drop_at (s : ByteArray) (k : Nat) (h : k < s.size) : s.data.toList.drop k = s[k] :: s.data.toList.drop (k + 1) := by
  have hl : s.data.toList.length = s.size := by simp
  rw [List.drop_eq_getElem_cons (by omega)]
  rfl
theorem take_at (s : ByteArray) (k : Nat) (h : k < s.size) : s.data.toList.take (k + 1) = s.data.toList.take k ++ [s[k]] := by
  have hl : s.data.toList.length = s.size := by simp
  rw [List.take_succ_eq_append_getElem (by omega)]
  rfl
theorem step_law (s : ByteArray) (k : Nat) (hk : k < s.size) (h8 : k < 8) :
    bits .or .u64 ((eight (s.data.toList.take k)).toNat : Int) (IntKind.u64.wrap (IntKind.u64.wrap (s[k].toNat : Int) * 2 ^ (8 * k))) = ((eight (s.data.toList.take (k + 1))).toNat : Int) := by
  have hl : s.data.toList.length = s.size := by simp
  have ht : (s.data.toList.take k).length = k := by rw [List.length_take]; omega
  rw [take_at s k hk, eight_val _ (by omega), eight_val _ (by rw [List.length_append, ht]; simp; omega), val_snoc, ht]
  have hv := val_lt (s.data.toList.take k)
  rw [ht] at hv
  generalize val (s.data.toList.take k) = v at *
  have hb := s[k].toNat_lt
  generalize s[k].toNat = b at *
  have e : (2 : Nat) ^ (8 * k) = 256 ^ k := by rw [Nat.pow_mul]
  have e' : (2 : Int) ^ (8 * k) = ((256 ^ k : Nat) : Int) := by rw [← e]; push_cast; rfl
  have hp : 256 ^ k * 256 ≤ 256 ^ 8 := by rw [← Nat.pow_succ]; exact Nat.pow_le_pow_right (by decide) h8
  have hm : b * 256 ^ k ≤ 255 * 256 ^ k := Nat.mul_le_mul_right _ (by omega)
  have h64 : (256 : Nat) ^ 8 = 18446744073709551616 := by decide
  have eb : IntKind.u64.wrap (b : Int) = b := by rw [IntKind.wrap_u64]; omega
  have ew : IntKind.u64.wrap ((b : Int) * ((256 ^ k : Nat) : Int)) = ((b * 256 ^ k : Nat) : Int) := by
    rw [IntKind.wrap_u64, ← Int.natCast_mul]; omega
  rw [eb, e', ew, u64_or_nat _ _ (by omega) (by omega), Nat.or_comm, nat_join (8 * k) _ _ (by rw [e]; exact Nat.mul_mod_left _ _) (by rw [e]; exact hv), Nat.add_comm]

set_option maxHeartbeats 4000000 in
theorem eight_any (s : ByteArray) (w : World) (h8 : s.size = 8) : Calls Try.prog 40 #[.string s] w fun e w' => e = .returned (nm (eight s.data.toList)) ∧ w' = w := by
  have hl : s.data.toList.length = s.size := by simp
  go_enter Try.func40, Try.ntmps40
  go_wp2_with fail
  go_loopw [3, 4] (fun n i wr => ∃ k : Nat, i = .int .i64 ((k : Int) - 1) ∧ k ≤ 8 ∧ n = nm (eight (s.data.toList.drop k)) ∧ wr = w) (fun _ i _ => (intOf i + 1).toNat)
  case atStart => exact ⟨8, rfl, Nat.le_refl _, by rw [List.drop_eq_nil_of_le (by omega)]; rfl, rfl⟩
  case round =>
    obtain ⟨k, rfl, hk, rfl, rfl⟩ := hrel
    by_cases h0 : k = 0
    · subst h0
      go_wp2_with fail
      go_ret
      exact ⟨rfl, rfl⟩
    · obtain ⟨j, rfl⟩ : ∃ j, k = j + 1 := ⟨k - 1, by omega⟩
      have h1 : (0 : Int) ≤ ((j + 1 : Nat) : Int) - 1 := by omega
      go_wp2_with fail
      refine ⟨⟨j, rfl, by omega, ?_, trivial⟩, by simp [intOf]⟩
      refine congrArg (Value.int .u64) ?_
      rw [drop_at s j (by omega), IntKind.wrap_u64, IntKind.wrap_u64, IntKind.wrap_u64, eight_cons]
      omega
set_option maxHeartbeats 4000000 in
theorem number_any (s : ByteArray) (w : World) (h8 : s.size ≤ 8) : Calls Try.prog 35 #[.string s] w fun e w' => e = .returned (nm (eight s.data.toList)) ∧ w' = w := by
  have hl : s.data.toList.length = s.size := by simp
  go_enter Try.func35, Try.ntmps35
  go_wp2_with fail
  go_loopw [3, 7] (fun n i wr => ∃ k : Nat, i = .int .i64 (k : Int) ∧ k ≤ s.size ∧ n = nm (eight (s.data.toList.take k)) ∧ wr = w) (fun _ i _ => s.size - (intOf i).toNat)
  case atStart => exact ⟨0, rfl, Nat.zero_le _, rfl, rfl⟩
  case round =>
    obtain ⟨k, rfl, hk, rfl, rfl⟩ := hrel
    by_cases h0 : k < s.size
    · have h1 : (k : Int) < s.size := by omega
      have h2 : (k : Int) < 8 := by omega
      go_wp2_with fail
      refine ⟨⟨k + 1, by simp, by omega, ?_, trivial⟩, by simp [intOf]; omega⟩
      exact congrArg (Value.int .u64) (step_law s k h0 (by omega))
    · have h1 : ¬ (k : Int) < s.size := by omega
      obtain rfl : k = s.size := by omega
      go_wp2_with fail
      go_ret
      rw [← hl, List.take_length]
      exact ⟨rfl, rfl⟩
end Go.Proofs.Ytfaebenhjilkgaa.sipn
