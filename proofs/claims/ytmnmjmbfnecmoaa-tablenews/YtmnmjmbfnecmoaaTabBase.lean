/- Slots as they lie in memory; how many bits a number of slots has; the home of a key. -/
import Derived.Test.YtmnmjmbfnecmoaaTabMath
import Derived.Test.YtmnmjmbfnecmoaaRwsRd
import Derived.Test.YtmnmjmbfnecmoaaAb
import Derived.WalkSpells
import Derived.WalkLawsBesides
import Derived.BigQuiet
import Derived.Deep.RegionWith
import Derived.Deep.DeepCutAuto
import Derived.LoopN
namespace Go.Proofs.Ytmnmjmbfnecmoaa.tb
open Go.ChangeShapes Go.WideShapes Go.ChangeAt Go.RowKit
open Go.Proofs.Ytmnmjmbfnecmoaa.tm Go.Proofs.Ytmnmjmbfnecmoaa.boxes Go.Proofs.Ytmnmjmbfnecmoaa.rwr
open Go.Proofs.Ytmnmjmbfnecmoaa.rws (Knd Own)

abbrev St.cells (s : St) : Array Value := #[.bool s.u, .int .u64 (s.k : Int), .int .i64 s.v]
theorem st_one (s : St) : (St.cells s).all (·.oneCell') = true := by simp [Value.oneCell']
def SK : Knd St := { e := 40, s := 22, k := 3, by_ := 24, z := .agg #[.bool false, .int .u64 0, .int .i64 0], enc := St.cells, hk := fun _ => rfl, h1 := st_one, pos := by decide, hz := rfl, hs := Try.underlying22, info := by kernel_rfl }
theorem sl_info : (Try.prog.info? 40).map (·.size) = some 3 := by kernel_rfl
theorem tb_info : (Try.prog.info? 24).map (·.size) = some 1 := by kernel_rfl
/-- how many bits -/
def bn (n : Nat) : Nat := if n = 2 then 1 else if n = 4 then 2 else if n = 8 then 3 else if n = 16 then 4 else if n = 32 then 5 else if n = 64 then 6 else 0
def hmb (b k : Nat) : Nat := k * 11400714819323198485 % 18446744073709551616 / 2 ^ (64 - b)
def hm (n k : Nat) : Nat := hmb (bn n) k
theorem bn_le (n : Nat) : bn n ≤ 6 := by unfold bn; repeat' split
                                         all_goals omega
theorem bn_cases {n : Nat} (h : bn n ≠ 0) : (bn n = 1 ∧ n = 2) ∨ (bn n = 2 ∧ n = 4) ∨ (bn n = 3 ∧ n = 8) ∨ (bn n = 4 ∧ n = 16) ∨ (bn n = 5 ∧ n = 32) ∨ (bn n = 6 ∧ n = 64) := by
  unfold bn at h ⊢
  repeat' split
  all_goals simp_all
theorem bn_two {n : Nat} (h : bn n ≠ 0) : n = 2 ^ bn n := by
  rcases bn_cases h with ⟨a, b⟩ | ⟨a, b⟩ | ⟨a, b⟩ | ⟨a, b⟩ | ⟨a, b⟩ | ⟨a, b⟩ <;> rw [a, b]
theorem bn_pow {b : Nat} (h1 : 1 ≤ b) (h2 : b ≤ 6) : bn (2 ^ b) = b := by
  have : b = 1 ∨ b = 2 ∨ b = 3 ∨ b = 4 ∨ b = 5 ∨ b = 6 := by omega
  rcases this with rfl | rfl | rfl | rfl | rfl | rfl <;> rfl
theorem bn_bd {n : Nat} (h : bn n ≠ 0) : 2 ≤ n ∧ n ≤ 64 := by rcases bn_cases h with ⟨_, b⟩ | ⟨_, b⟩ | ⟨_, b⟩ | ⟨_, b⟩ | ⟨_, b⟩ | ⟨_, b⟩ <;> omega
theorem hmb_lt {b k : Nat} (h2 : b ≤ 64) : hmb b k < 2 ^ b := by
  unfold hmb
  rw [Nat.div_lt_iff_lt_mul (Nat.two_pow_pos _), ← Nat.pow_add, show b + (64 - b) = 64 by omega]
  exact Nat.mod_lt _ (by decide)
theorem hm_lt {n : Nat} (h : bn n ≠ 0) (k : Nat) : hm n k < n := by
  have h1 : hmb (bn n) k < 2 ^ bn n := hmb_lt (by have := bn_le n; omega)
  rw [← bn_two h] at h1
  exact h1
def rb (b : Int) : Bool := decide (1 ≤ b) && decide (b ≤ 6)
/-- a table's home -/
abbrev hl (l : List St) : Nat → Nat := hm l.length
theorem hl_lt {l : List St} (h : bn l.length ≠ 0) : ∀ k, hl l k < l.length := hm_lt h
open Classical in
/-- a table's error -/
noncomputable def terr (l : List St) : Int := if bn l.length = 0 then 1 else if Rt (hl l) l then 0 else 4
theorem terr_arg {l : List St} (h : bn l.length = 0) : terr l = 1 := by unfold terr; rw [if_pos h]
theorem terr_form {l : List St} (h : bn l.length ≠ 0) (hr : ¬ Rt (hl l) l) : terr l = 4 := by unfold terr; rw [if_neg h, if_neg hr]
theorem terr_ok {l : List St} (h : bn l.length ≠ 0) (hr : Rt (hl l) l) : terr l = 0 := by unfold terr; rw [if_neg h, if_pos hr]
theorem terr_cases (l : List St) : (terr l = 1 ∧ bn l.length = 0) ∨ (terr l = 4 ∧ bn l.length ≠ 0 ∧ ¬ Rt (hl l) l) ∨ (terr l = 0 ∧ bn l.length ≠ 0 ∧ Rt (hl l) l) := by
  by_cases h : bn l.length = 0
  · exact Or.inl ⟨terr_arg h, h⟩
  · by_cases hr : Rt (hl l) l
    · exact Or.inr (Or.inr ⟨terr_ok h hr, h, hr⟩)
    · exact Or.inr (Or.inl ⟨terr_form h hr, h, hr⟩)
theorem terr_zero {l : List St} (h : terr l = 0) : bn l.length ≠ 0 ∧ Rt (hl l) l := by
  rcases terr_cases l with ⟨a, _⟩ | ⟨a, _⟩ | ⟨_, b⟩
  · omega
  · omega
  · exact b
theorem ret_int {k : IntKind} {a b : Int} (h : a = b) : Ending.returned (.int k a) = .returned (.int k b) := by rw [h]
theorem ret_bool {a b : Bool} (h : a = b) : Ending.returned (.bool a) = .returned (.bool b) := by rw [h]
theorem ret_two {a a' b b' : Int} (h1 : a = a') (h2 : b = b') : Ending.returned (.tuple #[.int .i64 a, .int .i64 b]) = .returned (.tuple #[.int .i64 a', .int .i64 b']) := by rw [h1, h2]
theorem tmod_nat (a n : Nat) : ((a : Int)).tmod (n : Int) = ((a % n : Nat) : Int) := by
  rw [Int.tmod_eq_emod_of_nonneg (by omega)]; omega
theorem nx_tmod (n a : Nat) : ((a : Int) + 1).tmod (n : Int) = (nx n a : Int) := by
  have := tmod_nat (a + 1) n
  unfold nx
  rw [← this]; congr 1
theorem stp_tmod (n a b : Nat) (h : a ≤ b + n) : ((b : Int) - (a : Int) + (n : Int)).tmod (n : Int) = (stp n a b : Int) := by
  have := tmod_nat (b + n - a) n
  unfold stp
  rw [← this]; congr 1; omega
/-- a row of slots that isn't empty: where it lies -/
theorem rd_at {w : World} {v : Value} {l : List St} (h : Rd SK w v l) (hp : 0 < l.length) : ∃ b off sc, v = .slice (some ⟨b, off, none⟩) l.length sc ∧ b < w.heap.size ∧ l.length ≤ 9223372036854775807 ∧ l.length ≤ sc ∧ ∀ j x, l[j]? = some x → ∀ i, i < SK.k → w.cell? ⟨b, off + j * SK.k + i, none⟩ = (SK.enc x)[i]? := by
  obtain ⟨sa, sc, rfl, hm, hf, hc⟩ := h
  obtain ⟨b, off, rfl, hb, hx⟩ := hc hp
  exact ⟨b, off, sc, rfl, hb, by unfold maxLen at hm; omega, hf.le, hx⟩
theorem cell_u {w : World} {b off : Nat} {l : List St} (hx : ∀ j x, l[j]? = some x → ∀ i, i < SK.k → w.cell? ⟨b, off + j * SK.k + i, none⟩ = (SK.enc x)[i]?) {j : Nat} (hj : j < l.length) : w.cell? ⟨b, off + j * 3, none⟩ = some (.bool (ax l j).u) := hx j _ (ax_get hj) 0 (by decide)
theorem cell_k {w : World} {b off : Nat} {l : List St} (hx : ∀ j x, l[j]? = some x → ∀ i, i < SK.k → w.cell? ⟨b, off + j * SK.k + i, none⟩ = (SK.enc x)[i]?) {j : Nat} (hj : j < l.length) : w.cell? ⟨b, off + j * 3 + 1, none⟩ = some (.int .u64 ((ax l j).k : Int)) := hx j _ (ax_get hj) 1 (by decide)
theorem cell_v {w : World} {b off : Nat} {l : List St} (hx : ∀ j x, l[j]? = some x → ∀ i, i < SK.k → w.cell? ⟨b, off + j * SK.k + i, none⟩ = (SK.enc x)[i]?) {j : Nat} (hj : j < l.length) : w.cell? ⟨b, off + j * 3 + 2, none⟩ = some (.int .i64 (ax l j).v) := hx j _ (ax_get hj) 2 (by decide)
end Go.Proofs.Ytmnmjmbfnecmoaa.tb
