/- custkeep.rulesLives: a net that may not pass, and all else. -/
import Derived.Test.YtfcnabpbpbhacaaRuSlim
namespace Go.Proofs.Ytfcnabpbpbhacaa.ru
open Go.ChangeShapes Go.WideShapes Go.ChangeAt Go.RowKit Go.BigFrame
open Go.Proofs.Ytfcnabpbpbhacaa Go.Proofs.Ytfcnabpbpbhacaa.pm Go.Proofs.Ytfcnabpbpbhacaa.pf Go.Proofs.Ytfcnabpbpbhacaa.boxes Go.Proofs.Ytfcnabpbpbhacaa.rwr
open Go.Proofs.Ytfcnabpbpbhacaa.rws (Knd Own)

def rev (p : Bool) : Ru := ⟨0, 0, 0, 0, 0, 0, 65535, 0, 65535, p⟩
def rno : Ru := ⟨167772160, 8, 0, 0, 0, 0, 65535, 80, 80, false⟩
set_option maxRecDepth 20000 in
theorem every_any (p : Bool) (w : World) : Calls Try.prog 31 #[.bool p] w fun e w' => e = .returned (.agg #[.int .u32 0, .int .i64 0, .int .u32 0, .int .i64 0, .int .i64 0, .int .i64 0, .int .i64 65535, .int .i64 0, .int .i64 65535, .bool p]) ∧ Below w.heap.size w w' := by
  have Z := Blk.new w ZU 34
  have dA := (Below.refl w.heap.size w).alloc (Nat.le_refl _) (.cells ZU 34)
  go_enter Try.func31, Try.ntmps31
  go_wp2_with (refine blk_store _ rfl 34 _ _ rfl w.heap.size (Ru.cells (rev p)) rfl rfl _ _ Z 10 ru_info rfl rfl (ru_one (rev p)) ?_; intro W3 k3 p3)
  exact blk_one rfl rfl w.heap.size (Ru.cells (rev p)) 34 rfl k3 _ Try.underlying34 rfl 10 ru_info rfl ⟨rfl, p3.below dA (Nat.le_refl _)⟩
set_option maxRecDepth 20000 in
set_option maxHeartbeats 4000000 in
theorem lives (w : World) : Calls Try.prog 16 #[] w fun e w' => e = .returned (.bool true) ∧ Below w.heap.size w w' := by
  have hl : ∀ x ∈ [rno, rev true], fits x := by
    intro x hx
    simp only [List.mem_cons, List.not_mem_nil, or_false] at hx
    rcases hx with rfl | rfl <;> exact ⟨by decide, by decide⟩
  have C1 : ∀ u v, Rd UK u v [rno, rev true] → Calls Try.prog 8 #[v, .agg #[.int .u32 167772161, .int .u32 0, .int .i64 0, .int .i64 0, .int .i64 80], .bool false] u fun e w' => e = .returned (.tuple #[.bool false, .int .i64 0, .int .i64 0]) ∧ Below u.heap.size u w' := fun u v hr => by
    have h := decide_any v [rno, rev true] ⟨167772161, 0, 0, 0, 80⟩ false u hr hl ⟨by decide, by decide⟩
    rw [show dpas [rno, rev true] ⟨167772161, 0, 0, 0, 80⟩ false = false by decide +kernel, show didx [rno, rev true] ⟨167772161, 0, 0, 0, 80⟩ = 0 by decide +kernel, show derr [rno, rev true] ⟨167772161, 0, 0, 0, 80⟩ = 0 by decide +kernel] at h
    exact h
  have C2 : ∀ u v, Rd UK u v [rno, rev true] → Calls Try.prog 8 #[v, .agg #[.int .u32 167772161, .int .u32 0, .int .i64 0, .int .i64 0, .int .i64 81], .bool false] u fun e w' => e = .returned (.tuple #[.bool true, .int .i64 1, .int .i64 0]) ∧ Below u.heap.size u w' := fun u v hr => by
    have h := decide_any v [rno, rev true] ⟨167772161, 0, 0, 0, 81⟩ false u hr hl ⟨by decide, by decide⟩
    rw [show dpas [rno, rev true] ⟨167772161, 0, 0, 0, 81⟩ false = true by decide +kernel, show didx [rno, rev true] ⟨167772161, 0, 0, 0, 81⟩ = 1 by decide +kernel, show derr [rno, rev true] ⟨167772161, 0, 0, 0, 81⟩ = 0 by decide +kernel] at h
    exact h
  have CE := fun u => every_any true u
  clear hl
  go_enter Try.func16, Try.ntmps16
  go_wp2_with fail
  refine (CE _).mono ?_
  rintro e w1 ⟨rfl, b0⟩
  have O2 := Own.lit UK w1 w1.heap.size (Nat.le_refl _) [rno, rev true] (by show (2 : Nat) ≤ maxLen; decide) #[.int .u32 167772160, .int .i64 8, .int .u32 0, .int .i64 0, .int .i64 0, .int .i64 0, .int .i64 65535, .int .i64 80, .int .i64 80, .bool false, .int .u32 0, .int .i64 0, .int .u32 0, .int .i64 0, .int .i64 0, .int .i64 0, .int .i64 65535, .int .i64 0, .int .i64 65535, .bool true] rfl
  have dA := (Below.refl w1.heap.size w1).alloc (Nat.le_refl _) (.cells #[.int .u32 167772160, .int .i64 8, .int .u32 0, .int .i64 0, .int .i64 0, .int .i64 0, .int .i64 65535, .int .i64 80, .int .i64 80, .bool false, .int .u32 0, .int .i64 0, .int .u32 0, .int .i64 0, .int .i64 0, .int .i64 0, .int .i64 65535, .int .i64 0, .int .i64 65535, .bool true] 34)
  have R2 : Rd UK (w1.alloc (.cells #[.int .u32 167772160, .int .i64 8, .int .u32 0, .int .i64 0, .int .i64 0, .int .i64 0, .int .i64 65535, .int .i64 80, .int .i64 80, .bool false, .int .u32 0, .int .i64 0, .int .u32 0, .int .i64 0, .int .i64 0, .int .i64 0, .int .i64 65535, .int .i64 0, .int .i64 65535, .bool true] 34)) (.slice (some ⟨w1.heap.size, 0, none⟩) 2 2) [rno, rev true] := Own.rd O2
  have b2 := b0.trans (dA.mono b0.size)
  generalize hL : [rno, rev true] = L at *
  clear hL CE O2 dA b0
  go_upto_region 2 with fail
  generalize hV : w1.alloc (.cells #[.int .u32 167772160, .int .i64 8, .int .u32 0, .int .i64 0, .int .i64 0, .int .i64 0, .int .i64 65535, .int .i64 80, .int .i64 80, .bool false, .int .u32 0, .int .i64 0, .int .u32 0, .int .i64 0, .int .i64 0, .int .i64 0, .int .i64 65535, .int .i64 0, .int .i64 65535, .bool true] 34) = V at *
  clear hV
  obtain ⟨sv, hsv⟩ : ∃ sv : Value, sv = .slice (some ⟨w1.heap.size, 0, none⟩) 2 2 := ⟨_, rfl⟩
  have R3 : Rd UK V sv L := by rw [hsv]; exact R2
  rw [← hsv]
  clear R2 hsv
  have D1 := C1 V sv R3
  go_wp2_with fail
  refine D1.mono ?_
  rintro e w3 ⟨rfl, z3⟩
  have b3 := b2.trans (z3.mono b2.size)
  have D2 := C2 w3 sv (R3.below z3)
  clear D1 C1 C2
  go_wp2_with fail
  refine D2.mono ?_
  rintro e w4 ⟨rfl, z4⟩
  go_wp2_with fail
  go_ret
  exact ⟨rfl, b3.trans (z4.mono b3.size)⟩
end Go.Proofs.Ytfcnabpbpbhacaa.ru
