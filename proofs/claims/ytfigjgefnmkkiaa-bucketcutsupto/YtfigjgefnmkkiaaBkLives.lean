/- custkeep.bucketLives: two drops, of which one is too much. -/
import Derived.Test.YtfigjgefnmkkiaaBkRun
import Derived.Test.YtfigjgefnmkkiaaBkShelf
import Derived.Laws.StructEq
import Derived.ChangeKeysEq
namespace Go.Proofs.Ytfigjgefnmkkiaa.bkt
open Go.ChangeShapes Go.WideShapes Go.ChangeAt Go.RowKit Go.BigFrame
open Go.Proofs.Ytfigjgefnmkkiaa Go.Proofs.Ytfigjgefnmkkiaa.boxes Go.Proofs.Ytfigjgefnmkkiaa.rwr
open Go.Proofs.Ytfigjgefnmkkiaa.rws (Knd Own)

def lb : Bu := ⟨2, 10, 5, 0⟩
def ld : List Dp := [⟨1, 8⟩, ⟨2, 9⟩]
theorem lives_run : rst lb ld = ⟨2, 10, 0, 2⟩ ∧ rtd lb ld = [false, true] ∧ rerr lb ld = 0 := ⟨rfl, rfl, rfl⟩
set_option maxRecDepth 20000 in
set_option maxHeartbeats 4000000 in
theorem lives (w : World) : Calls Try.prog 18 #[] w fun e w' => e = .returned (.bool true) ∧ Below w.heap.size w w' := by
  have C1 : ∀ u v, Rd DK u v [⟨1, 8⟩, ⟨2, 9⟩] → Calls Try.prog 10 #[.agg #[.int .i64 2, .int .i64 10, .int .i64 5, .int .i64 0], v] u fun e w' => ∃ v', e = .returned (.tuple #[.agg #[.int .i64 2, .int .i64 10, .int .i64 0, .int .i64 2], v', .int .i64 0]) ∧ Own BK w' u.heap.size v' [false, true] ∧ Below u.heap.size u w' := fun u v hr => by
    have h := run_any lb v ld u hr
    rw [lives_run.1, lives_run.2.1, lives_run.2.2] at h
    exact h
  have O2 := Own.lit DK w w.heap.size (Nat.le_refl _) [⟨1, 8⟩, ⟨2, 9⟩] (by show (2 : Nat) ≤ maxLen; decide) #[.int .i64 1, .int .i64 8, .int .i64 2, .int .i64 9] rfl
  have dA := (Below.refl w.heap.size w).alloc (Nat.le_refl _) (.cells #[.int .i64 1, .int .i64 8, .int .i64 2, .int .i64 9] 40)
  have R2 : Rd DK (w.alloc (.cells #[.int .i64 1, .int .i64 8, .int .i64 2, .int .i64 9] 40)) (.slice (some ⟨w.heap.size, 0, none⟩) 2 2) [⟨1, 8⟩, ⟨2, 9⟩] := Own.rd O2
  have D1 := C1 _ _ R2
  clear C1 O2 R2
  go_enter Try.func18, Try.ntmps18
  go_wp2_with fail
  refine D1.mono ?_
  rintro e w3 ⟨v', rfl, O3, z3⟩
  have b3 := dA.trans (z3.mono dA.size)
  have R3 := Own.rd O3
  have hw3 := b3.size
  clear D1 O3 z3 dA
  have Z := Blk.new w3 #[.int .i64 0, .int .i64 0, .int .i64 0, .int .i64 0] 23
  have dB := (Below.refl w3.heap.size w3).alloc (Nat.le_refl _) (.cells #[.int .i64 0, .int .i64 0, .int .i64 0, .int .i64 0] 23)
  go_upto_region 2 with (refine blk_store _ rfl 23 _ _ rfl w3.heap.size #[.int .i64 2, .int .i64 10, .int .i64 0, .int .i64 2] rfl rfl _ _ Z 4 bu_info rfl rfl (bu_one ⟨2, 10, 0, 2⟩) ?_; intro W5 K5 p5)
  have d5 := p5.below dB (Nat.le_refl _)
  have b5 := b3.trans (d5.mono hw3)
  have R5 := R3.below d5
  have dC := (Below.refl W5.heap.size W5).alloc (Nat.le_refl _) (.cells #[.bool false, .bool true] 4)
  have b6 := b5.trans (dC.mono b5.size)
  have R5' := R5.below dC
  have R6 : Rd BK (W5.alloc (.cells #[.bool false, .bool true] 4)) (.slice (some ⟨W5.heap.size, 0, none⟩) 2 2) [false, true] := Own.rd (Own.lit BK W5 W5.heap.size (Nat.le_refl _) [false, true] (by show (2 : Nat) ≤ maxLen; decide) #[.bool false, .bool true] rfl)
  have K6 := K5.below dC K5.lt
  have CE := equal_any _ _ _ _ _ R5' R6
  clear Z dB p5 d5 R3 R5 R5' R6 b3 b5 dC K5
  go_wp2_with fail
  refine CE.mono ?_
  rintro e w7 ⟨rfl, z7⟩
  have K7 := K6.below z7 K6.lt
  have b7 := b6.trans (z7.mono b6.size)
  rw [show ([false, true] == [false, true]) = true from rfl]
  clear CE K6 b6 z7
  have c7 := K7.cell
  go_wp2_with fail
  go_ret
  exact ⟨rfl, b7⟩
end Go.Proofs.Ytfigjgefnmkkiaa.bkt
