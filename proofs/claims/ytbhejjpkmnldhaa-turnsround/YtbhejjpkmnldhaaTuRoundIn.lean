/- The walk through custlaw.TurnsRound. -/
import Derived.Test.YtbhejjpkmnldhaaTuRounded
import Derived.Test.YtbhejjpkmnldhaaTuRef
import Derived.Test.YtbhejjpkmnldhaaTuSame
namespace Go.Proofs.Ytbhejjpkmnldhaa.tu
open Go.ChangeShapes Go.WideShapes Go.ChangeAt Go.RowKit Go.BigFrame
open Go.Proofs.Ytbhejjpkmnldhaa Go.Proofs.Ytbhejjpkmnldhaa.boxes Go.Proofs.Ytbhejjpkmnldhaa.rwr Go.Proofs.Ytbhejjpkmnldhaa.rwat
open Go.Proofs.Ytbhejjpkmnldhaa.rws (Knd Own)

set_option maxRecDepth 20000 in
set_option maxHeartbeats 4000000 in
theorem round_walk (v : Value) (L : List Qu) (w : World) (h : TRd w v L) : Calls Try.prog 3 #[v] w fun e w' => e = .returned (.bool true) ∧ Below w.heap.size w w' := by
  have CR := fun u hu => right_any v L u hu
  have CC := fun u hu => check_any v L u hu
  have b0 := Below.refl w.heap.size w
  by_cases hc : chk L = 0
  rotate_left
  · have C0 := round_bad v L w h hc
    have hc2 : (chk L != 0) = true := by simpa using hc
    obtain ⟨sa, sc, rfl⟩ := h.form
    generalize L.length = n at *
    generalize chk L = c at *
    go_enter Try.func3, Try.ntmps3
    go_wp2_with fail
    refine C0.mono ?_
    rintro e w1 ⟨rfl, z⟩
    replace h := h.below z
    replace b0 := b0.trans (z.mono b0.size)
    clear z C0
    have C := CR w1 h
    go_wp2_with fail
    refine C.mono ?_
    rintro e w2 ⟨rfl, z⟩
    replace h := h.below z
    replace b0 := b0.trans (z.mono b0.size)
    clear z C CR
    have C := CC w2 h
    go_wp2_with fail
    refine C.mono ?_
    rintro e w3 ⟨rfl, z⟩
    replace b0 := b0.trans (z.mono b0.size)
    clear z C CC
    go_wp2_with fail
    go_ret
    exact ⟨rfl, b0⟩
  have C0 := round_ok v L w h hc
  have CD := fun u hu => rounded_any v L u hu hc
  rw [hc] at CR CC
  have HL : Hid ((rnd L).length = L.length) := rnd_length L
  obtain ⟨sa, sc, rfl⟩ := h.form
  generalize L.length = n at *
  clear hc
  go_enter Try.func3, Try.ntmps3
  go_wp2_with fail
  refine C0.mono ?_
  rintro e w1 ⟨v1, z1, rfl, T1, Z1, z⟩
  replace h := h.below z
  replace b0 := b0.trans (z.mono b0.size)
  clear z C0
  have R1 := T1.trd
  have S1 := Own.rd Z1
  clear T1 Z1
  have C := CR w1 h
  go_wp2_with fail
  refine C.mono ?_
  rintro e w2 ⟨rfl, z⟩
  replace h := h.below z
  replace b0 := b0.trans (z.mono b0.size)
  replace R1 := R1.below z
  replace S1 := S1.below z
  clear z C CR
  have C := CC w2 h
  go_wp2_with fail
  refine C.mono ?_
  rintro e w3 ⟨rfl, z⟩
  replace h := h.below z
  replace b0 := b0.trans (z.mono b0.size)
  replace R1 := R1.below z
  replace S1 := S1.below z
  clear z C CC
  have C := CD w3 h
  go_wp2_with fail
  refine C.mono ?_
  rintro e w4 ⟨v2, z2, rfl, T2, Z2, z⟩
  replace b0 := b0.trans (z.mono b0.size)
  replace R1 := R1.below z
  replace S1 := S1.below z
  clear z C CD
  have R2 := T2.trd
  have S2 := Own.rd Z2
  clear T2 Z2
  have C := same_any v1 v2 _ w4 R1 R2
  obtain ⟨a1, c1, rfl⟩ := R1.form
  obtain ⟨a2, c2, rfl⟩ := R2.form
  obtain ⟨a3, c3, rfl⟩ := S1.form
  obtain ⟨a4, c4, rfl⟩ := S2.form
  clear R1 R2
  go_wp2_with fail
  refine C.mono ?_
  rintro e w5 ⟨rfl, z⟩
  replace b0 := b0.trans (z.mono b0.size)
  have C2 := equalS_same _ _ _ w5 (S1.below z) (S2.below z)
  clear z C S1 S2
  go_wp2_with fail
  refine C2.mono ?_
  rintro e w6 ⟨rfl, z⟩
  replace b0 := b0.trans (z.mono b0.size)
  go_wp2_with fail
  go_ret
  exact ⟨rfl, b0⟩
end Go.Proofs.Ytbhejjpkmnldhaa.tu
