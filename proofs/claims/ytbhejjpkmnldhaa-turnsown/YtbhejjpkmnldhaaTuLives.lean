/- custkeep.turnsLives: two queues. -/
import Derived.Test.YtbhejjpkmnldhaaTuRound
import Derived.Test.YtbhejjpkmnldhaaTuSame
namespace Go.Proofs.Ytbhejjpkmnldhaa.tu
open Go.ChangeShapes Go.WideShapes Go.ChangeAt Go.RowKit Go.BigFrame
open Go.Proofs.Ytbhejjpkmnldhaa Go.Proofs.Ytbhejjpkmnldhaa.boxes Go.Proofs.Ytbhejjpkmnldhaa.rwr Go.Proofs.Ytbhejjpkmnldhaa.rwat
open Go.Proofs.Ytbhejjpkmnldhaa.rws (Knd Own)

abbrev l0 : List Qu := [⟨5, 0, [3, 3]⟩, ⟨2, 0, [2]⟩]
theorem l0_chk : chk l0 = 0 := by decide
theorem l0_rnd : rnd l0 = [⟨5, 2, [3]⟩, ⟨2, 0, []⟩] := by rfl
theorem l0_snt : snt l0 = [⟨0, 3⟩, ⟨1, 2⟩] := by rfl
set_option maxRecDepth 20000 in
set_option maxHeartbeats 4000000 in
theorem lives_any (w : World) : Calls Try.prog 19 #[] w fun e w' => e = .returned (.bool true) ∧ Below w.heap.size w w' := by
  obtain ⟨V, hV⟩ : ∃ V, V = ((w.alloc (.cells #[.int .i64 3, .int .i64 3] 3)).alloc (.cells #[.int .i64 2] 3)).alloc (.cells #[.int .i64 5, .int .i64 0, .slice (some ⟨w.heap.size, 0, none⟩) 2 2, .int .i64 2, .int .i64 0, .slice (some ⟨w.heap.size + 1, 0, none⟩) 1 1] 41) := ⟨_, rfl⟩
  have b1 := (Below.refl w.heap.size w).alloc (Nat.le_refl _) (.cells #[.int .i64 3, .int .i64 3] 3)
  have b2 := b1.alloc (by simp) (.cells #[.int .i64 2] 3)
  have b3 := b2.alloc (by simp; omega) (.cells #[.int .i64 5, .int .i64 0, .slice (some ⟨w.heap.size, 0, none⟩) 2 2, .int .i64 2, .int .i64 0, .slice (some ⟨w.heap.size + 1, 0, none⟩) 1 1] 41)
  have r1 := rws.Own.lit NK w 0 (Nat.zero_le _) [3, 3] (by show 2 ≤ maxLen; decide) #[.int .i64 3, .int .i64 3] rfl
  have r2 := rws.Own.lit NK (w.alloc (.cells #[.int .i64 3, .int .i64 3] 3)) 0 (Nat.zero_le _) [2] (by show 1 ≤ maxLen; decide) #[.int .i64 2] rfl
  have r3 := rws.Own.lit QK ((w.alloc (.cells #[.int .i64 3, .int .i64 3] 3)).alloc (.cells #[.int .i64 2] 3)) 0 (Nat.zero_le _) [⟨5, 0, some ⟨w.heap.size, 0, none⟩, 2, 2⟩, ⟨2, 0, some ⟨w.heap.size + 1, 0, none⟩, 1, 1⟩] (by show 2 ≤ maxLen; decide) #[.int .i64 5, .int .i64 0, .slice (some ⟨w.heap.size, 0, none⟩) 2 2, .int .i64 2, .int .i64 0, .slice (some ⟨w.heap.size + 1, 0, none⟩) 1 1] rfl
  have T : TRd V (.slice (some ⟨w.heap.size + 1 + 1, 0, none⟩) 2 2) l0 := by
    rw [hV]
    have r3' := Own.rd r3
    have e1 : ((w.alloc (.cells #[.int .i64 3, .int .i64 3] 3)).alloc (.cells #[.int .i64 2] 3)).heap.size = w.heap.size + 1 + 1 := by simp
    rw [e1] at r3'
    refine ⟨_, r3', rfl, fun j x q hx hq => ?_⟩
    match j, hx, hq with
    | 0, hx, hq =>
      simp at hx hq
      subst hx hq
      exact ⟨rfl, rfl, (Own.rd ((r1.alloc _).alloc _))⟩
    | 1, hx, hq =>
      simp at hx hq
      subst hx hq
      have r2' := Own.rd (r2.alloc (.cells #[.int .i64 5, .int .i64 0, .slice (some ⟨w.heap.size, 0, none⟩) 2 2, .int .i64 2, .int .i64 0, .slice (some ⟨w.heap.size + 1, 0, none⟩) 1 1] 41))
      have e2 : (w.alloc (.cells #[.int .i64 3, .int .i64 3] 3)).heap.size = w.heap.size + 1 := by simp
      rw [e2] at r2'
      exact ⟨rfl, rfl, r2'⟩
    | j + 2, hx, hq => simp at hx
  have C := round_ok _ l0 V T l0_chk
  rw [l0_rnd, l0_snt] at C
  rw [← hV] at b3
  clear r1 r2 r3 T b1 b2
  subst hV
  go_enter Try.func19, Try.ntmps19
  go_wp2_with fail
  refine C.mono ?_
  rintro e w4 ⟨v', z', rfl, T, Z, z⟩
  have b4 := b3.trans (z.mono b3.size)
  clear C b3 z
  have rz := Own.rd Z
  obtain ⟨X, hr, hXl, hX⟩ := T.trd
  obtain ⟨sa, sc, rfl⟩ := hr.form
  obtain ⟨za, zc, rfl⟩ := rz.form
  have hX2 : X.length = 2 := hXl
  rw [hX2] at hr ⊢
  obtain ⟨b, off, rfl, hb, -, hc⟩ := q_cells hr (by omega)
  have ba := (Below.refl w4.heap.size w4).alloc (Nat.le_refl _) (.cells #[.int .i64 0, .int .i64 3, .int .i64 1, .int .i64 2] 34)
  have rl := rws.Own.lit ZK w4 0 (Nat.zero_le _) [⟨0, 3⟩, ⟨1, 2⟩] (by show 2 ≤ maxLen; decide) #[.int .i64 0, .int .i64 3, .int .i64 1, .int .i64 2] rfl
  have CE := equalS_same _ _ _ _ (rz.below ba) (Own.rd rl)
  have bx := b4.trans (ba.mono b4.size)
  have H0 : ∃ x, X[0]? = some x ∧ x.sv = 2 := ⟨X[0], List.getElem?_eq_getElem _, (hX 0 _ _ (List.getElem?_eq_getElem (by omega)) rfl).2.1⟩
  have H1 : ∃ x, X[1]? = some x ∧ x.sv = 0 := ⟨X[1], List.getElem?_eq_getElem _, (hX 1 _ _ (List.getElem?_eq_getElem (by omega)) rfl).2.1⟩
  obtain ⟨x0, hx0, s0⟩ := H0
  obtain ⟨x1, hx1, s1⟩ := H1
  have c0 : w4.cell? ⟨b, off + 1, none⟩ = some (.int .i64 2) := by
    have := (hc 0 x0 hx0).2.1
    rw [s0] at this
    simpa using this
  have c1 : w4.cell? ⟨b, off + 3 + 1, none⟩ = some (.int .i64 0) := by
    have := (hc 1 x1 hx1).2.1
    rw [s1] at this
    simpa using this
  clear rl rz Z T hr hXl hX hX2 hc hx0 hx1 s0 s1 x0 x1 X
  go_wp2_with fail
  refine CE.mono ?_
  rintro e w5 ⟨rfl, z⟩
  have b5 := bx.trans (z.mono bx.size)
  have z5 := ba.trans (z.mono ba.size)
  have d0 := (z5.cell (p := ⟨b, off + 1, none⟩) hb).trans c0
  have d1 := (z5.cell (p := ⟨b, off + 3 + 1, none⟩) hb).trans c1
  clear CE z z5 ba bx c0 c1
  go_wp2_with fail
  go_ret
  exact ⟨rfl, b5⟩
end Go.Proofs.Ytbhejjpkmnldhaa.tu
