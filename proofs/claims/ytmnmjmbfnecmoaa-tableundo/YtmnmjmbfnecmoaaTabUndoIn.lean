/- The walk through custkeep.TableUndo. -/
import Derived.Test.YtmnmjmbfnecmoaaTabLives
namespace Go.Proofs.Ytmnmjmbfnecmoaa.tui
open Go.ChangeShapes Go.WideShapes Go.ChangeAt Go.RowKit Go.BigFrame
open Go.Proofs.Ytmnmjmbfnecmoaa Go.Proofs.Ytmnmjmbfnecmoaa.tm Go.Proofs.Ytmnmjmbfnecmoaa.tb Go.Proofs.Ytmnmjmbfnecmoaa.tsh Go.Proofs.Ytmnmjmbfnecmoaa.tg Go.Proofs.Ytmnmjmbfnecmoaa.tp Go.Proofs.Ytmnmjmbfnecmoaa.tr Go.Proofs.Ytmnmjmbfnecmoaa.tk Go.Proofs.Ytmnmjmbfnecmoaa.boxes Go.Proofs.Ytmnmjmbfnecmoaa.rwr
open Go.Proofs.Ytmnmjmbfnecmoaa.rws (Knd Own)

set_option maxRecDepth 20000 in
set_option maxHeartbeats 8000000 in
theorem walk (v : Value) (l : List St) (k : Nat) (y : Int) (w : World) (hr : Rd SK w v l) :
    Calls Try.prog 6 #[.agg #[v], .int .u64 (k : Int), .int .i64 y] w fun e w' => e = .returned (.bool true) ∧ Below w.heap.size w w' := by
  have C1 := fun u hu => get_any v l k u hu
  have C2 := fun u hu => put_any v l k y u hu
  have C3 := fun u x hu => remove_any x (pl l k y) k u hu
  have C4 := fun u x hu => get_any x (pl l k y) k u hu
  have S1 := fun u a b => same_any a b l u
  have HU : Hid (pe l k = 0 → fe l k = 7 → fe (pl l k y) k = 0 ∧ gv (pl l k y) k = y ∧ rl (pl l k y) k = l) := fun h0 h7 => by
    have ht : terr l = 0 := by
      rcases fe_cases l k with ⟨a, b, _⟩ | ⟨_, a, _⟩ | ⟨_, a, _⟩
      · rcases pe_cases l k y with ⟨c, d, _⟩ | ⟨_, c, _⟩ | ⟨_, c, _⟩
        · rw [h0] at c; exact absurd c.symm d
        · exact c
        · exact c
      · exact a
      · exact a
    exact undo_spec ht k y h7 h0
  generalize pe l k = PE at *
  generalize fe l k = FE at *
  generalize gv l k = GV at *
  generalize pl l k y = PL at *
  have F0 := Blk.new w #[v] 24
  have d0 := (Below.refl w.heap.size w).alloc (Nat.le_refl _) (.cells #[v] 24)
  have r0 := hr.below d0
  obtain ⟨sa, sc, rfl⟩ := hr.form
  clear hr
  generalize hn : l.length = n at *
  clear hn
  have c0 := F0.cell
  go_enter Try.func6, Try.ntmps6
  go_wp2_with fail
  refine (C1 _ r0).mono ?_
  rintro e w1 ⟨rfl, l1⟩
  have F1 := F0.below l1 F0.lt
  have d1 := d0.trans (l1.mono d0.size)
  have r1 := r0.below l1
  clear C1 F0 d0 r0 l1 c0
  have c0 := F1.cell
  go_wp2_with fail
  refine (C2 _ r1).mono ?_
  rintro e w2 ⟨v2, rfl, o2, l2⟩
  have F2' := F1.below l2 F1.lt
  have d2' := d1.trans (l2.mono d1.size)
  have r2' := r1.below l2
  have a2' := Own.rd o2
  obtain ⟨sa2, sc2, rfl⟩ := a2'.form
  obtain ⟨n2, hn2⟩ : ∃ n, n = PL.length := ⟨_, rfl⟩
  rw [← hn2] at a2' ⊢
  clear C2 F1 d1 r1 l2 o2 c0 hn2
  have dA := (Below.refl w2.heap.size w2).alloc (Nat.le_refl _) (.cells Z1 24)
  go_upto_region 3 with (refine blk_store _ rfl 24 _ _ rfl w2.heap.size _ rfl rfl _ _ (Blk.new w2 Z1 24) 1 tb_info rfl rfl (tb_one _ _ _) ?_; intro w2 X2 p2)
  have l2 := p2.below dA (Nat.le_refl _)
  have F2 := F2'.below l2 F2'.lt
  have d2 := d2'.trans (l2.mono d2'.size)
  have r2 := r2'.below l2
  have a2 := a2'.below l2
  clear F2' d2' r2' a2' dA p2 l2
  generalize w2.heap.size = x2 at *
  go_wp2_with fail
  refine (tl.lives _).mono ?_
  rintro e w3 ⟨rfl, l3⟩
  have F3 := F2.below l3 F2.lt
  have d3 := d2.trans (l3.mono d2.size)
  have r3 := r2.below l3
  have a3 := a2.below l3
  have X3 := X2.below l3 X2.lt
  clear F2 d2 r2 a2 X2 l3
  by_cases h0 : PE = 0
  · by_cases h7 : FE = 7
    · obtain ⟨u1, u2, u3⟩ := HU.out h0 h7
      rw [u1, u3] at C3
      rw [u1, u2] at C4
      subst h0 h7
      clear HU u1 u2 u3
      have c0 := X3.cell
      go_wp2_with fail
      refine (C3 _ _ a3).mono ?_
      rintro e w4 ⟨v4, rfl, o4, l4⟩
      have F4' := F3.below l4 F3.lt
      have d4' := d3.trans (l4.mono d3.size)
      have r4' := r3.below l4
      have a4' := a3.below l4
      have X4' := X3.below l4 X3.lt
      have b4' := Own.rd o4
      obtain ⟨sa4, sc4, rfl⟩ := b4'.form
      obtain ⟨n4, hn4⟩ : ∃ n, n = l.length := ⟨_, rfl⟩
      rw [← hn4] at b4' ⊢
      clear C3 F3 d3 r3 a3 X3 l4 o4 c0 hn4
      have dA := (Below.refl w4.heap.size w4).alloc (Nat.le_refl _) (.cells Z1 24)
      go_upto_region 6 with (refine blk_store _ rfl 24 _ _ rfl w4.heap.size _ rfl rfl _ _ (Blk.new w4 Z1 24) 1 tb_info rfl rfl (tb_one _ _ _) ?_; intro w4 Y4 p4)
      have l4 := p4.below dA (Nat.le_refl _)
      have F4 := F4'.below l4 F4'.lt
      have d4 := d4'.trans (l4.mono d4'.size)
      have r4 := r4'.below l4
      have a4 := a4'.below l4
      have X4 := X4'.below l4 X4'.lt
      have b4 := b4'.below l4
      clear F4' d4' r4' a4' X4' b4' dA p4 l4
      generalize w4.heap.size = x4 at *
      have c0 := X4.cell
      go_wp2_with fail
      refine (C4 _ _ a4).mono ?_
      rintro e w5 ⟨rfl, l5⟩
      have y1 := (F4.below l5 F4.lt).cell
      have y2 := (Y4.below l5 Y4.lt).cell
      have d5 := d4.trans (l5.mono d4.size)
      have S5 := S1 _ _ _ (b4.below l5) (r4.below l5)
      clear C4 F4 Y4 d4 r4 a4 X4 b4 l5 c0 S1
      go_wp2_with fail
      refine S5.mono ?_
      rintro e w6 ⟨rfl, l6⟩
      have d6 := d5.trans (l6.mono d5.size)
      clear y1 y2 S5 l6 d5
      go_wp2_with fail
      go_ret
      exact ⟨rfl, d6⟩
    · have h7' : (FE != 7) = true := by simpa using h7
      subst h0
      clear HU C3 C4 S1 h7 F3 r3 a3 X3
      go_wp2_with fail
      refine (tl.lives _).mono ?_
      rintro e w4 ⟨rfl, l4⟩
      have d4 := d3.trans (l4.mono d3.size)
      go_wp2_with fail
      go_ret
      exact ⟨rfl, d4⟩
  · have h0' : (PE != 0) = true := by simpa using h0
    clear HU C3 C4 S1 h0 F3 r3 a3 X3
    go_wp2_with fail
    refine (tl.lives _).mono ?_
    rintro e w4 ⟨rfl, l4⟩
    have d4 := d3.trans (l4.mono d3.size)
    go_wp2_with fail
    go_ret
    exact ⟨rfl, d4⟩
end Go.Proofs.Ytmnmjmbfnecmoaa.tui
