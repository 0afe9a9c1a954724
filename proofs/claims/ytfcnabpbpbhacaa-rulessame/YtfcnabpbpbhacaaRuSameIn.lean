/- The walk of custkeep.RulesSame. -/
import Derived.Test.YtfcnabpbpbhacaaRuLives
namespace Go.Proofs.Ytfcnabpbpbhacaa.ru
open Go.ChangeShapes Go.WideShapes Go.ChangeAt Go.RowKit Go.BigFrame
open Go.Proofs.Ytfcnabpbpbhacaa Go.Proofs.Ytfcnabpbpbhacaa.pm Go.Proofs.Ytfcnabpbpbhacaa.pf Go.Proofs.Ytfcnabpbpbhacaa.boxes Go.Proofs.Ytfcnabpbpbhacaa.rwr
open Go.Proofs.Ytfcnabpbpbhacaa.rws (Knd Own)

theorem sl_fits {l : List Ru} (hl : ∀ x ∈ l, fits x) : ∀ x ∈ sl l, fits x := fun x hx => by
  unfold sl at hx
  split at hx
  · exact hl x (slim_mem l x hx)
  · simp at hx
theorem same_facts {l : List Ru} (f : Fw) (o : Bool) (h : chk l = 0) : chk (sl l) = 0 ∧ sl (sl l) = sl l ∧ (sl l).length ≤ l.length ∧ dpas (sl l) f o = dpas l f o ∧ derr (sl l) f = derr l f := by
  have h2 := chk_slim h
  have e : sl l = slim l := if_pos h
  rw [e]
  have e2 : derr (slim l) f = derr l f := by unfold derr; rw [h, h2]
  refine ⟨h2, ?_, slim_len l, ?_, e2⟩
  · unfold sl; rw [if_pos h2, slim_slim]
  · unfold dpas; rw [e2, pas_slim]
set_option maxRecDepth 20000 in
set_option maxHeartbeats 4000000 in
theorem same_walk (v : Value) (l : List Ru) (f : Fw) (o : Bool) (w : World) (h : Rd UK w v l) (hl : ∀ x ∈ l, fits x) (hf : fitsF f) :
    Calls Try.prog 5 #[v, .agg (Fw.cells f), .bool o] w fun e w' => e = .returned (.bool true) ∧ Below w.heap.size w w' := by
  have G0 := Blk.new w (Fw.cells f) 25
  have b0 := (Below.refl w.heap.size w).alloc (Nat.le_refl _) (.cells (Fw.cells f) 25)
  have R0 := h.below b0
  have CS : ∀ u, Rd UK u v l → _ := fun u hu => slim_any v l u hu hl
  have CD : ∀ u, Rd UK u v l → _ := fun u hu => decide_any v l f o u hu hl hf
  have CE : ∀ u v', Rd UK u v' (sl l) → _ := fun u v' hu => decide_any v' (sl l) f o u hu (sl_fits hl) hf
  have CL := lives
  generalize hV : w.alloc (.cells (Fw.cells f) 25) = V at *
  have HV : Hid (w.alloc (.cells (Fw.cells f) 25) = V) := hV
  clear hV h hf
  by_cases hc : chk l = 0
  · obtain ⟨e1, e2, e3, e4, e5⟩ := same_facts f o hc
    have CT : ∀ u v', Rd UK u v' (sl l) → Calls Try.prog 14 #[v'] u fun e w' => ∃ v2, e = .returned (.tuple #[v2, .int .i64 0]) ∧ Own UK w' u.heap.size v2 (sl l) ∧ Below u.heap.size u w' := fun u v' hu => by
      have := slim_any v' (sl l) u hu (sl_fits hl)
      rw [e1, e2] at this
      exact this
    have CQ : ∀ u v1 v2, Rd UK u v1 (sl l) → Rd UK u v2 (sl l) → Calls Try.prog 15 #[v1, v2] u fun e w' => e = .returned (.bool true) ∧ Below u.heap.size u w' := fun u v1 v2 h1 h2 => by
      have := equalU_any u v1 v2 _ _ h1 h2
      rw [rub_self] at this
      exact this
    rw [hc] at CS
    rw [e4, e5] at CE
    clear e1 e2 e4 e5 hc hl
    obtain ⟨sa, sc, rfl⟩ := R0.form
    generalize dpas l f o = D at *
    generalize derr l f = E at *
    generalize didx l f = i1 at *
    generalize didx (sl l) f = i2 at *
    generalize sl l = M at *
    have hle : (M.length : Int) ≤ (l.length : Int) := by omega
    generalize l.length = n at *
    clear e3
    go_enter Try.func5, Try.ntmps5
    go_upto_region 1 with fail
    rw [HV.out]
    go_wp2_with fail
    refine (CS _ R0).mono ?_
    rintro e w1 ⟨v1, rfl, O1, l1⟩
    have r1 := Own.rd O1
    have b1 := b0.trans (l1.mono b0.size)
    have R1 := R0.below l1
    have G1 := G0.below l1 G0.lt
    obtain ⟨sa1, sc1, rfl⟩ := r1.form
    generalize M.length = m at *
    clear CS O1 R0 G0 b0 l1
    go_upto_region 2 with fail
    go_wp2_with (refine blk_load _ rfl 25 _ rfl w.heap.size rfl _ _ G1 _ Try.underlying25 rfl 5 fw_info rfl ?_)
    refine (CD _ R1).mono ?_
    rintro e w2 ⟨rfl, l2⟩
    have b2 := b1.trans (l2.mono b1.size)
    have r2 := r1.below l2
    have G2 := G1.below l2 G1.lt
    clear CD R1 r1 G1 l2 b1
    go_upto_region 3 with fail
    go_wp2_with (refine blk_load _ rfl 25 _ rfl w.heap.size rfl _ _ G2 _ Try.underlying25 rfl 5 fw_info rfl ?_)
    refine (CE _ _ r2).mono ?_
    rintro e w3 ⟨rfl, l3⟩
    have b3 := b2.trans (l3.mono b2.size)
    have r3 := r2.below l3
    clear CE r2 G2 l3 b2
    go_wp2_with fail
    refine (CL _).mono ?_
    rintro e w4 ⟨rfl, l4⟩
    have b4 := b3.trans (l4.mono b3.size)
    have r4 := r3.below l4
    clear r3 l4 b3
    go_wp2_with fail
    refine (CT _ _ r4).mono ?_
    rintro e w5 ⟨v5, rfl, O5, l5⟩
    have b5 := b4.trans (l5.mono b4.size)
    have r5 := r4.below l5
    have o5 := Own.rd O5
    clear CT r4 O5 l5 b4
    obtain ⟨sa5, sc5, rfl⟩ := o5.form
    go_wp2_with fail
    refine (CQ _ _ _ o5 r5).mono ?_
    rintro e w6 ⟨rfl, l6⟩
    go_wp2_with fail
    go_ret
    exact ⟨rfl, b5.trans (l6.mono b5.size)⟩
  · have e0 : sl l = [] := if_neg hc
    rw [e0] at CS CE
    clear e0 hl
    generalize hE : chk l = E at *
    clear hE
    obtain ⟨sa, sc, rfl⟩ := R0.form
    generalize dpas l f o = D at *
    generalize derr l f = E1 at *
    generalize didx l f = i1 at *
    generalize dpas [] f o = D2 at *
    generalize derr [] f = E2 at *
    generalize didx [] f = i2 at *
    generalize l.length = n at *
    go_enter Try.func5, Try.ntmps5
    go_upto_region 1 with fail
    rw [HV.out]
    go_wp2_with fail
    refine (CS _ R0).mono ?_
    rintro e w1 ⟨v1, rfl, O1, l1⟩
    have r1 := Own.rd O1
    have b1 := b0.trans (l1.mono b0.size)
    have R1 := R0.below l1
    have G1 := G0.below l1 G0.lt
    obtain ⟨sa1, sc1, rfl⟩ := r1.form
    clear CS O1 R0 G0 b0 l1
    go_upto_region 2 with fail
    go_wp2_with (refine blk_load _ rfl 25 _ rfl w.heap.size rfl _ _ G1 _ Try.underlying25 rfl 5 fw_info rfl ?_)
    refine (CD _ R1).mono ?_
    rintro e w2 ⟨rfl, l2⟩
    have b2 := b1.trans (l2.mono b1.size)
    have r2 := r1.below l2
    have G2 := G1.below l2 G1.lt
    clear CD R1 r1 G1 l2 b1
    go_upto_region 3 with fail
    go_wp2_with (refine blk_load _ rfl 25 _ rfl w.heap.size rfl _ _ G2 _ Try.underlying25 rfl 5 fw_info rfl ?_)
    refine (CE _ _ r2).mono ?_
    rintro e w3 ⟨rfl, l3⟩
    have b3 := b2.trans (l3.mono b2.size)
    clear CE r2 G2 l3 b2
    go_wp2_with fail
    refine (CL _).mono ?_
    rintro e w4 ⟨rfl, l4⟩
    have b4 := b3.trans (l4.mono b3.size)
    clear l4 b3
    go_wp2_with fail
    refine (CL _).mono ?_
    rintro e w5 ⟨rfl, l5⟩
    go_wp2_with fail
    go_ret
    exact ⟨rfl, b4.trans (l5.mono b4.size)⟩
end Go.Proofs.Ytfcnabpbpbhacaa.ru
