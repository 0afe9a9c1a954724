/- The walk of custkeep.RulesCover. -/
import Derived.Test.YtfcnabpbpbhacaaRuLives
namespace Go.Proofs.Ytfcnabpbpbhacaa.ru
open Go.ChangeShapes Go.WideShapes Go.ChangeAt Go.RowKit Go.BigFrame
open Go.Proofs.Ytfcnabpbpbhacaa Go.Proofs.Ytfcnabpbpbhacaa.pm Go.Proofs.Ytfcnabpbpbhacaa.pf Go.Proofs.Ytfcnabpbpbhacaa.boxes Go.Proofs.Ytfcnabpbpbhacaa.rwr
open Go.Proofs.Ytfcnabpbpbhacaa.rws (Knd Own)

theorem mem_one {x : Ru} (h : fits x) : ∀ y ∈ [x], fits y := fun y hy => by
  simp only [List.mem_cons, List.not_mem_nil, or_false] at hy
  rw [hy]; exact h
theorem cov_ok {x y : Ru} (h : cerr x y = 0) : okR x = true ∧ okR y = true ∧ ccov x y = cov x y := by
  unfold cerr at h
  unfold ccov
  cases hx : okR x <;> cases hy : okR y <;> simp_all
theorem derr_one {x y : Ru} (f : Fw) (hx : okR x = true) (hy : okR y = true) : derr [x] f = derr [y] f := by
  unfold derr
  rw [chk_one, chk_one, hx, hy]
theorem didx_up {x y : Ru} (f : Fw) (hx : okR x = true) (hy : okR y = true) (hc : cov x y = true) (hk : derr [y] f = 0) (h : didx [y] f = 0) : didx [x] f = 0 := by
  have hk2 := (derr_one f hx hy).trans hk
  unfold didx at *
  rw [if_pos hk] at h
  rw [if_pos hk2]
  obtain ⟨r, hr, hm, _⟩ := fst_some (i := 0) h
  have : r = y := by simpa using hr.symm
  subst this
  have := cov_mts hc hm
  unfold fst
  simp [this]
theorem rd_one (x : Ru) (u : World) (b : Nat) (h : Blk u b (Ru.cells x) 34) : Rd UK u (.slice (some ⟨b, 0, none⟩) 1 1) [x] :=
  ⟨_, 1, rfl, (by show (1 : Nat) ≤ maxLen; decide), Fm.some (Nat.le_refl _), fun _ => ⟨b, 0, rfl, h.lt, fun j y hj i hi => by
    have hj0 : j = 0 := by
      have := (List.getElem?_eq_some_iff.1 hj).1
      simpa using this
    subst hj0
    have : y = x := by simpa using hj.symm
    subst this
    rw [Nat.zero_mul, Nat.zero_add]
    exact h.cell i⟩⟩

set_option maxRecDepth 20000 in
set_option maxHeartbeats 8000000 in
theorem cover_walk (x y z : Ru) (f : Fw) (w : World) (hx : fits x) (hy : fits y) (hz : fits z) (hf : fitsF f) :
    Calls Try.prog 6 #[.agg (Ru.cells x), .agg (Ru.cells y), .agg (Ru.cells z), .agg (Fw.cells f)] w fun e w' => e = .returned (.bool true) ∧ Below w.heap.size w w' := by
  have b0 := (Below.refl w.heap.size w).alloc (Nat.le_refl _) (.cells (Ru.cells x) 34)
  have A := Blk.new w (Ru.cells x) 34
  have b0 := b0.alloc (by simp; try omega) (.cells (Ru.cells y) 34)
  have B := Blk.newAt ((w.alloc (.cells (Ru.cells x) 34))) (Ru.cells y) 34 (b := w.heap.size + 1) (by simp)
  have A := A.alloc (.cells (Ru.cells y) 34)
  have b0 := b0.alloc (by simp; try omega) (.cells (Ru.cells z) 34)
  have C := Blk.newAt (((w.alloc (.cells (Ru.cells x) 34)).alloc (.cells (Ru.cells y) 34))) (Ru.cells z) 34 (b := w.heap.size + 1 + 1) (by simp)
  have A := A.alloc (.cells (Ru.cells z) 34)
  have B := B.alloc (.cells (Ru.cells z) 34)
  have b0 := b0.alloc (by simp; try omega) (.cells (Fw.cells f) 25)
  have F := Blk.newAt ((((w.alloc (.cells (Ru.cells x) 34)).alloc (.cells (Ru.cells y) 34)).alloc (.cells (Ru.cells z) 34))) (Fw.cells f) 25 (b := w.heap.size + 1 + 1 + 1) (by simp)
  have A := A.alloc (.cells (Fw.cells f) 25)
  have B := B.alloc (.cells (Fw.cells f) 25)
  have C := C.alloc (.cells (Fw.cells f) 25)
  generalize hV : (((w.alloc (.cells (Ru.cells x) 34)).alloc (.cells (Ru.cells y) 34)).alloc (.cells (Ru.cells z) 34)).alloc (.cells (Fw.cells f) 25) = V at *
  have HV : Hid ((((w.alloc (.cells (Ru.cells x) 34)).alloc (.cells (Ru.cells y) 34)).alloc (.cells (Ru.cells z) 34)).alloc (.cells (Fw.cells f) 25) = V) := hV
  clear hV
  have KV1 := fun u => covers2_any x y u hx hy
  have KV2 := fun u => covers2_any y z u hy hz
  have KV3 := fun u => covers2_any x z u hx hz
  have KV4 := fun u => covers2_any x x u hx hx
  have CA : ∀ u v, Rd UK u v [x] → _ := fun u v h => decide_any v [x] f false u h (mem_one hx) hf
  have CB : ∀ u v, Rd UK u v [y] → _ := fun u v h => decide_any v [y] f false u h (mem_one hy) hf
  have CL := lives
  have M0 : Hid (cerr x y = 0 → cerr y z = 0 → cerr x z = 0 ∧ ccov x x = true ∧ (ccov x y = true → ccov y z = true → ccov x z = true) ∧ (derr [y] f = 0 → ccov x y = true → didx [y] f = 0 → didx [x] f = 0)) := fun h1 h2 => by
    obtain ⟨ox, oy, e1⟩ := cov_ok h1
    obtain ⟨_, oz, e2⟩ := cov_ok h2
    have h3 : cerr x z = 0 := by unfold cerr; rw [ox, oz]; rfl
    have h4 : cerr x x = 0 := by unfold cerr; rw [ox]; rfl
    rw [e1, e2, (cov_ok h3).2.2, (cov_ok h4).2.2]
    exact ⟨h3, cov_refl ox, cov_trans, fun hk hc hj => didx_up f ox oy hc hk hj⟩
  clear hx hy hz hf
  generalize ccov x y = cx at *
  generalize ccov y z = cy at *
  generalize ccov x z = cz at *
  generalize ccov x x = cs at *
  generalize cerr x y = e1 at *
  generalize cerr y z = e2 at *
  generalize cerr x z = e3 at *
  generalize cerr x x = e4 at *
  generalize derr [y] f = k at *
  generalize didx [y] f = j at *
  generalize didx [x] f = i at *
  generalize derr [x] f = k2 at *
  generalize dpas [x] f false = d1 at *
  generalize dpas [y] f false = d2 at *
  go_enter Try.func6, Try.ntmps6
  go_upto_region 1 with fail
  rw [HV.out]
  go_wp2_with (first | (refine blk_load _ rfl 34 _ rfl w.heap.size rfl _ _ A _ Try.underlying34 rfl 10 ru_info rfl ?_) | (refine blk_load _ rfl 34 _ rfl (w.heap.size + 1) rfl _ _ B _ Try.underlying34 rfl 10 ru_info rfl ?_))
  refine (KV1 _).mono ?_
  rintro e w1 ⟨rfl, z1⟩
  have A1 := A.below z1 A.lt
  have B1 := B.below z1 B.lt
  have C1 := C.below z1 C.lt
  have F1 := F.below z1 F.lt
  have q1 := b0.trans (z1.mono b0.size)
  clear A B C F b0 z1
  go_upto_region 2 with fail
  go_wp2_with (first | (refine blk_load _ rfl 34 _ rfl (w.heap.size + 1) rfl _ _ B1 _ Try.underlying34 rfl 10 ru_info rfl ?_) | (refine blk_load _ rfl 34 _ rfl (w.heap.size + 1 + 1) rfl _ _ C1 _ Try.underlying34 rfl 10 ru_info rfl ?_))
  refine (KV2 _).mono ?_
  rintro e w2 ⟨rfl, z2⟩
  have A2 := A1.below z2 A1.lt
  have B2 := B1.below z2 B1.lt
  have C2 := C1.below z2 C1.lt
  have F2 := F1.below z2 F1.lt
  have q2 := q1.trans (z2.mono q1.size)
  clear A1 B1 C1 F1 q1 z2
  go_upto_region 3 with fail
  go_wp2_with (first | (refine blk_load _ rfl 34 _ rfl w.heap.size rfl _ _ A2 _ Try.underlying34 rfl 10 ru_info rfl ?_) | (refine blk_load _ rfl 34 _ rfl (w.heap.size + 1 + 1) rfl _ _ C2 _ Try.underlying34 rfl 10 ru_info rfl ?_))
  refine (KV3 _).mono ?_
  rintro e w3 ⟨rfl, z3⟩
  have A3 := A2.below z3 A2.lt
  have B3 := B2.below z3 B2.lt
  have C3 := C2.below z3 C2.lt
  have F3 := F2.below z3 F2.lt
  have q3 := q2.trans (z3.mono q2.size)
  clear A2 B2 C2 F2 q2 z3
  go_upto_region 4 with fail
  go_wp2_with fail
  refine (CL _).mono ?_
  rintro e w4 ⟨rfl, z4⟩
  have A4 := A3.below z4 A3.lt
  have B4 := B3.below z4 B3.lt
  have C4 := C3.below z4 C3.lt
  have F4 := F3.below z4 F3.lt
  have q4 := q3.trans (z4.mono q3.size)
  clear A3 B3 C3 F3 q3 z4
  by_cases h1 : e1 = 0
  · by_cases h2 : e2 = 0
    · have M1 := M0.out h1 h2
      obtain ⟨m1, m2, m3, m4⟩ := M1
      subst h1 h2 m1 m2
      have M3 : Hid _ := m3
      have M4 : Hid _ := m4
      clear m3 m4 M0
      go_upto_region 6 with fail
      go_wp2_with (refine blk_load _ rfl 34 _ rfl w.heap.size rfl _ _ A4 _ Try.underlying34 rfl 10 ru_info rfl ?_)
      refine (KV4 _).mono ?_
      rintro e w5 ⟨rfl, z5⟩
      have A5 := A4.below z5 A4.lt
      have B5 := B4.below z5 B4.lt
      have C5 := C4.below z5 C4.lt
      have F5 := F4.below z5 F4.lt
      have q5 := q4.trans (z5.mono q4.size)
      clear A4 B4 C4 F4 q4 z5
      go_upto_region 7 with fail
      have N := Blk.new w5 (Ru.cells x) 34
      have zA := (Below.refl w5.heap.size w5).alloc (Nat.le_refl _) (.cells (Ru.cells x) 34)
      have R := rd_one x _ _ N
      have A6 := A5.below zA A5.lt
      have B6 := B5.below zA B5.lt
      have C6 := C5.below zA C5.lt
      have F6 := F5.below zA F5.lt
      have q6 := q5.trans (zA.mono q5.size)
      go_wp2_with (first | (refine blk_load _ rfl 34 _ rfl w.heap.size rfl _ _ A5 _ Try.underlying34 rfl 10 ru_info rfl ?_) | (refine blk_load _ rfl 25 _ rfl (w.heap.size + 1 + 1 + 1) rfl _ _ F6 _ Try.underlying25 rfl 5 fw_info rfl ?_))
      clear A5 B5 C5 F5 q5 zA N
      refine (CA _ _ R).mono ?_
      rintro e w6 ⟨rfl, z6⟩
      have A7 := A6.below z6 A6.lt
      have B7 := B6.below z6 B6.lt
      have C7 := C6.below z6 C6.lt
      have F7 := F6.below z6 F6.lt
      have q7 := q6.trans (z6.mono q6.size)
      clear A6 B6 C6 F6 q6 z6
      go_upto_region 8 with fail
      have N := Blk.new w6 (Ru.cells y) 34
      have zA := (Below.refl w6.heap.size w6).alloc (Nat.le_refl _) (.cells (Ru.cells y) 34)
      have R := rd_one y _ _ N
      have A8 := A7.below zA A7.lt
      have B8 := B7.below zA B7.lt
      have C8 := C7.below zA C7.lt
      have F8 := F7.below zA F7.lt
      have q8 := q7.trans (zA.mono q7.size)
      go_wp2_with (first | (refine blk_load _ rfl 34 _ rfl (w.heap.size + 1) rfl _ _ B7 _ Try.underlying34 rfl 10 ru_info rfl ?_) | (refine blk_load _ rfl 25 _ rfl (w.heap.size + 1 + 1 + 1) rfl _ _ F8 _ Try.underlying25 rfl 5 fw_info rfl ?_))
      clear A7 B7 C7 F7 q7 zA N
      refine (CB _ _ R).mono ?_
      rintro e w7 ⟨rfl, z7⟩
      have A9 := A8.below z7 A8.lt
      have B9 := B8.below z7 B8.lt
      have C9 := C8.below z7 C8.lt
      have F9 := F8.below z7 F8.lt
      have q9 := q8.trans (z7.mono q8.size)
      clear A8 B8 C8 F8 q8 z7
      go_upto_region 9 with fail
      cases cx with
      | false =>
        go_wp2_with fail
        all_goals go_ret
        all_goals exact ⟨rfl, q9⟩
      | true =>
        have M4 : Hid (k = 0 → j = 0 → i = 0) := fun a b => M4.out a rfl b
        cases cy with
        | false =>
          by_cases hk : k = 0
          · subst hk
            have M4 : Hid (j = 0 → i = 0) := fun b => M4.out rfl b
            by_cases hj : j = 0
            · have hi : i = 0 := M4.out hj
              subst hj hi
              go_wp2_with fail
              all_goals go_ret
              all_goals exact ⟨rfl, q9⟩
            · have hj2 : (j != 0) = true := by simpa using hj
              go_wp2_with fail
              all_goals go_ret
              all_goals exact ⟨rfl, q9⟩
          · have hk2 : (k != 0) = true := by simpa using hk
            go_wp2_with fail
            all_goals go_ret
            all_goals exact ⟨rfl, q9⟩
        | true =>
          have hz : cz = true := M3.out rfl rfl
          subst hz
          by_cases hk : k = 0
          · subst hk
            have M4 : Hid (j = 0 → i = 0) := fun b => M4.out rfl b
            by_cases hj : j = 0
            · have hi : i = 0 := M4.out hj
              subst hj hi
              go_wp2_with fail
              all_goals go_ret
              all_goals exact ⟨rfl, q9⟩
            · have hj2 : (j != 0) = true := by simpa using hj
              go_wp2_with fail
              all_goals go_ret
              all_goals exact ⟨rfl, q9⟩
          · have hk2 : (k != 0) = true := by simpa using hk
            go_wp2_with fail
            all_goals go_ret
            all_goals exact ⟨rfl, q9⟩
    · subst h1
      have h2b : (e2 != 0) = true := by simpa using h2
      go_wp2_with fail
      refine (CL _).mono ?_
      rintro e w5 ⟨rfl, z5⟩
      have A5 := A4.below z5 A4.lt
      have B5 := B4.below z5 B4.lt
      have C5 := C4.below z5 C4.lt
      have F5 := F4.below z5 F4.lt
      have q5 := q4.trans (z5.mono q4.size)
      clear A4 B4 C4 F4 q4 z5
      go_wp2_with fail
      go_ret
      exact ⟨rfl, q5⟩
  · have h1b : (e1 != 0) = true := by simpa using h1
    go_wp2_with fail
    refine (CL _).mono ?_
    rintro e w5 ⟨rfl, z5⟩
    have A5 := A4.below z5 A4.lt
    have B5 := B4.below z5 B4.lt
    have C5 := C4.below z5 C4.lt
    have F5 := F4.below z5 F4.lt
    have q5 := q4.trans (z5.mono q4.size)
    clear A4 B4 C4 F4 q4 z5
    go_wp2_with fail
    go_ret
    exact ⟨rfl, q5⟩
end Go.Proofs.Ytfcnabpbpbhacaa.ru
